/- The closures that read one number each: carrier's and whole's. -/
import Derived.Test.YtjlifjgljejabaaGreatDoorWrapN
import Derived.Deep.RegionLaw
namespace Go.Proofs.YtjlifjgljejabaaGreatDoor
open Go.RowKit Go.Edi Go.Wrap

set_option maxRecDepth 100000 in
set_option maxHeartbeats 1600000 in
theorem carrier1_any (t : Tx) (p : Nat) (a : Addr) (old : Value) (w : World) (hl : t.length ≤ 1000000000000) (hp : w.cell? ⟨p, 0, none⟩ = some (.pointer (some a))) (ha : w.cell? a = some old) (hf : w.frozen? a = false) :
    Calls Tryz.prog 92 #[str t, .pointer (some ⟨p, 0, none⟩)] w fun e w' => e = .returned (.bool (numL 7 t).isSome) ∧ w' = (w.setCell a (.int .u8 (((numL 7 t).getD 0 : Nat) : Int))).drew := by
  have hq := fun w' => number8_any t 7 (by decide) w' hl
  obtain ⟨n, hn⟩ : ∃ n : Int, (((numL 7 t).getD 0 : Nat) : Int) = n := ⟨_, rfl⟩
  obtain ⟨b, hb⟩ : ∃ b : Bool, (numL 7 t).isSome = b := ⟨_, rfl⟩
  simp only [numV, hn, hb] at hq ⊢
  clear hn hb
  have HQ := Lib.hid hq
  clear hl hq
  go_enter Tryz.func92, Tryz.ntmps92
  go_wp2
  go_region_law
    (go_simp
     refine (HQ.out _).mono ?_
     rintro e w' ⟨rfl, rfl⟩)
  all_goals
    go_wp2
    go_ret
    exact ⟨rfl, rfl⟩
set_option maxRecDepth 100000 in
set_option maxHeartbeats 1600000 in
theorem whole1_any (t : Tx) (p : Nat) (a : Addr) (old : Value) (w : World) (hl : t.length ≤ 1000000000000) (hp : w.cell? ⟨p, 0, none⟩ = some (.pointer (some a))) (ha : w.cell? a = some old) (hf : w.frozen? a = false) :
    Calls Tryz.prog 94 #[str t, .pointer (some ⟨p, 0, none⟩)] w fun e w' => e = .returned (.bool (numL 18446744073709551615 t).isSome) ∧ w' = (w.setCell a (.int .u64 (((numL 18446744073709551615 t).getD 0 : Nat) : Int))).drew := by
  have hq := fun w' => number64_any t 18446744073709551615 (by decide) w' hl
  obtain ⟨n, hn⟩ : ∃ n : Int, (((numL 18446744073709551615 t).getD 0 : Nat) : Int) = n := ⟨_, rfl⟩
  obtain ⟨b, hb⟩ : ∃ b : Bool, (numL 18446744073709551615 t).isSome = b := ⟨_, rfl⟩
  simp only [numV, hn, hb] at hq ⊢
  clear hn hb
  have HQ := Lib.hid hq
  clear hl hq
  go_enter Tryz.func94, Tryz.ntmps94
  go_wp2
  go_region_law
    (go_simp
     refine (HQ.out _).mono ?_
     rintro e w' ⟨rfl, rfl⟩)
  all_goals
    go_wp2
    go_ret
    exact ⟨rfl, rfl⟩
end Go.Proofs.YtjlifjgljejabaaGreatDoor
