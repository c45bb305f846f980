/- The three closures that only compare: how many, the count, both Refs. -/
import Derived.Test.YtjlifjgljejabaaGreatDoorWrapT
namespace Go.Proofs.YtjlifjgljejabaaGreatDoor
open Go.RowKit Go.Edi Go.Wrap

set_option maxRecDepth 100000 in
theorem two_any (w : World) (s : Nat) (p : Option Addr) (n cap : Nat) (hs : w.cell? ⟨s, 0, none⟩ = some (.slice p n cap)) :
    Calls Tryz.prog 63 #[.pointer (some ⟨s, 0, none⟩)] w fun e w' => e = .returned (.bool (decide (2 ≤ n))) ∧ w' = w := by
  rw [show decide (2 ≤ n) = decide ((2 : Int) ≤ (n : Int)) by rw [decide_eq_decide]; omega]
  go_enter Tryz.func63, Tryz.ntmps63
  go_wp2
  go_ret
  exact ⟨ret_bool (by simp), rfl⟩
set_option maxRecDepth 100000 in
theorem count_any (w : World) (s c : Nat) (p : Option Addr) (n cap x : Nat) (hs : w.cell? ⟨s, 0, none⟩ = some (.slice p n cap)) (hc : w.cell? ⟨c, 0, none⟩ = some (.int .u64 (x : Int))) (hn : 2 ≤ n) (hn2 : n ≤ 1000000000000) :
    Calls Tryz.prog 69 #[.pointer (some ⟨c, 0, none⟩), .pointer (some ⟨s, 0, none⟩)] w fun e w' => e = .returned (.bool (decide (x = n - 2))) ∧ w' = w := by
  rw [show decide (x = n - 2) = decide ((x : Int) = (n : Int) - 2) by rw [decide_eq_decide]; omega]
  have h1 : (2 : Int) ≤ (n : Int) := by omega
  have h2 : (n : Int) ≤ 1000000000000 := by omega
  clear hn hn2
  go_enter Tryz.func69, Tryz.ntmps69
  go_wp2
  go_ret
  exact ⟨ret_bool (by first | rfl | simp), rfl⟩
set_option maxRecDepth 100000 in
theorem refs_any (w : World) (d g : Nat) (x y : Nat) (hd : w.cell? ⟨d, 0, none⟩ = some (.int .u64 (x : Int))) (hg : w.cell? ⟨g, 2, none⟩ = some (.int .u64 (y : Int))) :
    Calls Tryz.prog 70 #[.pointer (some ⟨d, 0, none⟩), .pointer (some ⟨g, 0, none⟩)] w fun e w' => e = .returned (.bool (decide (x = y))) ∧ w' = w := by
  rw [show decide (x = y) = decide ((x : Int) = (y : Int)) by rw [decide_eq_decide]; omega]
  go_enter Tryz.func70, Tryz.ntmps70
  go_wp2
  go_ret
  exact ⟨ret_bool (by first | rfl | simp), rfl⟩
theorem SgC.drop1 {w : World} {F : Nat → Prop} {s : Sg} {r : List Sg} {xs : List Value} (h : SgC w F (s :: r) xs) : SgC w F r (xs.drop 2) := by
  match xs, h with
  | _ :: _ :: t, h => exact h.2.2
theorem SgC.take {w : World} {F : Nat → Prop} : ∀ {sl : List Sg} {xs : List Value} (n : Nat), SgC w F sl xs → SgC w F (sl.take n) (xs.take (n * 2))
  | [], xs, n, h => by
    match xs, h with
    | [], _ => simp [SgC]
  | s :: r, a :: v :: t, 0, h => by simp [SgC]
  | s :: r, a :: v :: t, n + 1, h => by
    have e : (n + 1) * 2 = n * 2 + 1 + 1 := by omega
    rw [e]
    exact ⟨h.1, h.2.1, SgC.take n h.2.2⟩
  | _ :: _, [], _, h => h.elim
  | _ :: _, [_], _, h => h.elim
/-- what lies between the first and the last one -/
theorem segs_mid {w : World} {F : Nat → Prop} {l : List Sg} {b o cap : Nat} (h : SegsF w F (.slice (some ⟨b, o, none⟩) l.length cap) l) (hl : 2 ≤ l.length) :
    SegsF w F (.slice (some ⟨b, o + 2, none⟩) (l.length - 2) (l.length - 2)) ((l.take (l.length - 1)).drop 1) := by
  obtain ⟨xs, ⟨p, cap', he, _, hr⟩, hc⟩ := h
  simp only [Value.slice.injEq, true_and] at he
  obtain ⟨rfl, rfl⟩ := he
  obtain ⟨b', o', e1, hF, hx⟩ := hr (by omega)
  obtain ⟨rfl, rfl⟩ : b = b' ∧ o = o' := by simpa using e1
  have hlen : ((l.take (l.length - 1)).drop 1).length = l.length - 2 := by simp; omega
  refine ⟨(xs.take ((l.length - 1) * 2)).drop 2, ⟨_, _, by rw [hlen], by rw [hlen]; exact Nat.le_refl _, fun _ => ⟨b, o + 2, rfl, hF, fun j u hu => ?_⟩⟩, ?_⟩
  · rw [List.getElem?_drop, List.getElem?_take] at hu
    split at hu
    · have := hx (2 + j) u hu
      rw [show o + 2 + j = o + (2 + j) by omega]
      exact this
    · cases hu
  · have h1 := SgC.take (l.length - 1) hc
    match hh : l.take (l.length - 1), h1 with
    | [], _ => exact absurd (congrArg List.length hh) (by simp; omega)
    | s :: r, h1 => exact SgC.drop1 h1
end Go.Proofs.YtjlifjgljejabaaGreatDoor
