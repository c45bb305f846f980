/- Contracts of conditions and Check. -/
import Derived.Test.YtpapcilffkpjjaaTkC
namespace Go.Proofs.Ytpapcilffkpjjaa
open Go.Shelf Go.RowKit Go.Lib Go.Money Go.Tick

def cdF : Nat → Nat
  | 0 => 42
  | 1 => 43
  | 2 => 45
  | 3 => 46
  | 4 => 49
  | 5 => 51
  | 6 => 52
  | 7 => 56
  | _ => 57
def cdP (Bs Bn : Nat) : Nat → Array Value
  | 0 => #[.pointer (some ⟨Bn, 0, none⟩)]
  | 3 => #[.pointer (some ⟨Bs, 0, none⟩), .pointer (some ⟨Bn, 0, none⟩)]
  | _ => #[.pointer (some ⟨Bs, 0, none⟩)]
def cdV (Bs Bn : Nat) : Array Value := #[iv 1, .func (.func 42) #[] #[.pointer (some ⟨Bn, 0, none⟩)],
  iv 90, .func (.func 43) #[] #[.pointer (some ⟨Bs, 0, none⟩)],
  iv 90, .func (.func 45) #[] #[.pointer (some ⟨Bs, 0, none⟩)],
  iv 90, .func (.func 46) #[] #[.pointer (some ⟨Bs, 0, none⟩), .pointer (some ⟨Bn, 0, none⟩)],
  iv 90, .func (.func 49) #[] #[.pointer (some ⟨Bs, 0, none⟩)],
  iv 90, .func (.func 51) #[] #[.pointer (some ⟨Bs, 0, none⟩)],
  iv 90, .func (.func 52) #[] #[.pointer (some ⟨Bs, 0, none⟩)],
  iv 90, .func (.func 56) #[] #[.pointer (some ⟨Bs, 0, none⟩)],
  iv 7, .func (.func 57) #[] #[.pointer (some ⟨Bs, 0, none⟩)]]
theorem cdV_at (Bs Bn k : Nat) (hk : k < 9) : (cdV Bs Bn)[k * 2]? = some (iv (er k)) ∧ (cdV Bs Bn)[k * 2 + 1]? = some (.func (.func (cdF k)) #[] (cdP Bs Bn k)) := by
  match k, hk with
  | 0, _ => exact ⟨rfl, rfl⟩
  | 1, _ => exact ⟨rfl, rfl⟩
  | 2, _ => exact ⟨rfl, rfl⟩
  | 3, _ => exact ⟨rfl, rfl⟩
  | 4, _ => exact ⟨rfl, rfl⟩
  | 5, _ => exact ⟨rfl, rfl⟩
  | 6, _ => exact ⟨rfl, rfl⟩
  | 7, _ => exact ⟨rfl, rfl⟩
  | 8, _ => exact ⟨rfl, rfl⟩
theorem cd_enter (k : Nat) (hk : k < 9) : ∀ args w, (callFunc (cdF k) args).run Try.prog w = .ok (.enter (cdF k) args) w := by
  match k, hk with
  | 0, _ => exact enters_of Try.func42 (by kernel_rfl) rfl
  | 1, _ => exact enters_of Try.func43 (by kernel_rfl) rfl
  | 2, _ => exact enters_of Try.func45 (by kernel_rfl) rfl
  | 3, _ => exact enters_of Try.func46 (by kernel_rfl) rfl
  | 4, _ => exact enters_of Try.func49 (by kernel_rfl) rfl
  | 5, _ => exact enters_of Try.func51 (by kernel_rfl) rfl
  | 6, _ => exact enters_of Try.func52 (by kernel_rfl) rfl
  | 7, _ => exact enters_of Try.func56 (by kernel_rfl) rfl
  | 8, _ => exact enters_of Try.func57 (by kernel_rfl) rfl
theorem cd_any {Bs Bn : Nat} {s : Sl} {n : Int} {lp : Option Addr} {lc : Nat} {tp : Option Addr} {tc : Nat} {W : World} (h : CM Bs Bn s n lp lc tp tc W) (hl : s.legs.length ≤ 1000) (ht : s.taxes.length ≤ 1000) (k : Nat) (hk : k < 9) (hb : ∀ j, j < k → tst s n j = true) :
    Calls Try.prog (cdF k) (cdP Bs Bn k) W fun e w' => e = .returned (.bool (tst s n k)) ∧ Below W.heap.size W w' := by
  match k, hk with
  | 0, _ => exact cond1_any h
  | 1, _ => exact cond2_any h
  | 2, _ => exact cond3_any h
  | 3, _ => exact cond4_any h hl
  | 4, _ => exact cond5_any h
  | 5, _ => exact cond6_any h
  | 6, _ => exact cond7_any h ht
  | 7, _ => exact cond8_any h
  | 8, _ => exact cond9_any h ht (nn_of_tst (hb 4 (by omega)) (hb 6 (by omega)))
theorem conds_any (s : Sl) (n : Int) (lp : Option Addr) (lc : Nat) (tp : Option Addr) (tc : Nat) (w : World) :
    Calls Try.prog 32 #[.agg (saV s lp lc tp tc), iv n] w fun e w' => e = .returned (.slice (some ⟨w.heap.size + 2, 0, none⟩) 9 9) ∧ w' = ((w.alloc (.cells (saV s lp lc tp tc) 28)).alloc (.cells #[iv n] 3)).alloc (.cells (cdV w.heap.size (w.heap.size + 1)) 74) := by
  go_enter Try.func32, Try.ntmps32
  go_wp2
  go_ret
  exact ⟨rfl, rfl⟩
theorem conds_some (s : Sl) (n : Int) (lp : Option Addr) (lc : Nat) (tp : Option Addr) (tc : Nat) (w : World) (hL : Row w 3 lgC lp s.legs) (hT : Row w 2 txC tp s.taxes) :
    Calls Try.prog 32 #[.agg (saV s lp lc tp tc), iv n] w fun e w' => ∃ Q Bs Bn, e = .returned (.slice (some ⟨Q, 0, none⟩) 9 9) ∧ CM Bs Bn s n lp lc tp tc w' ∧ w'.heap[Q]? = some (.cells (cdV Bs Bn) 74 (0, 0)) ∧ Below w.heap.size w w' := by
  refine (conds_any s n lp lc tp tc w).mono ?_
  rintro e w' ⟨rfl, rfl⟩
  have hb : Below w.heap.size w (((w.alloc (.cells (saV s lp lc tp tc) 28)).alloc (.cells #[iv n] 3)).alloc (.cells (cdV w.heap.size (w.heap.size + 1)) 74)) :=
    (((Below.refl _ _).alloc (Nat.le_refl _) _).alloc (by simp) _).alloc (by simp; omega) _
  refine ⟨_, w.heap.size, w.heap.size + 1, rfl, ⟨?_, ?_, hL.keep hb, hT.keep hb⟩, ?_, hb⟩
  · rw [Below.heap_alloc _ _ _ (by simp; omega), Below.heap_alloc _ _ _ (by simp)]
    exact heap_last _ _ _ rfl
  · rw [Below.heap_alloc _ _ _ (by simp)]
    exact heap_last _ _ _ (by simp)
  · exact heap_last _ _ _ (by simp)
set_option maxRecDepth 100000 in
set_option maxHeartbeats 1600000 in
theorem tkcheck_any (s : Sl) (n : Int) (lp : Option Addr) (lc : Nat) (tp : Option Addr) (tc : Nat) (w : World) (hL : Row w 3 lgC lp s.legs) (hT : Row w 2 txC tp s.taxes) (hl : s.legs.length ≤ 1000) (ht : s.taxes.length ≤ 1000) :
    Calls Try.prog 16 #[.agg (saV s lp lc tp tc), iv n] w fun e w' => e = .returned (iv (chkL s n)) ∧ Below w.heap.size w w' := by
  obtain ⟨c, hc⟩ : ∃ c, c = chkL s n := ⟨_, rfl⟩
  rw [← hc]
  have HCK := Lib.hid hc
  have hb1 : Below w.heap.size w (w.alloc (.cells (saV s lp lc tp tc) 28)) := (Below.refl _ _).alloc (Nat.le_refl _) _
  have HCD := Lib.hid (conds_some s n lp lc tp tc (w.alloc (.cells (saV s lp lc tp tc) 28)) (hL.keep hb1) (hT.keep hb1))
  have HB := Lib.hid hb1
  have HLL := Lib.hid hl
  have HTL := Lib.hid ht
  clear hb1 hc hL hT hl ht
  go_enter Try.func16, Try.ntmps16
  go_wp2_with fail
  refine (HCD.out).mono ?_
  rintro e w2 ⟨Q, Bs, Bn, rfl, hcm, hq, hb2⟩
  have HCM := Lib.hid hcm
  have HQ := Lib.hid hq
  have HB2 := Lib.hid (HB.out.trans (hb2.mono HB.out.size))
  clear hcm hq hb2 HCD HB
  go_wp2
  go_loopw [6, 11] (fun _ i wr => ∃ k : Nat, i = .int .i64 k ∧ k ≤ 9 ∧ Hid (∀ j, j < k → tst s n j = true) ∧ Hid (Below w2.heap.size w2 wr)) (fun _ i _ => 9 - (intOf i).toNat)
  case atStart => exact ⟨0, rfl, by omega, fun j hj => absurd hj (Nat.not_lt_zero _), Below.refl _ _⟩
  case round =>
    obtain ⟨k, rfl, hk, ha, hb⟩ := hrel
    have HA := Lib.hid ha.out
    have HBR := Lib.hid hb.out
    clear ha hb
    by_cases hlt : (k : Int) < 9
    · have hk9 : k < 9 := by omega
      have hq := (HBR.out.block _ (lt_heap HQ.out)).trans HQ.out
      have hv := cdV_at Bs Bn k hk9
      have c0 : wr.cell? ⟨Q, k * 2, none⟩ = some (iv (er k)) := (cell_arr hq _).trans hv.1
      have c1 : wr.cell? ⟨Q, k * 2 + 1, none⟩ = some (.func (.func (cdF k)) #[] (cdP Bs Bn k)) := (cell_arr hq _).trans hv.2
      have k0 : (0 : Int) ≤ (k : Int) := Int.natCast_nonneg _
      have hba : Below wr.heap.size wr (wr.alloc (.cells #[iv (er k), .func (.func (cdF k)) #[] (cdP Bs Bn k)] 74)) := (Below.refl _ _).alloc (Nat.le_refl _) _
      have HCN := Lib.hid (cd_any ((HCM.out.keep HBR.out).keep hba) HLL.out HTL.out k hk9 HA.out)
      have HBA := Lib.hid (HBR.out.trans (hba.mono HBR.out.size))
      have HCE := Lib.hid (show (wr.alloc (.cells #[iv (er k), .func (.func (cdF k)) #[] (cdP Bs Bn k)] 74)).cell? ⟨wr.heap.size, 0, none⟩ = some (iv (er k)) from World.cell?_alloc_at _ _ _ _ rfl)
      have HSZ := Lib.hid (show wr.heap.size < (wr.alloc (.cells #[iv (er k), .func (.func (cdF k)) #[] (cdP Bs Bn k)] 74)).heap.size by simp)
      have eg := cd_enter k hk9
      clear hq hv hba
      obtain ⟨b, hbt⟩ : ∃ b, tst s n k = b := ⟨_, rfl⟩
      rw [hbt] at HCN
      have HBT := Lib.hid hbt
      clear hbt
      generalize hg : cdF k = g at *
      generalize hp : cdP Bs Bn k = cp at *
      generalize he : er k = ek at *
      have HE := Lib.hid he
      clear hg hp he
      cases b with
      | false =>
        go_wp2_with fail
        refine (HCN.out).mono ?_
        rintro e w3 ⟨rfl, hb3⟩
        have ce := (hb3.cell (p := ⟨wr.heap.size, 0, none⟩) HSZ.out).trans HCE.out
        have HB3 := Lib.hid (HB2.out.trans ((HBA.out.trans (hb3.mono HBA.out.size)).mono HB2.out.size))
        clear hb3
        go_wp2
        go_ret
        refine ⟨?_, HB3.out⟩
        rw [HCK.out, chk_at hk9 HA.out HBT.out, HE.out]
        rfl
      | true =>
        go_wp2_with fail
        refine (HCN.out).mono ?_
        rintro e w3 ⟨rfl, hb3⟩
        have HB3 := Lib.hid (HBA.out.trans (hb3.mono HBA.out.size))
        clear hb3
        go_wp2
        go_roundw
        case rel => exact ⟨k + 1, by go_num, by omega, (fun j hj => by
          by_cases e : j = k
          · rw [e]; exact HBT.out
          · exact HA.out j (by omega)), HB3.out⟩
        case measure => simp [intOf]; omega
    · obtain rfl : k = 9 := by omega
      go_wp2
      go_ret
      refine ⟨?_, HB2.out.trans (HBR.out.mono HB2.out.size)⟩
      rw [HCK.out, chk_ok HA.out]
      rfl
end Go.Proofs.Ytpapcilffkpjjaa
