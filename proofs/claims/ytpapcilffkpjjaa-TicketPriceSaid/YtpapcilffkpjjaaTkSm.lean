/- Contracts of slices.Equal at lists of legs and taxes that are alike, or of unlike lengths; and of Same. -/
import Derived.Test.YtpapcilffkpjjaaTkOw
import Derived.Laws.StructEq
import Derived.Deep.QuietTactic
import Derived.BigQuiet
namespace Go.Proofs.Ytpapcilffkpjjaa
open Go.Shelf Go.RowKit Go.Lib Go.Money Go.Pror Go.Tick

theorem neq_leg (x : Lg) (w : World) : (binOp .neq 58 (.agg (lgC x).toArray) (.agg (lgC x).toArray)).run Try.prog w = .ok (.bool false) w := by
  have u5 := Try.underlying5
  have a5 := Try.isAgg5
  have z5 := Try.sizeOf5
  have u6 := Try.underlying55
  have a6 := Try.isAgg55
  have z6 := Try.sizeOf55
  have u7 := Try.underlying56
  have a7 := Try.isAgg56
  have z7 := Try.sizeOf56
  have hS : Try.prog.underlying 58 = some (.struct (Try.prog.fieldsOf 58)) := by kernel_rfl
  have hp : Try.prog.stoodInHeld 58 = false := by kernel_rfl
  rw [run_neq_struct, show (10000 : Nat) = 9999 + 1 from rfl, run_equalIn_agg w 9999 58 _ _ hS hp]
  simp only [Program.fieldsOf, Try.underlying58, lgC]
  go_simp
theorem neq_tax (x : Tax) (w : World) : (binOp .neq 48 (.agg (txC x).toArray) (.agg (txC x).toArray)).run Try.prog w = .ok (.bool false) w := by
  have u5 := Try.underlying9
  have a5 := Try.isAgg9
  have z5 := Try.sizeOf9
  have u6 := Try.underlying2
  have a6 := Try.isAgg2
  have z6 := Try.sizeOf2
  have hS : Try.prog.underlying 48 = some (.struct (Try.prog.fieldsOf 48)) := by kernel_rfl
  have hp : Try.prog.stoodInHeld 48 = false := by kernel_rfl
  rw [run_neq_struct, show (10000 : Nat) = 9999 + 1 from rfl, run_equalIn_agg w 9999 48 _ _ hS hp]
  simp only [Program.fieldsOf, Try.underlying48, txC]
  go_simp
theorem eqleg_diff (n m : Nat) (p q : Option Addr) (c d : Nat) (h : ¬ (n : Int) = (m : Int)) (w : World) :
    Calls Try.prog 34 #[.slice p n c, .slice q m d] w fun e w' => e = .returned (.bool false) ∧ ∃ k, w' = w.drewN k := by
  go_enter Try.func34, Try.ntmps34
  go_wp2
  go_ret
  exact ⟨rfl, 0, rfl⟩
set_option maxRecDepth 100000 in
set_option maxHeartbeats 1600000 in
theorem eqleg_same (L : List Lg) (p q : Option Addr) (c d : Nat) (w : World) (hl : L.length ≤ 1000) (h1 : Row w 3 lgC p L) (h2 : Row w 3 lgC q L) :
    Calls Try.prog 34 #[.slice p L.length c, .slice q L.length d] w fun e w' => e = .returned (.bool true) ∧ ∃ k, w' = w.drewN k := by
  have H1 := Lib.hid h1
  have H2 := Lib.hid h2
  have lI : (L.length : Int) ≤ 1000 := by omega
  clear h1 h2 hl
  go_enter Try.func34, Try.ntmps34
  go_wp2
  go_loopg [13] L.length (fun g s13 wr => ∃ kk q : Nat, kk ≤ L.length ∧ L.length - kk ≤ g ∧ s13 = .int .i64 kk ∧ wr = w.drewN q)
  case atStart => exact ⟨0, 0, Nat.zero_le _, by omega, rfl, rfl⟩
  case round =>
    obtain ⟨kk, dr, hkk, hg, rfl, rfl⟩ := hrel
    by_cases hlt : (kk : Int) < (L.length : Int)
    · have hk0 : (0 : Int) ≤ (kk : Int) := Int.natCast_nonneg _
      obtain ⟨b1, o1, rfl, hb1, hc1⟩ := H1.out.at_ (by omega)
      obtain ⟨b2, o2, rfl, hb2, hc2⟩ := H2.out.at_ (by omega)
      have HN := Lib.hid (fun w => neq_leg (L[kk]!) w)
      have c10 := (show (w.drewN dr).cell? ⟨b1, o1 + kk * 3, none⟩ = w.cell? ⟨b1, o1 + kk * 3, none⟩ from World.cell?_drewN _ _ _).trans (hc1 kk (by omega) 0 (.int .u8 ((L[kk]!).c.toNat : Int)) rfl)
      have c11 := (show (w.drewN dr).cell? ⟨b1, o1 + kk * 3 + 1, none⟩ = w.cell? ⟨b1, o1 + kk * 3 + 1, none⟩ from World.cell?_drewN _ _ _).trans (hc1 kk (by omega) 1 (.int .u16 ((L[kk]!).f : Int)) rfl)
      have c12 := (show (w.drewN dr).cell? ⟨b1, o1 + kk * 3 + 2, none⟩ = w.cell? ⟨b1, o1 + kk * 3 + 2, none⟩ from World.cell?_drewN _ _ _).trans (hc1 kk (by omega) 2 (.int .u32 ((L[kk]!).wt : Int)) rfl)
      have c20 := (show (w.drewN dr).cell? ⟨b2, o2 + kk * 3, none⟩ = w.cell? ⟨b2, o2 + kk * 3, none⟩ from World.cell?_drewN _ _ _).trans (hc2 kk (by omega) 0 (.int .u8 ((L[kk]!).c.toNat : Int)) rfl)
      have c21 := (show (w.drewN dr).cell? ⟨b2, o2 + kk * 3 + 1, none⟩ = w.cell? ⟨b2, o2 + kk * 3 + 1, none⟩ from World.cell?_drewN _ _ _).trans (hc2 kk (by omega) 1 (.int .u16 ((L[kk]!).f : Int)) rfl)
      have c22 := (show (w.drewN dr).cell? ⟨b2, o2 + kk * 3 + 2, none⟩ = w.cell? ⟨b2, o2 + kk * 3 + 2, none⟩ from World.cell?_drewN _ _ _).trans (hc2 kk (by omega) 2 (.int .u32 ((L[kk]!).wt : Int)) rfl)
      clear hc1 hc2 hb1 hb2
      have hnq := HN.out
      generalize L[kk]! = x at *
      generalize hwq : w.drewN dr = wq at *
      have HWQ := Lib.hid hwq
      clear hwq HN
      simp only [lgC, List.toArray] at hnq
      go_wp2_with fail
      go_quiet (fail)
      go_wp2
      go_roundg (L.length - (kk + 1))
      case measure => omega
      case rel => exact ⟨kk + 1, dr + nq, by omega, by omega, by go_num, by rw [← HWQ.out, World.drewN_drewN]⟩
    · obtain rfl : kk = L.length := by omega
      go_wp2
      go_ret
      exact ⟨rfl, dr, rfl⟩
theorem eqtax_diff (n m : Nat) (p q : Option Addr) (c d : Nat) (h : ¬ (n : Int) = (m : Int)) (w : World) :
    Calls Try.prog 35 #[.slice p n c, .slice q m d] w fun e w' => e = .returned (.bool false) ∧ ∃ k, w' = w.drewN k := by
  go_enter Try.func35, Try.ntmps35
  go_wp2
  go_ret
  exact ⟨rfl, 0, rfl⟩
set_option maxRecDepth 100000 in
set_option maxHeartbeats 1600000 in
theorem eqtax_same (L : List Tax) (p q : Option Addr) (c d : Nat) (w : World) (hl : L.length ≤ 1000) (h1 : Row w 2 txC p L) (h2 : Row w 2 txC q L) :
    Calls Try.prog 35 #[.slice p L.length c, .slice q L.length d] w fun e w' => e = .returned (.bool true) ∧ ∃ k, w' = w.drewN k := by
  have H1 := Lib.hid h1
  have H2 := Lib.hid h2
  have lI : (L.length : Int) ≤ 1000 := by omega
  clear h1 h2 hl
  go_enter Try.func35, Try.ntmps35
  go_wp2
  go_loopg [13] L.length (fun g s13 wr => ∃ kk q : Nat, kk ≤ L.length ∧ L.length - kk ≤ g ∧ s13 = .int .i64 kk ∧ wr = w.drewN q)
  case atStart => exact ⟨0, 0, Nat.zero_le _, by omega, rfl, rfl⟩
  case round =>
    obtain ⟨kk, dr, hkk, hg, rfl, rfl⟩ := hrel
    by_cases hlt : (kk : Int) < (L.length : Int)
    · have hk0 : (0 : Int) ≤ (kk : Int) := Int.natCast_nonneg _
      obtain ⟨b1, o1, rfl, hb1, hc1⟩ := H1.out.at_ (by omega)
      obtain ⟨b2, o2, rfl, hb2, hc2⟩ := H2.out.at_ (by omega)
      have HN := Lib.hid (fun w => neq_tax (L[kk]!) w)
      have c10 := (show (w.drewN dr).cell? ⟨b1, o1 + kk * 2, none⟩ = w.cell? ⟨b1, o1 + kk * 2, none⟩ from World.cell?_drewN _ _ _).trans (hc1 kk (by omega) 0 (str (L[kk]!).code) rfl)
      have c11 := (show (w.drewN dr).cell? ⟨b1, o1 + kk * 2 + 1, none⟩ = w.cell? ⟨b1, o1 + kk * 2 + 1, none⟩ from World.cell?_drewN _ _ _).trans (hc1 kk (by omega) 1 (iv (L[kk]!).am) rfl)
      have c20 := (show (w.drewN dr).cell? ⟨b2, o2 + kk * 2, none⟩ = w.cell? ⟨b2, o2 + kk * 2, none⟩ from World.cell?_drewN _ _ _).trans (hc2 kk (by omega) 0 (str (L[kk]!).code) rfl)
      have c21 := (show (w.drewN dr).cell? ⟨b2, o2 + kk * 2 + 1, none⟩ = w.cell? ⟨b2, o2 + kk * 2 + 1, none⟩ from World.cell?_drewN _ _ _).trans (hc2 kk (by omega) 1 (iv (L[kk]!).am) rfl)
      clear hc1 hc2 hb1 hb2
      have hnq := HN.out
      generalize L[kk]! = x at *
      generalize hwq : w.drewN dr = wq at *
      have HWQ := Lib.hid hwq
      clear hwq HN
      simp only [txC, List.toArray] at hnq
      go_wp2_with fail
      go_quiet (fail)
      go_wp2
      go_roundg (L.length - (kk + 1))
      case measure => omega
      case rel => exact ⟨kk + 1, dr + nq, by omega, by omega, by go_num, by rw [← HWQ.out, World.drewN_drewN]⟩
    · obtain rfl : kk = L.length := by omega
      go_wp2
      go_ret
      exact ⟨rfl, dr, rfl⟩
set_option maxRecDepth 100000 in
set_option maxHeartbeats 1600000 in
theorem same_no (s o : Sl) (lp lp2 tp tp2 : Option Addr) (lc lc2 tc tc2 : Nat) (w : World) (hl : s.legs.length ≤ 1000) (hd : ¬ (s.taxes.length : Int) = (o.taxes.length : Int)) (e1 : o.name = s.name) (e2 : o.legs = s.legs) (e3 : o.fare = s.fare) (hL : Row w 3 lgC lp s.legs) (hL2 : Row w 3 lgC lp2 s.legs) :
    Calls Try.prog 19 #[.agg (saV s lp lc tp tc), .agg (saV o lp2 lc2 tp2 tc2)] w fun e w' => e = .returned (.bool false) ∧ Below w.heap.size w w' := by
  have e4 : saV o lp2 lc2 tp2 tc2 = #[str s.name, .slice lp2 s.legs.length lc2, iv s.fare, .slice tp2 o.taxes.length tc2, iv o.pen] := by unfold saV; rw [e1, e2, e3]
  rw [e4]
  clear e1 e2 e3 e4
  obtain ⟨wb, hwb⟩ : ∃ wb, wb = (w.alloc (.cells (saV s lp lc tp tc) 28)).alloc (.cells #[str s.name, .slice lp2 s.legs.length lc2, iv s.fare, .slice tp2 o.taxes.length tc2, iv o.pen] 28) := ⟨_, rfl⟩
  have hb0 : Below w.heap.size w wb := by rw [hwb]; exact ((Below.refl _ _).alloc (Nat.le_refl _) _).alloc (by simp) _
  have hA : wb.heap[w.heap.size]? = some (.cells (saV s lp lc tp tc) 28 (0, 0)) := by rw [hwb, Below.heap_alloc _ _ _ (by simp)]; exact heap_last _ _ _ rfl
  have hB : wb.heap[w.heap.size + 1]? = some (.cells #[str s.name, .slice lp2 s.legs.length lc2, iv s.fare, .slice tp2 o.taxes.length tc2, iv o.pen] 28 (0, 0)) := by rw [hwb]; exact heap_last _ _ _ (by simp)
  have HEL := Lib.hid (fun W (h : Below wb.heap.size wb W) => eqleg_same s.legs lp lp2 lc lc2 W hl ((hL.keep hb0).keep h) ((hL2.keep hb0).keep h))
  have HET := Lib.hid (fun W (h : Below wb.heap.size wb W) => eqtax_diff s.taxes.length o.taxes.length tp tp2 tc tc2 hd W)
  have a0 := cell_arr hA 0
  have a1 := cell_arr hA 1
  have a2 := cell_arr hA 2
  have a3 := cell_arr hA 3
  have a4 := cell_arr hA 4
  have b0 := cell_arr hB 0
  have b1 := cell_arr hB 1
  have b2 := cell_arr hB 2
  have b3 := cell_arr hB 3
  have b4 := cell_arr hB 4
  simp only [saV, List.getElem?_toArray, List.getElem?_cons_zero, List.getElem?_cons_succ] at a0 a1 a2 a3 a4 b0 b1 b2 b3 b4
  have HB0 := Lib.hid hb0
  clear hA hB hL hL2 hb0 hl hd
  go_enter Try.func19, Try.ntmps19
  go_wp2_with fail
  rw [← hwb]
  clear hwb
  refine (HEL.out _ (Below.refl _ _)).mono ?_
  rintro e w2 ⟨rfl, k, rfl⟩
  have HQ := Lib.hid (HET.out (wb.drewN k) (below_drewN (Below.refl _ _) k))
  clear HEL HET
  go_wp2_with fail
  refine (HQ.out).mono ?_
  rintro e w3 ⟨rfl, k2, rfl⟩
  go_wp2_with fail
  go_ret
  exact ⟨rfl, below_drewN HB0.out _⟩
set_option maxRecDepth 100000 in
set_option maxHeartbeats 1600000 in
theorem same_yes (s : Sl) (lp lp2 tp tp2 : Option Addr) (lc lc2 tc tc2 : Nat) (w : World) (hl : s.legs.length ≤ 1000) (ht : s.taxes.length ≤ 1000) (hT : Row w 2 txC tp s.taxes) (hT2 : Row w 2 txC tp2 s.taxes) (hL : Row w 3 lgC lp s.legs) (hL2 : Row w 3 lgC lp2 s.legs) :
    Calls Try.prog 19 #[.agg (saV s lp lc tp tc), .agg (saV s lp2 lc2 tp2 tc2)] w fun e w' => e = .returned (.bool true) ∧ Below w.heap.size w w' := by
  obtain ⟨wb, hwb⟩ : ∃ wb, wb = (w.alloc (.cells (saV s lp lc tp tc) 28)).alloc (.cells (saV s lp2 lc2 tp2 tc2) 28) := ⟨_, rfl⟩
  have hb0 : Below w.heap.size w wb := by rw [hwb]; exact ((Below.refl _ _).alloc (Nat.le_refl _) _).alloc (by simp) _
  have hA : wb.heap[w.heap.size]? = some (.cells (saV s lp lc tp tc) 28 (0, 0)) := by rw [hwb, Below.heap_alloc _ _ _ (by simp)]; exact heap_last _ _ _ rfl
  have hB : wb.heap[w.heap.size + 1]? = some (.cells (saV s lp2 lc2 tp2 tc2) 28 (0, 0)) := by rw [hwb]; exact heap_last _ _ _ (by simp)
  have HEL := Lib.hid (fun W (h : Below wb.heap.size wb W) => eqleg_same s.legs lp lp2 lc lc2 W hl ((hL.keep hb0).keep h) ((hL2.keep hb0).keep h))
  have HET := Lib.hid (fun W (h : Below wb.heap.size wb W) => eqtax_same s.taxes tp tp2 tc tc2 W ht ((hT.keep hb0).keep h) ((hT2.keep hb0).keep h))
  have a0 := cell_arr hA 0
  have a1 := cell_arr hA 1
  have a2 := cell_arr hA 2
  have a3 := cell_arr hA 3
  have a4 := cell_arr hA 4
  have b0 := cell_arr hB 0
  have b1 := cell_arr hB 1
  have b2 := cell_arr hB 2
  have b3 := cell_arr hB 3
  have b4 := cell_arr hB 4
  simp only [saV, List.getElem?_toArray, List.getElem?_cons_zero, List.getElem?_cons_succ] at a0 a1 a2 a3 a4 b0 b1 b2 b3 b4
  have HB0 := Lib.hid hb0
  clear hA hB hL hL2 hb0 hl ht hT hT2
  go_enter Try.func19, Try.ntmps19
  go_wp2_with fail
  rw [← hwb]
  clear hwb
  refine (HEL.out _ (Below.refl _ _)).mono ?_
  rintro e w2 ⟨rfl, k, rfl⟩
  have HQ := Lib.hid (HET.out (wb.drewN k) (below_drewN (Below.refl _ _) k))
  clear HEL HET
  go_wp2_with fail
  refine (HQ.out).mono ?_
  rintro e w3 ⟨rfl, k2, rfl⟩
  go_wp2_with fail
  go_ret
  exact ⟨rfl, below_drewN HB0.out _⟩
end Go.Proofs.Ytpapcilffkpjjaa
