/- The walk of the law ShaTexts, over the translated program. -/
import Derived.Test.YtppbdjgpkcpppaaDoorShaR1
import Derived.Deep.RegionHeld
namespace Go.Proofs.YtppbdjgpkcpppaaDoor
open Go.RowKit Go.Sha

theorem ba_beq (s t : ByteArray) : (s == t) = decide (s = t) := by
  cases s with | mk x => cases t with | mk y =>
    show (x == y) = _
    rw [Bool.eq_iff_iff]; simp
/-- what the region of ShaTexts reads -/
def TS (n : Nat) (a b : List Nat) (w : World) : Prop := w.heap[n]? = some (.cells (bv a) 25 (0, 0)) ∧ w.heap[n + 1]? = some (.cells (bv b) 25 (0, 0)) ∧ n + 2 ≤ w.heap.size ∧ Gl w
theorem TS_below {n : Nat} {a b : List Nat} {w w' : World} (h : TS n a b w) (hb : Below w.heap.size w w') : TS n a b w' := by
  obtain ⟨h1, h2, h3, h4⟩ := h
  exact ⟨(hb.block _ (by omega)).trans h1, (hb.block _ (by omega)).trans h2, Nat.le_trans h3 hb.size, h4.below h4.size hb⟩
theorem TS_start {a b : List Nat} {w : World} (hG : Gl w) : TS w.heap.size a b ((w.alloc (.cells (bv a) 25)).alloc (.cells (bv b) 25)).drew :=
  ⟨(heap_prev _ _ _ (by simp)).trans (heap_last _ _ _ rfl), heap_last _ _ _ (by simp), by simp, hG.below hG.size (((Below.refl _ _).alloc (Nat.le_refl _) _).alloc (by simp) _).drew⟩
/-- a whole array is loaded, in every world in which its block is known -/
theorem yi_row {P : Program} {ops : Array Oper} {S : World → Prop} {o : Oper} {a : Act} (hw : Region.wanted o (yielded ops a.tmps) = true) (ty : TypeId) (x : Operand) (ho : o.op = .load ty x)
    (g : Nat) (A : Array Value) (n : Nat) (el : TypeId) (hu : P.underlying ty = some (.array n el)) (hi : (P.info? ty).map (·.size) = some A.size) (hx : a.eval x = .pointer (some ⟨g, 0, none⟩))
    (hS : ∀ w, S w → ∃ t fr, w.heap[g]? = some (.cells A t fr)) : YieldsIf P ops S o (.agg A) a :=
  .inl ⟨hw, fun w h => by
    obtain ⟨t, fr, hg⟩ := hS w h
    unfold execOp
    simp only [ho, hx, Instr.loadAt, Instr.sureAddr, Sem.run_bind, Sem.run_pure, Result.andThen_ok, run_loadVar_row w g t ty A fr _ hg hu rfl hi]⟩
theorem yi_eql {P : Program} {ops : Array Oper} {S : World → Prop} {o : Oper} {a : Act} (hw : Region.wanted o (yielded ops a.tmps) = true) (ty ty2 : TypeId) (x y : Operand) (ho : o.op = .binOp .eql ty x y ty2)
    (e : TypeId) (n : Nat) (l k : List Nat) (hu : P.underlying ty = some (.array n e)) (he : P.underlying e = some (.int .u8)) (hc : P.cellsOf e = 1) (hm : P.eqGuardType P.depth ty = false)
    (hx : a.eval x = .agg (bv l)) (hy : a.eval y = .agg (bv k)) (hl : l.length = n) (hk : k.length = n) : YieldsIf P ops S o (.bool (decide (l = k))) a :=
  .inl ⟨hw, fun w _ => by
    unfold execOp
    simp only [ho, hx, hy, Sem.run_bind, run_eqGuard_agg w .eql ty x y (bv l) (bv k) hm, Result.andThen_ok, run_eql_bytes w hu he hc l k hl hk, Sem.run_pure]⟩
theorem TS_a {n : Nat} {a b : List Nat} : ∀ w, TS n a b w → ∃ t fr, w.heap[n]? = some (.cells (bv a) t fr) := fun _ h => ⟨_, _, h.1⟩
theorem TS_b {n : Nat} {a b : List Nat} : ∀ w, TS n a b w → ∃ t fr, w.heap[n + 1]? = some (.cells (bv b) t fr) := fun _ h => ⟨_, _, h.2.1⟩

set_option maxRecDepth 100000 in
set_option maxHeartbeats 1600000 in
theorem texts_any (a b : List Nat) (w : World) (ha : a.length = 32) (ha1 : Lt 256 a) (hb : b.length = 32) (hb1 : Lt 256 b) (hG : Gl w) :
    Calls Tryd.prog 4 #[.agg (bv a), .agg (bv b)] w fun e w' => e = .returned (.bool true) ∧ Below w.heap.size w w' := by
  have HA := Lib.hid ha; clear ha
  have HA1 := Lib.hid ha1; clear ha1
  have HB := Lib.hid hb; clear hb
  have HB1 := Lib.hid hb1; clear hb1
  have HG := Lib.hid hG; clear hG
  have hia : (Tryd.prog.info? 25).map (·.size) = some (bv a).size := by rw [bv_size, HA.out]; exact info25
  have hib : (Tryd.prog.info? 25).map (·.size) = some (bv b).size := by rw [bv_size, HB.out]; exact info25
  have HIA := Lib.hid hia; clear hia
  have HIB := Lib.hid hib; clear hib
  have hz : ((textL a).size : Int) = 64 := by rw [textL_size]; rfl
  obtain ⟨r, hr⟩ : ∃ r : Bool, r = decide (a = b) := ⟨_, rfl⟩
  have HR := Lib.hid (show decide (textL a = textL b) = r by rw [hr]; exact decide_eq_decide.2 (textL_inj HA1.out HB1.out HA.out HB.out))
  have HR2 := Lib.hid (show decide (a = b) = r from hr.symm)
  have HE2 := Lib.hid (show (textL a == textL b) = r by rw [← HR.out]; exact ba_beq _ _)
  have HE3 := Lib.hid (show ((textL a).toList == (textL b).toList) = r by rw [← HE2.out, beq_toListBytes])
  have HE4 := Lib.hid (show decide ((textL a).toList = (textL b).toList) = r by rw [← HE3.out]; rw [Bool.eq_iff_iff]; simp)
  clear hr
  go_enter Tryd.func4, Tryd.ntmps4
  go_wp2
  have HW0 := Lib.hid (show Below w.heap.size w ((w.alloc (.cells (bv a) 25)).alloc (.cells (bv b) 25)).drew from (((Below.refl _ _).alloc (Nat.le_refl _) _).alloc (by simp) _).drew)
  have HS0 := Lib.hid (TS_start (a := a) (b := b) HG.out)
  refine wp_region_held (S := TS w.heap.size a b) (by kernel_rfl) ?_
  change wpAnyH _ _ _ _ _ _ _ _ (((w.alloc (.cells (bv a) 25)).alloc (.cells (bv b) 25)).drew)
  generalize ((w.alloc (.cells (bv a) 25)).alloc (.cells (bv b) 25)).drew = w0 at *
  refine wpAnyH_take (i := 0) (oi := ⟨some 5, .load 25 (.tmp 2), _, _, _, none⟩) (v := .agg (bv a)) rfl (by kernel_rfl) (by kernel_rfl) (by kernel_rfl) (fun _ _ _ h => h) (yi_row (by rfl) 25 (.tmp 2) rfl w.heap.size (bv a) 32 5 Tryd.underlying25 HIA.out rfl TS_a) HS0.out ?_
  simp only [Act.put, List.setIfInBounds_toArray, List.set_cons_zero, List.set_cons_succ]
  refine wpAnyH_take (i := 2) (oi := ⟨some 7, .load 25 (.tmp 2), _, _, _, none⟩) (v := .agg (bv a)) rfl (by kernel_rfl) (by kernel_rfl) (by kernel_rfl) (fun _ _ _ h => h) (yi_row (by rfl) 25 (.tmp 2) rfl w.heap.size (bv a) 32 5 Tryd.underlying25 HIA.out rfl TS_a) HS0.out ?_
  simp only [Act.put, List.setIfInBounds_toArray, List.set_cons_zero, List.set_cons_succ]
  refine wpAnyH_ready (rs := [1]) (by kernel_rfl) (by simp) (AllReadyH.cons (o := ⟨some 6, .call ⟨.value (.func 11), #[.tmp 5], _⟩, _, _, _, none⟩) rfl (fun K hK => ?_) AllReadyH.nil)
  go_simp
  refine (text_any a _ HA.out HA1.out).mono ?_
  rintro e w1 ⟨rfl, hbel⟩
  have HS1 := Lib.hid (TS_below HS0.out hbel)
  have HW1 := Lib.hid (HW0.out.trans (hbel.mono HW0.out.size))
  clear hbel
  refine hK.out _ _ HS1.out (fun _ => ?_)
  clear hK K
  refine wpAnyH_ready (rs := [3]) (by kernel_rfl) (by simp) (AllReadyH.cons (o := ⟨some 8, .call ⟨.value (.func 12), #[.tmp 7], _⟩, _, _, _, none⟩) rfl (fun K hK => ?_) AllReadyH.nil)
  go_simp
  refine (rtext_any a _ HA.out HA1.out).mono ?_
  rintro e w2 ⟨rfl, hbel⟩
  have HS2 := Lib.hid (TS_below HS1.out hbel)
  have HW2 := Lib.hid (HW1.out.trans (hbel.mono HW1.out.size))
  clear hbel
  refine hK.out _ _ HS2.out (fun _ => ?_)
  clear hK K
  refine wpAnyH_take (i := 4) (oi := ⟨some 9, .binOp .eql 9 (.tmp 6) (.tmp 8) 9, _, _, _, none⟩) (v := .bool true) rfl (by kernel_rfl) (by kernel_rfl) (by kernel_rfl) (fun _ _ _ h => h) (Or.inl ⟨by rfl, fun w _ => by go_simp⟩) HS2.out ?_
  simp only [Act.put, List.setIfInBounds_toArray, List.set_cons_zero, List.set_cons_succ]
  refine wpAnyH_take (i := 5) (oi := ⟨some 10, .move (.tmp 9), _, _, _, none⟩) (v := .bool true) rfl (by kernel_rfl) (by kernel_rfl) (by kernel_rfl) (fun _ _ _ h => h) (Or.inl ⟨by rfl, fun w _ => by go_simp⟩) HS2.out ?_
  simp only [Act.put, List.setIfInBounds_toArray, List.set_cons_zero, List.set_cons_succ]
  refine wpAnyH_take (i := 6) (oi := ⟨some 11, .load 25 (.tmp 2), _, _, _, some (5, true)⟩) (v := .agg (bv a)) rfl (by kernel_rfl) (by kernel_rfl) (by kernel_rfl) (fun _ _ _ h => h) (yi_row (by rfl) 25 (.tmp 2) rfl w.heap.size (bv a) 32 5 Tryd.underlying25 HIA.out rfl TS_a) HS2.out ?_
  simp only [Act.put, List.setIfInBounds_toArray, List.set_cons_zero, List.set_cons_succ]
  refine wpAnyH_ready (rs := [7]) (by kernel_rfl) (by simp) (AllReadyH.cons (o := ⟨some 12, .call ⟨.value (.func 11), #[.tmp 11], _⟩, _, _, _, some (5, true)⟩) rfl (fun K hK => ?_) AllReadyH.nil)
  go_simp
  refine (text_any a _ HA.out HA1.out).mono ?_
  rintro e w3 ⟨rfl, hbel⟩
  have HS3 := Lib.hid (TS_below HS2.out hbel)
  have HW3 := Lib.hid (HW2.out.trans (hbel.mono HW2.out.size))
  clear hbel
  refine hK.out _ _ HS3.out (fun _ => ?_)
  clear hK K
  refine wpAnyH_take (i := 8) (oi := ⟨some 13, .call ⟨.builtin .len, #[.tmp 12], _⟩, _, _, _, some (5, true)⟩) (v := .int .i64 64) rfl (by kernel_rfl) (by kernel_rfl) (by kernel_rfl) (fun _ _ _ h => h) (Or.inl ⟨by rfl, fun w _ => by go_simp⟩) HS3.out ?_
  simp only [Act.put, List.setIfInBounds_toArray, List.set_cons_zero, List.set_cons_succ]
  refine wpAnyH_take (i := 9) (oi := ⟨some 14, .binOp .eql 3 (.tmp 13) (.const (.int .i64 64)) 3, _, _, _, some (5, true)⟩) (v := .bool true) rfl (by kernel_rfl) (by kernel_rfl) (by kernel_rfl) (fun _ _ _ h => h) (Or.inl ⟨by rfl, fun w _ => by go_simp⟩) HS3.out ?_
  simp only [Act.put, List.setIfInBounds_toArray, List.set_cons_zero, List.set_cons_succ]
  refine wpAnyH_take (i := 10) (oi := ⟨some 15, .pick (.tmp 10) (.tmp 14) (.const (.bool false)), _, _, _, none⟩) (v := .bool true) rfl (by kernel_rfl) (by kernel_rfl) (by kernel_rfl) (fun _ _ _ h => h) (Or.inl ⟨by rfl, fun w _ => by go_simp⟩) HS3.out ?_
  simp only [Act.put, List.setIfInBounds_toArray, List.set_cons_zero, List.set_cons_succ]
  refine wpAnyH_take (i := 11) (oi := ⟨some 16, .move (.tmp 15), _, _, _, none⟩) (v := .bool true) rfl (by kernel_rfl) (by kernel_rfl) (by kernel_rfl) (fun _ _ _ h => h) (Or.inl ⟨by rfl, fun w _ => by go_simp⟩) HS3.out ?_
  simp only [Act.put, List.setIfInBounds_toArray, List.set_cons_zero, List.set_cons_succ]
  refine wpAnyH_take (i := 12) (oi := ⟨some 17, .load 25 (.tmp 2), _, _, _, some (11, true)⟩) (v := .agg (bv a)) rfl (by kernel_rfl) (by kernel_rfl) (by kernel_rfl) (fun _ _ _ h => h) (yi_row (by rfl) 25 (.tmp 2) rfl w.heap.size (bv a) 32 5 Tryd.underlying25 HIA.out rfl TS_a) HS3.out ?_
  simp only [Act.put, List.setIfInBounds_toArray, List.set_cons_zero, List.set_cons_succ]
  refine wpAnyH_take (i := 14) (oi := ⟨some 19, .load 25 (.tmp 3), _, _, _, some (11, true)⟩) (v := .agg (bv b)) rfl (by kernel_rfl) (by kernel_rfl) (by kernel_rfl) (fun _ _ _ h => h) (yi_row (by rfl) 25 (.tmp 3) rfl (w.heap.size + 1) (bv b) 32 5 Tryd.underlying25 HIB.out rfl TS_b) HS3.out ?_
  simp only [Act.put, List.setIfInBounds_toArray, List.set_cons_zero, List.set_cons_succ]
  refine wpAnyH_take (i := 17) (oi := ⟨some 22, .load 25 (.tmp 2), _, _, _, some (11, true)⟩) (v := .agg (bv a)) rfl (by kernel_rfl) (by kernel_rfl) (by kernel_rfl) (fun _ _ _ h => h) (yi_row (by rfl) 25 (.tmp 2) rfl w.heap.size (bv a) 32 5 Tryd.underlying25 HIA.out rfl TS_a) HS3.out ?_
  simp only [Act.put, List.setIfInBounds_toArray, List.set_cons_zero, List.set_cons_succ]
  refine wpAnyH_take (i := 18) (oi := ⟨some 23, .load 25 (.tmp 3), _, _, _, some (11, true)⟩) (v := .agg (bv b)) rfl (by kernel_rfl) (by kernel_rfl) (by kernel_rfl) (fun _ _ _ h => h) (yi_row (by rfl) 25 (.tmp 3) rfl (w.heap.size + 1) (bv b) 32 5 Tryd.underlying25 HIB.out rfl TS_b) HS3.out ?_
  simp only [Act.put, List.setIfInBounds_toArray, List.set_cons_zero, List.set_cons_succ]
  refine wpAnyH_take (i := 19) (oi := ⟨some 24, .binOp .eql 25 (.tmp 22) (.tmp 23) 25, _, _, _, some (11, true)⟩) (v := .bool (decide (a = b))) rfl (by kernel_rfl) (by kernel_rfl) (by kernel_rfl) (fun _ _ _ h => h) (yi_eql (by rfl) 25 25 (.tmp 22) (.tmp 23) rfl 5 32 a b Tryd.underlying25 Tryd.underlying5 cells5 guard25 rfl rfl HA.out HB.out) HS3.out ?_
  simp only [Act.put, List.setIfInBounds_toArray, List.set_cons_zero, List.set_cons_succ]
  rw [HR2.out]
  refine wpAnyH_ready (rs := [13]) (by kernel_rfl) (by simp) (AllReadyH.cons (o := ⟨some 18, .call ⟨.value (.func 11), #[.tmp 17], _⟩, _, _, _, some (11, true)⟩) rfl (fun K hK => ?_) AllReadyH.nil)
  go_simp
  refine (text_any a _ HA.out HA1.out).mono ?_
  rintro e w4 ⟨rfl, hbel⟩
  have HS4 := Lib.hid (TS_below HS3.out hbel)
  have HW4 := Lib.hid (HW3.out.trans (hbel.mono HW3.out.size))
  clear hbel
  refine hK.out _ _ HS4.out (fun _ => ?_)
  clear hK K
  refine wpAnyH_ready (rs := [15]) (by kernel_rfl) (by simp) (AllReadyH.cons (o := ⟨some 20, .call ⟨.value (.func 11), #[.tmp 19], _⟩, _, _, _, some (11, true)⟩) rfl (fun K hK => ?_) AllReadyH.nil)
  go_simp
  refine (text_any b _ HB.out HB1.out).mono ?_
  rintro e w5 ⟨rfl, hbel⟩
  have HS5 := Lib.hid (TS_below HS4.out hbel)
  have HW5 := Lib.hid (HW4.out.trans (hbel.mono HW4.out.size))
  clear hbel
  refine hK.out _ _ HS5.out (fun _ => ?_)
  clear hK K
  refine wpAnyH_take (i := 16) (oi := ⟨some 21, .binOp .eql 9 (.tmp 18) (.tmp 20) 9, _, _, _, some (11, true)⟩) (v := .bool r) rfl (by kernel_rfl) (by kernel_rfl) (by kernel_rfl) (fun _ _ _ h => h) (Or.inl ⟨by rfl, fun w _ => by have e1 := HR.out; have e2 := HE2.out; have e3 := HE3.out; have e4 := HE4.out; go_simp⟩) HS5.out ?_
  simp only [Act.put, List.setIfInBounds_toArray, List.set_cons_zero, List.set_cons_succ]
  refine wpAnyH_take (i := 20) (oi := ⟨some 25, .binOp .eql 4 (.tmp 21) (.tmp 24) 4, _, _, _, some (11, true)⟩) (v := .bool true) rfl (by kernel_rfl) (by kernel_rfl) (by kernel_rfl) (fun _ _ _ h => h) (Or.inl ⟨by rfl, fun w _ => by go_simp⟩) HS5.out ?_
  simp only [Act.put, List.setIfInBounds_toArray, List.set_cons_zero, List.set_cons_succ]
  refine wpAnyH_take (i := 21) (oi := ⟨some 26, .pick (.tmp 16) (.tmp 25) (.const (.bool false)), _, _, _, none⟩) (v := .bool true) rfl (by kernel_rfl) (by kernel_rfl) (by kernel_rfl) (fun _ _ _ h => h) (Or.inl ⟨by rfl, fun w _ => by go_simp⟩) HS5.out ?_
  simp only [Act.put, List.setIfInBounds_toArray, List.set_cons_zero, List.set_cons_succ]
  refine wpAnyH_take (i := 22) (oi := ⟨some 27, .move (.tmp 26), _, _, _, none⟩) (v := .bool true) rfl (by kernel_rfl) (by kernel_rfl) (by kernel_rfl) (fun _ _ _ h => h) (Or.inl ⟨by rfl, fun w _ => by go_simp⟩) HS5.out ?_
  simp only [Act.put, List.setIfInBounds_toArray, List.set_cons_zero, List.set_cons_succ]
  refine wpAnyH_ready (rs := [23]) (by kernel_rfl) (by simp) (AllReadyH.cons (o := ⟨some 28, .call ⟨.value (.func 8), #[], _⟩, _, _, _, some (22, true)⟩) rfl (fun K hK => ?_) AllReadyH.nil)
  go_simp
  refine (wakes_any _ HS5.out.2.2.2).mono ?_
  rintro e w6 ⟨rfl, hbel⟩
  have HS6 := Lib.hid (TS_below HS5.out hbel)
  have HW6 := Lib.hid (HW5.out.trans (hbel.mono HW5.out.size))
  clear hbel
  refine hK.out _ _ HS6.out (fun _ => ?_)
  clear hK K
  refine wpAnyH_take (i := 24) (oi := ⟨some 29, .pick (.tmp 27) (.tmp 28) (.const (.bool false)), _, _, _, none⟩) (v := .bool true) rfl (by kernel_rfl) (by kernel_rfl) (by kernel_rfl) (fun _ _ _ h => h) (Or.inl ⟨by rfl, fun w _ => by go_simp⟩) HS6.out ?_
  simp only [Act.put, List.setIfInBounds_toArray, List.set_cons_zero, List.set_cons_succ]
  refine wpAnyH_take (i := 25) (oi := ⟨some 4, .assign (.tmp 29), _, _, _, none⟩) (v := .bool true) rfl (by kernel_rfl) (by kernel_rfl) (by kernel_rfl) (fun _ _ _ h => h) (Or.inl ⟨by rfl, fun w _ => by go_simp⟩) HS6.out ?_
  simp only [Act.put, List.setIfInBounds_toArray, List.set_cons_zero, List.set_cons_succ]
  refine wpAnyH_done (by kernel_rfl) ?_ _
  go_wp2_with fail
  go_ret
  exact ⟨rfl, HW6.out⟩
end Go.Proofs.YtppbdjgpkcpppaaDoor
