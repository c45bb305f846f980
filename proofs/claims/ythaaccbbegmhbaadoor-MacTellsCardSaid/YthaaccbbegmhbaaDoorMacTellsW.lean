/- The walk of the law MacTells, over the translated program. -/
import Derived.Test.YthaaccbbegmhbaaDoorMacR2
import Derived.Test.YthaaccbbegmhbaaDoorMacSame
import Derived.Test.YthaaccbbegmhbaaDoorShaTellsW
namespace Go.Proofs.YthaaccbbegmhbaaDoor
open Go.RowKit Go.Sha

@[local go_sem high, local simp high] theorem z25m (w : World) : (zeroValue 25).run Tryd.prog w = .ok (.agg (bv (zl 32))) w := by kernel_rfl
theorem yi_eql_gen {P : Program} {ops : Array Oper} {S : World → Prop} {o : Oper} {a : Act} (hw : Region.wanted o (yielded ops a.tmps) = true) (ty ty2 : TypeId) (x y : Operand) (ho : o.op = .binOp .eql ty x y ty2)
    (e : TypeId) (n : Nat) (l k : List Nat) (hu : P.underlying ty = some (.array n e)) (he : P.underlying e = some (.int .u8)) (hc : P.cellsOf e = 1) (hm : P.eqGuardType P.depth ty = false)
    (hx : a.eval x = .agg (bv l)) (hy : a.eval y = .agg (bv k)) (hl : l.length = n) (hk : k.length = n) : YieldsIf P ops S o (.bool (decide (l = k))) a :=
  .inl ⟨hw, fun w _ => by
    unfold execOp
    simp only [ho, hx, hy, Sem.run_bind, run_eqGuard_agg w .eql ty x y (bv l) (bv k) hm, Result.andThen_ok, run_eql_bytes w hu he hc l k hl hk, Sem.run_pure]⟩
theorem Byt.of_src {w : World} {v : Value} {l : List Nat} (h : Src w v l) (hc : ∃ p cap, v = .slice p l.length cap ∧ l.length ≤ cap) : Byt w w.heap.size v l := by
  obtain ⟨p, cap, e, hp⟩ := h
  obtain ⟨p', cap', e', h'⟩ := hc
  rw [e] at e'
  cases e'
  refine ⟨p, cap, e, h', fun h0 => ?_⟩
  obtain ⟨b, o, e1, e2⟩ := hp h0
  have hb := World.block_lt_of_cell? w _ (e2 0 h0)
  exact ⟨b, o, e1, Nat.ne_of_lt hb, hb, e2⟩

set_option maxRecDepth 100000 in
set_option maxHeartbeats 800000 in
theorem macTells_big (p q : Option Addr) (m n c d : Nat) (D : List Nat) (w : World) (hG : Gl w) (h : 8192 < m ∨ 8192 < n) :
    Calls Tryd.prog 4 #[.slice p m c, .slice q n d, .agg (bv D)] w fun e w' => e = .returned (.bool true) ∧ Below w.heap.size w w' := by
  have HG := Lib.hid hG; clear hG
  have hsz := HG.out.size
  have HB0 := Lib.hid (show Below w.heap.size w (w.alloc (.cells (bv D) 25)) from (Below.refl _ _).alloc (Nat.le_refl _) _)
  by_cases h1 : 8192 < m
  · have t1 : decide ((8192 : Int) < (m : Int)) = true := by simp; omega
    go_enter Tryd.func4, Tryd.ntmps4
    go_wp2_with fail
    refine (wakes2_any _ (HG.out.below hsz HB0.out)).mono ?_
    rintro e w2 ⟨rfl, hb2⟩
    go_wp2_with fail
    go_ret
    exact ⟨rfl, HB0.out.trans (hb2.mono HB0.out.size)⟩
  · have t1 : decide ((8192 : Int) < (m : Int)) = false := by simp; omega
    have t2 : decide ((8192 : Int) < (n : Int)) = true := by simp; omega
    go_enter Tryd.func4, Tryd.ntmps4
    go_wp2_with fail
    refine (wakes2_any _ (HG.out.below hsz HB0.out)).mono ?_
    rintro e w2 ⟨rfl, hb2⟩
    go_wp2_with fail
    go_ret
    exact ⟨rfl, HB0.out.trans (hb2.mono HB0.out.size)⟩

set_option maxRecDepth 100000 in
set_option maxHeartbeats 3200000 in
theorem macTells_any (key l D : List Nat) (p q : Option Addr) (m n c d : Nat) (w : World) (hG : Gl w) (hm : m = key.length) (hn : n = l.length) (hk1 : Lt 256 key) (hl1 : Lt 256 l) (hD : D.length = 32) (hD1 : Lt 256 D) (h1 : m ≤ 8192) (h2 : n ≤ 8192)
    (hv : Byt w w.heap.size (.slice p m c) key) (hu : Byt w w.heap.size (.slice q n d) l) :
    Calls Tryd.prog 4 #[.slice p m c, .slice q n d, .agg (bv D)] w fun e w' => e = .returned (.bool true) ∧ Below w.heap.size w w' := by
  have HG := Lib.hid hG; clear hG
  have HM := Lib.hid hm; clear hm
  have HN := Lib.hid hn; clear hn
  have HK1 := Lib.hid hk1; clear hk1
  have HL1 := Lib.hid hl1; clear hl1
  have HD := Lib.hid hD; clear hD
  have HD1 := Lib.hid hD1; clear hD1
  have HV := Lib.hid hv; clear hv
  have HU := Lib.hid hu; clear hu
  have hsz := HG.out.size
  have t1 : decide ((8192 : Int) < (m : Int)) = false := by simp; omega
  have t2 : decide ((8192 : Int) < (n : Int)) = false := by simp; omega
  go_enter Tryd.func4, Tryd.ntmps4
  go_wp2_with (with_reducible refine stp_append ?_)
  unfold Stp
  have HB0 := Lib.hid (show Below w.heap.size w (w.alloc (.cells (bv D) 25)) from (Below.refl _ _).alloc (Nat.le_refl _) _)
  have HX0 := Lib.hid (show (w.alloc (.cells (bv D) 25)).heap[w.heap.size]? = some (.cells (bv D) 25 (0, 0)) from heap_last _ _ _ rfl)
  have hs0 : (w.alloc (.cells (bv D) 25)).heap.size = w.heap.size + 1 := by simp
  generalize w.alloc (.cells (bv D) 25) = w0 at *
  with_reducible refine wl_app (w.heap.size + 1) (.slice none 0 0) (.slice p m c) [] key ?_ ?_ (own_nil _ _) ?_ ?_ ?_ ?_
  · rfl
  · rfl
  · exact HV.out.src.below HB0.out
  · rw [← HM.out]; simp; omega
  · omega
  intro v1 w1 hown1 hgr1 _
  rw [List.nil_append] at hown1
  have hbb1 := grown_to_below hgr1 (Nat.le_refl _) (by simp [Value.ownBlock])
  have HO1 := Lib.hid hown1
  have HB1 := Lib.hid (HB0.out.trans (hbb1.mono HB0.out.size))
  have HX1 := Lib.hid ((hbb1.block _ (by omega)).trans HX0.out)
  have hs1 : w.heap.size + 1 ≤ w1.heap.size := by have := hbb1.size; omega
  clear hown1 hgr1 hbb1 HB0 HX0 hs0
  obtain ⟨p1, c1, rfl⟩ := HO1.out.sl HM.out.symm
  go_wp2_with (with_reducible refine stp_append ?_)
  unfold Stp
  with_reducible refine wl_app (w.heap.size + 1) (.slice none 0 0) (.slice q n d) [] l ?_ ?_ (own_nil _ _) ?_ ?_ ?_ ?_
  · rfl
  · rfl
  · exact HU.out.src.below HB1.out
  · rw [← HN.out]; simp; omega
  · omega
  intro v2 w2 hown2 hgr2 _
  rw [List.nil_append] at hown2
  have hbb2 := grown_to_below hgr2 (Nat.le_refl _) (by simp [Value.ownBlock])
  have HO2 := Lib.hid hown2
  have HO1' := Lib.hid (HO1.out.kept hbb2)
  have HB2 := Lib.hid (HB1.out.trans (hbb2.mono HB1.out.size))
  have HX2 := Lib.hid ((hbb2.block _ (by omega)).trans HX1.out)
  clear hown2 hgr2 hbb2 HB1 HX1 HO1 hs1
  obtain ⟨p2, c2, rfl⟩ := HO2.out.sl HN.out.symm
  go_wp2_with fail
  refine (macOf_any key l _ _ w2 HK1.out HL1.out (by rw [← HM.out]; omega) (by rw [← HN.out]; omega) (HG.out.below hsz HB2.out) (HO1'.out.byt' (fun e => by have := (HO1'.out.lt _ e).2; omega)) (HO2.out.byt' (fun e => by have := (HO2.out.lt _ e).2; omega))).mono ?_
  rintro e w3 ⟨rfl, hb3⟩
  have HO13 := Lib.hid (HO1'.out.kept hb3)
  have HO23 := Lib.hid (HO2.out.kept hb3)
  have HB3 := Lib.hid (HB2.out.trans (hb3.mono HB2.out.size))
  have HX3 := Lib.hid ((hb3.block _ (Array.getElem?_eq_some_iff.1 HX2.out).1).trans HX2.out)
  clear hb3 HO1' HO2 HB2 HX2
  have HML := Lib.hid (macL_len key l)
  have HMT := Lib.hid (macL_lt key l)
  have HI25 := Lib.hid (show (Tryd.prog.info? 25).map (·.size) = some (bv (macL key l)).size by rw [bv_size, HML.out]; exact info25)
  have HID := Lib.hid (show (Tryd.prog.info? 25).map (·.size) = some (bv D).size by rw [bv_size, HD.out]; exact info25)
  go_wp2_with (first
    | ((with_reducible refine wl_storeL (ty := 25) w3.heap.size (bv (macL key l)) ?_ ?_ ?_ ?_ ?_ ?_ ?_); (· rfl); (· rfl); (· rfl); (· exact HI25.out); (· rw [bv_size, bv_size, HML.out, zl_len]); (· exact bv_one _)))
  have HB4 := Lib.hid (show Below w.heap.size w ((w3.alloc (.cells (bv (macL key l)) 25)).drew) from (HB3.out.alloc HB3.out.size _).drew)
  have HO14 := Lib.hid (show Own ((w3.alloc (.cells (bv (macL key l)) 25)).drew) (w.heap.size + 1) (.slice p1 m c1) key from HO13.out.kept ((Below.refl _ _).alloc (Nat.le_refl _) _).drew)
  have HO24 := Lib.hid (show Own ((w3.alloc (.cells (bv (macL key l)) 25)).drew) (w.heap.size + 1) (.slice p2 n c2) l from HO23.out.kept ((Below.refl _ _).alloc (Nat.le_refl _) _).drew)
  have HM4 := Lib.hid (show ((w3.alloc (.cells (bv (macL key l)) 25)).drew).heap[w3.heap.size]? = some (.cells (bv (macL key l)) 25 (0, 0)) from heap_last _ _ _ rfl)
  have HX4 := Lib.hid (show ((w3.alloc (.cells (bv (macL key l)) 25)).drew).heap[w.heap.size]? = some (.cells (bv D) 25 (0, 0)) from (heap_prev _ _ _ (Array.getElem?_eq_some_iff.1 HX3.out).1).trans HX3.out)
  refine wp_region_held (S := fun w' => Below ((w3.alloc (.cells (bv (macL key l)) 25)).drew).heap.size ((w3.alloc (.cells (bv (macL key l)) 25)).drew) w') (by kernel_rfl) ?_
  change wpAnyH _ _ _ _ _ _ _ _ (World.drew _)
  have HS0 := Lib.hid (Below.refl ((w3.alloc (.cells (bv (macL key l)) 25)).drew).heap.size ((w3.alloc (.cells (bv (macL key l)) 25)).drew))
  generalize (w3.alloc (.cells (bv (macL key l)) 25)).drew = z at *
  generalize w3.heap.size = mB at *
  have HV4 := Lib.hid (HV.out.src.below HB4.out)
  have HU4 := Lib.hid (HU.out.src.below HB4.out)
  have HG4 := Lib.hid (HG.out.below hsz HB4.out)
  clear HO13 HO23 HB3 HX3
  generalize hMM : macL key l = M at *
  have HME := Lib.hid hMM; clear hMM
  refine wpAnyH_take (i := 0) (oi := ⟨some 26, .load 25 (.tmp 9), _, _, _, none⟩) (v := .agg (bv M)) rfl (by kernel_rfl) (by kernel_rfl) (by kernel_rfl) (fun _ _ _ h => h) (yi_row' (by rfl) 25 (.tmp 9) rfl mB (bv M) 32 5 Tryd.underlying25 HI25.out rfl (fun w' h => ⟨_, _, (h.block _ (Array.getElem?_eq_some_iff.1 HM4.out).1).trans HM4.out⟩)) HS0.out ?_
  simp only [Act.put, List.setIfInBounds_toArray, List.set_cons_zero, List.set_cons_succ]
  refine wpAnyH_take (i := 1) (oi := ⟨some 27, .move (.tmp 0), _, _, _, none⟩) (v := .slice p m c) rfl (by kernel_rfl) (by kernel_rfl) (by kernel_rfl) (fun _ _ _ h => h) (Or.inl ⟨by rfl, fun w' hS => by go_simp⟩) HS0.out ?_
  simp only [Act.put, List.setIfInBounds_toArray, List.set_cons_zero, List.set_cons_succ]
  refine wpAnyH_take (i := 2) (oi := ⟨some 28, .move (.tmp 1), _, _, _, none⟩) (v := .slice q n d) rfl (by kernel_rfl) (by kernel_rfl) (by kernel_rfl) (fun _ _ _ h => h) (Or.inl ⟨by rfl, fun w' hS => by go_simp⟩) HS0.out ?_
  simp only [Act.put, List.setIfInBounds_toArray, List.set_cons_zero, List.set_cons_succ]
  refine wpAnyH_ready (rs := [3]) (by kernel_rfl) (by simp) (AllReadyH.cons (o := ⟨some 29, .call ⟨.value (.func 16), #[.tmp 27, .tmp 28], _⟩, _, _, _, none⟩) rfl (fun K hK => ?_) AllReadyH.nil)
  go_simp
  refine (rmacOf_any key l p q m n c d _ HM.out HN.out (by omega) (by omega) HK1.out HL1.out (HV4.out.below HS0.out) (HU4.out.below HS0.out)).mono ?_
  rintro e w1 ⟨rfl, hbel⟩
  have HS1 := Lib.hid (HS0.out.trans (hbel.mono HS0.out.size))
  clear hbel
  refine hK.out _ _ HS1.out (fun _ => ?_)
  clear hK K
  rw [HME.out]
  refine wpAnyH_take (i := 4) (oi := ⟨some 30, .binOp .eql 25 (.tmp 26) (.tmp 29) 25, _, _, _, none⟩) (v := .bool true) rfl (by kernel_rfl) (by kernel_rfl) (by kernel_rfl) (fun _ _ _ h => h) (yi_eql_same (by rfl) 25 25 (.tmp 26) (.tmp 29) rfl 5 32 (M) Tryd.underlying25 Tryd.underlying5 cells5 guard25 rfl rfl (HML.out)) HS1.out ?_
  simp only [Act.put, List.setIfInBounds_toArray, List.set_cons_zero, List.set_cons_succ]
  refine wpAnyH_take (i := 5) (oi := ⟨some 31, .move (.tmp 30), _, _, _, none⟩) (v := .bool true) rfl (by kernel_rfl) (by kernel_rfl) (by kernel_rfl) (fun _ _ _ h => h) (Or.inl ⟨by rfl, fun w' hS => by go_simp⟩) HS1.out ?_
  simp only [Act.put, List.setIfInBounds_toArray, List.set_cons_zero, List.set_cons_succ]
  refine wpAnyH_take (i := 6) (oi := ⟨some 32, .move (.tmp 7), _, _, _, some (5, true)⟩) (v := .slice p1 m c1) rfl (by kernel_rfl) (by kernel_rfl) (by kernel_rfl) (fun _ _ _ h => h) (Or.inl ⟨by rfl, fun w' hS => by go_simp⟩) HS1.out ?_
  simp only [Act.put, List.setIfInBounds_toArray, List.set_cons_zero, List.set_cons_succ]
  refine wpAnyH_take (i := 7) (oi := ⟨some 33, .convert 22 9 (.tmp 32), _, _, _, some (5, true)⟩) (v := .string (strN key)) rfl (by kernel_rfl) (by kernel_rfl) (by kernel_rfl) (fun _ _ _ h => h) (yi_conv (by rfl) (.tmp 32) rfl (.slice p1 m c1) key rfl (fun w' h => (HO14.out.kept h).src)) HS1.out ?_
  simp only [Act.put, List.setIfInBounds_toArray, List.set_cons_zero, List.set_cons_succ]
  refine wpAnyH_take (i := 8) (oi := ⟨some 34, .move (.tmp 0), _, _, _, some (5, true)⟩) (v := .slice p m c) rfl (by kernel_rfl) (by kernel_rfl) (by kernel_rfl) (fun _ _ _ h => h) (Or.inl ⟨by rfl, fun w' hS => by go_simp⟩) HS1.out ?_
  simp only [Act.put, List.setIfInBounds_toArray, List.set_cons_zero, List.set_cons_succ]
  refine wpAnyH_take (i := 9) (oi := ⟨some 35, .convert 22 9 (.tmp 34), _, _, _, some (5, true)⟩) (v := .string (strN key)) rfl (by kernel_rfl) (by kernel_rfl) (by kernel_rfl) (fun _ _ _ h => h) (yi_conv (by rfl) (.tmp 34) rfl (.slice p m c) key rfl (fun w' h => HV4.out.below h)) HS1.out ?_
  simp only [Act.put, List.setIfInBounds_toArray, List.set_cons_zero, List.set_cons_succ]
  refine wpAnyH_take (i := 10) (oi := ⟨some 36, .binOp .eql 9 (.tmp 33) (.tmp 35) 9, _, _, _, some (5, true)⟩) (v := .bool true) rfl (by kernel_rfl) (by kernel_rfl) (by kernel_rfl) (fun _ _ _ h => h) (Or.inl ⟨by rfl, fun w' hS => by go_simp⟩) HS1.out ?_
  simp only [Act.put, List.setIfInBounds_toArray, List.set_cons_zero, List.set_cons_succ]
  refine wpAnyH_take (i := 11) (oi := ⟨some 37, .pick (.tmp 31) (.tmp 36) (.const (.bool false)), _, _, _, none⟩) (v := .bool true) rfl (by kernel_rfl) (by kernel_rfl) (by kernel_rfl) (fun _ _ _ h => h) (Or.inl ⟨by rfl, fun w' hS => by go_simp⟩) HS1.out ?_
  simp only [Act.put, List.setIfInBounds_toArray, List.set_cons_zero, List.set_cons_succ]
  refine wpAnyH_take (i := 12) (oi := ⟨some 38, .move (.tmp 37), _, _, _, none⟩) (v := .bool true) rfl (by kernel_rfl) (by kernel_rfl) (by kernel_rfl) (fun _ _ _ h => h) (Or.inl ⟨by rfl, fun w' hS => by go_simp⟩) HS1.out ?_
  simp only [Act.put, List.setIfInBounds_toArray, List.set_cons_zero, List.set_cons_succ]
  refine wpAnyH_take (i := 13) (oi := ⟨some 39, .move (.tmp 8), _, _, _, some (12, true)⟩) (v := .slice p2 n c2) rfl (by kernel_rfl) (by kernel_rfl) (by kernel_rfl) (fun _ _ _ h => h) (Or.inl ⟨by rfl, fun w' hS => by go_simp⟩) HS1.out ?_
  simp only [Act.put, List.setIfInBounds_toArray, List.set_cons_zero, List.set_cons_succ]
  refine wpAnyH_take (i := 14) (oi := ⟨some 40, .convert 22 9 (.tmp 39), _, _, _, some (12, true)⟩) (v := .string (strN l)) rfl (by kernel_rfl) (by kernel_rfl) (by kernel_rfl) (fun _ _ _ h => h) (yi_conv (by rfl) (.tmp 39) rfl (.slice p2 n c2) l rfl (fun w' h => (HO24.out.kept h).src)) HS1.out ?_
  simp only [Act.put, List.setIfInBounds_toArray, List.set_cons_zero, List.set_cons_succ]
  refine wpAnyH_take (i := 15) (oi := ⟨some 41, .move (.tmp 1), _, _, _, some (12, true)⟩) (v := .slice q n d) rfl (by kernel_rfl) (by kernel_rfl) (by kernel_rfl) (fun _ _ _ h => h) (Or.inl ⟨by rfl, fun w' hS => by go_simp⟩) HS1.out ?_
  simp only [Act.put, List.setIfInBounds_toArray, List.set_cons_zero, List.set_cons_succ]
  refine wpAnyH_take (i := 16) (oi := ⟨some 42, .convert 22 9 (.tmp 41), _, _, _, some (12, true)⟩) (v := .string (strN l)) rfl (by kernel_rfl) (by kernel_rfl) (by kernel_rfl) (fun _ _ _ h => h) (yi_conv (by rfl) (.tmp 41) rfl (.slice q n d) l rfl (fun w' h => HU4.out.below h)) HS1.out ?_
  simp only [Act.put, List.setIfInBounds_toArray, List.set_cons_zero, List.set_cons_succ]
  refine wpAnyH_take (i := 17) (oi := ⟨some 43, .binOp .eql 9 (.tmp 40) (.tmp 42) 9, _, _, _, some (12, true)⟩) (v := .bool true) rfl (by kernel_rfl) (by kernel_rfl) (by kernel_rfl) (fun _ _ _ h => h) (Or.inl ⟨by rfl, fun w' hS => by go_simp⟩) HS1.out ?_
  simp only [Act.put, List.setIfInBounds_toArray, List.set_cons_zero, List.set_cons_succ]
  refine wpAnyH_take (i := 18) (oi := ⟨some 44, .pick (.tmp 38) (.tmp 43) (.const (.bool false)), _, _, _, none⟩) (v := .bool true) rfl (by kernel_rfl) (by kernel_rfl) (by kernel_rfl) (fun _ _ _ h => h) (Or.inl ⟨by rfl, fun w' hS => by go_simp⟩) HS1.out ?_
  simp only [Act.put, List.setIfInBounds_toArray, List.set_cons_zero, List.set_cons_succ]
  refine wpAnyH_take (i := 19) (oi := ⟨some 45, .move (.tmp 44), _, _, _, none⟩) (v := .bool true) rfl (by kernel_rfl) (by kernel_rfl) (by kernel_rfl) (fun _ _ _ h => h) (Or.inl ⟨by rfl, fun w' hS => by go_simp⟩) HS1.out ?_
  simp only [Act.put, List.setIfInBounds_toArray, List.set_cons_zero, List.set_cons_succ]
  refine wpAnyH_take (i := 20) (oi := ⟨some 46, .load 25 (.tmp 9), _, _, _, some (19, true)⟩) (v := .agg (bv M)) rfl (by kernel_rfl) (by kernel_rfl) (by kernel_rfl) (fun _ _ _ h => h) (yi_row' (by rfl) 25 (.tmp 9) rfl mB (bv M) 32 5 Tryd.underlying25 HI25.out rfl (fun w' h => ⟨_, _, (h.block _ (Array.getElem?_eq_some_iff.1 HM4.out).1).trans HM4.out⟩)) HS1.out ?_
  simp only [Act.put, List.setIfInBounds_toArray, List.set_cons_zero, List.set_cons_succ]
  refine wpAnyH_take (i := 21) (oi := ⟨some 47, .load 25 (.tmp 9), _, _, _, some (19, true)⟩) (v := .agg (bv M)) rfl (by kernel_rfl) (by kernel_rfl) (by kernel_rfl) (fun _ _ _ h => h) (yi_row' (by rfl) 25 (.tmp 9) rfl mB (bv M) 32 5 Tryd.underlying25 HI25.out rfl (fun w' h => ⟨_, _, (h.block _ (Array.getElem?_eq_some_iff.1 HM4.out).1).trans HM4.out⟩)) HS1.out ?_
  simp only [Act.put, List.setIfInBounds_toArray, List.set_cons_zero, List.set_cons_succ]
  refine wpAnyH_ready (rs := [22]) (by kernel_rfl) (by simp) (AllReadyH.cons (o := ⟨some 48, .call ⟨.value (.func 17), #[.tmp 46, .tmp 47], _⟩, _, _, _, some (19, true)⟩) rfl (fun K hK => ?_) AllReadyH.nil)
  go_simp
  refine (same_any M M _ HML.out HML.out HMT.out HMT.out).mono ?_
  rintro e w2 ⟨rfl, hbel⟩
  have HS2 := Lib.hid (HS1.out.trans (hbel.mono HS1.out.size))
  clear hbel
  refine hK.out _ _ HS2.out (fun _ => ?_)
  clear hK K
  rw [show decide (M = M) = true from decide_eq_true rfl]
  refine wpAnyH_take (i := 23) (oi := ⟨some 49, .pick (.tmp 45) (.tmp 48) (.const (.bool false)), _, _, _, none⟩) (v := .bool true) rfl (by kernel_rfl) (by kernel_rfl) (by kernel_rfl) (fun _ _ _ h => h) (Or.inl ⟨by rfl, fun w' hS => by go_simp⟩) HS2.out ?_
  simp only [Act.put, List.setIfInBounds_toArray, List.set_cons_zero, List.set_cons_succ]
  refine wpAnyH_take (i := 24) (oi := ⟨some 50, .move (.tmp 49), _, _, _, none⟩) (v := .bool true) rfl (by kernel_rfl) (by kernel_rfl) (by kernel_rfl) (fun _ _ _ h => h) (Or.inl ⟨by rfl, fun w' hS => by go_simp⟩) HS2.out ?_
  simp only [Act.put, List.setIfInBounds_toArray, List.set_cons_zero, List.set_cons_succ]
  refine wpAnyH_take (i := 25) (oi := ⟨some 51, .load 25 (.tmp 9), _, _, _, some (24, true)⟩) (v := .agg (bv M)) rfl (by kernel_rfl) (by kernel_rfl) (by kernel_rfl) (fun _ _ _ h => h) (yi_row' (by rfl) 25 (.tmp 9) rfl mB (bv M) 32 5 Tryd.underlying25 HI25.out rfl (fun w' h => ⟨_, _, (h.block _ (Array.getElem?_eq_some_iff.1 HM4.out).1).trans HM4.out⟩)) HS2.out ?_
  simp only [Act.put, List.setIfInBounds_toArray, List.set_cons_zero, List.set_cons_succ]
  refine wpAnyH_take (i := 26) (oi := ⟨some 52, .load 25 (.tmp 5), _, _, _, some (24, true)⟩) (v := .agg (bv D)) rfl (by kernel_rfl) (by kernel_rfl) (by kernel_rfl) (fun _ _ _ h => h) (yi_row' (by rfl) 25 (.tmp 5) rfl w.heap.size (bv D) 32 5 Tryd.underlying25 HID.out rfl (fun w' h => ⟨_, _, (h.block _ (Array.getElem?_eq_some_iff.1 HX4.out).1).trans HX4.out⟩)) HS2.out ?_
  simp only [Act.put, List.setIfInBounds_toArray, List.set_cons_zero, List.set_cons_succ]
  refine wpAnyH_take (i := 28) (oi := ⟨some 54, .load 25 (.tmp 9), _, _, _, some (24, true)⟩) (v := .agg (bv M)) rfl (by kernel_rfl) (by kernel_rfl) (by kernel_rfl) (fun _ _ _ h => h) (yi_row' (by rfl) 25 (.tmp 9) rfl mB (bv M) 32 5 Tryd.underlying25 HI25.out rfl (fun w' h => ⟨_, _, (h.block _ (Array.getElem?_eq_some_iff.1 HM4.out).1).trans HM4.out⟩)) HS2.out ?_
  simp only [Act.put, List.setIfInBounds_toArray, List.set_cons_zero, List.set_cons_succ]
  refine wpAnyH_take (i := 29) (oi := ⟨some 55, .load 25 (.tmp 5), _, _, _, some (24, true)⟩) (v := .agg (bv D)) rfl (by kernel_rfl) (by kernel_rfl) (by kernel_rfl) (fun _ _ _ h => h) (yi_row' (by rfl) 25 (.tmp 5) rfl w.heap.size (bv D) 32 5 Tryd.underlying25 HID.out rfl (fun w' h => ⟨_, _, (h.block _ (Array.getElem?_eq_some_iff.1 HX4.out).1).trans HX4.out⟩)) HS2.out ?_
  simp only [Act.put, List.setIfInBounds_toArray, List.set_cons_zero, List.set_cons_succ]
  refine wpAnyH_take (i := 30) (oi := ⟨some 56, .binOp .eql 25 (.tmp 54) (.tmp 55) 25, _, _, _, some (24, true)⟩) (v := .bool (decide (M = D))) rfl (by kernel_rfl) (by kernel_rfl) (by kernel_rfl) (fun _ _ _ h => h) (yi_eql_gen (by rfl) 25 25 (.tmp 54) (.tmp 55) rfl 5 32 M D Tryd.underlying25 Tryd.underlying5 cells5 guard25 rfl rfl HML.out HD.out) HS2.out ?_
  simp only [Act.put, List.setIfInBounds_toArray, List.set_cons_zero, List.set_cons_succ]
  refine wpAnyH_ready (rs := [27]) (by kernel_rfl) (by simp) (AllReadyH.cons (o := ⟨some 53, .call ⟨.value (.func 17), #[.tmp 51, .tmp 52], _⟩, _, _, _, some (24, true)⟩) rfl (fun K hK => ?_) AllReadyH.nil)
  go_simp
  refine (same_any M D _ HML.out HD.out HMT.out HD1.out).mono ?_
  rintro e w3 ⟨rfl, hbel⟩
  have HS3 := Lib.hid (HS2.out.trans (hbel.mono HS2.out.size))
  clear hbel
  refine hK.out _ _ HS3.out (fun _ => ?_)
  clear hK K
  generalize decide (M = D) = bb at *
  refine wpAnyH_take (i := 31) (oi := ⟨some 57, .binOp .eql 4 (.tmp 53) (.tmp 56) 4, _, _, _, some (24, true)⟩) (v := .bool true) rfl (by kernel_rfl) (by kernel_rfl) (by kernel_rfl) (fun _ _ _ h => h) (Or.inl ⟨by rfl, fun w' hS => by go_simp⟩) HS3.out ?_
  simp only [Act.put, List.setIfInBounds_toArray, List.set_cons_zero, List.set_cons_succ]
  refine wpAnyH_take (i := 32) (oi := ⟨some 58, .pick (.tmp 50) (.tmp 57) (.const (.bool false)), _, _, _, none⟩) (v := .bool true) rfl (by kernel_rfl) (by kernel_rfl) (by kernel_rfl) (fun _ _ _ h => h) (Or.inl ⟨by rfl, fun w' hS => by go_simp⟩) HS3.out ?_
  simp only [Act.put, List.setIfInBounds_toArray, List.set_cons_zero, List.set_cons_succ]
  refine wpAnyH_take (i := 33) (oi := ⟨some 59, .move (.tmp 58), _, _, _, none⟩) (v := .bool true) rfl (by kernel_rfl) (by kernel_rfl) (by kernel_rfl) (fun _ _ _ h => h) (Or.inl ⟨by rfl, fun w' hS => by go_simp⟩) HS3.out ?_
  simp only [Act.put, List.setIfInBounds_toArray, List.set_cons_zero, List.set_cons_succ]
  refine wpAnyH_ready (rs := [34]) (by kernel_rfl) (by simp) (AllReadyH.cons (o := ⟨some 60, .call ⟨.value (.func 14), #[], _⟩, _, _, _, some (33, true)⟩) rfl (fun K hK => ?_) AllReadyH.nil)
  go_simp
  refine (wakes2_any _ (HG4.out.below HG4.out.size HS3.out)).mono ?_
  rintro e w4 ⟨rfl, hbel⟩
  have HS4 := Lib.hid (HS3.out.trans (hbel.mono HS3.out.size))
  clear hbel
  refine hK.out _ _ HS4.out (fun _ => ?_)
  clear hK K
  refine wpAnyH_take (i := 35) (oi := ⟨some 61, .pick (.tmp 59) (.tmp 60) (.const (.bool false)), _, _, _, none⟩) (v := .bool true) rfl (by kernel_rfl) (by kernel_rfl) (by kernel_rfl) (fun _ _ _ h => h) (Or.inl ⟨by rfl, fun w' hS => by go_simp⟩) HS4.out ?_
  simp only [Act.put, List.setIfInBounds_toArray, List.set_cons_zero, List.set_cons_succ]
  refine wpAnyH_take (i := 36) (oi := ⟨some 6, .assign (.tmp 61), _, _, _, none⟩) (v := .bool true) rfl (by kernel_rfl) (by kernel_rfl) (by kernel_rfl) (fun _ _ _ h => h) (Or.inl ⟨by rfl, fun w' hS => by go_simp⟩) HS4.out ?_
  simp only [Act.put, List.setIfInBounds_toArray, List.set_cons_zero, List.set_cons_succ]
  refine wpAnyH_done (by kernel_rfl) ?_ _
  go_wp2_with fail
  go_ret
  exact ⟨rfl, HB4.out.trans (HS4.out.mono HB4.out.size)⟩
end Go.Proofs.YthaaccbbegmhbaaDoor
