/- The walk of the law ShaTells, over the translated program. -/
import Derived.Test.YthaaccbbegmhbaaDoorShaR5
import Derived.Test.YthaaccbbegmhbaaDoorShaR1
import Derived.Laws.BytesArg
namespace Go.Proofs.YthaaccbbegmhbaaDoor
open Go.RowKit Go.Sha

@[local go_sem high, local simp high] theorem z25t (w : World) : (zeroValue 25).run Tryd.prog w = .ok (.agg (bv (zl 32))) w := by kernel_rfl
/-- bytes as a string -/
theorem run_conv (w : World) (u : Value) (l : List Nat) (h : Src w u l) : (convert 22 9 u).run Tryd.prog w = .ok (.string (strN l)) w := by
  obtain ⟨p, cap, rfl, hp⟩ := h
  by_cases h0 : 0 < l.length
  · obtain ⟨b, o, rfl, hc⟩ := hp h0
    have := run_convert_bytes_arg (P := Tryd.prog) w 22 5 Tryd.underlying22 Tryd.underlying5 b o l.length cap (l.map fun (n : Nat) => (n : Int)) (by simp)
      (fun i hi => by
        rw [hc i hi]
        simp [at0, List.getD_eq_getElem?_getD]
        cases l[i]? <;> rfl) 9 Tryd.underlying9
    rw [strN_nums] at this
    exact this
  · obtain rfl : l = [] := List.eq_nil_of_length_eq_zero (by omega)
    show (convert 22 9 (.slice p 0 cap)).run Tryd.prog w = _
    rw [run_convert_bytes_string w 22 9 5 p 0 cap Tryd.underlying22 Tryd.underlying5 Tryd.underlying9]
    have e : strN [] = ByteArray.empty := by unfold strN; rfl
    rw [e]
    cases p with
    | none => simp [Conv.bytesToString]
    | some a => simp [Conv.bytesToString, loadCells, loadCellsFrom]
theorem yi_conv {ops : Array Oper} {S : World → Prop} {o : Oper} {a : Act} (hw : Region.wanted o (yielded ops a.tmps) = true) (x : Operand) (ho : o.op = .convert 22 9 x) (u : Value) (l : List Nat)
    (hx : a.eval x = u) (hS : ∀ w, S w → Src w u l) : YieldsIf Tryd.prog ops S o (.string (strN l)) a :=
  .inl ⟨hw, fun w h => by
    unfold execOp
    simp only [ho, hx, Sem.run_bind, run_conv w u l (hS w h), Result.andThen_ok, Sem.run_pure]⟩
theorem Src.kept {w w' : World} {v : Value} {l : List Nat} (h : Src w v l) (hb : Below w.heap.size w w') : Src w' v l := by
  obtain ⟨p, cap, e, hp⟩ := h
  refine ⟨p, cap, e, fun h0 => ?_⟩
  obtain ⟨b, o, e1, e2⟩ := hp h0
  exact ⟨b, o, e1, fun j hj => (hb.cell (p := ⟨b, o + j, none⟩) (World.block_lt_of_cell? w _ (e2 j hj))).trans (e2 j hj)⟩

set_option maxRecDepth 100000 in
set_option maxHeartbeats 800000 in
theorem tells_big (p : Option Addr) (n c : Nat) (w : World) (hG : Gl w) (h : 16384 < n) :
    Calls Tryd.prog 3 #[.slice p n c] w fun e w' => e = .returned (.bool true) ∧ Below w.heap.size w w' := by
  have HG := Lib.hid hG; clear hG
  have t1 : decide ((16384 : Int) < (n : Int)) = true := by simp; omega
  go_enter Tryd.func3, Tryd.ntmps3
  go_wp2_with fail
  refine (wakes_any _ HG.out).mono ?_
  rintro e w2 ⟨rfl, hb2⟩
  go_wp2_with fail
  go_ret
  exact ⟨rfl, hb2⟩

set_option maxRecDepth 100000 in
set_option maxHeartbeats 1600000 in
theorem tells_any (l : List Nat) (p : Option Addr) (n c : Nat) (w : World) (hG : Gl w) (hn : n = l.length) (hl : Lt 256 l) (h : n ≤ 16384) (hv : Byt w w.heap.size (.slice p n c) l) :
    Calls Tryd.prog 3 #[.slice p n c] w fun e w' => e = .returned (.bool true) ∧ Below w.heap.size w w' := by
  have HG := Lib.hid hG; clear hG
  have HN := Lib.hid hn; clear hn
  have HL := Lib.hid hl; clear hl
  have HV := Lib.hid hv; clear hv
  have hsz := HG.out.size
  have t1 : decide ((16384 : Int) < (n : Int)) = false := by simp; omega
  go_enter Tryd.func3, Tryd.ntmps3
  go_wp2_with (with_reducible refine stp_append ?_)
  unfold Stp
  with_reducible refine wl_app w.heap.size (.slice none 0 0) (.slice p n c) [] l ?_ ?_ (own_nil _ _) ?_ ?_ ?_ ?_
  · rfl
  · rfl
  · exact HV.out.src
  · rw [← HN.out]; simp; omega
  · exact Nat.le_refl _
  intro v1 w1 hown hgr _
  rw [List.nil_append] at hown
  have HOWN := Lib.hid hown
  have HB1 := Lib.hid (grown_to_below hgr (Nat.le_refl _) (by simp [Value.ownBlock]))
  clear hown hgr
  obtain ⟨p1, c1, rfl⟩ := HOWN.out.sl HN.out.symm
  go_wp2_with fail
  refine (of_any l _ w1 HL.out (by rw [← HN.out]; omega) (HG.out.below hsz HB1.out) (HOWN.out.byt' (fun e => by have := (HOWN.out.lt _ e).2; omega))).mono ?_
  rintro e w2 ⟨rfl, hb2⟩
  have HOWN2 := Lib.hid (HOWN.out.kept hb2)
  have HB2 := Lib.hid (HB1.out.trans (hb2.mono HB1.out.size))
  clear hb2 HOWN HB1
  have HDL := Lib.hid (shaL_len l)
  have HDT := Lib.hid (shaL_lt l)
  have HI25 := Lib.hid (show (Tryd.prog.info? 25).map (·.size) = some (bv (shaL l)).size by rw [bv_size, HDL.out]; exact info25)
  go_wp2_with (first
    | ((with_reducible refine wl_storeL (ty := 25) w2.heap.size (bv (shaL l)) ?_ ?_ ?_ ?_ ?_ ?_ ?_); (· rfl); (· rfl); (· rfl); (· exact HI25.out); (· rw [bv_size, bv_size, HDL.out, zl_len]); (· exact bv_one _)))
  have HB3 := Lib.hid (show Below w.heap.size w ((w2.alloc (.cells (bv (shaL l)) 25)).drew) from (HB2.out.alloc HB2.out.size _).drew)
  have HO3 := Lib.hid (show Own ((w2.alloc (.cells (bv (shaL l)) 25)).drew) w.heap.size (.slice p1 n c1) l from HOWN2.out.kept ((Below.refl _ _).alloc (Nat.le_refl _) _).drew)
  have HD3 := Lib.hid (show ((w2.alloc (.cells (bv (shaL l)) 25)).drew).heap[w2.heap.size]? = some (.cells (bv (shaL l)) 25 (0, 0)) from heap_last _ _ _ rfl)
  refine wp_region_held (S := fun w' => Below ((w2.alloc (.cells (bv (shaL l)) 25)).drew).heap.size ((w2.alloc (.cells (bv (shaL l)) 25)).drew) w') (by kernel_rfl) ?_
  change wpAnyH _ _ _ _ _ _ _ _ (World.drew _)
  have HS0 := Lib.hid (Below.refl ((w2.alloc (.cells (bv (shaL l)) 25)).drew).heap.size ((w2.alloc (.cells (bv (shaL l)) 25)).drew))
  generalize (w2.alloc (.cells (bv (shaL l)) 25)).drew = z at *
  generalize w2.heap.size = dB at *
  have HV3 := Lib.hid (HV.out.grown HB3.out (g' := z.heap.size) (fun b h => by have := HB3.out.size; omega)).src
  have HG3 := Lib.hid (HG.out.below hsz HB3.out)
  clear HOWN2 HB2
  refine wpAnyH_take (i := 0) (oi := ⟨some 13, .load 25 (.tmp 4), _, _, _, none⟩) (v := .agg (bv (shaL l))) rfl (by kernel_rfl) (by kernel_rfl) (by kernel_rfl) (fun _ _ _ h => h) (yi_row' (by rfl) 25 (.tmp 4) rfl dB (bv (shaL l)) 32 5 Tryd.underlying25 HI25.out rfl (fun w' h => ⟨_, _, (h.block _ (Array.getElem?_eq_some_iff.1 HD3.out).1).trans HD3.out⟩)) HS0.out ?_
  simp only [Act.put, List.setIfInBounds_toArray, List.set_cons_zero, List.set_cons_succ]
  refine wpAnyH_take (i := 1) (oi := ⟨some 14, .move (.tmp 0), _, _, _, none⟩) (v := .slice p n c) rfl (by kernel_rfl) (by kernel_rfl) (by kernel_rfl) (fun _ _ _ h => h) (Or.inl ⟨by rfl, fun w' hS => by go_simp⟩) HS0.out ?_
  simp only [Act.put, List.setIfInBounds_toArray, List.set_cons_zero, List.set_cons_succ]
  refine wpAnyH_ready (rs := [2]) (by kernel_rfl) (by simp) (AllReadyH.cons (o := ⟨some 15, .call ⟨.value (.func 11), #[.tmp 14], _⟩, _, _, _, none⟩) rfl (fun K hK => ?_) AllReadyH.nil)
  go_simp
  refine (refOf_any l p n c _ HN.out (by omega) HL.out (HV3.out.kept HS0.out)).mono ?_
  rintro e w1 ⟨rfl, hbel⟩
  have HS1 := Lib.hid (HS0.out.trans (hbel.mono HS0.out.size))
  clear hbel
  refine hK.out _ _ HS1.out (fun _ => ?_)
  clear hK K
  refine wpAnyH_take (i := 3) (oi := ⟨some 16, .binOp .eql 25 (.tmp 13) (.tmp 15) 25, _, _, _, none⟩) (v := .bool true) rfl (by kernel_rfl) (by kernel_rfl) (by kernel_rfl) (fun _ _ _ h => h) (yi_eql_same (by rfl) 25 25 (.tmp 13) (.tmp 15) rfl 5 32 (shaL l) Tryd.underlying25 Tryd.underlying5 cells5 guard25 rfl rfl (HDL.out)) HS1.out ?_
  simp only [Act.put, List.setIfInBounds_toArray, List.set_cons_zero, List.set_cons_succ]
  refine wpAnyH_take (i := 4) (oi := ⟨some 17, .move (.tmp 16), _, _, _, none⟩) (v := .bool true) rfl (by kernel_rfl) (by kernel_rfl) (by kernel_rfl) (fun _ _ _ h => h) (Or.inl ⟨by rfl, fun w' hS => by go_simp⟩) HS1.out ?_
  simp only [Act.put, List.setIfInBounds_toArray, List.set_cons_zero, List.set_cons_succ]
  refine wpAnyH_take (i := 5) (oi := ⟨some 18, .load 25 (.tmp 4), _, _, _, some (4, true)⟩) (v := .agg (bv (shaL l))) rfl (by kernel_rfl) (by kernel_rfl) (by kernel_rfl) (fun _ _ _ h => h) (yi_row' (by rfl) 25 (.tmp 4) rfl dB (bv (shaL l)) 32 5 Tryd.underlying25 HI25.out rfl (fun w' h => ⟨_, _, (h.block _ (Array.getElem?_eq_some_iff.1 HD3.out).1).trans HD3.out⟩)) HS1.out ?_
  simp only [Act.put, List.setIfInBounds_toArray, List.set_cons_zero, List.set_cons_succ]
  refine wpAnyH_take (i := 7) (oi := ⟨some 20, .load 25 (.tmp 4), _, _, _, some (4, true)⟩) (v := .agg (bv (shaL l))) rfl (by kernel_rfl) (by kernel_rfl) (by kernel_rfl) (fun _ _ _ h => h) (yi_row' (by rfl) 25 (.tmp 4) rfl dB (bv (shaL l)) 32 5 Tryd.underlying25 HI25.out rfl (fun w' h => ⟨_, _, (h.block _ (Array.getElem?_eq_some_iff.1 HD3.out).1).trans HD3.out⟩)) HS1.out ?_
  simp only [Act.put, List.setIfInBounds_toArray, List.set_cons_zero, List.set_cons_succ]
  refine wpAnyH_ready (rs := [6]) (by kernel_rfl) (by simp) (AllReadyH.cons (o := ⟨some 19, .call ⟨.value (.func 12), #[.tmp 18], _⟩, _, _, _, some (4, true)⟩) rfl (fun K hK => ?_) AllReadyH.nil)
  go_simp
  refine (text_any (shaL l) _ HDL.out HDT.out).mono ?_
  rintro e w2 ⟨rfl, hbel⟩
  have HS2 := Lib.hid (HS1.out.trans (hbel.mono HS1.out.size))
  clear hbel
  refine hK.out _ _ HS2.out (fun _ => ?_)
  clear hK K
  refine wpAnyH_ready (rs := [8]) (by kernel_rfl) (by simp) (AllReadyH.cons (o := ⟨some 21, .call ⟨.value (.func 13), #[.tmp 20], _⟩, _, _, _, some (4, true)⟩) rfl (fun K hK => ?_) AllReadyH.nil)
  go_simp
  refine (rtext_any (shaL l) _ HDL.out HDT.out).mono ?_
  rintro e w3 ⟨rfl, hbel⟩
  have HS3 := Lib.hid (HS2.out.trans (hbel.mono HS2.out.size))
  clear hbel
  refine hK.out _ _ HS3.out (fun _ => ?_)
  clear hK K
  refine wpAnyH_take (i := 9) (oi := ⟨some 22, .binOp .eql 9 (.tmp 19) (.tmp 21) 9, _, _, _, some (4, true)⟩) (v := .bool true) rfl (by kernel_rfl) (by kernel_rfl) (by kernel_rfl) (fun _ _ _ h => h) (Or.inl ⟨by rfl, fun w' hS => by go_simp⟩) HS3.out ?_
  simp only [Act.put, List.setIfInBounds_toArray, List.set_cons_zero, List.set_cons_succ]
  refine wpAnyH_take (i := 10) (oi := ⟨some 23, .pick (.tmp 17) (.tmp 22) (.const (.bool false)), _, _, _, none⟩) (v := .bool true) rfl (by kernel_rfl) (by kernel_rfl) (by kernel_rfl) (fun _ _ _ h => h) (Or.inl ⟨by rfl, fun w' hS => by go_simp⟩) HS3.out ?_
  simp only [Act.put, List.setIfInBounds_toArray, List.set_cons_zero, List.set_cons_succ]
  refine wpAnyH_take (i := 11) (oi := ⟨some 24, .move (.tmp 23), _, _, _, none⟩) (v := .bool true) rfl (by kernel_rfl) (by kernel_rfl) (by kernel_rfl) (fun _ _ _ h => h) (Or.inl ⟨by rfl, fun w' hS => by go_simp⟩) HS3.out ?_
  simp only [Act.put, List.setIfInBounds_toArray, List.set_cons_zero, List.set_cons_succ]
  refine wpAnyH_take (i := 12) (oi := ⟨some 25, .move (.tmp 3), _, _, _, some (11, true)⟩) (v := .slice p1 n c1) rfl (by kernel_rfl) (by kernel_rfl) (by kernel_rfl) (fun _ _ _ h => h) (Or.inl ⟨by rfl, fun w' hS => by go_simp⟩) HS3.out ?_
  simp only [Act.put, List.setIfInBounds_toArray, List.set_cons_zero, List.set_cons_succ]
  refine wpAnyH_take (i := 13) (oi := ⟨some 26, .convert 22 9 (.tmp 25), _, _, _, some (11, true)⟩) (v := .string (strN l)) rfl (by kernel_rfl) (by kernel_rfl) (by kernel_rfl) (fun _ _ _ h => h) (yi_conv (by rfl) (.tmp 25) rfl (.slice p1 n c1) l rfl (fun w' h => (HO3.out.kept h).src)) HS3.out ?_
  simp only [Act.put, List.setIfInBounds_toArray, List.set_cons_zero, List.set_cons_succ]
  refine wpAnyH_take (i := 14) (oi := ⟨some 27, .move (.tmp 0), _, _, _, some (11, true)⟩) (v := .slice p n c) rfl (by kernel_rfl) (by kernel_rfl) (by kernel_rfl) (fun _ _ _ h => h) (Or.inl ⟨by rfl, fun w' hS => by go_simp⟩) HS3.out ?_
  simp only [Act.put, List.setIfInBounds_toArray, List.set_cons_zero, List.set_cons_succ]
  refine wpAnyH_take (i := 15) (oi := ⟨some 28, .convert 22 9 (.tmp 27), _, _, _, some (11, true)⟩) (v := .string (strN l)) rfl (by kernel_rfl) (by kernel_rfl) (by kernel_rfl) (fun _ _ _ h => h) (yi_conv (by rfl) (.tmp 27) rfl (.slice p n c) l rfl (fun w' h => HV3.out.kept h)) HS3.out ?_
  simp only [Act.put, List.setIfInBounds_toArray, List.set_cons_zero, List.set_cons_succ]
  refine wpAnyH_take (i := 16) (oi := ⟨some 29, .binOp .eql 9 (.tmp 26) (.tmp 28) 9, _, _, _, some (11, true)⟩) (v := .bool true) rfl (by kernel_rfl) (by kernel_rfl) (by kernel_rfl) (fun _ _ _ h => h) (Or.inl ⟨by rfl, fun w' hS => by go_simp⟩) HS3.out ?_
  simp only [Act.put, List.setIfInBounds_toArray, List.set_cons_zero, List.set_cons_succ]
  refine wpAnyH_take (i := 17) (oi := ⟨some 30, .pick (.tmp 24) (.tmp 29) (.const (.bool false)), _, _, _, none⟩) (v := .bool true) rfl (by kernel_rfl) (by kernel_rfl) (by kernel_rfl) (fun _ _ _ h => h) (Or.inl ⟨by rfl, fun w' hS => by go_simp⟩) HS3.out ?_
  simp only [Act.put, List.setIfInBounds_toArray, List.set_cons_zero, List.set_cons_succ]
  refine wpAnyH_take (i := 18) (oi := ⟨some 31, .move (.tmp 30), _, _, _, none⟩) (v := .bool true) rfl (by kernel_rfl) (by kernel_rfl) (by kernel_rfl) (fun _ _ _ h => h) (Or.inl ⟨by rfl, fun w' hS => by go_simp⟩) HS3.out ?_
  simp only [Act.put, List.setIfInBounds_toArray, List.set_cons_zero, List.set_cons_succ]
  refine wpAnyH_ready (rs := [19]) (by kernel_rfl) (by simp) (AllReadyH.cons (o := ⟨some 32, .call ⟨.value (.func 9), #[], _⟩, _, _, _, some (18, true)⟩) rfl (fun K hK => ?_) AllReadyH.nil)
  go_simp
  refine (wakes_any _ (HG3.out.below HG3.out.size HS3.out)).mono ?_
  rintro e w4 ⟨rfl, hbel⟩
  have HS4 := Lib.hid (HS3.out.trans (hbel.mono HS3.out.size))
  clear hbel
  refine hK.out _ _ HS4.out (fun _ => ?_)
  clear hK K
  refine wpAnyH_take (i := 20) (oi := ⟨some 33, .pick (.tmp 31) (.tmp 32) (.const (.bool false)), _, _, _, none⟩) (v := .bool true) rfl (by kernel_rfl) (by kernel_rfl) (by kernel_rfl) (fun _ _ _ h => h) (Or.inl ⟨by rfl, fun w' hS => by go_simp⟩) HS4.out ?_
  simp only [Act.put, List.setIfInBounds_toArray, List.set_cons_zero, List.set_cons_succ]
  refine wpAnyH_take (i := 21) (oi := ⟨some 2, .assign (.tmp 33), _, _, _, none⟩) (v := .bool true) rfl (by kernel_rfl) (by kernel_rfl) (by kernel_rfl) (fun _ _ _ h => h) (Or.inl ⟨by rfl, fun w' hS => by go_simp⟩) HS4.out ?_
  simp only [Act.put, List.setIfInBounds_toArray, List.set_cons_zero, List.set_cons_succ]
  refine wpAnyH_done (by kernel_rfl) ?_ _
  go_wp2_with fail
  go_ret
  exact ⟨rfl, HB3.out.trans (HS4.out.mono HB3.out.size)⟩
end Go.Proofs.YthaaccbbegmhbaaDoor
