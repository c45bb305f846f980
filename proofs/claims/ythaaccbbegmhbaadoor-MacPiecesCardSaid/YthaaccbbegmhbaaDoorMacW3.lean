/- Contracts of mac.xoredBy and mac.New, over the translated program. -/
import Derived.Test.YthaaccbbegmhbaaDoorMacW2
import Derived.Great.FillDense
namespace Go.Proofs.YthaaccbbegmhbaaDoor
open Go.RowKit Go.Sha

@[local go_sem high, local simp high] theorem zblk3 (w : World) : (zeroValue 50).run Tryd.prog w = .ok (.agg (bv (zl 64))) w := by kernel_rfl
theorem fill_two (place : Nat → Option (Nat × Nat)) (z a b : Array Value) (n m : Nat) (p0 : place 0 = some (0, n)) (p1 : place 1 = some (n, m)) (ha : a.size = n) (hb : b.size = m) (hz : z.size = n + m) :
    Instr.fill place z [(0, .agg a), (1, .agg b)] = some (a ++ b) := by
  obtain ⟨g1, g2⟩ := Great.foldl_set 0 a.toList 0 z
  have e0 : a.zipIdx.foldl (fun cs (x : Value × Nat) => cs.setIfInBounds (0 + x.2) x.1) z = (a.toList.zipIdx 0).foldl (fun cs (x : Value × Nat) => cs.setIfInBounds (0 + x.2) x.1) z := by
    rw [← Array.foldl_toList, Array.toList_zipIdx]
  generalize hz1 : (a.toList.zipIdx 0).foldl (fun cs (x : Value × Nat) => cs.setIfInBounds (0 + x.2) x.1) z = z1 at *
  obtain ⟨k1, k2⟩ := Great.foldl_set n b.toList 0 z1
  have e1 : b.zipIdx.foldl (fun cs (x : Value × Nat) => cs.setIfInBounds (n + x.2) x.1) z1 = (b.toList.zipIdx 0).foldl (fun cs (x : Value × Nat) => cs.setIfInBounds (n + x.2) x.1) z1 := by
    rw [← Array.foldl_toList, Array.toList_zipIdx]
  unfold Instr.fill
  rw [p0]
  dsimp only
  rw [if_neg (by simp [Value.cells, ha, hz])]
  change Instr.fill place (a.zipIdx.foldl (fun cs (x : Value × Nat) => cs.setIfInBounds (0 + x.2) x.1) z) _ = _
  rw [e0]
  unfold Instr.fill
  rw [p1]
  dsimp only
  rw [if_neg (by simp [Value.cells, hb, g1, hz])]
  change Instr.fill place (b.zipIdx.foldl (fun cs (x : Value × Nat) => cs.setIfInBounds (n + x.2) x.1) z1) _ = _
  rw [e1]
  unfold Instr.fill
  congr 1
  apply Array.ext_getElem?
  intro k
  rw [k2 k, g2 k, Array.getElem?_append]
  simp only [Array.length_toList, Nat.add_zero, Nat.zero_add]
  by_cases h1 : k < a.size
  · rw [if_neg (by omega), if_pos (by omega), if_pos h1]; simp
  · rw [if_neg h1]
    by_cases h2 : k < n + m
    · rw [if_pos (by omega), ha]; simp
    · rw [if_neg (by omega), if_neg (by omega), Array.getElem?_eq_none (by omega), Array.getElem?_eq_none (by omega)]
/-- the cells of a pen -/
def pv (h : Nat) (o : List Nat) : Array Value := #[Value.pointer (some ⟨h, 0, none⟩)] ++ bv o
theorem pv_size (h : Nat) {o : List Nat} (ho : o.length = 64) : (pv h o).size = 65 := by simp [pv, bv_size, ho]
theorem pv_zero (h : Nat) (o : List Nat) : (pv h o)[0]? = some (.pointer (some ⟨h, 0, none⟩)) := by simp [pv, Array.getElem?_append]
theorem pv_bytesAt (h : Nat) (o : List Nat) : ∀ j v, (bv o)[j]? = some v → (pv h o)[1 + j]? = some v := by
  intro j v hv
  rw [pv, Array.getElem?_append, if_neg (by simp)]
  simpa using hv
theorem penZero : (Tryd.prog.info? 52).map (fun i => i.zero.map (·.cells.size)) = some (some 65) := by kernel_rfl
theorem penPlaces : (match Tryd.prog.underlying 52 with | some (.struct fs) => fs.toList.mapM (fun f => (Tryd.prog.info? f.type).map fun i => (f.offset, i.size)) | _ => none) = some [(0, 1), (1, 64)] := by kernel_rfl
theorem infoPen : (Tryd.prog.info? 52).map (·.size) = some 65 := by kernel_rfl
theorem built_pen (h : Nat) {o : List Nat} (ho : o.length = 64) : Tryd.prog.built 52 [(0, .agg #[.pointer (some ⟨h, 0, none⟩)]), (1, .agg (bv o))] = some (pv h o) := by
  unfold Program.built
  have hz := penZero
  cases hi : Tryd.prog.info? 52 with
  | none => rw [hi] at hz; cases hz
  | some it =>
    rw [hi] at hz
    cases hz0 : it.zero with
    | none => simp [hz0] at hz
    | some z =>
      simp [hz0] at hz
      have hp := penPlaces
      rw [Tryd.underlying52] at hp ⊢
      simp only at hp ⊢
      rw [hp, hz0]
      simp only
      exact fill_two _ z.cells _ _ 1 64 rfl rfl rfl (by rw [bv_size, ho]) hz
attribute [irreducible] pv

set_option maxRecDepth 100000 in
theorem xoredBy_any (x : Nat) (w : World) :
    Calls Tryd.prog 28 #[.int .u8 (x : Int)] w fun e w' => e = .returned (.func (.func 36) #[] #[.pointer (some ⟨w.heap.size, 0, none⟩)]) ∧ w' = w.alloc (.cells #[.int .u8 (x : Int)] 5) := by
  go_enter Tryd.func28, Tryd.ntmps28
  go_wp2
  go_ret
  exact ⟨rfl, rfl⟩
theorem yi_build {P : Program} {ops : Array Oper} {S : World → Prop} {o : Oper} {a : Act} (hw : Region.wanted o (yielded ops a.tmps) = true) (ty : TypeId) (parts : Array (Nat × Operand)) (ho : o.op = .build ty parts) (cells : Array Value)
    (hb : P.built ty (parts.map fun (i, x) => (i, a.eval x)).toList = some cells) : YieldsIf P ops S o (.agg cells) a :=
  .inl ⟨hw, fun w _ => by
    unfold execOp
    simp only [ho, Sem.run_bind, run_build w ty _ cells hb, Result.andThen_ok, Sem.run_pure]⟩
/-- a pen in memory: g is its block, h its hash's -/
def PenAt (w : World) (g h : Nat) (o : List Nat) (s : HS) : Prop := w.heap[g]? = some (.cells (pv h o) 52 (0, 0)) ∧ w.heap[h]? = some (.cells s.cells 60 (0, 0)) ∧ g ≠ h

set_option maxRecDepth 100000 in
set_option maxHeartbeats 1600000 in
theorem macNew_any (key : List Nat) (v : Value) (w : World) (hl : Lt 256 key) (hc : key.length + 72 < 1152921504606846976) (hG : Gl w) (hb : Byt w w.heap.size v key) :
    Calls Tryd.prog 20 #[v] w fun e w' => ∃ g h, e = .returned (.pointer (some ⟨g, 0, none⟩)) ∧ w.heap.size ≤ g ∧ w.heap.size ≤ h ∧ PenAt w' g h (out key) (putL hs0 (inn key)) ∧ Below w.heap.size w w' := by
  have HL := Lib.hid hl; clear hl
  have HC := Lib.hid hc; clear hc
  have HG := Lib.hid hG; clear hG
  have HV := Lib.hid hb; clear hb
  have hsz := HG.out.size
  go_enter Tryd.func20, Tryd.ntmps20
  go_wp2_with (first
    | (go_at_call 28; first
       | (refine (xoredBy_any 54 _).mono ?_; rintro e w' ⟨rfl, rfl⟩)
       | (refine (xoredBy_any 92 _).mono ?_; rintro e w' ⟨rfl, rfl⟩)))
  have HB0 := Lib.hid (show Below w.heap.size w ((w.alloc (.cells #[.int .u8 (54 : Nat)] 5)).alloc (.cells #[.int .u8 (92 : Nat)] 5)) from ((Below.refl _ _).alloc (Nat.le_refl _) _).alloc (by simp) _)
  have HI0 := Lib.hid (show ((w.alloc (.cells #[.int .u8 (54 : Nat)] 5)).alloc (.cells #[.int .u8 (92 : Nat)] 5)).heap[w.heap.size]? = some (.cells #[.int .u8 (54 : Nat)] 5 (0, 0)) from (heap_prev _ _ _ (by simp)).trans (heap_last _ _ _ rfl))
  have HO0 := Lib.hid (show ((w.alloc (.cells #[.int .u8 (54 : Nat)] 5)).alloc (.cells #[.int .u8 (92 : Nat)] 5)).heap[w.heap.size + 1]? = some (.cells #[.int .u8 (92 : Nat)] 5 (0, 0)) from heap_last _ _ _ (by simp))
  refine (blockOf_any key v _ HL.out HC.out (HG.out.below hsz (by exact HB0.out)) (by exact HV.out.grown HB0.out (fun b h => by simp; omega))).mono ?_
  rintro e w1 ⟨rfl, hb1⟩
  have hs1 : w.heap.size + 2 ≤ w1.heap.size := by have := hb1.size; simpa using this
  have HB1 := Lib.hid (show Below w.heap.size w w1 from HB0.out.trans (hb1.mono (by simp; omega)))
  have HI1 := Lib.hid ((hb1.block _ (by simp; omega)).trans HI0.out)
  have HO1 := Lib.hid ((hb1.block _ (by simp)).trans HO0.out)
  clear hb1 HI0 HO0 HB0
  go_wp2_with (first
    | ((with_reducible refine wl_storeL (ty := 50) w1.heap.size (bv (blk key)) ?_ ?_ ?_ ?_ ?_ ?_ ?_); (· rfl); (· rfl); (· rfl); (· rw [bv_size, blk_len]; exact infoBlk); (· rw [bv_size, bv_size, blk_len, zl_len]); (· exact bv_one _)))
  have HW3 := Lib.hid (show Below w.heap.size w (w1.alloc (.cells (bv (blk key)) 50)).drew from (HB1.out.alloc HB1.out.size _).drew)
  have HI3 := Lib.hid (show ((w1.alloc (.cells (bv (blk key)) 50)).drew).heap[w.heap.size]? = some (.cells #[.int .u8 (54 : Nat)] 5 (0, 0)) from (heap_prev _ _ _ (by omega)).trans HI1.out)
  have HO3 := Lib.hid (show ((w1.alloc (.cells (bv (blk key)) 50)).drew).heap[w.heap.size + 1]? = some (.cells #[.int .u8 (92 : Nat)] 5 (0, 0)) from (heap_prev _ _ _ (by omega)).trans HO1.out)
  have HK3 := Lib.hid (show ((w1.alloc (.cells (bv (blk key)) 50)).drew).heap[w1.heap.size]? = some (.cells (bv (blk key)) 50 (0, 0)) from heap_last _ _ _ rfl)
  have HIB := Lib.hid (show (Tryd.prog.info? 50).map (·.size) = some (bv (blk key)).size by rw [bv_size, blk_len]; exact infoBlk)
  have hs3 : w.heap.size + 2 ≤ ((w1.alloc (.cells (bv (blk key)) 50)).drew).heap.size := by have := HW3.out.size; show w.heap.size + 2 ≤ (w1.alloc _).heap.size; simp; omega
  refine wp_region_held (S := fun w' => Below ((w1.alloc (.cells (bv (blk key)) 50)).drew).heap.size ((w1.alloc (.cells (bv (blk key)) 50)).drew) w') (by kernel_rfl) ?_
  change wpAnyH _ _ _ _ _ _ _ _ (World.drew _)
  have HS0 := Lib.hid (Below.refl ((w1.alloc (.cells (bv (blk key)) 50)).drew).heap.size ((w1.alloc (.cells (bv (blk key)) 50)).drew))
  generalize (w1.alloc (.cells (bv (blk key)) 50)).drew = z3 at *
  have HG3 := Lib.hid (HG.out.below hsz HW3.out)
  have HIN := Lib.hid (show xr 54 (blk key) = inn key from by unfold inn; rfl)
  have HOU := Lib.hid (show xr 92 (blk key) = out key from by unfold out; rfl)
  refine wpAnyH_take (i := 0) (oi := ⟨some 10, .move (.tmp 3), _, _, _, none⟩) (v := .func (.func 36) #[] #[.pointer (some ⟨w.heap.size, 0, none⟩)]) rfl (by kernel_rfl) (by kernel_rfl) (by kernel_rfl) (fun _ _ _ h => h) (Or.inl ⟨by rfl, fun w' hS => by go_simp⟩) HS0.out ?_
  simp only [Act.put, List.setIfInBounds_toArray, List.set_cons_zero, List.set_cons_succ]
  refine wpAnyH_take (i := 1) (oi := ⟨some 11, .load 50 (.tmp 5), _, _, _, none⟩) (v := .agg (bv (blk key))) rfl (by kernel_rfl) (by kernel_rfl) (by kernel_rfl) (fun _ _ _ h => h) (yi_row' (by rfl) 50 (.tmp 5) rfl w1.heap.size (bv (blk key)) 64 5 Tryd.underlying50 HIB.out rfl (fun w' h => ⟨_, _, (h.block _ (Array.getElem?_eq_some_iff.1 HK3.out).1).trans HK3.out⟩)) HS0.out ?_
  simp only [Act.put, List.setIfInBounds_toArray, List.set_cons_zero, List.set_cons_succ]
  refine wpAnyH_take (i := 4) (oi := ⟨some 14, .move (.tmp 4), _, _, _, none⟩) (v := .func (.func 36) #[] #[.pointer (some ⟨w.heap.size + 1, 0, none⟩)]) rfl (by kernel_rfl) (by kernel_rfl) (by kernel_rfl) (fun _ _ _ h => h) (Or.inl ⟨by rfl, fun w' hS => by go_simp⟩) HS0.out ?_
  simp only [Act.put, List.setIfInBounds_toArray, List.set_cons_zero, List.set_cons_succ]
  refine wpAnyH_take (i := 5) (oi := ⟨some 15, .load 50 (.tmp 5), _, _, _, none⟩) (v := .agg (bv (blk key))) rfl (by kernel_rfl) (by kernel_rfl) (by kernel_rfl) (fun _ _ _ h => h) (yi_row' (by rfl) 50 (.tmp 5) rfl w1.heap.size (bv (blk key)) 64 5 Tryd.underlying50 HIB.out rfl (fun w' h => ⟨_, _, (h.block _ (Array.getElem?_eq_some_iff.1 HK3.out).1).trans HK3.out⟩)) HS0.out ?_
  simp only [Act.put, List.setIfInBounds_toArray, List.set_cons_zero, List.set_cons_succ]
  refine wpAnyH_ready (rs := [2]) (by kernel_rfl) (by simp) (AllReadyH.cons (o := ⟨some 12, .call ⟨.value (.tmp 10), #[.tmp 11], _⟩, _, _, _, none⟩) rfl (fun K hK => ?_) AllReadyH.nil)
  go_simp
  refine (xor_any 54 w.heap.size 5 (0, 0) (blk key) _ (by decide) (blk_len key) (blk_lt HL.out) ((HS0.out.block _ (by omega)).trans HI3.out)).mono ?_
  rintro e w1 ⟨rfl, hbel⟩
  have HS1 := Lib.hid (HS0.out.trans (hbel.mono HS0.out.size))
  clear hbel
  refine hK.out _ _ HS1.out (fun _ => ?_)
  clear hK K
  rw [HIN.out]
  refine wpAnyH_ready (rs := [3]) (by kernel_rfl) (by simp) (AllReadyH.cons (o := ⟨some 13, .call ⟨.value (.func 27), #[.tmp 12], _⟩, _, _, _, none⟩) rfl (fun K hK => ?_) AllReadyH.nil)
  go_simp
  refine (begin_any (inn key) _ (inn_len key) (inn_lt HL.out) (HG3.out.below HG3.out.size HS1.out)).mono ?_
  rintro e w2 ⟨h, rfl, hh1, hh2, hbel⟩
  have HS2 := Lib.hid (HS1.out.trans (hbel.mono HS1.out.size))
  have HX := Lib.hid hh2
  have hxl : z3.heap.size ≤ h := by have := HS1.out.size; omega
  clear hh1 hh2
  clear hbel
  refine hK.out _ _ HS2.out (fun _ => ?_)
  clear hK K
  refine wpAnyH_ready (rs := [6]) (by kernel_rfl) (by simp) (AllReadyH.cons (o := ⟨some 16, .call ⟨.value (.tmp 14), #[.tmp 15], _⟩, _, _, _, none⟩) rfl (fun K hK => ?_) AllReadyH.nil)
  go_simp
  refine (xor_any 92 (w.heap.size + 1) 5 (0, 0) (blk key) _ (by decide) (blk_len key) (blk_lt HL.out) ((HS2.out.block _ (by omega)).trans HO3.out)).mono ?_
  rintro e w3 ⟨rfl, hbel⟩
  have HS3 := Lib.hid (HS2.out.trans (hbel.mono HS2.out.size))
  have HX := Lib.hid ((hbel.block _ (Array.getElem?_eq_some_iff.1 HX.out).1).trans HX.out)
  clear hbel
  refine hK.out _ _ HS3.out (fun _ => ?_)
  clear hK K
  rw [HOU.out]
  refine wpAnyH_take (i := 7) (oi := ⟨some 17, .build 52 #[(0, .tmp 13), (1, .tmp 16)], _, _, _, none⟩) (v := .agg (pv h (out key))) rfl (by kernel_rfl) (by kernel_rfl) (by kernel_rfl) (fun _ _ _ h => h) (yi_build (by rfl) 52 #[(0, .tmp 13), (1, .tmp 16)] rfl (pv h (out key)) (by simp only [List.map_toArray, List.map_cons, List.map_nil]; exact built_pen h (out_len key))) HS3.out ?_
  simp only [Act.put, List.setIfInBounds_toArray, List.set_cons_zero, List.set_cons_succ]
  refine wpAnyH_ready (rs := [8]) (by kernel_rfl) (by simp) (AllReadyH.cons (o := ⟨some 18, .box 52 (.tmp 17), _, _, _, none⟩) rfl (fun K hK => ?_) AllReadyH.nil)
  go_simp
  refine hK.out _ _ (HS3.out.alloc HS3.out.size _) (fun _ => ?_)
  clear hK K
  have HS4 := Lib.hid (HS3.out.alloc HS3.out.size (.cells (pv h (out key)) 52))
  refine wpAnyH_take (i := 9) (oi := ⟨some 2, .assign (.tmp 18), _, _, _, none⟩) (v := .pointer (some ⟨w3.heap.size, 0, none⟩)) rfl (by kernel_rfl) (by kernel_rfl) (by kernel_rfl) (fun _ _ _ h => h) (Or.inl ⟨by rfl, fun w' hS => by go_simp⟩) HS4.out ?_
  simp only [Act.put, List.setIfInBounds_toArray, List.set_cons_zero, List.set_cons_succ]
  refine wpAnyH_done (by kernel_rfl) ?_ _
  go_wp2_with fail
  go_ret
  have hs4 := HS3.out.size
  exact ⟨w3.heap.size, h, rfl, by omega, by omega, ⟨heap_last _ _ _ rfl, (heap_prev _ _ _ (Array.getElem?_eq_some_iff.1 HX.out).1).trans HX.out, Nat.ne_of_gt (Array.getElem?_eq_some_iff.1 HX.out).1⟩, HW3.out.trans (HS4.out.mono (by omega))⟩
end Go.Proofs.YthaaccbbegmhbaaDoor
