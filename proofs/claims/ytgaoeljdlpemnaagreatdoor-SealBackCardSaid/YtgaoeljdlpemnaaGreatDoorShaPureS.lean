/- More plain facts of the document's own way to a digest: the bytes filled step by step, the words made byte by byte, the sum of words. -/
import Derived.Test.YtgaoeljdlpemnaaGreatDoorMacW3
import Derived.Test.YtgaoeljdlpemnaaGreatDoorShaW6
/- Contracts of (*mac.Pen).Write, (*mac.Pen).Sum and mac.Of, over the translated program. -/
namespace Go.Proofs.YtgaoeljdlpemnaaGreatDoor.Hs
open Go.RowKit Go.Sha

@[local go_sem high, local simp high] theorem zdig4 (w : World) : (zeroValue 62).run Tryz.prog w = .ok (.agg (bv (zl 32))) w := by kernel_rfl
theorem PenAt.grown {w w' : World} {g h : Nat} {o : List Nat} {s : HS} (hp : PenAt w g h o s) (hb : Below w.heap.size w w') : PenAt w' g h o s :=
  ⟨(hb.block _ (Array.getElem?_eq_some_iff.1 hp.1).1).trans hp.1, (hb.block _ (Array.getElem?_eq_some_iff.1 hp.2.1).1).trans hp.2.1, hp.2.2⟩

set_option maxRecDepth 100000 in
set_option maxHeartbeats 800000 in
theorem penWrite_nil (v : Value) (w : World) : Calls Tryz.prog 21 #[.pointer none, v] w fun e w' => e = .returned (.tuple #[]) ∧ w = w' := by
  go_enter Tryz.func21, Tryz.ntmps21
  go_wp2
  exact bodyPost_ret (results_none rfl _ _ _) rfl ⟨rfl, rfl⟩

set_option maxRecDepth 100000 in
set_option maxHeartbeats 800000 in
theorem penSum_nil (w : World) : Calls Tryz.prog 22 #[.pointer none] w fun e w' => e = .returned (.agg (bv (zl 32))) ∧ Below w.heap.size w w' := by
  go_enter Tryz.func22, Tryz.ntmps22
  go_wp2_with (first
    | ((with_reducible refine wl_build (dst := 7) (bv (zl 32)) ?_ ?_); (· kernel_rfl))
    | ((with_reducible refine wl_storeL (ty := 62) w.heap.size (bv (zl 32)) ?_ ?_ ?_ ?_ ?_ ?_ ?_); (· rfl); (· rfl); (· rfl); (· rw [bv_size, zl_len]; exact info25); (· rfl); (· exact bv_one _)))
  refine ret_row Tryz.results22 w.heap.size 62 (bv (zl 32)) (0, 0) 32 5 Tryz.underlying62 rfl ?_ ?_ rfl ⟨rfl, ?_⟩
  · exact heap_last _ _ _ rfl
  · rw [bv_size, zl_len]; exact info25
  · exact (Below.refl _ _).alloc (Nat.le_refl _) _

set_option maxRecDepth 100000 in
set_option maxHeartbeats 800000 in
theorem penWrite_any (g h : Nat) (o : List Nat) (s : HS) (l : List Nat) (v : Value) (w : World) (hp : PenAt w g h o s) (ho : s.Ok) (hl : Lt 256 l) (hc : s.c + l.length < 1152921504606846976) (hG : Gl w) (hg2 : 2 ≤ h) (hb : Byt w h v l) :
    Calls Tryz.prog 21 #[.pointer (some ⟨g, 0, none⟩), v] w fun e w' => e = .returned (.tuple #[]) ∧ PenAt w' g h o (putL s l) ∧ w.grownBy w' (some h) := by
  have HO := Lib.hid ho; clear ho
  have HL := Lib.hid hl; clear hl
  have HC := Lib.hid hc; clear hc
  have HG := Lib.hid hG; clear hG
  have HP := Lib.hid hp; clear hp
  have HV := Lib.hid hb; clear hb
  have c0 : w.cell? ⟨g, 0, none⟩ = some (.pointer (some ⟨h, 0, none⟩)) := (cell_of_row _ _ 0 _ _ _ HP.out.1).trans (pv_zero h o)
  go_enter Tryz.func21, Tryz.ntmps21
  go_wp2_with fail
  refine (write_any h s l v w HO.out HL.out HC.out HG.out hg2 HP.out.2.1 HV.out).mono ?_
  rintro e w1 ⟨rfl, hh, hgr⟩
  have HQ := Lib.hid (show PenAt w1 g h o (putL s l) from ⟨(hgr.block _ (Array.getElem?_eq_some_iff.1 HP.out.1).1 (fun e => HP.out.2.2 (Option.some.inj e))).trans HP.out.1, hh, HP.out.2.2⟩)
  have HGR := Lib.hid hgr
  clear hh hgr
  go_wp2_with fail
  go_end0
  exact ⟨rfl, HQ.out, HGR.out⟩

set_option maxRecDepth 100000 in
set_option maxHeartbeats 1600000 in
theorem penSum_any (g h : Nat) (o : List Nat) (s : HS) (w : World) (hp : PenAt w g h o s) (ho : s.Ok) (hc : s.c + 72 < 1152921504606846976) (h64 : o.length = 64) (ho1 : Lt 256 o) (hG : Gl w) :
    Calls Tryz.prog 22 #[.pointer (some ⟨g, 0, none⟩)] w fun e w' => e = .returned (.agg (bv (penL o s))) ∧ Below w.heap.size w w' := by
  have HO := Lib.hid ho; clear ho
  have HC := Lib.hid hc; clear hc
  have HG := Lib.hid hG; clear hG
  have HP := Lib.hid hp; clear hp
  have H64 := Lib.hid h64; clear h64
  have HO1 := Lib.hid ho1; clear ho1
  have hsz := HG.out.size
  have hgs : g < w.heap.size := (Array.getElem?_eq_some_iff.1 HP.out.1).1
  have c0 : w.cell? ⟨g, 0, none⟩ = some (.pointer (some ⟨h, 0, none⟩)) := (cell_of_row _ _ 0 _ _ _ HP.out.1).trans (pv_zero h o)
  have c00 : (w.alloc (.cells (bv (zl 32)) 62)).cell? ⟨g, 0, none⟩ = some (.pointer (some ⟨h, 0, none⟩)) := (World.cell?_alloc_lt _ _ _ hgs).trans c0
  have HB0 := Lib.hid (show Below w.heap.size w (w.alloc (.cells (bv (zl 32)) 62)) from (Below.refl _ _).alloc (Nat.le_refl _) _)
  go_enter Tryz.func22, Tryz.ntmps22
  go_wp2_with fail
  refine (sum_any h s _ HO.out HC.out (HG.out.below hsz HB0.out) ((HB0.out.block _ (Array.getElem?_eq_some_iff.1 HP.out.2.1).1).trans HP.out.2.1)).mono ?_
  rintro e w1 ⟨rfl, hb1⟩
  have hs1 : w.heap.size + 1 ≤ w1.heap.size := by have := hb1.size; simpa using this
  have HB1 := Lib.hid (HB0.out.trans (hb1.mono (by simp)))
  have HQ1 := Lib.hid (show w1.heap[w.heap.size]? = some (.cells (bv (zl 32)) 62 (0, 0)) from (hb1.block _ (by simp)).trans (heap_last _ _ _ rfl))
  have HP1 := Lib.hid ((HB1.out.block _ hgs).trans HP.out.1)
  clear hb1
  have HD := Lib.hid (show (sumL s).length = 32 from by unfold sumL; exact dig_len _)
  have HD1 := Lib.hid (show Lt 256 (sumL s) from by unfold sumL; exact dig_lt _)
  go_wp2_with (first
    | ((with_reducible refine wl_storeL (ty := 62) w1.heap.size (bv (sumL s)) ?_ ?_ ?_ ?_ ?_ ?_ ?_); (· rfl); (· rfl); (· rfl); (· rw [bv_size, HD.out]; exact info25); (· rw [bv_size, bv_size, HD.out, zl_len]); (· exact bv_one _))
    | ((with_reducible refine wl_loadP (dst := 17) g 1 102 (bv o) (pv h o) (0, 0) 64 5 Tryz.underlying95 ?_ ?_ ?_ ?_ ?_); (· rfl); (· exact (heap_prev _ _ _ (by omega)).trans HP1.out); (· exact pv_bytesAt _ _); (· rw [bv_size, H64.out]; exact infoBlk)))
  have HB2 := Lib.hid (show Below w.heap.size w (w1.alloc (.cells (bv (sumL s)) 62)) from HB1.out.alloc (by omega) _)
  refine (begin_any o _ H64.out HO1.out (HG.out.below hsz (by exact HB2.out))).mono ?_
  rintro e w2 ⟨h2, rfl, hh1, hh2, hb2⟩
  have hs2 : w1.heap.size + 1 ≤ w2.heap.size := by have := hb2.size; simpa using this
  have hl2 : w1.heap.size + 1 ≤ h2 := by simpa using hh1
  have HB3 := Lib.hid (HB2.out.trans (hb2.mono (by simp; omega)))
  have HQ2 := Lib.hid (show w2.heap[w.heap.size]? = some (.cells (bv (zl 32)) 62 (0, 0)) from (hb2.block _ (by simp; omega)).trans ((heap_prev _ _ _ (by omega)).trans HQ1.out))
  have HN2 := Lib.hid (show w2.heap[w1.heap.size]? = some (.cells (bv (sumL s)) 62 (0, 0)) from (hb2.block _ (by simp)).trans (heap_last _ _ _ rfl))
  have HX2 := Lib.hid hh2
  have hx2 : h2 < w2.heap.size := (Array.getElem?_eq_some_iff.1 hh2).1
  clear hh1 hh2 hb2
  go_wp2_with fail
  have HB4 := Lib.hid (show Below w.heap.size w (w2.alloc (.cells #[.pointer (some ⟨h2, 0, none⟩)] 99)).drew from (HB3.out.alloc (by omega) _).drew)
  have HQ4 := Lib.hid (show ((w2.alloc (.cells #[.pointer (some ⟨h2, 0, none⟩)] 99)).drew).heap[w.heap.size]? = some (.cells (bv (zl 32)) 62 (0, 0)) from (heap_prev _ _ _ (by omega)).trans HQ2.out)
  have HN4 := Lib.hid (show ((w2.alloc (.cells #[.pointer (some ⟨h2, 0, none⟩)] 99)).drew).heap[w1.heap.size]? = some (.cells (bv (sumL s)) 62 (0, 0)) from (heap_prev _ _ _ (by omega)).trans HN2.out)
  have HX4 := Lib.hid (show ((w2.alloc (.cells #[.pointer (some ⟨h2, 0, none⟩)] 99)).drew).heap[h2]? = some (.cells (putL hs0 o).cells 123 (0, 0)) from (heap_prev _ _ _ (by omega)).trans HX2.out)
  have HS0 := Lib.hid (show ((w2.alloc (.cells #[.pointer (some ⟨h2, 0, none⟩)] 99)).drew).heap[w2.heap.size]? = some (.cells #[.pointer (some ⟨h2, 0, none⟩)] 99 (0, 0)) from heap_last _ _ _ rfl)
  refine wp_region_held (S := fun w' => w'.heap[w2.heap.size]? = some (.cells #[.pointer (some ⟨h2, 0, none⟩)] 99 (0, 0))) (by kernel_rfl) ?_
  change wpAnyH _ _ _ _ _ _ _ _ (World.drew _)
  generalize (w2.alloc (.cells #[.pointer (some ⟨h2, 0, none⟩)] 99)).drew = w4 at *
  refine wpAnyH_take (i := 0) (oi := ⟨some 19, .fieldAddr 99 (.tmp 4) 0, _, _, _, none⟩) (v := .pointer (some ⟨w2.heap.size, 0, none⟩)) rfl (by kernel_rfl) (by kernel_rfl) (by kernel_rfl) (fun _ _ _ h => h) (Or.inl ⟨by rfl, fun w' hS => by go_simp⟩) HS0.out ?_
  simp only [Act.put, List.setIfInBounds_toArray, List.set_cons_zero, List.set_cons_succ]
  refine wpAnyH_take (i := 1) (oi := ⟨some 20, .load 97 (.tmp 19), _, _, _, none⟩) (v := .pointer (some ⟨h2, 0, none⟩)) rfl (by kernel_rfl) (by kernel_rfl) (by kernel_rfl) (fun _ _ _ h => h) (Or.inl ⟨by rfl, fun w' hS => by have hc := cell_of_row w' _ 0 _ _ _ hS; go_simp⟩) HS0.out ?_
  simp only [Act.put, List.setIfInBounds_toArray, List.set_cons_zero, List.set_cons_succ]
  refine wpAnyH_take (i := 2) (oi := ⟨some 21, .slice 62 (.tmp 3) none none none, _, _, _, none⟩) (v := .slice (some ⟨w1.heap.size, 0, none⟩) 32 32) rfl (by kernel_rfl) (by kernel_rfl) (by kernel_rfl) (fun _ _ _ h => h) (Or.inl ⟨by rfl, fun w' hS => by go_simp⟩) HS0.out ?_
  simp only [Act.put, List.setIfInBounds_toArray, List.set_cons_zero, List.set_cons_succ]
  refine wpAnyH_ready (rs := [3]) (by kernel_rfl) (by simp) (AllReadyH.cons (o := ⟨some 22, .call ⟨.value (.func 36), #[.tmp 20, .tmp 21], _⟩, _, _, _, none⟩) rfl (fun K hK => ?_) AllReadyH.nil)
  go_simp
  refine (write_any h2 (putL hs0 o) (sumL s) _ w4 (putL_ok hs0_ok HO1.out) HD1.out (by rw [HD.out, putL_c, H64.out]; decide) (HG.out.below hsz HB4.out) (by omega) HX4.out (by
    have := byt_row (w := w4) (g := h2) (cap := 32) HN4.out (by omega) (by rw [HD.out]; exact Nat.le_refl _)
    rw [HD.out] at this; exact this)).mono ?_
  rintro e w5 ⟨rfl, hh5, hgr5⟩
  have HS5 := Lib.hid ((hgr5.block _ (Array.getElem?_eq_some_iff.1 HS0.out).1 (by simp; omega)).trans HS0.out)
  have HQ5 := Lib.hid ((hgr5.block _ (Array.getElem?_eq_some_iff.1 HQ4.out).1 (by simp; omega)).trans HQ4.out)
  have HB5 := Lib.hid (show Below w.heap.size w w5 from HB4.out.trans ⟨hgr5.os, hgr5.tape, hgr5.output, hgr5.size, fun k hk => hgr5.block k (by have := HB4.out.size; omega) (by simp; omega)⟩)
  have HX5 := Lib.hid hh5
  clear hh5 hgr5
  refine hK.out _ _ HS5.out (fun _ => ?_)
  clear hK K
  refine wpAnyH_done (by kernel_rfl) ?_ _
  have c5 : w5.cell? ⟨w2.heap.size, 0, none⟩ = some (.pointer (some ⟨h2, 0, none⟩)) := cell_of_row _ _ 0 _ _ _ HS5.out
  have hq5 : w.heap.size < w5.heap.size := (Array.getElem?_eq_some_iff.1 HQ5.out).1
  go_wp2_with fail
  have HPN := Lib.hid (show sumL (putL (putL hs0 o) (sumL s)) = penL o s from by unfold penL; exact sha_two o (sumL s))
  refine (sum_any h2 _ w5 (putL_ok (putL_ok hs0_ok HO1.out) HD1.out) (by rw [putL_c, putL_c, H64.out, HD.out]; decide) (HG.out.below hsz HB5.out) HX5.out).mono ?_
  rw [HPN.out]
  rintro e w6 ⟨rfl, hb6⟩
  have HQ6 := Lib.hid ((hb6.block _ hq5).trans HQ5.out)
  have HB6 := Lib.hid (HB5.out.trans (hb6.mono (by omega)))
  clear hb6
  go_wp2_with (first
    | ((with_reducible refine wl_store (ty := 62) w.heap.size 62 (bv (zl 32)) (bv (penL o s)) ?_ ?_ ?_ ?_ ?_ ?_ ?_); (· rfl); (· rfl); (· exact HQ6.out); (· rw [bv_size, penL_len]; exact info25); (· rw [bv_size, bv_size, penL_len, zl_len]); (· exact bv_one _)))
  refine ret_row Tryz.results22 w.heap.size 62 (bv (penL o s)) (0, 0) 32 5 Tryz.underlying62 rfl ?_ ?_ rfl ⟨rfl, ?_⟩
  · exact setRow_heap _ _ _ _ _ _ HQ6.out
  · rw [bv_size, penL_len]; exact info25
  · exact below_setRow' HB6.out (Nat.le_refl _) _

set_option maxRecDepth 100000 in
set_option maxHeartbeats 800000 in
theorem macOf_any (key l : List Nat) (v u : Value) (w : World) (hk : Lt 256 key) (hl : Lt 256 l) (hc : key.length + 72 < 1152921504606846976) (hc2 : l.length + 200 < 1152921504606846976) (hG : Gl w) (hb : Byt w w.heap.size v key) (hb2 : Byt w w.heap.size u l) :
    Calls Tryz.prog 12 #[v, u] w fun e w' => e = .returned (.agg (bv (macL key l))) ∧ Below w.heap.size w w' := by
  have HKL := Lib.hid hk; clear hk
  have HL := Lib.hid hl; clear hl
  have HC := Lib.hid hc; clear hc
  have HC2 := Lib.hid hc2; clear hc2
  have HG := Lib.hid hG; clear hG
  have HV := Lib.hid hb; clear hb
  have HU := Lib.hid hb2; clear hb2
  have hsz := HG.out.size
  go_enter Tryz.func12, Tryz.ntmps12
  go_wp2_with fail
  have HB0 := Lib.hid (show Below w.heap.size w (w.alloc (.cells (bv (zl 32)) 62)) from (Below.refl _ _).alloc (Nat.le_refl _) _)
  refine (macNew_any key v _ HKL.out HC.out (HG.out.below hsz HB0.out) (HV.out.grown HB0.out (fun b h => by simp; omega))).mono ?_
  rintro e w1 ⟨g, h, rfl, hg, hh, hp, hb1⟩
  have hg1 : w.heap.size + 1 ≤ g := by simpa using hg
  have hh1 : w.heap.size + 1 ≤ h := by simpa using hh
  have hs1 : w.heap.size + 1 ≤ w1.heap.size := by have := hb1.size; simpa using this
  have HP1 := Lib.hid hp
  have HB1 := Lib.hid (HB0.out.trans (hb1.mono (by simp)))
  have HQ1 := Lib.hid (show w1.heap[w.heap.size]? = some (.cells (bv (zl 32)) 62 (0, 0)) from (hb1.block _ (by simp)).trans (heap_last _ _ _ rfl))
  clear hp hb1 hg hh
  have HIO := Lib.hid (show (putL hs0 (inn key)).Ok from putL_ok hs0_ok (inn_lt HKL.out))
  have HIC := Lib.hid (show (putL hs0 (inn key)).c = 64 by rw [putL_c, inn_len]; rfl)
  go_wp2_with fail
  refine (penWrite_any g h (out key) _ l u w1 HP1.out HIO.out HL.out (by rw [HIC.out]; have := HC2.out; omega) (HG.out.below hsz HB1.out) (by omega) (HU.out.grown HB1.out (fun b hb => by omega))).mono ?_
  rintro e w2 ⟨rfl, hp, hgr⟩
  have HP2 := Lib.hid hp
  have HB2 := Lib.hid (show Below w.heap.size w w2 from HB1.out.trans ⟨hgr.os, hgr.tape, hgr.output, hgr.size, fun k hk => hgr.block k (by omega) (by simp; omega)⟩)
  have HQ2 := Lib.hid ((hgr.block _ (by omega) (by simp; omega)).trans HQ1.out)
  clear hp hgr
  go_wp2_with fail
  refine (penSum_any g h (out key) _ w2 HP2.out (putL_ok HIO.out HL.out) (by rw [putL_c, HIC.out]; have := HC2.out; omega) (out_len key) (out_lt HKL.out) (HG.out.below hsz HB2.out)).mono ?_
  rw [pen_mac]
  rintro e w3 ⟨rfl, hb3⟩
  have hq3 : w.heap.size < w2.heap.size := (Array.getElem?_eq_some_iff.1 HQ2.out).1
  have HQ3 := Lib.hid ((hb3.block _ hq3).trans HQ2.out)
  have HB3 := Lib.hid (HB2.out.trans (hb3.mono (by omega)))
  clear hb3
  go_wp2_with (first
    | ((with_reducible refine wl_store (ty := 62) w.heap.size 62 (bv (zl 32)) (bv (macL key l)) ?_ ?_ ?_ ?_ ?_ ?_ ?_); (· rfl); (· rfl); (· exact HQ3.out); (· rw [bv_size, macL_len]; exact info25); (· rw [bv_size, bv_size, macL_len, zl_len]); (· exact bv_one _)))
  refine ret_row Tryz.results12 w.heap.size 62 (bv (macL key l)) (0, 0) 32 5 Tryz.underlying62 rfl ?_ ?_ rfl ⟨rfl, ?_⟩
  · exact setRow_heap _ _ _ _ _ _ HQ3.out
  · rw [bv_size, macL_len]; exact info25
  · exact below_setRow' HB3.out (Nat.le_refl _) _
end Go.Proofs.YtgaoeljdlpemnaaGreatDoor.Hs
/- Plain facts of the document's own way to a digest: how bytes are filled, a word of four bytes, block after block. -/
namespace Go.Sha

theorem at0_set (l : List Nat) (i x j : Nat) (h : i < l.length) : at0 (l.set i x) j = if i = j then x else at0 l j := by
  unfold at0
  rw [List.getD_eq_getElem?_getD, List.getD_eq_getElem?_getD, List.getElem?_set]
  by_cases e : i = j
  · subst e; simp [h]
  · simp [e]
theorem at0_zl (n j : Nat) : at0 (zl n) j = 0 := by
  unfold at0 zl
  rw [List.getD_eq_getElem?_getD]
  by_cases h : j < n
  · simp [h]
  · simp [h]
theorem at0_get (l : List Nat) (j : Nat) (h : j < l.length) : at0 l j = l[j] := by
  unfold at0; rw [List.getD_eq_getElem?_getD, List.getElem?_eq_getElem h]; rfl
theorem list_at0 {x y : List Nat} (h : x.length = y.length) (e : ∀ j, j < x.length → at0 x j = at0 y j) : x = y := by
  apply List.ext_getElem h
  intro i h1 h2
  rw [← at0_get x i h1, ← at0_get y i h2]; exact e i h1
theorem at0_append (x y : List Nat) (j : Nat) : at0 (x ++ y) j = if j < x.length then at0 x j else at0 y (j - x.length) := by
  unfold at0
  rw [List.getD_eq_getElem?_getD, List.getElem?_append]
  split
  · rw [List.getD_eq_getElem?_getD]
  · rw [List.getD_eq_getElem?_getD]
theorem at0_cons (x : Nat) (y : List Nat) (j : Nat) : at0 (x :: y) j = if j = 0 then x else at0 y (j - 1) := by
  cases j with
  | zero => rfl
  | succ n => simp [at0, List.getD_eq_getElem?_getD]
theorem psize_mod (c : Nat) : (c + psize c) % 64 = 0 := by unfold psize; split <;> omega

/-- the number of bits, as eight bytes, the greatest first: the first k of them -/
def len8 (c : Nat) : Nat → List Nat
  | 0 => []
  | k + 1 => len8 c k ++ [((8 * c) >>> (56 - 8 * k)) % 256]
theorem len8_len (c : Nat) : ∀ k, (len8 c k).length = k
  | 0 => rfl
  | k + 1 => by rw [len8, List.length_append, len8_len c k]; rfl
theorem len8_lt (c : Nat) : ∀ k, Lt 256 (len8 c k)
  | 0 => fun x hx => by simp [len8] at hx
  | k + 1 => fun x hx => by
    rw [len8, List.mem_append] at hx
    rcases hx with hx | hx
    · exact len8_lt c k x hx
    · simp at hx; omega
theorem len8_at (c : Nat) : ∀ k j, j < k → at0 (len8 c k) j = ((8 * c) >>> (56 - 8 * j)) % 256
  | 0, j, h => by omega
  | k + 1, j, h => by
    rw [len8, at0_append, len8_len]
    split
    · exact len8_at c k j (by assumption)
    · obtain rfl : j = k := by omega
      simp [at0]
theorem tlTo_at (c : Nat) : ∀ k j, k ≤ 8 → at0 (tlTo c k) j = if psize c - k ≤ j ∧ j < psize c then ((8 * c) >>> (8 * (psize c - 1 - j))) % 256 else if j = 0 then 128 else 0
  | 0, j, _ => by
    have hn : ¬ (psize c - 0 ≤ j ∧ j < psize c) := by omega
    rw [tlTo_zero, at0_set _ _ _ _ (by rw [zl_len]; decide), at0_zl, if_neg hn]
    by_cases h : j = 0
    · subst h; rfl
    · rw [if_neg h, if_neg (fun e : 0 = j => h e.symm)]
  | k + 1, j, hk => by
    have := psize_lo c
    have := psize_hi c
    rw [tlTo_succ, at0_set _ _ _ _ (by rw [tlTo_len]; omega), tlTo_at c k j (by omega)]
    by_cases e : psize c - 1 - k = j
    · rw [if_pos e, if_pos (by omega)]
      congr 3
      omega
    · rw [if_neg e]
      by_cases h : psize c - k ≤ j ∧ j < psize c
      · rw [if_pos h, if_pos (by omega)]
      · rw [if_neg h, if_neg (by omega : ¬ (psize c - (k + 1) ≤ j ∧ j < psize c))]
theorem pad_eq (c : Nat) : pad c = 128 :: (zl (psize c - 9) ++ len8 c 8) := by
  have h1 := psize_lo c
  have h2 := psize_hi c
  apply list_at0
  · rw [pad_len, List.length_cons, List.length_append, zl_len, len8_len]; omega
  · intro j hj
    rw [pad_len] at hj
    rw [pad_at c j hj, tlTo_at c 8 j (Nat.le_refl _), at0_cons]
    by_cases h0 : j = 0
    · subst h0; rw [if_neg (by omega), if_pos rfl, if_pos rfl]
    · rw [if_neg h0, at0_append, zl_len]
      by_cases h : j - 1 < psize c - 9
      · rw [if_pos h, at0_zl, if_neg (by omega), if_neg h0]
      · rw [if_neg h, len8_at c 8 _ (by omega), if_pos (by omega : psize c - 8 ≤ j ∧ j < psize c), if_neg h0]
        congr 3
        omega
/-- where the noughts end -/
theorem pad_stop (c j : Nat) (h : j ≤ psize c - 9) : (c + 1 + j) % 64 = 56 ↔ j = psize c - 9 := by
  have h1 := psize_lo c
  have h2 := psize_hi c
  have h3 := psize_mod c
  constructor <;> intro h4 <;> omega
theorem len8_walk (c k : Nat) (hc : c < 1152921504606846976) : (((c : Int) * 8) % 18446744073709551616) / 2 ^ (56 - 8 * k) % 256 = ((((8 * c) >>> (56 - 8 * k)) % 256 : Nat) : Int) := by
  rw [show ((c : Int) * 8) % 18446744073709551616 = ((8 * c : Nat) : Int) by omega, Nat.shiftRight_eq_div_pow]
  simp

/-- a word of four bytes, read by the document's way: the first k bytes -/
def be4 (b : List Nat) (i : Nat) : Nat → Nat
  | 0 => 0
  | k + 1 => (be4 b i k * 256 % M + at0 b (4 * i + k)) % M
theorem or_add (a b n : Nat) (h : b < 2 ^ n) : (a <<< n) ||| b = a * 2 ^ n + b := by
  rw [← Nat.shiftLeft_eq]; exact (Nat.shiftLeft_add_eq_or_of_lt h a).symm
theorem be4_eq {b : List Nat} (h : Lt 256 b) (i : Nat) : be4 b i 4 = be b i := by
  have h0 := h.getD (by decide) (4 * i)
  have h1 := h.getD (by decide) (4 * i + 1)
  have h2 := h.getD (by decide) (4 * i + 2)
  have h3 := h.getD (by decide) (4 * i + 3)
  simp only [be4, be, Nat.add_zero]
  generalize at0 b (4 * i) = a at *
  generalize at0 b (4 * i + 1) = b1 at *
  generalize at0 b (4 * i + 2) = c at *
  generalize at0 b (4 * i + 3) = d at *
  rw [Nat.or_assoc, Nat.or_assoc, or_add c d 8 (by omega), or_add b1 _ 16 (by omega), or_add a _ 24 (by omega)]
  unfold M
  omega
/-- the schedule by the document's way: the first sixteen words, one of them in the making -/
def spr4 (b : List Nat) (i k : Nat) : List Nat := if k = 0 then spr b i else (spr b i).set i (be4 b i k)

/-- a whole block behind whole blocks -/
theorem putL_block {s : HS} {x : List Nat} (hr : s.r.length = 64) (hc : s.c % 64 = 0) (hx : x.length = 64) : (putL s x).m = mixL s.m x := by
  have h := putL_piece x s hr (by omega) (by omega)
  rw [h]
  have e : (s.c + x.length) % 64 = 0 := by omega
  simp only
  rw [if_pos e, hc]
  congr 1
  unfold lay
  rw [List.take_zero, List.nil_append, List.drop_of_length_le (by omega), List.append_nil]
theorem putL_r {x : List Nat} {s : HS} (h : s.Ok) (hx : Lt 256 x) : (putL s x).r.length = 64 := (putL_ok h hx).r64
/-- the bytes, filled -/
def filL (l : List Nat) : List Nat := l ++ pad l.length
theorem filL_len (l : List Nat) : (filL l).length = l.length + psize l.length := by rw [filL, List.length_append, pad_len]
theorem filL_lt {l : List Nat} (h : Lt 256 l) : Lt 256 (filL l) := fun x hx => by
  rw [filL, List.mem_append] at hx
  exact hx.elim (h x) (pad_lt _ x)
theorem shaL_fil (l : List Nat) : shaL l = dig (putL hs0 (filL l)).m := by
  unfold shaL sumL filL
  rw [putL_append, putL_c]
  show dig (putL (putL hs0 l) (pad (0 + l.length))).m = _
  rw [Nat.zero_add]
theorem step_block {f : List Nat} {i : Nat} (hf : Lt 256 f) (h : 64 * i + 64 ≤ f.length) :
    (putL hs0 (f.take (64 * i + 64))).m = mixL (putL hs0 (f.take (64 * i))).m ((f.drop (64 * i)).take 64) := by
  have hl : (f.take (64 * i)).length = 64 * i := by rw [List.length_take]; omega
  rw [List.take_add, putL_append]
  refine putL_block (putL_ok hs0_ok (fun x hx => hf x (List.mem_of_mem_take hx))).r64 ?_ (by rw [List.length_take, List.length_drop]; omega)
  rw [putL_c, hl]
  show (0 + 64 * i) % 64 = 0
  omega
attribute [irreducible] len8 be4 spr4 filL
end Go.Sha
namespace Go.Sha

def pa (l : List Nat) (j : Nat) : List Nat := l ++ (128 :: zl j)
def pb (l : List Nat) (t : Nat) : List Nat := l ++ (128 :: (zl (psize l.length - 9) ++ len8 l.length t))
theorem zl_snoc (j : Nat) : zl j ++ [0] = zl (j + 1) := by
  unfold zl
  rw [List.replicate_succ']
theorem pa_zero (l : List Nat) : l ++ [128] = pa l 0 := by unfold pa zl; rfl
theorem pa_succ (l : List Nat) (j : Nat) : pa l j ++ [0] = pa l (j + 1) := by
  unfold pa
  rw [List.append_assoc, List.cons_append, zl_snoc]
theorem pa_len (l : List Nat) (j : Nat) : (pa l j).length = l.length + 1 + j := by unfold pa; rw [List.length_append, List.length_cons, zl_len]; omega
theorem pb_zero (l : List Nat) : pa l (psize l.length - 9) = pb l 0 := by unfold pa pb len8; rw [List.append_nil]
theorem pb_succ (l : List Nat) (t : Nat) : pb l t ++ [((8 * l.length) >>> (56 - 8 * t)) % 256] = pb l (t + 1) := by
  unfold pb
  conv => rhs; unfold len8
  simp
theorem pb_all (l : List Nat) : pb l 8 = filL l := by unfold pb filL; rw [pad_eq]
theorem pb_len (l : List Nat) (t : Nat) : (pb l t).length = l.length + 1 + (psize l.length - 9) + t := by
  unfold pb; rw [List.length_append, List.length_cons, List.length_append, zl_len, len8_len]; omega

theorem spr_rest (b : List Nat) : ∀ k j, k ≤ j → at0 (spr b k) j = 0
  | 0, j, _ => by rw [spr_zero, at0_zl]
  | k + 1, j, h => by
    have hl := spr_len b k
    by_cases hk : k < 64
    · rw [spr, at0_set _ _ _ _ (by rw [hl]; exact hk), if_neg (by omega)]; exact spr_rest b k j (by omega)
    · rw [spr, List.set_eq_of_length_le (by rw [hl]; omega)]; exact spr_rest b k j (by omega)
theorem spr4_zero (b : List Nat) (i : Nat) : spr4 b i 0 = spr b i := by unfold spr4; rfl
theorem spr4_len (b : List Nat) (i k : Nat) : (spr4 b i k).length = 64 := by unfold spr4; split <;> simp [spr_len]
theorem be4_zero (b : List Nat) (i : Nat) : be4 b i 0 = 0 := by unfold be4; rfl
theorem be4_succ (b : List Nat) (i k : Nat) : be4 b i (k + 1) = (be4 b i k * 256 % M + at0 b (4 * i + k)) % M := by conv => lhs; unfold be4
theorem spr4_at (b : List Nat) (i k : Nat) (hi : i < 16) : at0 (spr4 b i k) i = be4 b i k := by
  unfold spr4
  split
  · rename_i h; subst h; rw [be4_zero, spr_rest b i i (Nat.le_refl _)]
  · rw [at0_set _ _ _ _ (by rw [spr_len]; omega), if_pos rfl]
theorem spr4_succ (b : List Nat) (i k : Nat) : (spr4 b i k).set i (be4 b i (k + 1)) = spr4 b i (k + 1) := by
  unfold spr4
  rw [if_neg (by omega : ¬ k + 1 = 0)]
  split
  · rfl
  · rw [List.set_set]
theorem spr4_all {b : List Nat} (h : Lt 256 b) (i : Nat) (hi : i < 16) : spr4 b i 4 = spr b (i + 1) := by
  unfold spr4
  rw [if_neg (by decide), be4_eq h, spr, if_pos hi]
theorem be4_lt (b : List Nat) (i : Nat) : ∀ k, be4 b i k < M
  | 0 => by rw [be4_zero]; decide
  | k + 1 => by rw [be4_succ]; exact mod_lt _
theorem be4_walk (b : List Nat) (i k : Nat) : ((((be4 b i k : Nat) : Int) * 256) % 4294967296 + ((at0 b (4 * i + k) : Nat) : Int)) % 4294967296 = ((be4 b i (k + 1) : Nat) : Int) := by
  rw [be4_succ]; simp [M]

/-- the words added, the other way round -/
def rfold (was now : List Nat) : Nat → List Nat
  | 0 => was
  | k + 1 => (rfold was now k).set k ((at0 (rfold was now k) k + at0 now k) % M)
theorem rfold_zero (was now : List Nat) : rfold was now 0 = was := rfl
theorem rfold_succ (was now : List Nat) (k : Nat) : rfold was now (k + 1) = (rfold was now k).set k ((at0 (rfold was now k) k + at0 now k) % M) := rfl
theorem rfold_len (was : List Nat) {now : List Nat} : ∀ k, (rfold was now k).length = was.length
  | 0 => rfl
  | k + 1 => by rw [rfold_succ, List.length_set]; exact rfold_len was k
theorem rfold_at {was : List Nat} (now : List Nat) (h : was.length = 8) : ∀ k i, k ≤ 8 → at0 (rfold was now k) i = if i < k then (at0 was i + at0 now i) % M else at0 was i
  | 0, i, _ => by rw [rfold_zero, if_neg (by omega)]
  | k + 1, i, hk => by
    rw [rfold_succ, at0_set _ _ _ _ (by rw [rfold_len, h]; omega), rfold_at now h k k (by omega), rfold_at now h k i (by omega), if_neg (Nat.lt_irrefl k)]
    by_cases e : k = i
    · subst e; rw [if_pos rfl, if_pos (by omega)]
    · rw [if_neg e]
      by_cases h2 : i < k
      · rw [if_pos h2, if_pos (by omega)]
      · rw [if_neg h2, if_neg (by omega)]
theorem fold_at (was : List Nat) {now : List Nat} (h : now.length = 8) : ∀ k i, k ≤ 8 → at0 (fold was now k) i = if i < k then (at0 now i + at0 was i) % M else at0 now i
  | 0, i, _ => by rw [fold_zero, if_neg (by omega)]
  | k + 1, i, hk => by
    rw [fold_succ, at0_set _ _ _ _ (by rw [fold_len, h]; omega), fold_at was h k k (by omega), fold_at was h k i (by omega), if_neg (Nat.lt_irrefl k)]
    by_cases e : k = i
    · subst e; rw [if_pos rfl, if_pos (by omega)]
    · rw [if_neg e]
      by_cases h2 : i < k
      · rw [if_pos h2, if_pos (by omega)]
      · rw [if_neg h2, if_neg (by omega)]
theorem rfold_fold {was now : List Nat} (h : was.length = 8) (h2 : now.length = 8) : rfold was now 8 = fold was now 8 := by
  apply list_at0
  · rw [rfold_len, fold_len, h, h2]
  · intro j hj
    rw [rfold_len, h] at hj
    rw [rfold_at now h 8 j (Nat.le_refl _), fold_at was h2 8 j (Nat.le_refl _), if_pos hj, if_pos hj, Nat.add_comm]
theorem mixL_rfold {was : List Nat} (b : List Nat) (h : was.length = 8) : rfold was (rds KON (spr b 64) was 64) 8 = mixL was b := by
  rw [rfold_fold h (rds_len _ _ h 64)]; unfold mixL; rfl
theorem rfold_lt {was : List Nat} (now : List Nat) (h : Lt M was) : ∀ k, Lt M (rfold was now k)
  | 0 => h
  | k + 1 => by rw [rfold_succ]; exact (rfold_lt now h k).set _ _ (mod_lt _)
attribute [irreducible] pa pb rfold
end Go.Sha
