/- Contract: text. -/
import Derived.Test.YtjdfdihopgceoaaCdC
import Derived.Lib.BufferWrite
namespace Go.Proofs.Ytjdfdihopgceoaa.Cd
open Go.RowKit Go.Shelf Go.Dk Go.Jn Go.Cod

theorem run_copy_str0 (w : World) (d : Option Addr) (cap : Nat) (s : ByteArray) : (Builtin.copy_ #[47, 9] 3 #[.slice d 0 cap, .string s]).run Try.prog w = .ok (goInt 0) w := by
  obtain ⟨i, hi, z0, z1, z2⟩ := info_parts par_u8
  cases d <;> simp [Builtin.copy_, run_underlying Try.underlying47, Builtin.lenOf, Builtin.firstCells, sizeOf, typeInfo, hi, storeCells]
theorem tx_size (t : By) : (tx t).size = t.length := by simp [tx, ByteArray.size]
theorem copy_str {w : World} {bk c : Nat} {t : By} (h : BkB w bk (List.replicate c 0)) (hc : t.length ≤ c ∨ c = 0) :
    ∃ r w', (Builtin.copy_ #[47, 9] 3 #[slB bk c, str t]).run Try.prog w = .ok r w' ∧ BkB w' bk (t.take c ++ List.replicate (c - t.length) 0) ∧ Frq (· = bk) w w' := by
  obtain ⟨i, hi, z0, z1, z2⟩ := info_parts par_u8
  have hsz : (Try.prog.info? 5).map (·.size) = some 1 := by rw [hi]; simp [z1]
  by_cases h0 : c = 0
  · subst h0
    refine ⟨_, w, run_copy_str0 w _ _ _, by simpa using h, Frq.refl _ _⟩
  · have hle : t.length ≤ c := by omega
    have hrun := Lib.run_copy_row_string (P := Try.prog) w 47 9 3 5 bk 0 c c (tx t) (bc (List.replicate c 0)) 5 Try.underlying47 hsz h (by rw [tx_size]; exact hle) (by rw [tx_size, bc_size, List.length_replicate]; omega)
    refine ⟨_, _, hrun, ?_, (Frq.refl (· = bk) w).setRow (.inl rfl) _⟩
    have := setRow_heap w bk (bc (List.replicate c 0)) ((bc (List.replicate c 0)).toList.take 0 ++ Lib.byteCells (tx t).data.toList ++ (bc (List.replicate c 0)).toList.drop (0 + (tx t).size)).toArray 5 _ h
    unfold BkB
    rw [this, tx_size, List.take_zero, List.nil_append, Nat.zero_add, bc_list, byl_drop, List.drop_replicate, show (tx t).data.toList = t by simp [tx], ← byl_app, List.take_of_length_le hle]
    simp [bc]
theorem teM_eq {m : Bool} {s : St} {t : By} {c : Nat} (h : (coM m s t.length 32).2 = c) : teM m s t = byM m (coM m s t.length 32).1 (t.take c ++ List.replicate (c - t.length) 0) := by subst h; rfl
theorem te_case (m : Bool) (s : St) (t : By) (h : m = true ∨ t = []) : t.length ≤ (coM m s t.length 32).2 ∨ (coM m s t.length 32).2 = 0 := by
  rcases h with rfl | rfl
  · rw [coM_lay _ _ _ (by decide)]
    simp only
    split
    · left; exact Nat.le_refl _
    · right; rfl
  · left; exact Nat.zero_le _
set_option maxRecDepth 100000 in
set_option maxHeartbeats 3200000 in
theorem text_sg {m : Bool} {B wb rb T : Nat} {ty : TypeId} {i n : Nat} {s : St} {cs : Array Value} {w0 w : World} (h : Sg m B wb rb T ty n s cs w0 w) (t : By) (hc : cs[i]? = some (str t)) (ht : t.length ≤ 1000000) (hm : m = true ∨ t = []) (hn : n + 33 ≤ 1000000) :
    Calls Try.prog 54 #[pt wb, .pointer (some ⟨T, i, none⟩)] w fun e w' => e = .returned (.tuple #[]) ∧ Sg m B wb rb T ty (n + 33) (teM m s t).1 (cs.setIfInBounds i (str (teM m s t).2)) w0 w' := by
  have hB : B ≤ w.heap.size := Nat.le_trans h.b0 h.fr.size
  have cc := cell_of_arr h.cells i
  rw [hc] at cc
  have ht0 : (0 : Int) ≤ (t.length : Int) := Int.natCast_nonneg _
  have ht1 : (t.length : Int) ≤ 1000000 := by omega
  have HC := Lib.hid (count_any h.wk t.length 32 (by omega) (by decide) (by omega) hB)
  have H0 := Lib.hid h
  have HTE := Lib.hid (te_case m s t hm)
  have HTS := tx_size t
  clear h hc hm
  go_enter Try.func54, Try.ntmps54
  go_wp2_with fail
  refine (HC.out).mono ?_
  rintro e w1 ⟨rfl, hk1, hf1⟩
  have h0 := H0.out
  have hc1 : w1.heap[T]? = some (.cells cs ty (0, 0)) := hf1.keep T _ _ _ h0.cells h0.ty.1 (h0.wk.neT h0.cells h0.ty.2)
  obtain ⟨c, hcE⟩ : ∃ c, (coM m s t.length 32).2 = c := ⟨_, rfl⟩
  have hTE := HTE.out
  have hle : c ≤ 32 := by rw [← hcE]; exact coM_le _ _ _ _
  rw [hcE] at hTE
  have hB1 : B ≤ w1.heap.size := Nat.le_trans hB hf1.size
  have hmk := mkB c (by omega) w1
  obtain ⟨w2, hw2⟩ : ∃ w2, w1.alloc (.cells (bc (List.replicate c 0)) 5) = w2 := ⟨_, rfl⟩
  rw [hw2] at hmk
  have hb2 : BkB w2 w1.heap.size (List.replicate c 0) := by rw [← hw2]; exact heap_last _ _ _ rfl
  have hbl : Below w1.heap.size w1 w2 := by rw [← hw2]; exact (Below.refl _ _).alloc (Nat.le_refl _) _
  obtain ⟨r, w3, hcp, hb3, hfq⟩ := copy_str hb2 hTE
  have hTl := lt_of_heap hc1
  have hc2 := (hbl.block T hTl).trans hc1
  have hc3 : w3.heap[T]? = some (.cells cs ty (0, 0)) := (hfq.block T (Nat.lt_of_lt_of_le hTl hbl.size) (Nat.ne_of_lt hTl)).trans hc2
  have hk2 := (hk1.later hB1 hbl).le (Nat.le_refl _) (X' := (· = w1.heap.size)) (fun x e => .inr (by rw [e]; exact Nat.le_refl _))
  have hk3 : Wk m B wb rb (· = w1.heap.size) (n + 1) (coM m s t.length 32).1 w3 := hk2.other hB1 (fun k hk hne => by
    rcases hk with hk | hk
    · exact hfq.block k hk hne
    · exact hfq.block k (Nat.lt_of_lt_of_le (Nat.lt_of_lt_of_le hk hB1) hbl.size) hne) (.inr ⟨_, _, _, hb2, by decide, fun _ => rfl⟩)
  have hf3 : Fr B (fun x => x = wb ∨ x = rb ∨ x = T) w0 w3 := by
    have f1 : Fr B (fun x => x = wb ∨ x = rb ∨ x = T) w0 w1 := h0.fr.trans (hf1.mono (fun x _ e => e.elim .inl (fun e => .inr (.inl e))))
    refine (f1.trans (Fr.ofBelow hbl hB1)).trans ⟨hfq.os, hfq.tape, hfq.output, hfq.size, fun k hk => hfq.block k (by have := hbl.size; omega) (by omega), fun k cs' t' fr hk ht' _ => (hfq.block k (lt_of_heap hk) (fun e => ?_)).trans hk⟩
    subst e
    unfold BkB at hb2
    rw [hk] at hb2
    simp only [Option.some.injEq, Obj.cells.injEq] at hb2
    exact ht' hb2.2.1
  have hlen : (t.take c ++ List.replicate (c - t.length) (0 : UInt8)).length = c := by
    rw [List.length_append, List.length_take, List.length_replicate]; omega
  have HBY := Lib.hid (bytes_any hk3 hb3 (by rw [hlen]; omega) hB1 (Nat.le_trans hB1 (Nat.le_trans hbl.size hfq.size)))
  rw [hlen] at HBY
  have cc3 := cell_of_arr hc3 i
  have HCC := Lib.hid hc3
  have HF3 := Lib.hid hf3
  have HK3 := Lib.hid hk3
  have HE := Lib.hid hcE
  have HLEN := Lib.hid hlen
  have HLE := Lib.hid hle
  have c1 := cell_of_arr hc1 i
  have c00 : (0 : Int) ≤ (c : Int) := Int.natCast_nonneg _
  have c01 : (c : Int) ≤ 32 := by omega
  have hcT := cell_of_arr h0.cells i
  rw [cc] at hcT
  rw [← hcT] at c1 cc3
  rw [hcE]
  have c2 : w2.cell? ⟨T, i, none⟩ = some (str t) := (World.cell?_of_block (a := ⟨T, i, none⟩) (hbl.block T hTl)).trans c1
  clear hk1 hf1 h0 hc1 hcE hTE hle hb2 hbl hb3 hfq hTl hc2 hc3 hk2 hk3 hf3 hlen hcT HC HTE hw2 hB1
  go_wp2_with ((with_reducible refine wl_cpX (slB w1.heap.size c) (str t) r ?_ ?_ hcp ?_); (· rfl); (· rfl))
  refine (HBY.out).mono ?_
  rintro e w4 ⟨rfl, hk4, hb4, hf4⟩
  have hc4 : w4.heap[T]? = some (.cells cs ty (0, 0)) := hf4.keep T _ _ _ HCC.out H0.out.ty.1 (HK3.out.neT HCC.out H0.out.ty.2)
  have hl4 : (teM m s t).2.length = c := by
    rw [teM_eq HE.out, byM_len, HLEN.out]
  have hb5 : BkB w4 w1.heap.size (teM m s t).2 := by
    rw [teM_eq HE.out]; exact hb4
  have hst := bys_str hb5.bys
  rw [hl4] at hst
  have cc4 := cell_of_arr hc4 i
  have ff4 := froz_of_arr hc4 i
  have hcT := cell_of_arr H0.out.cells i
  rw [cc] at hcT
  rw [← hcT] at cc4
  have HK4 := Lib.hid (show Wk m B wb rb NoX (n + 33) (teM m s t).1 w4 by
    have := hk4.le (n' := n + 33) (X' := NoX) (by have := HLE.out; rw [HLEN.out]; omega) (fun _ e => e.elim)
    rw [teM_eq HE.out]; exact this)
  have HC4 := Lib.hid hc4
  have HF4 := Lib.hid (show Fr B (fun x => x = wb ∨ x = rb ∨ x = T) w0 w4 from HF3.out.trans (hf4.mono (fun x _ e => e.elim .inl (fun e => .inr (.inl e)))))
  clear hk4 hb4 hf4 hc4 hl4 hb5 hcT HBY HF3 HK3
  go_wp2_with fail
  go_end0
  have g := H0.out
  exact ⟨rfl, HK4.out.set (p := ⟨T, i, none⟩) g.bT _ HC4.out g.ty.2 (fun e => absurd e g.ty.1), set_heap HC4.out i _, HF4.out.setK (p := ⟨T, i, none⟩) (.inr (.inr rfl)) g.bT _, g.ty, g.bT, g.b0⟩
end Go.Proofs.Ytjdfdihopgceoaa.Cd
