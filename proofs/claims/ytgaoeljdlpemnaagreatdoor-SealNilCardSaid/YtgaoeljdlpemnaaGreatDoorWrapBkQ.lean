/- Interchanges and their texts are each other's (no walk, nothing of the statements' own functions). -/
import Derived.Test.YtgaoeljdlpemnaaGreatDoorWrapP
import Derived.Test.YtgaoeljdlpemnaaGreatDoorNuPure
import Derived.Lib.ItoaLen
import Derived.Test.YtgaoeljdlpemnaaGreatDoorWrapK
/- Contracts: what a packet says as segments, as an interchange, as a text. -/
namespace Go.Proofs.YtgaoeljdlpemnaaGreatDoor
open Go.RowKit Go.Edi Go.Wrap Go.Lib

/-- small segments -/
def tiny (l : List Sg) : Prop := l.length ≤ 64 ∧ ∀ s ∈ l, s.els.length ≤ 16 ∧ ∀ e ∈ s.els, e.length ≤ 8 ∧ ∀ t ∈ e, t.length ≤ 256
theorem tiny.sane {l : List Sg} (h : tiny l) : sane l := ⟨by have := h.1; omega, fun s hs => ⟨by have := (h.2 s hs).1; omega, fun e he => ⟨by have := ((h.2 s hs).2 e he).1; omega, fun t ht => by have := ((h.2 s hs).2 e he).2 t ht; omega⟩⟩⟩
theorem tiny.sz {l : List Sg} (h : tiny l) : ∀ s ∈ l, ∀ e ∈ s.els, ∀ t ∈ e, t.length ≤ 281474976710656 := fun s hs e he t ht => by have := ((h.2 s hs).2 e he).2 t ht; omega
theorem tiny.el {l : List Sg} (h : tiny l) : ∀ s ∈ l, s.els.length ≤ 1000 := fun s hs => by have := (h.2 s hs).1; omega
theorem tiny_sg {tag : Tx} {ts : List Tx} (h1 : ts.length ≤ 16) (h2 : ∀ t ∈ ts, t.length ≤ 256) : (sgL tag ts).els.length ≤ 16 ∧ ∀ e ∈ (sgL tag ts).els, e.length ≤ 8 ∧ ∀ t ∈ e, t.length ≤ 256 := by
  refine ⟨by simpa [sgL] using h1, fun e he => ?_⟩
  obtain ⟨t, ht, rfl⟩ := List.mem_map.1 he
  exact ⟨by simp, fun u hu => by rw [List.mem_singleton.1 hu]; exact h2 t ht⟩
theorem sdig_len {n : Int} (h : i64B n) : (sdig n).length ≤ 21 := Lib.itoa_length_le n h.1 h.2
theorem text_len (c s : Nat) : (Number.textL c s).1.length ≤ 14 := by
  unfold Number.textL
  split
  · rw [Number.full_len]; omega
  · simp
theorem tiny_told {m : Ms} (h : m.Ty) : tiny (toldMs m).1 := by
  rw [told_shape]
  split
  · exact ⟨by simp, fun s hs => by cases hs⟩
  · rename_i fds hf
    split
    · split
      · refine ⟨?_, fun s hs => ?_⟩
        · rcases fds_cases hf with rfl | rfl | rfl | rfl | rfl <;> simp
        · simp only [List.mem_cons, List.mem_map] at hs
          have hk : i64B (m.kind : Int) := by have := h.kind; unfold i64B; omega
          have ha : i64B (m.at_ : Int) := by have := h.at_; unfold i64B; omega
          rcases hs with rfl | rfl | ⟨f, _, rfl⟩
          · exact tiny_sg (by simp) (fun t ht => by rw [List.mem_singleton.1 ht]; have := sdig_len hk; omega)
          · refine tiny_sg (by simp) (fun t ht => ?_)
            simp only [List.mem_cons, List.not_mem_nil, or_false] at ht
            rcases ht with rfl | rfl
            · have := text_len m.car m.ser; omega
            · have := sdig_len ha; omega
          · refine tiny_sg (by cases f <;> simp [tellL]) (fun t ht => ?_)
            obtain ⟨n, hn, rfl⟩ := List.mem_map.1 ht
            have := sdig_len (tell_b h f n hn)
            omega
      · exact ⟨by simp, fun s hs => by cases hs⟩
    · exact ⟨by simp, fun s hs => by cases hs⟩
theorem tiny_toldL {p : Pk} (h : p.m.Ty) : tiny (toldL p).1 := by
  unfold toldL
  split
  · split
    · exact ⟨by simp, fun s hs => by rw [List.mem_singleton.1 hs]; exact tiny_sg (by simp) (fun t ht => by cases ht)⟩
    · exact ⟨by simp, fun s hs => by cases hs⟩
  · exact tiny_told h
theorem seg1 {w : World} {F : Nat → Prop} {s : Sg} {ve : Value} (hve : ElsF w F ve s.els) (hF : ∀ b, F b → b < w.heap.size) : SegsF (w.alloc (.cells #[str s.tag, ve] 112)) (fun b => F b ∨ b = w.heap.size) (.slice (some ⟨w.heap.size, 0, none⟩) 1 1) [s] :=
  ⟨[str s.tag, ve], ⟨_, _, rfl, Nat.le_refl _, fun _ => ⟨w.heap.size, 0, rfl, Or.inr rfl, fun j u hu => by rw [Nat.zero_add, cell_of_arr (at_last _ _) j]; simpa using hu⟩⟩, rfl, hve.kept (fun b hb => ⟨Or.inl hb, Below.heap_alloc _ _ _ (hF b hb)⟩), True.intro⟩
set_option maxRecDepth 100000 in
set_option maxHeartbeats 3200000 in
theorem told_any' (p : Pk) (B : Nat) (w : World) (hp : p.Ty) (he : Env B w) (hB : B ≤ w.heap.size) : Calls Tryz.prog 30 #[.agg (pkV p)] w (ToldP (toldL p) w) := by
  obtain ⟨f, t, n, a, m⟩ := p
  have hm := hp.m
  simp only at hm
  cases a with
  | false =>
    have hR : toldL ⟨f, t, n, false, m⟩ = toldMs m := rfl
    rw [hR]
    have hb0 : Below w.heap.size w (w.alloc (.cells (pkV ⟨f, t, n, false, m⟩) 38)) := (Below.refl _ _).alloc (Nat.le_refl _) _
    have h := toldMs_any m B _ hm (he.on (hb0.mono hB)) (Nat.le_trans hB hb0.size)
    simp only [msV] at h
    have HB0 := Lib.hid hb0
    have HT := Lib.hid h
    simp only [pkV, msV, preV, List.cons_append, List.nil_append] at *
    clear hp he hB hm hR hb0 h
    go_enter Tryz.func30, Tryz.ntmps30
    go_wp2_with fail
    refine (HT.out).mono ?_
    rintro e w1 ⟨hb1, v, rfl, hv⟩
    have HB1 := Lib.hid (HB0.out.trans (hb1.mono HB0.out.size))
    have HV := Lib.hid hv
    have HZ := Lib.hid HB0.out.size
    clear hb1 hv
    go_wp2
    go_ret2
    exact ⟨HB1.out, v, rfl, HV.out.kept (fun b hb => ⟨⟨Nat.le_trans HZ.out hb.1, hb.2⟩, rfl⟩)⟩
  | true =>
    have hb0 : Below w.heap.size w (w.alloc (.cells (pkV ⟨f, t, n, true, m⟩) 38)) := (Below.refl _ _).alloc (Nat.le_refl _) _
    have HB0 := Lib.hid hb0
    by_cases hz : m = .zero
    · have hR : toldL ⟨f, t, n, true, m⟩ = ([sgL ackT []], 0) := by unfold toldL; simp [hz]
      rw [hR]
      have hneq : ∀ W, (binOp .neq 36 (.agg #[.int .u8 (m.kind : Int), .int .u8 (m.car : Int), .int .u64 (m.ser : Int), .int .u8 (m.at_ : Int), .int .u8 (m.lc : Int), .int .u16 (m.lf : Int), .int .u32 (m.lw : Int), .int .i64 m.val, .int .u8 (m.st : Int), .int .u32 (m.non : Int), .int .i64 m.am, .int .i64 m.code]) (.agg #[.int .u8 0, .int .u8 0, .int .u64 0, .int .u8 0, .int .u8 0, .int .u16 0, .int .u32 0, .int .i64 0, .int .u8 0, .int .u32 0, .int .i64 0, .int .i64 0])).run Tryz.prog W = .ok (.bool false) W := fun W => by
        have h := neq_ms m .zero W
        rw [decide_eq_true hz] at h
        exact h
      have HS := Lib.hid (fun W => sgmt_any [65, 67, 75] [] (.slice none 0 0) (fun _ => False) W (RowF.no none 0) (fun b h => h.elim) (by decide))
      simp only [pkV, msV, preV, List.cons_append, List.nil_append] at HB0 ⊢
      clear hp he hB hm hR hb0 hz
      go_enter Tryz.func30, Tryz.ntmps30
      go_wp2_with fail
      refine (HS.out _).mono ?_
      rintro e w1 ⟨ve, F, rfl, hve, hF, hb1⟩
      have HB1 := Lib.hid (HB0.out.trans (hb1.mono HB0.out.size))
      have HV := Lib.hid (seg1 (s := sgL ackT []) hve (fun b hb => (hF b hb).2))
      have HF := Lib.hid (show ∀ b, F b → w.heap.size ≤ b ∧ b < w1.heap.size from fun b hb => ⟨Nat.le_trans HB0.out.size (hF b hb).1, (hF b hb).2⟩)
      clear hb1 hve hF
      go_wp2
      go_ret2
      refine ⟨HB1.out.alloc HB1.out.size _, _, rfl, HV.out.kept (fun b hb => ⟨?_, rfl⟩)⟩
      rcases hb with hb | rfl
      · have := HF.out b hb
        exact ⟨this.1, by rw [size_a]; omega⟩
      · exact ⟨HB1.out.size, by rw [size_a]; omega⟩
    · have hR : toldL ⟨f, t, n, true, m⟩ = ([], 101) := by unfold toldL; simp [hz]
      rw [hR]
      have hneq : ∀ W, (binOp .neq 36 (.agg #[.int .u8 (m.kind : Int), .int .u8 (m.car : Int), .int .u64 (m.ser : Int), .int .u8 (m.at_ : Int), .int .u8 (m.lc : Int), .int .u16 (m.lf : Int), .int .u32 (m.lw : Int), .int .i64 m.val, .int .u8 (m.st : Int), .int .u32 (m.non : Int), .int .i64 m.am, .int .i64 m.code]) (.agg #[.int .u8 0, .int .u8 0, .int .u64 0, .int .u8 0, .int .u8 0, .int .u16 0, .int .u32 0, .int .i64 0, .int .u8 0, .int .u32 0, .int .i64 0, .int .i64 0])).run Tryz.prog W = .ok (.bool true) W := fun W => by
        have h := neq_ms m .zero W
        rw [decide_eq_false hz] at h
        exact h
      simp only [pkV, msV, preV, List.cons_append, List.nil_append] at HB0 ⊢
      clear hp he hB hm hR hb0 hz
      go_enter Tryz.func30, Tryz.ntmps30
      go_wp2
      go_ret2
      exact told_nil _ _ _ HB0.out
theorem sizeWr : (Tryz.prog.info? 74).map (·.size) = some 4 := by kernel_rfl
abbrev wr0 : Array Value := #[.int .u8 0, .int .u8 0, .int .u64 0, .slice none 0 0]
theorem wrv_one (f t r : Nat) (p : Option Addr) (n c : Nat) : (wrV f t r (.slice p n c)).all (·.oneCell') = true := by simp [Value.oneCell']
theorem wr0_one : wr0.all (·.oneCell') = true := by decide +kernel
def MwP (o : Wr × Nat) (w : World) (e : Ending) (w' : World) : Prop :=
  Below w.heap.size w w' ∧ ∃ v, e = .returned (.tuple #[.agg (wrV o.1.from_ o.1.to_ o.1.ref v), .int .i64 ((o.2 : Nat) : Int)]) ∧ SegsF w' (Fr w w') v o.1.segs
theorem carr_b (f t : Nat) : (decide (f < 8) && decide (t < 8)) = !decide (8 ≤ f ∨ 8 ≤ t) := by
  by_cases h1 : f < 8
  · by_cases h2 : t < 8
    · simp [h1, h2]
    · have : 8 ≤ t := by omega
      simp [h2, this]
  · have : 8 ≤ f := by omega
    simp [h1, this]
set_option maxRecDepth 100000 in
set_option maxHeartbeats 3200000 in
theorem mwrap_any (p : Pk) (B : Nat) (w : World) (hp : p.Ty) (he : Env B w) (hB : B ≤ w.heap.size) : Calls Tryz.prog 18 #[.agg (pkV p)] w (MwP (mwrapL p) w) := by
  obtain ⟨R, hR⟩ : ∃ R, R = mwrapL p := ⟨_, rfl⟩
  rw [← hR]
  have HA := Lib.hid (fun W => areC_any p.from_ p.to_ hp.from_ hp.to_ W)
  rw [carr_b] at HA
  have hd : ((w.alloc (.cells (pkV p) 38)).alloc (.cells wr0 74)).heap[w.heap.size + 1]? = some (.cells wr0 74 (0, 0)) := heap_new _ _ _ (by simp only [size_a])
  have hpk : ((w.alloc (.cells (pkV p) 38)).alloc (.cells wr0 74)).heap[w.heap.size]? = some (.cells (pkV p) 38 (0, 0)) := heap_past _ _ _ (by simp only [size_a]; omega) (heap_new _ _ _ rfl)
  have hb0 : Below w.heap.size w ((w.alloc (.cells (pkV p) 38)).alloc (.cells wr0 74)) := ((Below.refl _ _).alloc (Nat.le_refl _) _).alloc (by simp only [size_a]; omega) _
  have HTD := Lib.hid (told_any' p B _ hp (he.on (hb0.mono hB)) (Nat.le_trans hB hb0.size))
  have HD := Lib.hid hd
  have HPK := Lib.hid hpk
  have HB0 := Lib.hid hb0
  obtain ⟨f, t, n, a, m⟩ := p
  simp only at HA
  unfold mwrapL at hR
  simp only at hR
  by_cases h8 : 8 ≤ f ∨ 8 ≤ t
  · rw [if_pos h8] at hR
    rw [decide_eq_true h8] at HA
    have HR := Lib.hid hR
    simp only [pkV, msV, preV, List.cons_append, List.nil_append, Bool.not_true] at *
    clear hp he hB hd hpk hb0 hR h8 HTD
    go_enter Tryz.func18, Tryz.ntmps18
    go_wp2_with (first
      | (go_at_call 29; refine (HA.out _).mono ?_; rintro e w2 ⟨rfl, rfl⟩)
      | (refine wpList_store_row rfl 74 _ _ rfl (w.heap.size + 1) wr0 rfl rfl 74 wr0 HD.out sizeWr rfl (by decide) ?_))
    refine bodyPost_ret (results_cell_tmp_row rfl _ _ (w.heap.size + 1) 74 wr0 (0, 0) _ rfl HD.out Tryz.underlying74 rfl sizeWr) rfl ?_
    exact ⟨HB0.out, .slice none 0 0, by rw [HR.out]; rfl, by rw [HR.out]; exact ⟨[], RowF.no none 0, True.intro⟩⟩
  · rw [if_neg h8] at hR
    rw [decide_eq_false h8] at HA
    have HR := Lib.hid hR
    obtain ⟨E, hE⟩ : ∃ E : Int, E = ((toldL ⟨f, t, n, a, m⟩).2 : Int) := ⟨_, rfl⟩
    have HTE := Lib.hid (HTD.out.mono (R' := fun e w' => ∃ v, e = .returned (.tuple #[v, .int .i64 E]) ∧ Below ((w.alloc (.cells (pkV ⟨f, t, n, a, m⟩) 38)).alloc (.cells wr0 74)).heap.size ((w.alloc (.cells (pkV ⟨f, t, n, a, m⟩) 38)).alloc (.cells wr0 74)) w' ∧ SegsF w' (Fr ((w.alloc (.cells (pkV ⟨f, t, n, a, m⟩) 38)).alloc (.cells wr0 74)) w') v (toldL ⟨f, t, n, a, m⟩).1) (fun e w' ⟨h1, v, h2, h3⟩ => ⟨v, by rw [h2, hE], h1, h3⟩))
    have HE := Lib.hid hE
    have HZ := Lib.hid (size_a w (.cells (pkV ⟨f, t, n, a, m⟩) 38))
    simp only [pkV, msV, preV, List.cons_append, List.nil_append, Bool.not_false] at *
    clear hp he hB hd hpk hb0 h8 HTD hE hR
    by_cases hE0 : E = 0
    · subst hE0
      have HR2 := Lib.hid (show R = (⟨f, t, n, (toldL ⟨f, t, n, a, m⟩).1⟩, 0) by rw [HR.out, if_pos (by have := HE.out; omega)])
      go_enter Tryz.func18, Tryz.ntmps18
      go_wp2_with (first
        | (go_at_call 29; refine (HA.out _).mono ?_; rintro e w2 ⟨rfl, rfl⟩)
        | (go_at_call 30; refine (HTE.out).mono ?_; rintro e w5 ⟨v, rfl, hb5, hv5⟩
           have HD5 := Lib.hid ((hb5.block _ (lt_of_heap HD.out)).trans HD.out)
           have HP5 := (hb5.block _ (lt_of_heap HPK.out)).trans HPK.out
           have q0 := cell_of_arr HP5 0
           have q1 := cell_of_arr HP5 1
           have q3 := cell_of_arr HP5 3
           simp only [List.getElem?_toArray, List.getElem?_cons_zero, List.getElem?_cons_succ] at q0 q1 q3
           have HB5 := Lib.hid (HB0.out.trans (hb5.mono HB0.out.size))
           obtain ⟨xs, ⟨pv, cv, rfl, hpvc⟩, hsgc⟩ := hv5
           have HV5 := Lib.hid (show SegsF w5 (Fr ((w.alloc (.cells (pkV ⟨f, t, n, a, m⟩) 38)).alloc (.cells wr0 74)) w5) (.slice pv (toldL ⟨f, t, n, a, m⟩).1.length cv) (toldL ⟨f, t, n, a, m⟩).1 from ⟨xs, ⟨pv, cv, rfl, hpvc⟩, hsgc⟩)
           clear hb5 HP5 hpvc hsgc)
        | (refine wpList_store_row rfl 74 _ _ rfl (w.heap.size + 1) (wrV f t n (.slice pv (toldL ⟨f, t, n, a, m⟩).1.length cv)) rfl rfl 74 wr0 HD5.out sizeWr rfl (wrv_one _ _ _ _ _ _) ?_))
      refine bodyPost_ret (results_cell_tmp_row rfl _ _ (w.heap.size + 1) 74 (wrV f t n (.slice pv (toldL ⟨f, t, n, a, m⟩).1.length cv)) (0, 0) _ rfl (setRow_heap _ _ _ _ _ _ HD5.out) Tryz.underlying74 rfl sizeWr) rfl ?_
      refine ⟨below_setR HB5.out (by omega) _, _, by rw [HR2.out]; rfl, ?_⟩
      rw [HR2.out]
      refine HV5.out.kept (fun b hb => ⟨⟨?_, by rw [size_setRow]; exact hb.2⟩, ?_⟩)
      · have h1 := hb.1
        simp only [size_a] at h1
        omega
      · have h1 := hb.1
        simp only [size_a] at h1
        show (w5.heap.modify (w.heap.size + 1) _)[b]? = _
        rw [Array.getElem?_modify, if_neg (by omega)]
    · have HR2 := Lib.hid (show R = (.nil, (toldL ⟨f, t, n, a, m⟩).2) by rw [HR.out, if_neg (by have := HE.out; omega)])
      go_enter Tryz.func18, Tryz.ntmps18
      go_wp2_with (first
        | (go_at_call 29; refine (HA.out _).mono ?_; rintro e w2 ⟨rfl, rfl⟩)
        | (go_at_call 30; refine (HTE.out).mono ?_; rintro e w5 ⟨v, rfl, hb5, hv5⟩
           have HD5 := Lib.hid ((hb5.block _ (lt_of_heap HD.out)).trans HD.out)
           have HP5 := (hb5.block _ (lt_of_heap HPK.out)).trans HPK.out
           have q0 := cell_of_arr HP5 0
           have q1 := cell_of_arr HP5 1
           have q3 := cell_of_arr HP5 3
           simp only [List.getElem?_toArray, List.getElem?_cons_zero, List.getElem?_cons_succ] at q0 q1 q3
           have HB5 := Lib.hid (HB0.out.trans (hb5.mono HB0.out.size))
           obtain ⟨xs, ⟨pv, cv, rfl, hpvc⟩, hsgc⟩ := hv5
           have HV5 := Lib.hid (show SegsF w5 (Fr ((w.alloc (.cells (pkV ⟨f, t, n, a, m⟩) 38)).alloc (.cells wr0 74)) w5) (.slice pv (toldL ⟨f, t, n, a, m⟩).1.length cv) (toldL ⟨f, t, n, a, m⟩).1 from ⟨xs, ⟨pv, cv, rfl, hpvc⟩, hsgc⟩)
           clear hb5 HP5 hpvc hsgc)
        | (refine wpList_store_row rfl 74 _ _ rfl (w.heap.size + 1) (wr0) rfl rfl 74 wr0 HD5.out sizeWr rfl wr0_one ?_))
      refine bodyPost_ret (results_cell_tmp_row rfl _ _ (w.heap.size + 1) 74 (wr0) (0, 0) _ rfl (setRow_heap _ _ _ _ _ _ HD5.out) Tryz.underlying74 rfl sizeWr) rfl ?_
      refine ⟨below_setR HB5.out (by omega) _, .slice none 0 0, ?_, by rw [HR2.out]; exact ⟨[], RowF.no none 0, True.intro⟩⟩
      rw [HR2.out]
      show _ = Ending.returned (.tuple #[.agg wr0, .int .i64 ((toldL ⟨f, t, n, a, m⟩).2 : Int)])
      rw [← HE.out]
      rfl
end Go.Proofs.YtgaoeljdlpemnaaGreatDoor
/- Contracts: the text of a packet, the packet of a text. -/
namespace Go.Proofs.YtgaoeljdlpemnaaGreatDoor
open Go.RowKit Go.Edi Go.Wrap Go.Lib

def TextP (o : Tx × Nat) (w : World) (e : Ending) (w' : World) : Prop := e = .returned (.tuple #[str o.1, .int .i64 ((o.2 : Nat) : Int)]) ∧ Below w.heap.size w w'
set_option maxRecDepth 100000 in
set_option maxHeartbeats 1600000 in
theorem mtext_any (p : Pk) (B : Nat) (w : World) (hp : p.Ty) (he : Env B w) (hB : B ≤ w.heap.size) : Calls Tryz.prog 11 #[.agg (pkV p)] w (TextP (mtextL p) w) := by
  obtain ⟨R, hR⟩ : ∃ R, R = mtextL p := ⟨_, rfl⟩
  rw [← hR]
  unfold mtextL at hR
  have hb0 : Below w.heap.size w (w.alloc (.cells (pkV p) 38)) := (Below.refl _ _).alloc (Nat.le_refl _) _
  obtain ⟨E, hE⟩ : ∃ E : Int, E = ((mwrapL p).2 : Int) := ⟨_, rfl⟩
  have HW := Lib.hid ((mwrap_any p B _ hp (he.on (hb0.mono hB)) (Nat.le_trans hB hb0.size)).mono (R' := fun e w' => ∃ pv nv cv, e = .returned (.tuple #[.agg #[.int .u8 ((mwrapL p).1.from_ : Int), .int .u8 ((mwrapL p).1.to_ : Int), .int .u64 ((mwrapL p).1.ref : Int), .slice pv nv cv], .int .i64 E]) ∧ Below (w.alloc (.cells (pkV p) 38)).heap.size (w.alloc (.cells (pkV p) 38)) w' ∧ SegsF w' (Fr (w.alloc (.cells (pkV p) 38)) w') (.slice pv nv cv) (mwrapL p).1.segs) (fun e w' ⟨h1, v, h2, h3⟩ => by
    obtain ⟨pv, cv, rfl⟩ := segs_slice h3
    exact ⟨pv, _, cv, by rw [h2, hE], h1, h3⟩))
  have HE := Lib.hid he
  have HBB := Lib.hid hB
  have HB0 := Lib.hid hb0
  have HPB := Lib.hid (show (w.alloc (.cells (pkV p) 38)).heap[w.heap.size]? = some (.cells (pkV p) 38 (0, 0)) from at_last _ _)
  have HEE := Lib.hid hE
  by_cases h0 : (mwrapL p).2 = 0
  · rw [if_pos h0] at hR
    obtain rfl : E = 0 := by rw [hE, h0]; rfl
    have HR := Lib.hid hR
    have hsane : sane (mwrapL p).1.segs ∧ (mwrapL p).1.from_ < 256 ∧ (mwrapL p).1.to_ < 256 ∧ (mwrapL p).1.ref < 18446744073709551616 := by
      unfold mwrapL
      split
      · exact ⟨⟨by simp [Wr.nil], fun s hs => by cases hs⟩, by simp [Wr.nil], by simp [Wr.nil], by simp [Wr.nil]⟩
      · split
        · exact ⟨(tiny_toldL hp.m).sane, hp.from_, hp.to_, hp.num⟩
        · exact ⟨⟨by simp [Wr.nil], fun s hs => by cases hs⟩, by simp [Wr.nil], by simp [Wr.nil], by simp [Wr.nil]⟩
    have HS := Lib.hid hsane
    have HPR := Lib.hid (fun (v : Value) W (h : Below w.heap.size w W) (hv : SegsF W (· < W.heap.size) v (mwrapL p).1.segs) => wprint_any (mwrapL p).1 v B W hv hsane.1 hsane.2.1 hsane.2.2.1 hsane.2.2.2 (he.on (h.mono hB)).tab (Nat.le_trans hB h.size))
    clear hp he hB hb0 hE h0 hR hsane
    generalize mwrapL p = x at *
    go_enter Tryz.func11, Tryz.ntmps11
    go_wp2_with (refine wpList_load_row rfl 38 _ rfl w.heap.size rfl 38 (pkV p) (0, 0) _ HPB.out Tryz.underlying38 rfl sizePk ?_)
    refine (HW.out).mono ?_
    rintro e w1 ⟨pv, nv, cv, rfl, hb1, hv1⟩
    have HB1 := Lib.hid (HB0.out.trans (hb1.mono HB0.out.size))
    have hx2 : Below w.heap.size w (w1.alloc (.cells (wrV x.1.from_ x.1.to_ x.1.ref (.slice pv nv cv)) 74)) := HB1.out.alloc HB1.out.size _
    have HPP := Lib.hid (HPR.out _ _ hx2 (hv1.kept (fun b hb => ⟨by rw [size_a]; have := hb.2; omega, Below.heap_alloc _ _ _ hb.2⟩)))
    have HX2 := Lib.hid hx2
    clear hb1 hv1 hx2
    go_wp2_with fail
    refine (HPP.out).mono ?_
    rintro e w2 ⟨rfl, hb2⟩
    have HB2 := Lib.hid (HX2.out.trans (hb2.mono HX2.out.size))
    clear hb2
    go_wp2
    go_ret2
    exact ⟨by rw [HR.out]; rfl, HB2.out⟩
  · rw [if_neg h0] at hR
    have hE0 : ¬ E = 0 := by rw [hE]; omega
    have HR := Lib.hid hR
    clear hp he hB hb0 hE h0 hR
    generalize mwrapL p = x at *
    go_enter Tryz.func11, Tryz.ntmps11
    go_wp2_with (refine wpList_load_row rfl 38 _ rfl w.heap.size rfl 38 (pkV p) (0, 0) _ HPB.out Tryz.underlying38 rfl sizePk ?_)
    refine (HW.out).mono ?_
    rintro e w1 ⟨pv, nv, cv, rfl, hb1, _⟩
    have HB1 := Lib.hid (HB0.out.trans (hb1.mono HB0.out.size))
    clear hb1
    go_wp2
    go_ret2
    exact ⟨by rw [HR.out, HEE.out]; rfl, HB1.out.alloc HB1.out.size _⟩
theorem tiny_parse (t : Tx) : tiny (parseL t).1 := by
  by_cases h : (parseL t).2.2 = 0
  · obtain ⟨_, h2, _⟩ := parse_ok h
    have hi := run_inv t s0 0 good_s0 (by rw [h2])
    rw [h2] at hi
    refine ⟨hi.1.2.1, fun s hs => ?_⟩
    have := (hi.1.1 s hs).2.2
    simp only [shortS, shortE, Bool.and_eq_true, decide_eq_true_eq, List.all_eq_true] at this
    exact this
  · rw [parse_bad h]; exact ⟨by simp, fun s hs => by simp at hs⟩
theorem tiny_wparse (t : Tx) : tiny (wparseL t).1.segs ∧ (wparseL t).1.from_ < 256 ∧ (wparseL t).1.to_ < 256 := by
  have h0 : tiny (Wr.nil).segs ∧ (Wr.nil).from_ < 256 ∧ (Wr.nil).to_ < 256 := ⟨⟨by simp [Wr.nil], fun s hs => by cases hs⟩, by simp [Wr.nil], by simp [Wr.nil]⟩
  by_cases h : (parseL t).2.2 = 0
  · rw [wparse_ok h]
    have ht := tiny_parse t
    rcases hq : openL (parseL t).1 with ⟨x, e⟩
    by_cases he : e = 0
    · subst he
      obtain ⟨h1, h2, h3, _, _⟩ := open_inv hq
      refine ⟨?_, by show x.from_ < 256; omega, by show x.to_ < 256; omega⟩
      show tiny x.segs
      rw [h1] at ht
      have hm : ∀ s ∈ x.segs, s ∈ closeL x.from_ x.to_ x.ref x.segs := fun s hs => by simp [closeL, hs]
      exact ⟨by have := ht.1; rw [close_len] at this; omega, fun s hs => ht.2 s (hm s hs)⟩
    · have : x = Wr.nil := by
        unfold openL at hq
        repeat' split at hq
        all_goals first | (cases hq; rfl) | (cases hq; exact absurd rfl he)
      rw [this]; exact h0
  · rw [wparse_bad h]; exact h0
set_option maxRecDepth 100000 in
set_option maxHeartbeats 1600000 in
theorem mparse_any (t : Tx) (B : Nat) (w : World) (he : Env B w) (hB : B ≤ w.heap.size) : Calls Tryz.prog 16 #[str t] w (PackP (mparseL t) w) := by
  obtain ⟨R, hR⟩ : ∃ R, R = mparseL t := ⟨_, rfl⟩
  rw [← hR]
  unfold mparseL at hR
  obtain ⟨ht1, ht2, ht3⟩ := tiny_wparse t
  have hb0 : Below w.heap.size w (w.alloc (.cells pk0 38)) := (Below.refl _ _).alloc (Nat.le_refl _) _
  have hd0 : (w.alloc (.cells pk0 38)).heap[w.heap.size]? = some (.cells pk0 38 (0, 0)) := at_last _ _
  obtain ⟨E, hE⟩ : ∃ E : Int, E = ((wparseL t).2 : Int) := ⟨_, rfl⟩
  have HW := Lib.hid ((wparse_any t (w.alloc (.cells pk0 38))).mono (R' := fun e w' => ∃ pv nv cv F, e = .returned (.tuple #[.agg #[.int .u8 ((wparseL t).1.from_ : Int), .int .u8 ((wparseL t).1.to_ : Int), .int .u64 ((wparseL t).1.ref : Int), .slice pv nv cv], .int .i64 E]) ∧ Below (w.alloc (.cells pk0 38)).heap.size (w.alloc (.cells pk0 38)) w' ∧ SegsF w' F (.slice pv nv cv) (wparseL t).1.segs ∧ ∀ b, F b → b < w'.heap.size) (fun e w' ⟨v, F, h1, h2, h3, h4⟩ => by
    obtain ⟨pv, cv, rfl⟩ := segs_slice h2
    exact ⟨pv, _, cv, F, by rw [h1, hE], h4, h2, fun b hb => (h3 b hb).2⟩))
  have HE := Lib.hid he
  have HBB := Lib.hid hB
  have HB0 := Lib.hid hb0
  have HD0 := Lib.hid hd0
  have HEE := Lib.hid hE
  by_cases h0 : (wparseL t).2 = 0
  · rw [if_pos h0] at hR
    obtain rfl : E = 0 := by rw [hE, h0]; rfl
    have HR := Lib.hid hR
    have HPK := Lib.hid (fun (v : Value) W (h : Below w.heap.size w W) (hv : SegsF W (· < W.heap.size) v (wparseL t).1.segs) => packet_any (wparseL t).1 v B W ht2 ht3 hv (by have := ht1.1; omega) ht1.el ht1.sz (he.on (h.mono hB)) (Nat.le_trans hB h.size))
    clear he hB hb0 hd0 hE h0 hR ht1 ht2 ht3
    generalize wparseL t = x at *
    go_enter Tryz.func16, Tryz.ntmps16
    go_wp2_with fail
    refine (HW.out).mono ?_
    rintro e w1 ⟨pv, nv, cv, F, rfl, hb1, hv1, hF1⟩
    have HB1 := Lib.hid (HB0.out.trans (hb1.mono HB0.out.size))
    have hx2 : Below w.heap.size w (w1.alloc (.cells (wrV x.1.from_ x.1.to_ x.1.ref (.slice pv nv cv)) 74)) := HB1.out.alloc HB1.out.size _
    have hd1 := (hb1.block _ (lt_of_heap HD0.out)).trans HD0.out
    have HD1 := Lib.hid ((Below.heap_alloc w1 (.cells (wrV x.1.from_ x.1.to_ x.1.ref (.slice pv nv cv)) 74) _ (lt_of_heap hd1)).trans hd1)
    have HPP := Lib.hid (HPK.out _ _ hx2 (hv1.kept (fun b hb => ⟨by rw [size_a]; have := hF1 b hb; omega, Below.heap_alloc _ _ _ (hF1 b hb)⟩)))
    have HX2 := Lib.hid hx2
    clear hb1 hv1 hx2 hF1 hd1
    go_wp2_with fail
    refine (HPP.out).mono ?_
    rintro e w2 ⟨rfl, hb2⟩
    have HB2 := Lib.hid (HX2.out.trans (hb2.mono HX2.out.size))
    have HD2 := Lib.hid ((hb2.block _ (lt_of_heap HD1.out)).trans HD1.out)
    clear hb2
    go_wp2_with (refine wpList_store_row rfl 38 _ _ rfl w.heap.size (pkV (packL x.1).1) rfl rfl 38 pk0 HD2.out sizePk rfl (pkv_one _) ?_)
    refine bodyPost_ret (results_cell_tmp_row rfl _ _ w.heap.size 38 (pkV (packL x.1).1) (0, 0) _ rfl (setRow_heap _ _ _ _ _ _ HD2.out) Tryz.underlying38 rfl sizePk) rfl ?_
    exact ⟨by rw [HR.out]; rfl, below_setR HB2.out (by omega) _⟩
  · rw [if_neg h0] at hR
    have hE0 : ¬ E = 0 := by rw [hE]; omega
    have HR := Lib.hid hR
    clear he hB hb0 hd0 hE h0 hR ht1 ht2 ht3
    generalize wparseL t = x at *
    go_enter Tryz.func16, Tryz.ntmps16
    go_wp2_with fail
    refine (HW.out).mono ?_
    rintro e w1 ⟨pv, nv, cv, F, rfl, hb1, _, _⟩
    have HB1 := Lib.hid (HB0.out.trans (hb1.mono HB0.out.size))
    have hx2 : Below w.heap.size w (w1.alloc (.cells (wrV x.1.from_ x.1.to_ x.1.ref (.slice pv nv cv)) 74)) := HB1.out.alloc HB1.out.size _
    have hd1 := (hb1.block _ (lt_of_heap HD0.out)).trans HD0.out
    have HD1 := Lib.hid ((Below.heap_alloc w1 (.cells (wrV x.1.from_ x.1.to_ x.1.ref (.slice pv nv cv)) 74) _ (lt_of_heap hd1)).trans hd1)
    have HX2 := Lib.hid hx2
    clear hb1 hx2 hd1
    go_wp2_with (refine wpList_store_row rfl 38 _ _ rfl w.heap.size pk0 rfl rfl 38 pk0 HD1.out sizePk rfl pk0_one ?_)
    refine bodyPost_ret (results_cell_tmp_row rfl _ _ w.heap.size 38 pk0 (0, 0) _ rfl (setRow_heap _ _ _ _ _ _ HD1.out) Tryz.underlying38 rfl sizePk) rfl ?_
    exact ⟨by rw [HR.out]; show _ = Ending.returned (.tuple #[.agg pk0, .int .i64 ((x.2 : Nat) : Int)]); rw [← HEE.out]; rfl, below_setR HX2.out (by omega) _⟩
end Go.Proofs.YtgaoeljdlpemnaaGreatDoor
namespace Go.Proofs.YtgaoeljdlpemnaaGreatDoor
open Go.RowKit Go.Edi Go.Wrap

theorem wprint_bad {x : Wr} (h : ¬ (wprintL x).2 = 0) : (wprintL x).1 = [] := by
  unfold wprintL at *
  split
  · rfl
  · split
    · rfl
    · rename_i h1 h2
      rw [if_neg h1, if_neg h2] at h
      exact printL_bad _ h
theorem wprint_ok {x : Wr} (h : (wprintL x).2 = 0) : x.from_ ≤ 7 ∧ x.to_ ≤ 7 ∧ x.segs.length ≤ 62 ∧ wprintL x = printL (closeL x.from_ x.to_ x.ref x.segs) ∧ printL (closeL x.from_ x.to_ x.ref x.segs) = ((wprintL x).1, 0) := by
  unfold wprintL at *
  split at h
  · cases h
  · rename_i h1
    split at h
    · cases h
    · rename_i h2
      rw [if_neg h1, if_neg h2]
      exact ⟨by omega, by omega, by omega, rfl, Prod.ext rfl h⟩
theorem wback {x : Wr} (h : (wprintL x).2 = 0) (hr : x.ref < 18446744073709551616) : wparseL (wprintL x).1 = (x, 0) := by
  obtain ⟨h1, h2, h3, _, h5⟩ := wprint_ok h
  have hb := back _ _ h5
  rw [wparse_ok (by rw [hb]), hb]
  exact open_close h1 h2 hr (by omega)
theorem wparse_nil {t : Tx} (h : ¬ (wparseL t).2 = 0) : (wparseL t).1 = Wr.nil := by
  by_cases h0 : (parseL t).2.2 = 0
  · rw [wparse_ok h0] at h ⊢
    generalize (parseL t).1 = l at *
    by_cases h2 : 2 ≤ l.length
    · cases hh : headV (l.getD 0 ⟨[], []⟩) with
      | none => rw [openL_head hh]
      | some v =>
        obtain ⟨f, t, r⟩ := v
        cases ht : tailV (l.getD (l.length - 1) ⟨[], []⟩) with
        | none => rw [openL_tail ht]
        | some v =>
          obtain ⟨c, a⟩ := v
          by_cases hc : c = l.length - 2
          · by_cases ha : a = r
            · rw [openL_ok h2 hh ht hc ha] at h; exact absurd rfl h
            · rw [openL_ref h2 hh ht hc ha]
          · rw [openL_count h2 hh ht hc]
    · rw [openL_short h2]
  · rw [wparse_bad h0]
theorem open_ok {t : Tx} (h : (wparseL t).2 = 0) : (wparseL t).1.from_ ≤ 7 ∧ (wparseL t).1.to_ ≤ 7 ∧ (wparseL t).1.ref < 18446744073709551616 ∧ sane (wparseL t).1.segs ∧ (wparseL t).1.segs.length ≤ 62 ∧ (parseL t).2.2 = 0 ∧ (parseL t).1 = closeL (wparseL t).1.from_ (wparseL t).1.to_ (wparseL t).1.ref (wparseL t).1.segs := by
  by_cases h0 : (parseL t).2.2 = 0
  · rw [wparse_ok h0] at h ⊢
    obtain ⟨e1, e2, e3, e4, e5⟩ := open_inv (l := (parseL t).1) (x := (openL (parseL t).1).1) (Prod.ext rfl h)
    have hsn := sane_parse t
    have hl : (parseL t).1.length ≤ 64 := by
      obtain ⟨_, h2, _⟩ := parse_ok h0
      have hi := run_inv t s0 0 good_s0 (by rw [h2])
      rw [h2] at hi
      exact hi.1.2.1
    refine ⟨e2, e3, e4, ⟨by omega, fun s hs => hsn.2 s (by rw [e1]; exact List.mem_cons_of_mem _ (List.mem_append_left _ hs))⟩, by omega, h0, e1⟩
  · rw [wparse_bad h0] at h; exact absurd h h0
theorem wback2 {t : Tx} (h : (wparseL t).2 = 0) : wprintL (wparseL t).1 = (flt t, 0) := by
  obtain ⟨h1, h2, h3, _, h5, h6, h7⟩ := open_ok h
  unfold wprintL
  rw [if_neg (by omega), if_neg (by omega), ← h7]
  exact back2 h6
theorem segs_nil0 (w : World) (F : Nat → Prop) (p : Option Addr) (c : Nat) : SegsF w F (.slice p 0 c) [] := ⟨[], ⟨p, c, rfl, Nat.zero_le _, fun h => absurd h (by simp)⟩, True.intro⟩
end Go.Proofs.YtgaoeljdlpemnaaGreatDoor
