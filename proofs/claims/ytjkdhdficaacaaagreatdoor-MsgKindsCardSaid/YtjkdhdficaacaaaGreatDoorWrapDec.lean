/- The document's own digits of a number. -/
import Derived.Test.YtjkdhdficaacaaaGreatDoorMgMay
import Derived.Test.YtjkdhdficaacaaaGreatDoorMgTlW
import Derived.Test.YtjkdhdficaacaaaGreatDoorWrapP
import Derived.Test.YtjkdhdficaacaaaGreatDoorWrapBkQ
import Derived.Test.YtjkdhdficaacaaaGreatDoorMgPrP
import Derived.Laws.Concat
import Derived.Laws.IdiomStrings
import Derived.Laws.DeepStrings4
import Derived.Deep.QuietTactic
import Derived.BigQuiet
import Derived.Deep.RegionLaw
/- Another kind's number in a packet's interchange: when it is read (no walk). -/
namespace Go.Proofs.YtjkdhdficaacaaaGreatDoor
open Go.RowKit Go.Edi Go.Wrap

def kdL (l : List Sg) (k : Nat) : List Sg := sgL kindT [digs k] :: l.tail
theorem sdig_nat (k : Nat) : sdig (k : Int) = digs k := by
  show Lib.itoa (k : Int) = _
  unfold Lib.itoa
  rw [if_neg (by omega), Int.toNat_natCast]
theorem flags {k : Nat} {f : List Fd} (h : fdsL k = some f) :
    (f = [] ∧ hC k = false ∧ hA k = false ∧ hD k = false) ∨ (f = [.cpn] ∧ hC k = true ∧ hA k = false ∧ hD k = false) ∨ (f = [.cod] ∧ hC k = false ∧ hA k = false ∧ hD k = true) ∨
    (f = [.amt] ∧ hC k = false ∧ hA k = true ∧ hD k = false) ∨ (f = [.amt, .cod] ∧ hC k = false ∧ hA k = true ∧ hD k = true) := by
  have hk := fds_kind h
  rcases (by omega : k = 1 ∨ k = 2 ∨ k = 3 ∨ k = 4 ∨ k = 5 ∨ k = 6 ∨ k = 7 ∨ k = 8) with rfl | rfl | rfl | rfl | rfl | rfl | rfl | rfl <;> cases h <;> simp [hC, hA, hD]
theorem flags_iff {k j : Nat} {f g : List Fd} (h : fdsL k = some f) (h' : fdsL j = some g) : f = g ↔ (hC k = hC j ∧ hA k = hA j ∧ hD k = hD j) := by
  rcases flags h with ⟨rfl, a, b, c⟩ | ⟨rfl, a, b, c⟩ | ⟨rfl, a, b, c⟩ | ⟨rfl, a, b, c⟩ | ⟨rfl, a, b, c⟩ <;> rcases flags h' with ⟨rfl, d, e, i⟩ | ⟨rfl, d, e, i⟩ | ⟨rfl, d, e, i⟩ | ⟨rfl, d, e, i⟩ | ⟨rfl, d, e, i⟩ <;> rw [a, b, c, d, e, i] <;> simp
theorem is_iff (k : Nat) : hI k = true ↔ ∃ f, fdsL k = some f := by
  constructor
  · intro h
    have hk : 1 ≤ k ∧ k ≤ 8 := by simpa [hI] using h
    rcases (by omega : k = 1 ∨ k = 2 ∨ k = 3 ∨ k = 4 ∨ k = 5 ∨ k = 6 ∨ k = 7 ∨ k = 8) with rfl | rfl | rfl | rfl | rfl | rfl | rfl | rfl <;> exact ⟨_, rfl⟩
  · rintro ⟨f, h⟩
    have := fds_kind h
    simp [hI]; omega
theorem nums_other (m : Ms) {f g : Fd} (h : tagL f ≠ tagL g) : numsOf (fldS m f) (tagL g) = none := by
  have e : (fldS m f).tag = tagL f := rfl
  unfold numsOf elsOf
  rw [e, if_neg h]
  rfl
theorem ar_tag (m a : Ms) {f g : Fd} {r s : List Fd} (h : tagL f ≠ tagL g) : arRead a (g :: r) ((f :: s).map (fldS m)) = none := by
  show arRead a (g :: r) (fldS m f :: s.map (fldS m)) = none
  rw [ar_step, nums_other m h]
theorem ar_lens (m a : Ms) {f g : List Fd} (h : f.length ≠ g.length) : arRead a g (f.map (fldS m)) = none := by
  cases e : arRead a g (f.map (fldS m)) with
  | none => rfl
  | some b => have := ar_len e; rw [List.length_map] at this; exact absurd this h
theorem ar_other (m a : Ms) {f g : List Fd} (hf : f = [] ∨ f = [.cpn] ∨ f = [.cod] ∨ f = [.amt] ∨ f = [.amt, .cod]) (hg : g = [] ∨ g = [.cpn] ∨ g = [.cod] ∨ g = [.amt] ∨ g = [.amt, .cod]) : f = g ∨ arRead a g (f.map (fldS m)) = none := by
  rcases hf with rfl | rfl | rfl | rfl | rfl <;> rcases hg with rfl | rfl | rfl | rfl | rfl <;>
    first | exact .inl rfl | exact .inr (ar_lens m a (by decide)) | exact .inr (ar_tag m a (by decide))
/-- what a packet that is no Ack tells -/
theorem told_fds {p : Pk} (hp : p.Ty) (h : (mwrapL p).2 = 0) (ha : p.ack = false) :
    ∃ fds, fdsL p.m.kind = some fds ∧ (Number.textL p.m.car p.m.ser).2 = 0 ∧ mayL p.m fds = true ∧ p.from_ < 8 ∧ p.to_ < 8 ∧
      mwrapL p = (⟨p.from_, p.to_, p.num, sgL kindT [sdig p.m.kind] :: sgL keyT [(Number.textL p.m.car p.m.ser).1, sdig p.m.at_] :: fds.map (fldS p.m)⟩, 0) := by
  obtain ⟨h1, h2, h3, h4⟩ := mwrap_ok h
  obtain ⟨f, t, n, q, m⟩ := p
  simp only at ha
  subst ha
  have e : toldL ⟨f, t, n, false, m⟩ = toldMs m := rfl
  rw [e] at h3 h4
  rw [h4]
  simp only at h1 h2 ⊢
  rw [told_shape] at h3 ⊢
  cases hf : fdsL m.kind with
  | none => rw [hf] at h3; cases h3
  | some fds =>
    rw [hf] at h3
    simp only at h3 ⊢
    by_cases ht : (Number.textL m.car m.ser).2 = 0
    · rw [if_pos ht] at h3 ⊢
      by_cases hm : mayL m fds = true
      · rw [if_pos hm] at h3 ⊢
        exact ⟨fds, rfl, ht, hm, h1, h2, rfl⟩
      · rw [if_neg hm] at h3; cases h3
    · rw [if_neg ht] at h3
      exact absurd h3 ht
theorem kinds_pack {p : Pk} (hp : p.Ty) (h : (mwrapL p).2 = 0) (ha : p.ack = false) (k : Nat) (hk : k < 256) :
    packL ⟨(mwrapL p).1.from_, (mwrapL p).1.to_, (mwrapL p).1.ref, kdL (mwrapL p).1.segs k⟩ =
      if hI k = true then (if hC p.m.kind = hC k ∧ hA p.m.kind = hA k ∧ hD p.m.kind = hD k then (⟨p.from_, p.to_, p.num, false, { p.m with kind := k }⟩, 0) else (.zero, 101)) else (.zero, 100) := by
  obtain ⟨fds, hf, ht, hmay, h1, h2, h4⟩ := told_fds hp h ha
  rw [h4]
  obtain ⟨f, t, n, q, m⟩ := p
  simp only at ha hf ht hmay h1 h2 ⊢
  subst ha
  have hmT := hp.m
  simp only at hmT
  unfold packL
  rw [if_neg (by simp only; omega)]
  simp only [kdL, List.tail_cons]
  rw [if_neg (by show ¬ kindT = ackT; decide)]
  have hko : kindOf (sgL kindT [digs k]) = (fdsL k).map fun f => (k, f) := by
    unfold kindOf
    have e : numsOf (sgL kindT [digs k]) kindT = some [(k : Int)] := by
      have := numsOf_sg (ns := [(k : Int)]) kindT (fun n hn => by
        simp only [List.mem_singleton] at hn
        unfold i64B; omega)
      simpa [sdig_nat] using this
    rw [e]
    simp only
    rw [if_pos ((inB_iff _ _ _).2 (by omega)), Int.toNat_natCast]
  have hmy : Number.may m.car m.ser := by
    rw [Number.text_ok] at ht
    by_cases hq : Number.may m.car m.ser
    · exact hq
    · rw [if_neg hq] at ht; cases ht
  have hmD := (may_iff hmT hf).1 hmay
  have hke : keyOf' { Ms.zero with kind := k } (sgL keyT [(Number.textL m.car m.ser).1, sdig m.at_]) = (some (bareL { m with kind := k }), 0) := by
    have h4' := hmD.1
    unfold keyOf'
    rw [elsOf_sg]
    simp only
    rw [Number.text_in hmy, Number.parse_full hmy]
    simp only [if_true]
    rw [valL_itoa (show i64B (m.at_ : Int) by unfold i64B; omega)]
    simp only
    rw [if_pos ((inB_iff _ _ _).2 (by omega)), Int.toNat_natCast]
    rfl
  cases hg : fdsL k with
  | none =>
    have hi : ¬ hI k = true := fun h => by obtain ⟨f, hf⟩ := (is_iff k).1 h; rw [hg] at hf; cases hf
    rw [if_neg hi]
    unfold readMs
    rw [hko, hg]
    rfl
  | some g =>
    rw [if_pos ((is_iff k).2 ⟨g, hg⟩)]
    unfold readMs
    rw [hko, hg]
    simp only [Option.map_some]
    rw [hke]
    simp only
    by_cases hfg : fds = g
    · rw [if_pos ((flags_iff hf hg).1 hfg)]
      subst hfg
      have hm' : Ms.Ty { m with kind := k } := ⟨hk, hmT.car, hmT.ser, hmT.at_, hmT.lc, hmT.lf, hmT.lw, hmT.val, hmT.st, hmT.non, hmT.am, hmT.code⟩
      have hre : rebL { m with kind := k } (bareL { m with kind := k }) fds = some { m with kind := k } := (may_rebP.1 ((may_iff hm' hg).2 hmD)).2
      have har := ar_reb hm' fds (bareL { m with kind := k })
      rw [hre] at har
      have e : fds.map (fldS m) = fds.map (fldS { m with kind := k }) := by
        apply List.map_congr_left
        intro f _
        cases f <;> rfl
      rw [e, har]
    · rw [if_neg (fun h => hfg ((flags_iff hf hg).2 h))]
      rcases ar_other m (bareL { m with kind := k }) (fds_cases hf) (fds_cases hg) with h | h
      · exact absurd h hfg
      · rw [h]
end Go.Proofs.YtjkdhdficaacaaaGreatDoor
/- Contract: what a packet that is no Ack tells, in memory of its own. -/
namespace Go.Proofs.YtjkdhdficaacaaaGreatDoor
open Go.RowKit Go.Edi Go.Wrap Go.Lib

theorem TmI.moved {w w1 wr w2 : World} {F : Nat → Prop} {segs : List Sg} {v : Value} (h : TmI w1 F segs v wr) (hb1 : w.heap.size ≤ w1.heap.size) (hs : wr.heap.size ≤ w2.heap.size) (hk : ∀ b, w1.heap.size ≤ b → b < wr.heap.size → w2.heap[b]? = wr.heap[b]?) (hbl : Below w.heap.size w w2) : TmI w F segs v w2 := by
  obtain ⟨xs, ⟨hl, hr⟩, h2⟩ := h.sg
  refine ⟨⟨xs, ⟨hl, ?_⟩, h2.kept (fun b hb => ⟨hb, hk b (h.fz b hb).1 (h.fz b hb).2.1⟩)⟩, fun b hb => ⟨Nat.le_trans hb1 (h.fz b hb).1, Nat.lt_of_lt_of_le (h.fz b hb).2.1 hs, (h.fz b hb).2.2⟩, hbl⟩
  rcases hr with hr | ⟨g, cap, cur, e1, e2, e3, e4⟩
  · exact .inl hr
  · exact .inr ⟨g, cap, cur, e1, Nat.le_trans hb1 e2, (hk g e2 (lt_of_heap e3)).trans e3, e4⟩
set_option maxRecDepth 100000 in
set_option maxHeartbeats 3200000 in
theorem told_own (p : Pk) (ha : p.ack = false) (B : Nat) (w : World) (hp : p.Ty) (he : Env B w) (hB : B ≤ w.heap.size) : Calls Tryz.prog 44 #[.agg (pkV p)] w (ToldO (toldMs p.m) w) := by
  obtain ⟨f, t, n, a, m⟩ := p
  simp only at ha
  subst ha
  have hm := hp.m
  simp only at hm ⊢
  have hb0 : Below w.heap.size w (w.alloc (.cells (pkV ⟨f, t, n, false, m⟩) 38)) := (Below.refl _ _).alloc (Nat.le_refl _) _
  have h := toldMs_own m B _ hm (he.on (hb0.mono hB)) (Nat.le_trans hB hb0.size)
  simp only [msV] at h
  have HB0 := Lib.hid hb0
  have HT := Lib.hid h
  simp only [pkV, msV, preV, List.cons_append, List.nil_append] at *
  clear hp he hB hm hb0 h
  go_enter Tryz.func44, Tryz.ntmps44
  go_wp2_with fail
  refine (HT.out).mono ?_
  rintro e w1 ⟨hb1, v, F, rfl, hv⟩
  have HB1 := Lib.hid (HB0.out.trans (hb1.mono HB0.out.size))
  have HV := Lib.hid (hv.moved HB0.out.size (Nat.le_refl _) (fun _ _ _ => rfl) HB1.out)
  clear hb1 hv
  go_wp2
  go_ret2
  exact ⟨HB1.out, v, F, rfl, HV.out⟩
set_option maxRecDepth 100000 in
set_option maxHeartbeats 3200000 in
theorem mwrap_own (p : Pk) (ha : p.ack = false) (h0 : (mwrapL p).2 = 0) (B : Nat) (w : World) (hp : p.Ty) (he : Env B w) (hB : B ≤ w.heap.size) :
    Calls Tryz.prog 15 #[.agg (pkV p)] w fun e w' => Below w.heap.size w w' ∧ ∃ pv cv F, e = .returned (.tuple #[.agg (wrV (mwrapL p).1.from_ (mwrapL p).1.to_ (mwrapL p).1.ref (.slice pv (mwrapL p).1.segs.length cv)), .int .i64 0]) ∧ TmI w F (mwrapL p).1.segs (.slice pv (mwrapL p).1.segs.length cv) w' := by
  obtain ⟨k1, k2, k3, k4⟩ := mwrap_ok h0
  rw [k4]
  have HA := Lib.hid (fun W => areC_any p.from_ p.to_ hp.from_ hp.to_ W)
  rw [carr_b] at HA
  have hd : ((w.alloc (.cells (pkV p) 38)).alloc (.cells wr0 41)).heap[w.heap.size + 1]? = some (.cells wr0 41 (0, 0)) := heap_new _ _ _ (by simp only [size_a])
  have hpk : ((w.alloc (.cells (pkV p) 38)).alloc (.cells wr0 41)).heap[w.heap.size]? = some (.cells (pkV p) 38 (0, 0)) := heap_past _ _ _ (by simp only [size_a]; omega) (heap_new _ _ _ rfl)
  have hb0 : Below w.heap.size w ((w.alloc (.cells (pkV p) 38)).alloc (.cells wr0 41)) := ((Below.refl _ _).alloc (Nat.le_refl _) _).alloc (by simp only [size_a]; omega) _
  have htd := told_own p ha B _ hp (he.on (hb0.mono hB)) (Nat.le_trans hB hb0.size)
  have e : toldL p = toldMs p.m := by unfold toldL; rw [ha]; rfl
  rw [e] at k3
  rw [e]
  have HTE := Lib.hid (htd.mono (R' := fun e w' => ∃ pv cv F, e = .returned (.tuple #[.slice pv (toldMs p.m).1.length cv, .int .i64 0]) ∧ Below ((w.alloc (.cells (pkV p) 38)).alloc (.cells wr0 41)).heap.size ((w.alloc (.cells (pkV p) 38)).alloc (.cells wr0 41)) w' ∧ TmI ((w.alloc (.cells (pkV p) 38)).alloc (.cells wr0 41)) F (toldMs p.m).1 (.slice pv (toldMs p.m).1.length cv) w') (fun e w' ⟨h1, v, F, h2, h3⟩ => by
    obtain ⟨xs, h4, h5⟩ := h3.sg
    obtain ⟨pv, cv, rfl⟩ := own_slice h4
    exact ⟨pv, cv, F, by rw [h2, k3]; rfl, h1, h3⟩))
  have HD := Lib.hid hd
  have HPK := Lib.hid hpk
  have HB0 := Lib.hid hb0
  obtain ⟨f, t, n, a, m⟩ := p
  simp only at HA k1 k2 ha
  subst ha
  have h8 : ¬ (8 ≤ f ∨ 8 ≤ t) := by omega
  rw [decide_eq_false h8] at HA
  have HZ := Lib.hid (size_a w (.cells (pkV ⟨f, t, n, false, m⟩) 38))
  simp only [pkV, msV, preV, List.cons_append, List.nil_append, Bool.not_false] at *
  clear hp he hB hd hpk hb0 h8 htd e k1 k2 k3 k4 h0
  go_enter Tryz.func15, Tryz.ntmps15
  go_wp2_with (first
    | (go_at_call 43; refine (HA.out _).mono ?_; rintro e w2 ⟨rfl, rfl⟩)
    | (go_at_call 44; refine (HTE.out).mono ?_; rintro e w5 ⟨pv, cv, F, rfl, hb5, hv5⟩
       have HD5 := Lib.hid ((hb5.block _ (lt_of_heap HD.out)).trans HD.out)
       have HP5 := (hb5.block _ (lt_of_heap HPK.out)).trans HPK.out
       have q0 := cell_of_arr HP5 0
       have q1 := cell_of_arr HP5 1
       have q3 := cell_of_arr HP5 3
       simp only [List.getElem?_toArray, List.getElem?_cons_zero, List.getElem?_cons_succ] at q0 q1 q3
       have HB5 := Lib.hid (HB0.out.trans (hb5.mono HB0.out.size))
       have HV5 := Lib.hid hv5
       clear hb5 HP5 hv5)
    | (refine wpList_store_row rfl 41 _ _ rfl (w.heap.size + 1) (wrV f t n (.slice pv (toldMs m).1.length cv)) rfl rfl 41 wr0 HD5.out sizeWr rfl (wrv_one _ _ _ _ _ _) ?_))
  refine bodyPost_ret (results_cell_tmp_row rfl _ _ (w.heap.size + 1) 41 (wrV f t n (.slice pv (toldMs m).1.length cv)) (0, 0) _ rfl (setRow_heap _ _ _ _ _ _ HD5.out) Tryz.underlying41 rfl sizeWr) rfl ?_
  have hbz := below_setR HB5.out (show w.heap.size ≤ w.heap.size + 1 by omega) (wrV f t n (.slice pv (toldMs m).1.length cv))
  refine ⟨hbz, pv, cv, F, rfl, HV5.out.moved (by simp only [size_a]; omega) (by rw [size_setRow]; exact Nat.le_refl _) (fun b hb _ => ?_) hbz⟩
  simp only [size_a] at hb
  show (w5.heap.modify (w.heap.size + 1) _)[b]? = _
  rw [Array.getElem?_modify, if_neg (by omega)]
end Go.Proofs.YtjkdhdficaacaaaGreatDoor
namespace Go.Proofs.YtjkdhdficaacaaaGreatDoor
open Go.RowKit Go.Edi Go.Wrap

/-- a digit's byte -/
def dgc (d : Nat) : UInt8 := UInt8.ofNat (48 + d)
theorem dx0 : ({ data := #[48, 49, 50, 51, 52, 53, 54, 55, 56, 57] } : ByteArray).extract 0 (0 + 1) = tx [dgc 0] := by kernel_rfl
theorem dx1 : ({ data := #[48, 49, 50, 51, 52, 53, 54, 55, 56, 57] } : ByteArray).extract 1 (1 + 1) = tx [dgc 1] := by kernel_rfl
theorem dx2 : ({ data := #[48, 49, 50, 51, 52, 53, 54, 55, 56, 57] } : ByteArray).extract 2 (2 + 1) = tx [dgc 2] := by kernel_rfl
theorem dx3 : ({ data := #[48, 49, 50, 51, 52, 53, 54, 55, 56, 57] } : ByteArray).extract 3 (3 + 1) = tx [dgc 3] := by kernel_rfl
theorem dx4 : ({ data := #[48, 49, 50, 51, 52, 53, 54, 55, 56, 57] } : ByteArray).extract 4 (4 + 1) = tx [dgc 4] := by kernel_rfl
theorem dx5 : ({ data := #[48, 49, 50, 51, 52, 53, 54, 55, 56, 57] } : ByteArray).extract 5 (5 + 1) = tx [dgc 5] := by kernel_rfl
theorem dx6 : ({ data := #[48, 49, 50, 51, 52, 53, 54, 55, 56, 57] } : ByteArray).extract 6 (6 + 1) = tx [dgc 6] := by kernel_rfl
theorem dx7 : ({ data := #[48, 49, 50, 51, 52, 53, 54, 55, 56, 57] } : ByteArray).extract 7 (7 + 1) = tx [dgc 7] := by kernel_rfl
theorem dx8 : ({ data := #[48, 49, 50, 51, 52, 53, 54, 55, 56, 57] } : ByteArray).extract 8 (8 + 1) = tx [dgc 8] := by kernel_rfl
theorem dx9 : ({ data := #[48, 49, 50, 51, 52, 53, 54, 55, 56, 57] } : ByteArray).extract 9 (9 + 1) = tx [dgc 9] := by kernel_rfl
theorem digit_ex (d : Nat) (hd : d < 10) : ({ data := #[48, 49, 50, 51, 52, 53, 54, 55, 56, 57] } : ByteArray).extract d (d + 1) = tx [dgc d] := by
  match d, hd with
  | 0, _ => exact dx0
  | 1, _ => exact dx1
  | 2, _ => exact dx2
  | 3, _ => exact dx3
  | 4, _ => exact dx4
  | 5, _ => exact dx5
  | 6, _ => exact dx6
  | 7, _ => exact dx7
  | 8, _ => exact dx8
  | 9, _ => exact dx9
theorem digit_slice (d : Nat) (hd : d < 10) (w : World) : (Instr.slice 9 (.string { data := #[48, 49, 50, 51, 52, 53, 54, 55, 56, 57] }) (some (.int .u64 (d : Int))) (some (.int .u64 ((d : Int) + 1))) none).run Tryz.prog w = .ok (str [dgc d]) w := by
  have hsz : ({ data := #[48, 49, 50, 51, 52, 53, 54, 55, 56, 57] } : ByteArray).size = 10 := rfl
  rw [run_slice_string_if (P := Tryz.prog) w 9 _ .u64 .u64 (d : Int) ((d : Int) + 1) Tryz.underlying9, if_pos (by rw [hsz]; omega)]
  rw [if_pos (by omega)]
  rw [show ((d : Int)).toNat = d from rfl, show ((d : Int) + 1).toNat = d + 1 by omega, digit_ex d hd]
set_option maxRecDepth 100000 in
set_option maxHeartbeats 1600000 in
theorem decimal_q (u : Nat) : ∀ (w : World), u < 18446744073709551616 → Calls Tryz.prog 26 #[.int .u64 (u : Int)] w fun e w' => e = .returned (str (digs u)) ∧ ∃ m, w' = w.drewN m := by
  induction u using Nat.strongRecOn with
  | _ u ih =>
    intro w hu
    have hu0 : (0 : Int) ≤ (u : Int) := Int.natCast_nonneg _
    by_cases h : (u : Int) < 10
    · have HD := Lib.hid (show digs u = [dgc u] from digs_small (show u < 10 by omega))
      have hsl := digit_slice u (by omega)
      clear ih
      go_enter Tryz.func26, Tryz.ntmps26
      go_wp2
      go_ret
      rw [HD.out]
      exact ⟨rfl, 0, by rw [World.drewN_zero]⟩
    · obtain ⟨q, hq⟩ : ∃ q, q = u / 10 := ⟨_, rfl⟩
      obtain ⟨d, hd⟩ : ∃ d, d = u % 10 := ⟨_, rfl⟩
      have HD := Lib.hid (show digs u = digs q ++ [dgc d] by rw [hq, hd]; exact digs_big (show ¬ u < 10 by omega))
      have HI := Lib.hid (fun w => ih q (by omega) w (by omega))
      have hl := digs_len q (by omega)
      have hsz : (tx (digs q)).size = (digs q).length := by simp [tx, ByteArray.size]
      have hz : ((digs q).length : Int) ≤ 20 := by omega
      have hq2 : (u : Int) / 10 = (q : Int) := by omega
      have hd2 : (u : Int) % 10 = (d : Int) := by omega
      have hd3 : (d : Int) < 10 := by omega
      have hd0 : (0 : Int) ≤ (d : Int) := Int.natCast_nonneg _
      have hsl := digit_slice d (by omega)
      have hap := tx_app2 (digs q) [dgc d]
      have hz2 : (tx [dgc d]).size = 1 := rfl
      clear ih hq hd hl
      go_enter Tryz.func26, Tryz.ntmps26
      go_wp2_with fail
      go_quiet ((go_at_call 26; exact Calls.quiet_of (HI.out _)))
      go_wp2
      go_ret
      rw [HD.out]
      exact ⟨rfl, nq, rfl⟩
theorem below_drewN (w : World) (m : Nat) : Below w.heap.size w (w.drewN m) := ⟨rfl, rfl, rfl, Nat.le_refl _, fun _ _ => rfl⟩
theorem decimal_any (u : Nat) (w : World) (hu : u < 18446744073709551616) : Calls Tryz.prog 26 #[.int .u64 (u : Int)] w fun e w' => e = .returned (str (digs u)) ∧ Below w.heap.size w w' := by
  refine (decimal_q u w hu).mono ?_
  rintro e w' ⟨rfl, m, rfl⟩
  exact ⟨rfl, below_drewN w m⟩
end Go.Proofs.YtjkdhdficaacaaaGreatDoor
