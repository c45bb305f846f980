/- Contracts of the steps: lay, read; over bytes. -/
import Derived.Test.YtjdfdihopgceoaaCdF
namespace Go.Proofs.Ytjdfdihopgceoaa.Cd
open Go.RowKit Go.Shelf Go.Dk Go.Jn Go.Cod

theorem app_row (w : World) (t : TypeId) (v u : Value) : (Builtin.append_ #[62, 47] t #[v, u]).run Try.prog w = (Builtin.append_ #[47, 47] t #[v, u]).run Try.prog w := by
  simp [Builtin.append_, run_underlying Try.underlying47, run_underlying Try.underlying62]
theorem wl_cpX {ops : Array Oper} {rest : List Oper} {a : Act} {w w' : World} {Q : Exit → Act → World → Prop} {dst : Option Tmp} {s x : Operand} {t t2 typ : TypeId} {pos : String} {after : Array Edge} (v u v' : Value)
    (hs : a.eval s = v) (hx : a.eval x = u) (hr : (Builtin.copy_ #[t, t2] typ #[v, u]).run Try.prog w = .ok v' w') (hK : wpList Try.prog ops Q rest (a.put dst v') w') :
    wpList Try.prog ops Q (⟨dst, .call { callee := .builtin .copy, args := #[s, x], argTypes := #[t, t2] }, typ, pos, after, none⟩ :: rest) a w := by
  refine wpList_plain rfl fun K hK' => ?_
  unfold Oper.wp execOp
  simp only [resolve, invoke, builtin, Sem.run_bind, Sem.run_pure, Result.andThen_ok, List.map_toArray, List.map_cons, List.map_nil, hs, hx, hr]
  exact hK' _ _ hK
/-- a block of bytes -/
def BkB (w : World) (bk : Nat) (b : By) : Prop := w.heap[bk]? = some (.cells (bc b) 5 (0, 0))
abbrev slB (bk : Nat) (n : Nat) : Value := .slice (some ⟨bk, 0, none⟩) n n
theorem BkB.bys {w : World} {bk : Nat} {b : By} (h : BkB w bk b) : BysF w (· = bk) (slB bk b.length) b :=
  ⟨_, _, rfl, Nat.le_refl _, fun _ => ⟨bk, 0, rfl, rfl, fun j u hu => by rw [Nat.zero_add, cell_of_arr h, bc_get]; exact hu⟩⟩
theorem BkB.cell {w : World} {bk i : Nat} {b : By} (h : BkB w bk b) (hi : i < b.length) : w.cell? ⟨bk, i, none⟩ = some (.int .u8 ((b[i]).toNat : Int)) ∧ w.frozen? ⟨bk, i, none⟩ = false :=
  ⟨by rw [cell_of_arr h, bc_get]; unfold Lib.byteCells; rw [List.getElem?_map, List.getElem?_eq_getElem hi]; rfl, froz_of_arr h i⟩
theorem bc_set (b : By) (i : Nat) (c : UInt8) : (bc b).setIfInBounds i (.int .u8 (c.toNat : Int)) = bc (b.set i c) := by
  unfold bc Lib.byteCells; rw [List.map_set]; simp
theorem BkB.put {w : World} {bk i : Nat} {b : By} (h : BkB w bk b) (c : UInt8) : BkB (w.setCell ⟨bk, i, none⟩ (.int .u8 (c.toNat : Int))) bk (b.set i c) := by
  unfold BkB; rw [set_heap h, bc_set]
theorem copy_bytes {w : World} {bk n cap : Nat} {b L : By} {p : Option Addr} {F : Nat → Prop} (h : BkB w bk b) (hs : BysF w F (.slice p n cap) L) (hn : n = L.length) (hl : b.length ≤ L.length) (sT : TypeId) :
    ∃ w', (Builtin.copy_ #[47, sT] 3 #[slB bk b.length, .slice p n cap]).run Try.prog w = .ok (.int .i64 (b.length : Int)) w' ∧ BkB w' bk (L.take b.length) ∧ Frq (· = bk) w w' := by
  subst hn
  obtain ⟨i, hi, z0, z1, z2⟩ := info_parts par_u8
  have hsz : (Try.prog.info? 5).map (·.size) = some 1 := by rw [hi]; simp [z1]
  have htl : (L.take b.length).length = b.length := by rw [List.length_take]; omega
  by_cases h0 : b.length = 0
  · refine ⟨w, ?_, ?_, Frq.refl _ _⟩
    · have := run_copy_none (P := Try.prog) w 47 sT 3 5 (some ⟨bk, 0, none⟩) p b.length b.length L.length cap Try.underlying47 hsz (by rw [h0]; exact Nat.min_eq_right (Nat.zero_le _))
      rw [this, h0]; rfl
    · rw [h0, List.take_zero]
      have : b = [] := List.eq_nil_of_length_eq_zero h0
      rw [this] at h; exact h
  · obtain ⟨p', cap', e, _, hp⟩ := hs
    simp only [Value.slice.injEq, true_and] at e
    obtain ⟨rfl, rfl⟩ := e
    obtain ⟨g, o, rfl, _, hc⟩ := hp (by omega)
    have hrun := run_copy_row (P := Try.prog) w 47 sT 3 5 bk 0 b.length b.length ⟨g, o, none⟩ L.length cap (bc b) 5 (Lib.byteCells (L.take b.length)) Try.underlying47 hsz h (by rw [byl_len, htl]; exact (Nat.min_eq_right hl).symm)
      (fun j v hv => by
        rw [Addr.add_mid]
        refine hc j v ?_
        rw [← byl_take, List.getElem?_take] at hv
        split at hv
        · exact hv
        · cases hv) (by rw [byl_len, htl, bc_size]; omega) (byl_one _)
    refine ⟨w.setRow bk ((bc b).toList.take 0 ++ Lib.byteCells (L.take b.length) ++ (bc b).toList.drop (0 + (Lib.byteCells (L.take b.length)).length)).toArray, ?_, ?_, (Frq.refl (· = bk) w).setRow (.inl rfl) _⟩
    · rw [hrun, show (((Lib.byteCells (L.take b.length)).length : Nat) : Int) = (b.length : Int) by rw [byl_len, htl]]; rfl
    · have := setRow_heap w bk (bc b) ((bc b).toList.take 0 ++ Lib.byteCells (L.take b.length) ++ (bc b).toList.drop (0 + (Lib.byteCells (L.take b.length)).length)).toArray 5 _ h
      unfold BkB
      rw [this, List.take_zero, List.nil_append, Nat.zero_add, byl_len, htl, List.drop_of_length_le (by rw [bc_list, byl_len]; omega), List.append_nil]
      simp [bc]
/-- where a slice that begins at k points to -/
def sbp (p : Option Addr) (cap k : Nat) : Option Addr := if cap = k then p else p.map (·.add (k * 1))
theorem elemRow : Try.prog.elem 62 = 5 := by kernel_rfl
theorem undRow : Try.prog.underlying 62 = some (.slice (Try.prog.elem 62)) := by rw [elemRow]; exact Try.underlying62
theorem size8 (w : World) : (sizeOf 5).run Try.prog w = .ok 1 w := by
  obtain ⟨i0, hi0, _, hz1, _⟩ := info_parts par_u8
  simp [sizeOf, typeInfo, hi0, hz1]
theorem run_rowL (w : World) (p : Option Addr) (L cap lo : Nat) (l : Int) (hl : l = (lo : Int)) (h1 : lo ≤ L) :
    (Instr.sliceAt 62 (.slice p L cap) (some (.int .i64 l)) none none).run Try.prog w = .ok (.slice (sbp p cap lo) (L - lo) (cap - lo)) w := by
  subst hl
  rw [run_sliceAt_slice _ _ _ _ _ _ undRow, run_slice_l _ _ _ _ _ undRow _ _ (by omega) (by omega), elemRow, size8, Result.andThen_ok]
  unfold sliced sbp
  rw [Int.toNat_natCast]
theorem wl_rowL {ops : Array Oper} {rest : List Oper} {a : Act} {w : World} {Q : Exit → Act → World → Prop} {dst : Tmp} {x y : Operand} {typ : TypeId} {pos : String} {after : Array Edge}
    (p : Option Addr) (L cap lo : Nat) (l : Int) (hx : a.eval x = .slice p L cap) (hy : a.eval y = .int .i64 l) (hl : l = (lo : Int)) (h1 : lo ≤ L)
    (hK : wpList Try.prog ops Q rest (a.put (some dst) (.slice (sbp p cap lo) (L - lo) (cap - lo))) w) : wpList Try.prog ops Q (⟨some dst, .slice 62 x (some y) none none, typ, pos, after, none⟩ :: rest) a w := by
  refine wpList_plain rfl fun K' hK' => ?_
  unfold Oper.wp execOp
  simp only [hx, hy, Option.map_some, Option.map_none, Sem.run_bind, run_rowL w p L cap lo l hl h1, Result.andThen_ok, Sem.run_pure]
  exact hK' _ _ hK
theorem row_sub {w : World} {F : Nat → Prop} {L cap : Nat} {p : Option Addr} {l : By} (h : BysF w F (.slice p L cap) l) (lo k : Nat) (hL : l.length = L) (hk : lo + k ≤ L) : BysF w F (.slice (sbp p cap lo) k (cap - lo)) ((l.drop lo).take k) := by
  obtain ⟨p', cap', e, hc, hp⟩ := h
  cases e
  have hlen : ((l.drop lo).take k).length = k := by rw [List.length_take, List.length_drop]; omega
  refine ⟨sbp p cap lo, cap - lo, by rw [hlen], by rw [hlen]; omega, fun h0 => ?_⟩
  rw [hlen] at h0
  obtain ⟨b, o, rfl, e2, e3⟩ := hp (by omega)
  refine ⟨b, o + lo, ?_, e2, fun j u hu => ?_⟩
  · unfold sbp
    rw [if_neg (by omega), Option.map_some, Nat.mul_one, Addr.add_mid]
  · have hj : j < k := by have := (List.getElem?_eq_some_iff.1 hu).1; rw [byl_len, hlen] at this; exact this
    rw [show o + lo + j = o + (lo + j) by omega]
    refine e3 (lo + j) u ?_
    unfold Lib.byteCells at hu ⊢
    rw [List.getElem?_map, List.getElem?_take, if_pos hj, List.getElem?_drop] at hu
    rw [List.getElem?_map]; exact hu
/-- what a step does: to the row, and to the bytes -/
def StepP (m : Bool) (B rb bk : Nat) (L b : By) (w : World) (e : Ending) (w' : World) : Prop :=
  e = .returned (.bool (stp m L b).1) ∧ RowM m B rb (· = bk) (stp m L b).2.1 w' ∧ BkB w' bk (stp m L b).2.2 ∧ Fr B (· = rb) w w'
set_option maxRecDepth 100000 in
set_option maxHeartbeats 1600000 in
theorem lay_any {B rb bk : Nat} {L b : By} {w : World} (hr : RowM true B rb (· = bk) L w) (hb : BkB w bk b) (hL : L.length + b.length ≤ 1000000) (hB : B ≤ w.heap.size) (hrb : B ≤ rb) :
    Calls Try.prog 22 #[pt rb, slB bk b.length] w (StepP true B rb bk L b w) := by
  obtain ⟨p, rc, h1, ho, hx⟩ := hr
  obtain ⟨v', w', hap, ho', hg, hnb⟩ := own_cat ho hb.bys hB hL 62
  have q0 := cell_of_arr h1 0
  simp only [List.getElem?_toArray, List.getElem?_cons_zero] at q0
  rw [← app_row] at hap
  have HO' := Lib.hid ho'
  have HG := Lib.hid hg
  have HR := Lib.hid h1
  have HB := Lib.hid hb
  have HX := Lib.hid hx
  have HO := Lib.hid ho
  have HNB := Lib.hid hnb
  obtain ⟨p', c', rfl⟩ := own_slice ho'
  rw [List.length_append] at hap
  have h1' : w'.heap[rb]? = some (.cells #[.slice p L.length rc] 62 (0, 0)) := (hg.block rb (lt_of_heap h1) (own_not ho h1 (by decide))).trans h1
  have q0' := cell_of_arr h1' 0
  have q1' := froz_of_arr h1' 0
  simp only [List.getElem?_toArray, List.getElem?_cons_zero] at q0'
  have HR' := Lib.hid h1'
  clear h1'
  clear ho' hg h1 hb hx ho hnb
  go_enter Try.func22, Try.ntmps22
  go_wp2_with ((with_reducible refine wl_appX (.slice p L.length rc) (slB bk b.length) (.slice p' (L.length + b.length) c') ?_ ?_ hap ?_); (· rfl); (· rfl))
  go_ret
  have hb' : BkB w' bk b := (HG.out.block bk (lt_of_heap HB.out) (fun e => HX.out bk e.symm rfl)).trans HB.out
  have ho' : OwnB w' B (.slice p' (L ++ b).length c') (L ++ b) := HO'.out
  have hne : ∀ g cs, w'.heap[g]? = some (.cells cs 5 (0, 0)) → g ≠ rb := fun g cs h e => by
    subst e; rw [HR'.out] at h; cases h
  refine ⟨rfl, ⟨p', c', ?_, ?_⟩, ?_, ?_⟩
  · simp only [stp, if_true]
    rw [List.length_append]
    rw [set_heap HR'.out]; rfl
  · simp only [stp, if_true]
    refine ⟨own_keep ho' (fun g cs _ hg => (Below.heap_setCell _ _ _ _ (hne g cs hg)).trans hg), fun g e hgb => ?_⟩
    subst hgb
    rcases HNB.out with h | h
    · rw [h] at e; exact HX.out _ e rfl
    · rw [h] at e
      obtain rfl := Option.some.inj e
      have h2 := lt_of_heap HB.out
      omega
  · simp only [stp, if_true]
    exact (Below.heap_setCell _ _ _ _ (hne bk _ hb')).trans hb'
  · exact (Fr.grown8 (Fr.refl B (· = rb) w) hB HO.out HG.out).setK (p := ⟨rb, 0, none⟩) rfl hrb _
set_option maxRecDepth 100000 in
set_option maxHeartbeats 1600000 in
theorem read_any {B rb bk : Nat} {L b : By} {w : World} (hr : RowM false B rb (· = bk) L w) (hb : BkB w bk b) (hL : L.length ≤ 1000000) (hb1 : b.length ≤ 1000000) (hbk : B ≤ bk) (hB : B ≤ w.heap.size) (hrb : B ≤ rb) :
    Calls Try.prog 26 #[pt rb, slB bk b.length] w (StepP false B rb bk L b w) := by
  obtain ⟨p, rc, h1, ho⟩ := hr
  have q0 := cell_of_arr h1 0
  have q1 := froz_of_arr h1 0
  simp only [List.getElem?_toArray, List.getElem?_cons_zero] at q0
  have l0 : (0 : Int) ≤ (L.length : Int) := Int.natCast_nonneg _
  have l1 : (L.length : Int) ≤ 1000000 := by omega
  have m0 : (0 : Int) ≤ (b.length : Int) := Int.natCast_nonneg _
  have m1 : (b.length : Int) ≤ 1000000 := by omega
  have HR := Lib.hid h1
  have HB := Lib.hid hb
  have HO := Lib.hid ho
  by_cases hlt : (L.length : Int) < (b.length : Int)
  · clear h1 hb ho
    go_enter Try.func26, Try.ntmps26
    go_wp2
    go_ret
    have e : stp false L b = (false, L, b) := by unfold stp; rw [if_neg (by decide), if_pos (by omega)]
    unfold StepP
    rw [e]
    exact ⟨rfl, ⟨p, rc, HR.out, HO.out⟩, HB.out, Fr.refl _ _ _⟩
  · have e : stp false L b = (true, L.drop b.length, L.take b.length) := by unfold stp; rw [if_neg (by decide), if_neg (by omega)]
    obtain ⟨w', hcp, hb', hf⟩ := copy_bytes hb ho rfl (by omega) 62
    have hne : rb ≠ bk := fun e => by subst e; unfold BkB at hb; rw [h1] at hb; simp only [Option.some.injEq, Obj.cells.injEq] at hb; exact absurd hb.2.1 (by decide)
    have h1' := (hf.block rb (lt_of_heap h1) hne).trans h1
    have q0' := cell_of_arr h1' 0
    have q1' := froz_of_arr h1' 0
    simp only [List.getElem?_toArray, List.getElem?_cons_zero] at q0'
    have HF := Lib.hid hf
    have HB' := Lib.hid hb'
    have HR' := Lib.hid h1'
    have HNE := Lib.hid hne
    clear h1 hb ho hf hb' h1' hne
    unfold StepP
    rw [e]
    go_enter Try.func26, Try.ntmps26
    go_wp2_with (first | ((with_reducible refine wl_cpX (slB bk b.length) (.slice p L.length rc) (.int .i64 (b.length : Int)) ?_ ?_ hcp ?_); (· rfl); (· rfl)) | ((with_reducible refine wl_rowL p L.length rc b.length (b.length : Int) ?_ ?_ rfl (by omega) ?_); (· rfl); (· rfl)))
    go_ret
    have ho' : BysF w' (· < B) (.slice p L.length rc) L := HO.out.kept (fun g hg => ⟨hg, HF.out.block g (by omega) (by omega)⟩)
    have hd := row_sub ho' b.length (L.length - b.length) rfl (by omega)
    rw [List.take_of_length_le (by rw [List.length_drop]; exact Nat.le_refl _)] at hd
    refine ⟨rfl, ⟨sbp p rc b.length, rc - b.length, ?_, ?_⟩, ?_, ?_⟩
    · rw [set_heap HR'.out, List.length_drop]; rfl
    · show BysF _ _ _ _
      rw [List.length_drop]
      exact hd.kept (fun g hg => ⟨hg, Below.heap_setCell _ _ _ _ (show g ≠ rb by omega)⟩)
    · exact (Below.heap_setCell _ _ _ _ (show bk ≠ rb from fun e => HNE.out e.symm)).trans HB'.out
    · refine Fr.setK (K := (· = rb)) (Fr.trans (Fr.refl B _ w) ⟨HF.out.os, HF.out.tape, HF.out.output, HF.out.size, fun k hk => HF.out.block k (by omega) (by omega), fun k cs t fr hk ht _ => (HF.out.block k (lt_of_heap hk) (fun e => ?_)).trans hk⟩) (p := ⟨rb, 0, none⟩) rfl hrb _
      subst e
      have := HB.out
      unfold BkB at this
      rw [hk] at this; simp only [Option.some.injEq, Obj.cells.injEq] at this; exact ht this.2.1
/-- over bytes -/
def BytesP (m : Bool) (B wb rb bk n : Nat) (s : St) (b : By) (w : World) (e : Ending) (w' : World) : Prop :=
  e = .returned (.tuple #[]) ∧ Wk m B wb rb (· = bk) (n + b.length) (byM m s b).1 w' ∧ BkB w' bk (byM m s b).2 ∧ Fr B (fun k => k = wb ∨ k = rb) w w'
theorem step_any {m : Bool} {B rb bk : Nat} {L b : By} {w : World} (hr : RowM m B rb (· = bk) L w) (hb : BkB w bk b) (hL : L.length + b.length ≤ 1000000) (hbk : B ≤ bk) (hB : B ≤ w.heap.size) (hrb : B ≤ rb) :
    Calls Try.prog (if m then 22 else 26) #[pt rb, slB bk b.length] w (StepP m B rb bk L b w) := by
  cases m
  · exact read_any hr hb (by omega) (by omega) hbk hB hrb
  · exact lay_any hr hb hL hB hrb
set_option maxRecDepth 100000 in
set_option maxHeartbeats 1600000 in
theorem bytes_any {m : Bool} {B wb rb bk n : Nat} {s : St} {b : By} {w : World} (h : Wk m B wb rb (· = bk) n s w) (hb : BkB w bk b) (hn : n + b.length ≤ 1000000) (hbk : B ≤ bk) (hB : B ≤ w.heap.size) :
    Calls Try.prog 47 #[pt wb, slB bk b.length] w (BytesP m B wb rb bk n s b w) := by
  obtain ⟨ok, L⟩ := s
  have h1 := h.walk
  have hlen : L.length ≤ n := h.len
  have q0 := cell_of_arr h1 0
  have q1 := cell_of_arr h1 1
  have q2 := froz_of_arr h1 1
  simp only [List.getElem?_toArray, List.getElem?_cons_zero, List.getElem?_cons_succ] at q0 q1
  have hrw : RowM m B rb (· = bk) L w := h.row
  have HW := Lib.hid h
  have HB := Lib.hid hb
  have hnu : ∀ g cs t fr, w.heap[g]? = some (.cells cs t fr) → t = 5 → g ≠ wb := fun g cs t fr hg ht e => by
    subst e; rw [h1] at hg
    simp only [Option.some.injEq, Obj.cells.injEq] at hg
    exact absurd (hg.2.1.trans ht) (by decide)
  cases ok
  · clear h hb h1 hlen hrw
    go_enter Try.func47, Try.ntmps47
    go_wp2
    go_end0
    refine ⟨rfl, (HW.out.setOk false).le (Nat.le_add_right _ _) (fun _ e => e), ?_, (Fr.refl B _ w).setK (p := ⟨wb, 1, none⟩) (.inl rfl) HW.out.lw _⟩
    exact (Below.heap_setCell _ _ _ _ (show bk ≠ wb from hnu bk _ _ _ HB.out rfl)).trans HB.out
  · have HC := Lib.hid (step_any hrw hb (by omega) hbk hB h.lr)
    have HP := Lib.hid (show ∀ (e : Ending) (w1 : World), StepP m B rb bk L b w e w1 → e = .returned (.bool (stp m L b).1) ∧ w1.heap[wb]? = some (.cells #[stepV m rb, .bool true] 78 (0, 0)) ∧ Wk m B wb rb (· = bk) (n + b.length) ⟨true, (stp m L b).2.1⟩ w1 ∧ BkB w1 bk (stp m L b).2.2 ∧ Fr B (· = rb) w w1 from fun e w1 hp => by
      obtain ⟨rfl, hr1, hb1, hf1⟩ := hp
      have hw1 := hf1.keep wb _ _ _ h1 (by decide) (fun e => h.ne e.symm)
      exact ⟨rfl, hw1, ⟨hw1, hr1, h.lw, h.lr, Nat.le_trans (stp_row m L b) (Nat.add_le_add_right hlen _)⟩, hb1, hf1⟩)
    clear h hb h1 hlen hrw
    have fin : ∀ w1, Wk m B wb rb (· = bk) (n + b.length) ⟨true, (stp m L b).2.1⟩ w1 → BkB w1 bk (stp m L b).2.2 → Fr B (· = rb) w w1 → BytesP m B wb rb bk n ⟨true, L⟩ b w (.returned (.tuple #[])) (w1.setCell ⟨wb, 1, none⟩ (.bool (stp m L b).1)) := fun w1 hw1 hb1 hf1 => by
      refine ⟨rfl, ?_, ?_, ?_⟩
      · have := hw1.setOk (stp m L b).1
        simpa [byM] using this
      · show BkB _ bk (stp m L b).2.2
        refine (Below.heap_setCell _ _ _ _ (fun e => ?_)).trans hb1
        subst e
        have := hw1.walk
        unfold BkB at hb1
        rw [hb1] at this
        simp only [Option.some.injEq, Obj.cells.injEq] at this
        exact absurd this.2.1 (by decide)
      · exact (hf1.mono (fun _ _ e => .inr e)).setK (p := ⟨wb, 1, none⟩) (.inl rfl) hw1.lw _
    have FIN := Lib.hid fin
    clear fin
    cases m
    · go_enter Try.func47, Try.ntmps47
      go_wp2_with fail
      refine (HC.out).mono ?_
      intro e w1 hp
      obtain ⟨rfl, h1, h2, h3, h4⟩ := HP.out e w1 hp
      have q1 := cell_of_arr h1 1
      have q2 := froz_of_arr h1 1
      simp only [List.getElem?_toArray, List.getElem?_cons_zero, List.getElem?_cons_succ] at q1
      have H2 := Lib.hid h2
      have H3 := Lib.hid h3
      have H4 := Lib.hid h4
      clear h1 h2 h3 h4 hp
      go_wp2
      go_end0
      exact FIN.out w1 H2.out H3.out H4.out
    · go_enter Try.func47, Try.ntmps47
      go_wp2_with fail
      refine (HC.out).mono ?_
      intro e w1 hp
      obtain ⟨rfl, h1, h2, h3, h4⟩ := HP.out e w1 hp
      have q1 := cell_of_arr h1 1
      have q2 := froz_of_arr h1 1
      simp only [List.getElem?_toArray, List.getElem?_cons_zero, List.getElem?_cons_succ] at q1
      have H2 := Lib.hid h2
      have H3 := Lib.hid h3
      have H4 := Lib.hid h4
      clear h1 h2 h3 h4 hp
      go_wp2
      go_end0
      exact FIN.out w1 H2.out H3.out H4.out
end Go.Proofs.Ytjdfdihopgceoaa.Cd
