/- The walk of MsgParts: one segment more, or one less, of a packet's interchange is none. -/
import Derived.Test.YtjkdhdficaacaaaGreatDoorMgTlW
import Derived.Test.YtjkdhdficaacaaaGreatDoorWrapP
import Derived.Test.YtjkdhdficaacaaaGreatDoorMgPk
import Derived.Test.YtjkdhdficaacaaaGreatDoorEdiLt
import Derived.Test.YtjkdhdficaacaaaGreatDoorEdiSm
import Derived.Deep.RegionHeld
import Derived.Deep.DeepCutAuto
/- One segment less, or one more, of a packet's interchange is none (no walk). -/
namespace Go.Proofs.YtjkdhdficaacaaaGreatDoor
open Go.RowKit Go.Edi Go.Wrap

def lessL (l : List Sg) (k : Nat) : List Sg := l.take k ++ l.drop (k + 1)
def moreL (l : List Sg) (k : Nat) : List Sg := l.take k ++ [l.getD k ⟨[], []⟩] ++ l.drop k
theorem less_zero (s : Sg) (r : List Sg) : lessL (s :: r) 0 = r := rfl
theorem less_succ (s : Sg) (r : List Sg) (k : Nat) : lessL (s :: r) (k + 1) = s :: lessL r k := rfl
theorem more_zero (s : Sg) (r : List Sg) : moreL (s :: r) 0 = s :: s :: r := rfl
theorem more_succ (s : Sg) (r : List Sg) (k : Nat) : moreL (s :: r) (k + 1) = s :: moreL r k := by simp [moreL]
theorem less_len {l : List Sg} {k : Nat} (h : k < l.length) : (lessL l k).length + 1 = l.length := by simp [lessL]; omega
theorem more_len {l : List Sg} {k : Nat} (h : k < l.length) : (moreL l k).length = l.length + 1 := by simp [moreL]; omega
theorem read_inv {s : Sg} {r : List Sg} {m : Ms} (h : readMs .zero s r = (some m, 0)) : ∃ k fds y t a u, kindOf s = some (k, fds) ∧ r = y :: t ∧ keyOf' { Ms.zero with kind := k } y = (some a, u) ∧ arRead a fds t = some m := by
  unfold readMs at h
  split at h
  · cases h
  · rename_i k fds hk
    split at h
    · cases h
    · rename_i y t
      split at h
      · rename_i a u hke
        split at h
        · rename_i b hb
          obtain rfl : b = m := by simpa using h
          exact ⟨k, fds, y, t, a, u, hk, rfl, hke, hb⟩
        · cases h
      · rename_i hke
        cases h
theorem els_not {s : Sg} {tag : Tx} (h : ¬ s.tag = tag) : elsOf s tag = none := by unfold elsOf; rw [if_neg h]
theorem kind_tag {s : Sg} {o : Nat × List Fd} (h : kindOf s = some o) : s.tag = kindT := by
  by_cases e : s.tag = kindT
  · exact e
  · unfold kindOf numsOf at h; rw [els_not e] at h; cases h
theorem kind_notP {s : Sg} (h : ¬ s.tag = kindT) : kindOf s = none := by
  cases e : kindOf s with
  | none => rfl
  | some o => exact absurd (kind_tag e) h
theorem key_not {m : Ms} {s : Sg} (h : ¬ s.tag = keyT) : keyOf' m s = (none, 101) := by unfold keyOf'; rw [els_not h]
theorem key_tag {m a : Ms} {s : Sg} {u : Nat} (h : keyOf' m s = (some a, u)) : s.tag = keyT := by
  by_cases e : s.tag = keyT
  · exact e
  · rw [key_not e] at h; cases h
theorem fld_tag (c : Ms) (f : Fd) : ¬ (fldS c f).tag = keyT := by
  show ¬ tagL f = keyT
  cases f <;> decide
theorem read_no {s : Sg} {r : List Sg} {k : Nat} {fds : List Fd} (hk : kindOf s = some (k, fds)) {y : Sg} {a : Ms} {u : Nat} (hy : keyOf' { Ms.zero with kind := k } y = (some a, u)) (hr : r.length ≠ fds.length) : readMs .zero s (y :: r) = (none, 101) := by
  unfold readMs
  rw [hk]
  simp only
  rw [hy]
  simp only
  cases e : arRead a fds r with
  | none => rfl
  | some b => exact absurd (ar_len e) hr
theorem pack_read {f t n : Nat} (hf : f < 8) (ht : t < 8) {s : Sg} {r : List Sg} (h : ¬ s.tag = ackT) {e : Nat} (hr : readMs .zero s r = (none, e)) : (packL ⟨f, t, n, s :: r⟩).2 = e := by
  unfold packL
  rw [if_neg (by simp only; omega)]
  simp only
  rw [if_neg h, hr]
theorem parts_msg {f t n : Nat} (hf : f < 8) (ht : t < 8) {s : Sg} {r : List Sg} {m : Ms} (hd : readMs .zero s r = (some m, 0)) (k : Nat) (hk : k < (s :: r).length) :
    ((packL ⟨f, t, n, lessL (s :: r) k⟩).2 = 101 ∨ (packL ⟨f, t, n, lessL (s :: r) k⟩).2 = 100) ∧ (packL ⟨f, t, n, moreL (s :: r) k⟩).2 = 101 := by
  obtain ⟨kk, fds, y, l, a, u, h1, rfl, h2, h3⟩ := read_inv hd
  have ts := kind_tag h1
  have ty := key_tag h2
  have hs1 : ¬ s.tag = ackT := by rw [ts]; decide
  have hs2 : ¬ s.tag = keyT := by rw [ts]; decide
  have hy1 : ¬ y.tag = ackT := by rw [ty]; decide
  have hy2 : ¬ y.tag = kindT := by rw [ty]; decide
  have hln := ar_len h3
  match k, hk with
  | 0, _ =>
    rw [less_zero, more_zero]
    refine ⟨.inr (pack_read hf ht hy1 ?_), pack_read hf ht hs1 ?_⟩
    · unfold readMs; rw [kind_notP hy2]
    · unfold readMs; rw [h1]; simp only; rw [key_not hs2]
  | 1, _ =>
    rw [less_succ, less_zero, more_succ, more_zero]
    refine ⟨.inl (pack_read hf ht hs1 ?_), pack_read hf ht hs1 (read_no h1 h2 (by simp only [List.length_cons]; omega))⟩
    unfold readMs
    rw [h1]
    simp only
    cases l with
    | nil => rfl
    | cons z l =>
      simp only
      have hz : ¬ z.tag = keyT := by
        cases fds with
        | nil => simp at hln
        | cons g fds =>
          obtain ⟨z', l', c, e, _, hz', _⟩ := ar_head h3
          obtain ⟨rfl, rfl⟩ := List.cons.inj e
          rw [hz']; exact fld_tag c g
      rw [key_not hz]
  | j + 2, hk =>
    have hj : j < l.length := by simp only [List.length_cons] at hk; omega
    have e1 := less_len hj
    have e2 := more_len hj
    rw [less_succ, less_succ, more_succ, more_succ]
    exact ⟨.inl (pack_read hf ht hs1 (read_no h1 h2 (by omega))), pack_read hf ht hs1 (read_no h1 h2 (by omega))⟩
theorem parts_pack {p : Pk} (hp : p.Ty) (h : (mwrapL p).2 = 0) : 0 < (mwrapL p).1.segs.length ∧ ∀ k, k < (mwrapL p).1.segs.length →
    ((packL ⟨(mwrapL p).1.from_, (mwrapL p).1.to_, (mwrapL p).1.ref, lessL (mwrapL p).1.segs k⟩).2 = 101 ∨ (packL ⟨(mwrapL p).1.from_, (mwrapL p).1.to_, (mwrapL p).1.ref, lessL (mwrapL p).1.segs k⟩).2 = 100) ∧ (packL ⟨(mwrapL p).1.from_, (mwrapL p).1.to_, (mwrapL p).1.ref, moreL (mwrapL p).1.segs k⟩).2 = 101 := by
  obtain ⟨h1, h2, h3, h4⟩ := mwrap_ok h
  rw [h4]
  obtain ⟨f, t, n, q, m⟩ := p
  simp only at h1 h2 h3 ⊢
  cases q with
  | true =>
    unfold toldL at h3 ⊢
    simp only [if_true] at h3 ⊢
    split at h3
    · rename_i hz
      rw [if_pos hz]
      refine ⟨by simp, fun k hk => ?_⟩
      obtain rfl : k = 0 := by simp at hk; omega
      have hn : ¬ (8 ≤ f ∨ 8 ≤ t) := by omega
      refine ⟨.inr ?_, ?_⟩
      · rw [less_zero]; unfold packL; rw [if_neg hn]
      · rw [more_zero]; unfold packL; rw [if_neg hn]; rfl
    · cases h3
  | false =>
    have e : toldL ⟨f, t, n, false, m⟩ = toldMs m := rfl
    rw [e] at h3 ⊢
    obtain ⟨s, r, hl, htg, hrd⟩ := read_told (m := m) (l := (toldMs m).1) hp.m (Prod.ext rfl h3)
    rw [hl]
    exact ⟨by simp, fun k hk => parts_msg h1 h2 hrd k hk⟩
end Go.Proofs.YtjkdhdficaacaaaGreatDoor
/- Slices of a list of segments, wherever it lies; a list that has one less, or one twice. -/
namespace Go.Proofs.YtjkdhdficaacaaaGreatDoor
open Go.RowKit Go.Edi Go.Wrap

theorem kp_old {w w' : World} (h : Below w.heap.size w w') : Kp (· < w.heap.size) (· < w'.heap.size) w w' := fun b hb => ⟨Nat.lt_of_lt_of_le hb h.size, h.block b hb⟩
/-- where a slice of segments that begins at 'k' points to -/
def sub2 (p : Option Addr) (cap k : Nat) : Option Addr := if cap = k then p else p.map (·.add (k * 2))
theorem run_size2 (w : World) : (sizeOf 58).run Tryz.prog w = .ok 2 w := by
  obtain ⟨i0, hi0, _, hz1, _⟩ := info_parts par_segm
  simp [sizeOf, typeInfo, hi0, hz1]
theorem elemSgs : Tryz.prog.elem 39 = 58 := by kernel_rfl
theorem undSgs : Tryz.prog.underlying 39 = some (.slice (Tryz.prog.elem 39)) := by rw [elemSgs]; exact Tryz.underlying39
theorem run_sgL (w : World) (p : Option Addr) (L cap lo : Nat) (h1 : lo ≤ L) :
    (Instr.sliceAt 39 (.slice p L cap) (some (.int .i64 (lo : Int))) none none).run Tryz.prog w = .ok (.slice (sub2 p cap lo) (L - lo) (cap - lo)) w := by
  rw [run_sliceAt_slice _ _ _ _ _ _ undSgs, run_slice_l _ _ _ _ _ undSgs _ _ (by omega) (by omega), elemSgs, run_size2, Result.andThen_ok]
  unfold sliced sub2
  rw [Int.toNat_natCast]
theorem run_sgH (w : World) (p : Option Addr) (L cap hi : Nat) (h1 : hi ≤ cap) :
    (Instr.sliceAt 39 (.slice p L cap) none (some (.int .i64 (hi : Int))) none).run Tryz.prog w = .ok (.slice (sub2 p cap 0) hi cap) w := by
  rw [run_sliceAt_slice _ _ _ _ _ _ undSgs, run_slice_h _ _ _ _ _ undSgs _ _ (by omega) (by omega), elemSgs, run_size2, Result.andThen_ok]
  unfold sliced sub2
  rw [Int.toNat_natCast, Nat.sub_zero, Nat.sub_zero]
theorem yi_sgH {ops : Array Oper} {S : World → Prop} {o : Oper} {a : Act} (hw : Region.wanted o (yielded ops a.tmps) = true) (x z : Operand) (ho : o.op = .slice 39 x none (some z) none)
    (p : Option Addr) (L cap hi : Nat) (hx : a.eval x = .slice p L cap) (hz : a.eval z = .int .i64 (hi : Int)) (h1 : hi ≤ cap) : YieldsIf Tryz.prog ops S o (.slice (sub2 p cap 0) hi cap) a :=
  .inl ⟨hw, fun w _ => by
    unfold execOp
    simp only [ho, hx, hz, Option.map_some, Option.map_none, Sem.run_bind, run_sgH w p L cap hi h1, Result.andThen_ok, Sem.run_pure]⟩
theorem yi_sgL {ops : Array Oper} {S : World → Prop} {o : Oper} {a : Act} (hw : Region.wanted o (yielded ops a.tmps) = true) (x y : Operand) (ho : o.op = .slice 39 x (some y) none none)
    (p : Option Addr) (L cap lo : Nat) (hx : a.eval x = .slice p L cap) (hy : a.eval y = .int .i64 (lo : Int)) (h1 : lo ≤ L) : YieldsIf Tryz.prog ops S o (.slice (sub2 p cap lo) (L - lo) (cap - lo)) a :=
  .inl ⟨hw, fun w _ => by
    unfold execOp
    simp only [ho, hx, hy, Option.map_some, Option.map_none, Sem.run_bind, run_sgL w p L cap lo h1, Result.andThen_ok, Sem.run_pure]⟩
theorem rowf_hd {w : World} {F : Nat → Prop} {p : Option Addr} {n cap m : Nat} {xs : List Value} (h : RowF w F (.slice p n cap) n xs) (hm : m ≤ n) : RowF w F (.slice (sub2 p cap 0) m cap) m (xs.take (m * 2)) := by
  obtain ⟨p', cap', e, hc, hp⟩ := h
  cases e
  refine ⟨sub2 p cap 0, cap, rfl, by omega, fun h0 => ?_⟩
  obtain ⟨b, o, rfl, hF, hcell⟩ := hp (by omega)
  refine ⟨b, o, ?_, hF, fun j u hu => hcell j u ?_⟩
  · unfold sub2
    rw [if_neg (by omega), Option.map_some, Addr.add_mid]
    rfl
  · rw [List.getElem?_take] at hu
    split at hu
    · exact hu
    · cases hu
theorem rowf_tl {w : World} {F : Nat → Prop} {p : Option Addr} {n cap m : Nat} {xs : List Value} (h : RowF w F (.slice p n cap) n xs) (hm : m ≤ n) : RowF w F (.slice (sub2 p cap m) (n - m) (cap - m)) (n - m) (xs.drop (m * 2)) := by
  obtain ⟨p', cap', e, hc, hp⟩ := h
  cases e
  refine ⟨sub2 p cap m, cap - m, rfl, by omega, fun h0 => ?_⟩
  obtain ⟨b, o, rfl, hF, hcell⟩ := hp (by omega)
  refine ⟨b, o + m * 2, ?_, hF, fun j u hu => ?_⟩
  · unfold sub2
    rw [if_neg (by omega), Option.map_some, Addr.add_mid]
  · rw [Nat.add_assoc]
    exact hcell _ u (by rw [← List.getElem?_drop]; exact hu)
theorem less_in {w1 w0 we : World} {l : List Sg} {xs : List Value} {k cm : Nat} {pm : Option Addr} (hc : SgC w1 (· < w1.heap.size) l xs) (hk : k < l.length) (hb : Below w1.heap.size w1 we)
    (ho : we.ownsRow w0.heap.size 58 2 (.slice pm (k + (l.length - (k + 1))) cm) (k + (l.length - (k + 1))) (xs.take (k * 2) ++ xs.drop ((k + 1) * 2))) :
    SegsF we (fun b => b < w1.heap.size ∨ (w0.heap.size ≤ b ∧ b < we.heap.size)) (.slice pm (k + (l.length - (k + 1))) cm) (lessL l k) := by
  have hkp : Kp (· < w1.heap.size) (fun b => b < w1.heap.size ∨ (w0.heap.size ≤ b ∧ b < we.heap.size)) w1 we := fun b h => ⟨Or.inl h, hb.block b h⟩
  have hlen : (lessL l k).length = k + (l.length - (k + 1)) := by simp [lessL]; omega
  refine ⟨xs.take (k * 2) ++ xs.drop ((k + 1) * 2), ?_, SgC.app ((hc.dp (k + 1)).kept hkp) ((hc.tk k).kept hkp)⟩
  rw [hlen]
  exact row_own ho (fun b e => Or.inr (ho.lt b e))
theorem sgc_get {w : World} {F : Nat → Prop} : ∀ {l : List Sg} {xs : List Value}, SgC w F l xs → ∀ k, k < l.length → ∃ c0 c1, xs[k * 2]? = some c0 ∧ xs[k * 2 + 1]? = some c1 ∧ SgC w F [l.getD k ⟨[], []⟩] [c0, c1]
  | [], [], _, k, hk => by simp at hk
  | s :: r, a :: v :: t, h, 0, _ => ⟨a, v, rfl, rfl, h.1, h.2.1, True.intro⟩
  | s :: r, a :: v :: t, h, k + 1, hk => by
    obtain ⟨c0, c1, e0, e1, e2⟩ := sgc_get h.2.2 k (by simpa using hk)
    refine ⟨c0, c1, ?_, ?_, ?_⟩
    · rw [show (k + 1) * 2 = k * 2 + 1 + 1 by omega]; simpa using e0
    · rw [show (k + 1) * 2 + 1 = k * 2 + 1 + 1 + 1 by omega]; simpa using e1
    · simpa using e2
  | [], _ :: _, h, _, _ => h.elim
  | _ :: _, [], h, _, _ => h.elim
  | _ :: _, [_], h, _, _ => h.elim
theorem more_in {w1 w0 we : World} {l : List Sg} {xs : List Value} {k cm : Nat} {pm : Option Addr} {c0 c1 : Value} (hc : SgC w1 (· < w1.heap.size) l xs) (hk : k < l.length) (hb : Below w1.heap.size w1 we)
    (h1 : SgC w1 (· < w1.heap.size) [l.getD k ⟨[], []⟩] [c0, c1])
    (ho : we.ownsRow w0.heap.size 58 2 (.slice pm (k + 1 + (l.length - k)) cm) (k + 1 + (l.length - k)) (xs.take (k * 2) ++ [c0, c1] ++ xs.drop (k * 2))) :
    SegsF we (fun b => b < w1.heap.size ∨ (w0.heap.size ≤ b ∧ b < we.heap.size)) (.slice pm (k + 1 + (l.length - k)) cm) (moreL l k) := by
  have hkp : Kp (· < w1.heap.size) (fun b => b < w1.heap.size ∨ (w0.heap.size ≤ b ∧ b < we.heap.size)) w1 we := fun b h => ⟨Or.inl h, hb.block b h⟩
  have hlen : (moreL l k).length = k + 1 + (l.length - k) := by simp [moreL]; omega
  refine ⟨xs.take (k * 2) ++ [c0, c1] ++ xs.drop (k * 2), ?_, SgC.app ((hc.dp k).kept hkp) (SgC.app (h1.kept hkp) ((hc.tk k).kept hkp))⟩
  rw [hlen]
  exact row_own ho (fun b e => Or.inr (ho.lt b e))
attribute [irreducible] sub2
end Go.Proofs.YtjkdhdficaacaaaGreatDoor
namespace Go.Proofs.YtjkdhdficaacaaaGreatDoor
open Go.RowKit Go.Edi Go.Wrap Go.Lib

theorem mem_less {l : List Sg} {k : Nat} {s : Sg} (h : s ∈ lessL l k) : s ∈ l := by
  rcases List.mem_append.1 h with h | h
  · exact List.mem_of_mem_take h
  · exact List.mem_of_mem_drop h
theorem mem_more {l : List Sg} {k : Nat} {s : Sg} (hk : k < l.length) (h : s ∈ moreL l k) : s ∈ l := by
  rcases List.mem_append.1 h with h | h
  · rcases List.mem_append.1 h with h | h
    · exact List.mem_of_mem_take h
    · rw [List.mem_singleton.1 h, List.getD_eq_getElem?_getD, List.getElem?_eq_getElem hk]
      exact List.getElem_mem hk
  · exact List.mem_of_mem_drop h
theorem pack_less (f t r : Nat) (l : List Sg) (k : Nat) (hk : k < l.length) (hl : tiny l) (hf : f < 256) (ht : t < 256) (h : (packL ⟨f, t, r, lessL l k⟩).2 = 101 ∨ (packL ⟨f, t, r, lessL l k⟩).2 = 100)
    (v : Value) (B : Nat) (W : World) (hv : SegsF W (· < W.heap.size) v (lessL l k)) (he : Env B W) (hB : B ≤ W.heap.size) :
    Calls Tryz.prog 21 #[.agg (wrV f t r v)] W (fun e w' => ∃ (q : Pk) (E : Int), e = .returned (.tuple #[.agg (pkV q), .int .i64 E]) ∧ (E = 101 ∨ E = 100) ∧ Below W.heap.size W w') := by
  refine (packet_any ⟨f, t, r, lessL l k⟩ v B W hf ht hv (by have := hl.1; have := less_len hk; simp only; omega) (fun s hs => hl.el s (mem_less hs)) (fun s hs => hl.sz s (mem_less hs)) he hB).mono ?_
  rintro e w' ⟨h1, h2⟩
  exact ⟨_, _, h1, by omega, h2⟩
theorem pack_more (f t r : Nat) (l : List Sg) (k : Nat) (hk : k < l.length) (hl : tiny l) (hf : f < 256) (ht : t < 256) (h : (packL ⟨f, t, r, moreL l k⟩).2 = 101)
    (v : Value) (B : Nat) (W : World) (hv : SegsF W (· < W.heap.size) v (moreL l k)) (he : Env B W) (hB : B ≤ W.heap.size) :
    Calls Tryz.prog 21 #[.agg (wrV f t r v)] W (fun e w' => ∃ (q : Pk), e = .returned (.tuple #[.agg (pkV q), .int .i64 101]) ∧ Below W.heap.size W w') := by
  refine (packet_any ⟨f, t, r, moreL l k⟩ v B W hf ht hv (by have := hl.1; have := more_len hk; simp only; omega) (fun s hs => hl.el s (mem_more hk hs)) (fun s hs => hl.sz s (mem_more hk hs)) he hB).mono ?_
  rintro e w' ⟨h1, h2⟩
  exact ⟨_, by rw [h1, h]; rfl, h2⟩
/-- behind the second list: an interchange with one segment twice -/
def MoreR (w7 : World) (f t r : Nat) (l : List Sg) (K : Nat) (wx : World) : Prop :=
  ∃ pm cm, wx.heap[w7.heap.size]? = some (.cells (wrV f t r (.slice pm (K + 1 + (l.length - K)) cm)) 41 (0, 0)) ∧ SegsF wx (· < wx.heap.size) (.slice pm (K + 1 + (l.length - K)) cm) (moreL l K) ∧ Below w7.heap.size w7 wx
set_option maxRecDepth 100000 in
set_option maxHeartbeats 12800000 in
theorem parts_walk (p : Pk) (x : Int) (B : Nat) (w : World) (hp : p.Ty) (hx : -9223372036854775808 ≤ x ∧ x ≤ 9223372036854775807) (he : Env B w) (hB : B ≤ w.heap.size) :
    Calls Tryz.prog 6 #[.agg (pkV p), .int .i64 x] w fun e w' => e = .returned (.bool true) ∧ Below w.heap.size w w' := by
  obtain ⟨wb, hwb⟩ : ∃ wb, wb = w.alloc (.cells (pkV p) 38) := ⟨_, rfl⟩
  have hbw : Below w.heap.size w wb := by rw [hwb]; exact (Below.refl _ _).alloc (Nat.le_refl _) _
  have hp0 : wb.heap[w.heap.size]? = some (.cells (pkV p) 38 (0, 0)) := by rw [hwb]; exact heap_new _ _ _ rfl
  have HEN := Lib.hid (show ∀ wz : World, Below wb.heap.size wb wz → Env B wz ∧ B ≤ wz.heap.size from fun wz hz => ⟨he.on ((hbw.mono hB).trans (hz.mono (Nat.le_trans hB hbw.size))), Nat.le_trans hB (Nat.le_trans hbw.size hz.size)⟩)
  have HFIN := Lib.hid (show ∀ wz : World, Below wb.heap.size wb wz → Below w.heap.size w wz from fun wz hz => hbw.trans (hz.mono hbw.size))
  have HCP := Lib.hid hp0
  have HTE := Lib.hid (show ∀ W, Below wb.heap.size wb W → _ from fun W hW => tells_any B W (HEN.out W hW).1 (HEN.out W hW).2)
  have hwr := show ∀ W, Below wb.heap.size wb W → Calls Tryz.prog 15 #[.agg (pkV p)] W (WrQ (mwrapL p).1.from_ (mwrapL p).1.to_ (mwrapL p).1.ref (mwrapL p).1.segs (((mwrapL p).2 : Nat) : Int) W) from fun W hW => once_wrap p B W hp (HEN.out W hW).1 (HEN.out W hW).2
  have hpk := fun (h : (mwrapL p).2 = 0) => And.intro (parts_pack hp h) (show tiny (mwrapL p).1.segs ∧ (mwrapL p).1.from_ < 256 ∧ (mwrapL p).1.to_ < 256 from by
    obtain ⟨h1, h2, h3, h4⟩ := mwrap_ok h
    rw [h4]
    exact ⟨tiny_toldL hp.m, hp.from_, hp.to_⟩)
  generalize mwrapL p = om at hwr hpk
  obtain ⟨⟨f, t, r, l⟩, E⟩ := om
  simp only at hwr hpk
  have HWR := Lib.hid hwr
  have HPK := Lib.hid hpk
  have HB0 := Lib.hid (Below.refl wb.heap.size wb)
  have HXI := Lib.hid hx
  clear he hB hp hp0 hbw hwr hpk hx
  suffices hmain : Calls Tryz.prog 6 #[.agg (pkV p), .int .i64 x] w fun e w' => e = .returned (.bool true) ∧ Below wb.heap.size wb w' from
    hmain.mono fun e w' h => ⟨h.1, HFIN.out _ h.2⟩
  go_enter Tryz.func6, Tryz.ntmps6
  go_wp2_with (refine wpList_load_row rfl 38 _ rfl w.heap.size rfl 38 (pkV p) (0, 0) _ (by rw [← hwb]; exact HCP.out) Tryz.underlying38 rfl sizePk ?_)
  rw [← hwb]
  refine (HWR.out _ HB0.out).mono ?_
  rintro e w1 ⟨pv, nv, cv, rfl, hb1, hv1⟩
  have HB1 := Lib.hid hb1
  clear hb1 hwb
  by_cases hE : E = 0
  · obtain ⟨⟨hn, hpa⟩, htl, hf, ht⟩ := HPK.out hE
    subst hE
    obtain ⟨_, _, hsl⟩ := segs_slice hv1
    cases hsl
    obtain ⟨xs, ⟨p', cap', he3, hn3, hp3⟩, hc3⟩ := hv1
    simp only [Value.slice.injEq] at he3
    obtain ⟨rfl, _, rfl⟩ := he3
    obtain ⟨b, o, rfl, hbl, hcell⟩ := hp3 hn
    have HC := Lib.hid hc3
    have HR := Lib.hid (show RowF w1 (· < w1.heap.size) (.slice (some ⟨b, o, none⟩) l.length cv) l.length xs from ⟨_, _, rfl, hn3, fun _ => ⟨b, o, rfl, hbl, hcell⟩⟩)
    have HXL := Lib.hid hc3.len
    have HPA := Lib.hid hpa
    have HTL := Lib.hid htl
    have HFT := Lib.hid (And.intro hf ht)
    have HN := Lib.hid (And.intro hn hn3)
    have hn1 : (0 : Int) < (l.length : Int) := by omega
    have hn2 : (l.length : Int) ≤ 64 := by have := htl.1; omega
    have hx1 := HXI.out.1
    have hx2 := HXI.out.2
    have HTM := Lib.hid (show (0 ≤ x.tmod (l.length : Int) → x.tmod (l.length : Int) < (l.length : Int)) ∧ (x.tmod (l.length : Int) < 0 → -(l.length : Int) < x.tmod (l.length : Int)) from by
      have h1 := Int.tmod_lt_of_pos x hn1
      have h2 := Int.lt_tmod_of_pos x hn1
      omega)
    clear hc3 hp3 hcell hbl hpa htl hf ht hn hn3 HPK HXI
    go_upto_if 32 with fail
    obtain ⟨y, hy⟩ : ∃ y, y = x.tmod (l.length : Int) := ⟨_, rfl⟩
    rw [← hy] at HTM ⊢
    clear hy hx1 hx2
    obtain ⟨wa, hwa⟩ : ∃ wa, wa = w1.alloc (.cells (wrV f t r (.slice (some ⟨b, o, none⟩) l.length cv)) 41) := ⟨_, rfl⟩
    rw [← hwa]
    have HBA := Lib.hid (show Below wb.heap.size wb wa by rw [hwa]; exact HB1.out.alloc HB1.out.size _)
    have HW1A := Lib.hid (show Below w1.heap.size w1 wa by rw [hwa]; exact (Below.refl _ _).alloc (Nat.le_refl _) _)
    have HWA := Lib.hid (show wa.heap[w1.heap.size]? = some (.cells (wrV f t r (.slice (some ⟨b, o, none⟩) l.length cv)) 41 (0, 0)) by rw [hwa]; exact at_last _ _)
    have HSA := Lib.hid (show wa.heap.size = w1.heap.size + 1 by rw [hwa, size_a])
    clear hwa
    go_cut [8] (fun kv wx => ∃ K : Nat, kv = .int .i64 (K : Int) ∧ Hid (K < l.length) ∧ wa = wx)
    case first =>
      by_cases hy0 : y < 0
      · have hy1 := HTM.out.2 hy0
        go_wp2_with fail
        go_meet
        case rel => exact ⟨(y + (l.length : Int)).toNat, by first | rfl | (congr 1; omega), Lib.hid (by omega), rfl⟩
      · have hy1 := HTM.out.1 (by omega)
        go_wp2_with fail
        go_meet
        case rel => exact ⟨y.toNat, by first | rfl | (congr 1; omega), Lib.hid (by omega), rfl⟩
    case rest => as_aux_lemma =>
      obtain ⟨K, rfl, HK, rfl⟩ := hcut
      clear HTM
      have hK0 : (0 : Int) ≤ (K : Int) := Int.natCast_nonneg _
      have hK1 : (K : Int) < (l.length : Int) := by have := HK.out; omega
      go_upto_region 11 with (refine wpList_load_row rfl 41 _ rfl w1.heap.size rfl 41 (wrV f t r (.slice (some ⟨b, o, none⟩) l.length cv)) (0, 0) _ HWA.out Tryz.underlying41 rfl sizeWr ?_)
      obtain ⟨w2, hw2⟩ : ∃ w2, w2 = wa.alloc (.cells (wrV f t r (.slice (some ⟨b, o, none⟩) l.length cv)) 41) := ⟨_, rfl⟩
      rw [← hw2]
      have HB2 := Lib.hid (show Below wb.heap.size wb w2 by rw [hw2]; exact HBA.out.alloc HBA.out.size _)
      have HW12 := Lib.hid (show Below w1.heap.size w1 w2 by rw [hw2]; exact HW1A.out.alloc HW1A.out.size _)
      have HR2 := Lib.hid (show w2.heap[w1.heap.size]? = some (.cells (wrV f t r (.slice (some ⟨b, o, none⟩) l.length cv)) 41 (0, 0)) by rw [hw2]; exact heap_past _ _ _ (lt_of_heap HWA.out) HWA.out)
      have HN2 := Lib.hid (show w2.heap[wa.heap.size]? = some (.cells (wrV f t r (.slice (some ⟨b, o, none⟩) l.length cv)) 41 (0, 0)) by rw [hw2]; exact at_last _ _)
      have HS2 := Lib.hid (show w2.heap.size = wa.heap.size + 1 by rw [hw2, size_a])
      clear hw2
      have hkw : IntKind.i64.wrap ((K : Int) + 1) = ((K + 1 : Nat) : Int) := by rw [IntKind.wrap_i64]; omega
      refine wp_region_held (S := fun w' => w'.heap[w1.heap.size]? = some (.cells (wrV f t r (.slice (some ⟨b, o, none⟩) l.length cv)) 41 (0, 0))) (by kernel_rfl) ?_
      change wpAnyH _ _ _ _ _ _ _ _ (World.drew _)
      obtain ⟨w3, hw3⟩ : ∃ w3, w3 = w2.drew := ⟨_, rfl⟩
      rw [← hw3]
      have HB3 := Lib.hid (show Below wb.heap.size wb w3 by rw [hw3]; exact HB2.out.drew)
      have HW13 := Lib.hid (show Below w1.heap.size w1 w3 by rw [hw3]; exact HW12.out.drew)
      have HS := Lib.hid (show w3.heap[w1.heap.size]? = some (.cells (wrV f t r (.slice (some ⟨b, o, none⟩) l.length cv)) 41 (0, 0)) by rw [hw3]; exact HR2.out)
      have HN3 := Lib.hid (show w3.heap[wa.heap.size]? = some (.cells (wrV f t r (.slice (some ⟨b, o, none⟩) l.length cv)) 41 (0, 0)) by rw [hw3]; exact HN2.out)
      have HS3 := Lib.hid (show w3.heap.size = wa.heap.size + 1 by rw [hw3]; exact HS2.out)
      clear hw3
      refine wpAnyH_take (i := 1) (oi := ⟨some 38, .fieldAddr 41 (.tmp 5) 3, _, _, _, none⟩) (v := .pointer (some ⟨w1.heap.size, 3, none⟩)) rfl (by kernel_rfl) (by kernel_rfl) (by kernel_rfl) (fun _ _ _ h => h) (Or.inl ⟨by rfl, fun w' hS => by go_simp⟩) HS.out ?_
      simp only [Act.put, List.setIfInBounds_toArray, List.set_cons_zero, List.set_cons_succ]
      refine wpAnyH_take (i := 2) (oi := ⟨some 39, .load 39 (.tmp 38), _, _, _, none⟩) (v := .slice (some ⟨b, o, none⟩) l.length cv) rfl (by kernel_rfl) (by kernel_rfl) (by kernel_rfl) (fun _ _ _ h => h) (Or.inl ⟨by rfl, fun w' hS => by have c := cell_of_arr hS 3; go_simp⟩) HS.out ?_
      simp only [Act.put, List.setIfInBounds_toArray, List.set_cons_zero, List.set_cons_succ]
      refine wpAnyH_take (i := 3) (oi := ⟨some 40, .move (.tmp 8), _, _, _, none⟩) (v := .int .i64 (K : Int)) rfl (by kernel_rfl) (by kernel_rfl) (by kernel_rfl) (fun _ _ _ h => h) (Or.inl ⟨by rfl, fun w' hS => by go_simp⟩) HS.out ?_
      simp only [Act.put, List.setIfInBounds_toArray, List.set_cons_zero, List.set_cons_succ]
      refine wpAnyH_take (i := 4) (oi := ⟨some 41, .slice 39 (.tmp 39) none (some (.tmp 40)) none, _, _, _, none⟩) (v := .slice (sub2 (some ⟨b, o, none⟩) cv 0) K cv) rfl (by kernel_rfl) (by kernel_rfl) (by kernel_rfl) (fun _ _ _ h => h) (yi_sgH (by rfl) _ _ rfl (some ⟨b, o, none⟩) l.length cv K rfl rfl (by have := HK.out; have := HN.out.2; omega)) HS.out ?_
      simp only [Act.put, List.setIfInBounds_toArray, List.set_cons_zero, List.set_cons_succ]
      refine wpAnyH_take (i := 6) (oi := ⟨some 43, .fieldAddr 41 (.tmp 5) 3, _, _, _, none⟩) (v := .pointer (some ⟨w1.heap.size, 3, none⟩)) rfl (by kernel_rfl) (by kernel_rfl) (by kernel_rfl) (fun _ _ _ h => h) (Or.inl ⟨by rfl, fun w' hS => by go_simp⟩) HS.out ?_
      simp only [Act.put, List.setIfInBounds_toArray, List.set_cons_zero, List.set_cons_succ]
      refine wpAnyH_take (i := 7) (oi := ⟨some 44, .load 39 (.tmp 43), _, _, _, none⟩) (v := .slice (some ⟨b, o, none⟩) l.length cv) rfl (by kernel_rfl) (by kernel_rfl) (by kernel_rfl) (fun _ _ _ h => h) (Or.inl ⟨by rfl, fun w' hS => by have c := cell_of_arr hS 3; go_simp⟩) HS.out ?_
      simp only [Act.put, List.setIfInBounds_toArray, List.set_cons_zero, List.set_cons_succ]
      refine wpAnyH_take (i := 8) (oi := ⟨some 45, .move (.tmp 8), _, _, _, none⟩) (v := .int .i64 (K : Int)) rfl (by kernel_rfl) (by kernel_rfl) (by kernel_rfl) (fun _ _ _ h => h) (Or.inl ⟨by rfl, fun w' hS => by go_simp⟩) HS.out ?_
      simp only [Act.put, List.setIfInBounds_toArray, List.set_cons_zero, List.set_cons_succ]
      refine wpAnyH_take (i := 9) (oi := ⟨some 46, .binOp .add 3 (.tmp 45) (.const (.int .i64 1)) 3, _, _, _, none⟩) (v := .int .i64 ((K + 1 : Nat) : Int)) rfl (by kernel_rfl) (by kernel_rfl) (by kernel_rfl) (fun _ _ _ h => h) (Or.inl ⟨by rfl, fun w' hS => by go_simp⟩) HS.out ?_
      simp only [Act.put, List.setIfInBounds_toArray, List.set_cons_zero, List.set_cons_succ]
      refine wpAnyH_take (i := 10) (oi := ⟨some 47, .slice 39 (.tmp 44) (some (.tmp 46)) none none, _, _, _, none⟩) (v := .slice (sub2 (some ⟨b, o, none⟩) cv (K + 1)) (l.length - (K + 1)) (cv - (K + 1))) rfl (by kernel_rfl) (by kernel_rfl) (by kernel_rfl) (fun _ _ _ h => h) (yi_sgL (by rfl) _ _ rfl (some ⟨b, o, none⟩) l.length cv (K + 1) rfl rfl (by have := HK.out; omega)) HS.out ?_
      simp only [Act.put, List.setIfInBounds_toArray, List.set_cons_zero, List.set_cons_succ]
      refine wpAnyH_ready (rs := [0]) (by kernel_rfl) (by simp) (AllReadyH.cons (o := ⟨some 37, .buildSlice 39 0 #[], _, _, _, none⟩) rfl (fun K' hK => ?_) AllReadyH.nil)
      have HOA := Lib.hid (World.ownsRow_made (base := w3.heap.size) (e := 58) (size := 2) w3 #[] 0 (Nat.le_refl _) (by decide) rfl)
      have HB4 := Lib.hid (HB3.out.alloc HB3.out.size (.cells #[] 58))
      have HW14 := Lib.hid (HW13.out.alloc HW13.out.size (.cells #[] 58))
      have HW34 := Lib.hid ((Below.refl w3.heap.size w3).alloc (Nat.le_refl _) (.cells #[] 58))
      have HSb := Lib.hid (show (w3.alloc (.cells #[] 58)).heap[w1.heap.size]? = some (.cells (wrV f t r (.slice (some ⟨b, o, none⟩) l.length cv)) 41 (0, 0)) from heap_past _ _ _ (lt_of_heap HS.out) HS.out)
      go_simp
      refine hK.out _ _ HSb.out (fun _ => ?_)
      clear hK K'
      try (simp only [Act.put, List.setIfInBounds_toArray, List.set_cons_zero, List.set_cons_succ])
      refine wpAnyH_ready (rs := [5]) (by kernel_rfl) (by simp) (AllReadyH.cons (o := ⟨some 42, .call ⟨.builtin .append, #[.tmp 37, .tmp 41], _⟩, _, _, _, none⟩) rfl (fun K' hK => ?_) AllReadyH.nil)
      rw [if_pos (by rfl)]
      refine st_appF 39 58 (.agg #[.string ⟨#[]⟩, .slice none 0 0]) 2 40 par_segm Tryz.underlying39 rfl (by decide) (by decide) w3.heap.size (.slice (some ⟨w3.heap.size, 0, none⟩) 0 0) 0 [] rfl HOA.out (.slice (sub2 (some ⟨b, o, none⟩) cv 0) K cv) _ K (xs.take (K * 2)) rfl (RowF.kept (rowf_hd HR.out (by have := HK.out; omega)) (kp_old HW14.out)) (by rw [List.length_take, HXL.out]; have := HK.out; omega) (fun u hu => one_sgc HC.out u (List.mem_of_mem_take hu)) (by have := HK.out; omega) (by simp only [size_a]; omega) ?_
      intro v1 w5 ho1 hgr1 _
      rw [Nat.zero_add, List.nil_append] at ho1
      obtain ⟨p1, c1, rfl⟩ := own_slice ho1
      have HO1 := Lib.hid ho1
      have HW35 := Lib.hid (HW34.out.grown hgr1 (by simp only [size_a]; omega) (fun k hk => (HOA.out.lt k hk).1))
      have HB5 := Lib.hid (HB3.out.trans (HW35.out.mono HB3.out.size))
      have HW15 := Lib.hid (HW13.out.trans (HW35.out.mono HW13.out.size))
      have HSc := Lib.hid (show w5.heap[w1.heap.size]? = some (.cells (wrV f t r (.slice (some ⟨b, o, none⟩) l.length cv)) 41 (0, 0)) from (HW35.out.block _ (lt_of_heap HS.out)).trans HS.out)
      clear ho1 hgr1
      refine hK.out _ _ HSc.out (fun _ => ?_)
      clear hK K'
      try (simp only [Act.put, List.setIfInBounds_toArray, List.set_cons_zero, List.set_cons_succ])
      try rw [Nat.zero_add]
      refine wpAnyH_ready (rs := [11]) (by kernel_rfl) (by simp) (AllReadyH.cons (o := ⟨some 48, .call ⟨.builtin .append, #[.tmp 42, .tmp 47], _⟩, _, _, _, none⟩) rfl (fun K' hK => ?_) AllReadyH.nil)
      rw [if_pos (by rfl)]
      refine st_appF 39 58 (.agg #[.string ⟨#[]⟩, .slice none 0 0]) 2 40 par_segm Tryz.underlying39 rfl (by decide) (by decide) w3.heap.size (.slice p1 K c1) K (xs.take (K * 2)) rfl HO1.out (.slice (sub2 (some ⟨b, o, none⟩) cv (K + 1)) (l.length - (K + 1)) (cv - (K + 1))) _ (l.length - (K + 1)) (xs.drop ((K + 1) * 2)) rfl (RowF.kept (rowf_tl HR.out (by have := HK.out; omega)) (kp_old HW15.out)) (by rw [List.length_drop, HXL.out]; have := HK.out; omega) (fun u hu => one_sgc HC.out u (List.mem_of_mem_drop hu)) (by have := HK.out; omega) (by have := HW35.out.size; omega) ?_
      intro v2 w6 ho2 hgr2 _
      obtain ⟨p2, c2, rfl⟩ := own_slice ho2
      have HW36 := Lib.hid (HW35.out.grown hgr2 HW35.out.size (fun k hk => (HO1.out.lt k hk).1))
      have HB6 := Lib.hid (HB3.out.trans (HW36.out.mono HB3.out.size))
      have HW16 := Lib.hid (HW13.out.trans (HW36.out.mono HW13.out.size))
      have HSd := Lib.hid (show w6.heap[w1.heap.size]? = some (.cells (wrV f t r (.slice (some ⟨b, o, none⟩) l.length cv)) 41 (0, 0)) from (HW36.out.block _ (lt_of_heap HS.out)).trans HS.out)
      have HN6 := Lib.hid (show w6.heap[wa.heap.size]? = some (.cells (wrV f t r (.slice (some ⟨b, o, none⟩) l.length cv)) 41 (0, 0)) from (HW36.out.block _ (lt_of_heap HN3.out)).trans HN3.out)
      have HLI := Lib.hid (less_in HC.out HK.out HW16.out ho2)
      clear ho2 hgr2
      refine hK.out _ _ HSd.out (fun _ => ?_)
      clear hK K'
      try (simp only [Act.put, List.setIfInBounds_toArray, List.set_cons_zero, List.set_cons_succ])
      refine wpAnyH_take (i := 12) (oi := ⟨some 49, .fieldAddr 41 (.tmp 9) 3, _, _, _, none⟩) (v := .pointer (some ⟨wa.heap.size, 3, none⟩)) rfl (by kernel_rfl) (by kernel_rfl) (by kernel_rfl) (fun _ _ _ h => h) (Or.inl ⟨by rfl, fun w' hS => by go_simp⟩) HSd.out ?_
      simp only [Act.put, List.setIfInBounds_toArray, List.set_cons_zero, List.set_cons_succ]
      refine wpAnyH_ready (rs := [13]) (by kernel_rfl) (by simp) (AllReadyH.cons (o := ⟨none, .store 39 (.tmp 49) (.tmp 48), _, _, _, none⟩) rfl (fun K' hK => ?_) AllReadyH.nil)
      have cc := cell_of_arr HN6.out 3
      have cf := frozen_of_arr HN6.out 3
      simp only [List.getElem?_toArray, List.getElem?_cons_zero, List.getElem?_cons_succ] at cc
      go_simp
      obtain ⟨w7, hw7⟩ : ∃ w7, w7 = w6.setCell ⟨wa.heap.size, 3, none⟩ (.slice p2 (K + (l.length - (K + 1))) c2) := ⟨_, rfl⟩
      rw [← hw7]
      have HB7 := Lib.hid (show Below wb.heap.size wb w7 by rw [hw7]; exact HB6.out.setCell (p := ⟨wa.heap.size, 3, none⟩) HBA.out.size _)
      have HWA7 := Lib.hid (show w7.heap[w1.heap.size]? = some (.cells (wrV f t r (.slice (some ⟨b, o, none⟩) l.length cv)) 41 (0, 0)) by rw [hw7]; exact (Below.heap_setCell _ _ _ _ (by show w1.heap.size ≠ wa.heap.size; rw [HSA.out]; omega)).trans HSd.out)
      have HN7 := Lib.hid (show w7.heap[wa.heap.size]? = some (.cells (wrV f t r (.slice p2 (K + (l.length - (K + 1))) c2)) 41 (0, 0)) by rw [hw7]; exact set_heap HN6.out 3 _)
      have HW17 := Lib.hid (show Below w1.heap.size w1 w7 by rw [hw7]; exact HW16.out.setCell (p := ⟨wa.heap.size, 3, none⟩) (by rw [HSA.out]; exact Nat.le_succ _) _)
      have HS7 := Lib.hid (show w7.heap.size = w6.heap.size by rw [hw7]; simp)
      have HLS := Lib.hid (show SegsF w7 (fun b => b < w7.heap.size ∧ b ≠ wa.heap.size) (.slice p2 (K + (l.length - (K + 1))) c2) (lessL l K) from HLI.out.kept (fun b hb => by
        have h1 := HS7.out; have h2 := HSA.out; have h3 := HS3.out; have h4 := HW36.out.size
        exact ⟨by omega, by rw [hw7]; exact Below.heap_setCell _ _ _ _ (by simp only; omega)⟩))
      clear hw7 cc cf
      refine hK.out _ _ HWA7.out (fun _ => ?_)
      clear hK K'
      try (simp only [Act.put, List.setIfInBounds_toArray, List.set_cons_zero, List.set_cons_succ])
      refine wpAnyH_done (by kernel_rfl) ?_ _
      clear HS HSb HSc HSd HOA HO1 HN3 HN6 HLI HW34 HW35 HB3 HB4 HB5 HW13 HW14 HW15
      go_upto_region 13 with (refine wpList_load_row rfl 41 _ rfl w1.heap.size rfl 41 (wrV f t r (.slice (some ⟨b, o, none⟩) l.length cv)) (0, 0) _ HWA7.out Tryz.underlying41 rfl sizeWr ?_)
      obtain ⟨w8, hw8⟩ : ∃ w8, w8 = w7.alloc (.cells (wrV f t r (.slice (some ⟨b, o, none⟩) l.length cv)) 41) := ⟨_, rfl⟩
      rw [← hw8]
      have HB8 := Lib.hid (show Below wb.heap.size wb w8 by rw [hw8]; exact HB7.out.alloc HB7.out.size _)
      have HW18 := Lib.hid (show Below w1.heap.size w1 w8 by rw [hw8]; exact HW17.out.alloc HW17.out.size _)
      have HW78 := Lib.hid (show Below w7.heap.size w7 w8 by rw [hw8]; exact (Below.refl _ _).alloc (Nat.le_refl _) _)
      have HN8 := Lib.hid (show w8.heap[w7.heap.size]? = some (.cells (wrV f t r (.slice (some ⟨b, o, none⟩) l.length cv)) 41 (0, 0)) by rw [hw8]; exact at_last _ _)
      have HS8 := Lib.hid (show w8.heap.size = w7.heap.size + 1 by rw [hw8, size_a])
      clear hw8
      obtain ⟨e0, e1, hx0, hx1, hge⟩ := sgc_get HC.out K HK.out
      have HGE := Lib.hid hge
      have HX01 := Lib.hid (show ∀ wz, Below w1.heap.size w1 wz → wz.cell? ⟨b, o + K * 2, none⟩ = some e0 ∧ wz.cell? ⟨b, o + K * 2 + 1, none⟩ = some e1 from fun wz hz => by
        obtain ⟨p', cap', he3, _, hp3⟩ := HR.out
        simp only [Value.slice.injEq] at he3
        obtain ⟨rfl, _, _⟩ := he3
        obtain ⟨b', o', hbo, hbl, hcell⟩ := hp3 HN.out.1
        cases hbo
        exact ⟨(World.cell?_of_block (a := ⟨b, o + K * 2, none⟩) (hz.block b hbl)).trans (hcell _ _ hx0), (World.cell?_of_block (a := ⟨b, o + K * 2 + 1, none⟩) (hz.block b hbl)).trans (by rw [Nat.add_assoc]; exact hcell _ _ hx1)⟩)
      have HXB := Lib.hid (show e0.oneCell' = true ∧ e1.oneCell' = true from ⟨one_sgc HC.out e0 (List.mem_of_getElem? hx0), one_sgc HC.out e1 (List.mem_of_getElem? hx1)⟩)
      clear hx0 hx1 hge
      go_cut [8] (fun kv wx => kv = .int .i64 (K : Int) ∧ Hid (MoreR w7 f t r l K wx))
      case first => as_aux_lemma =>
        refine wp_region_held (S := fun w' => (w'.heap[w1.heap.size]? = some (.cells (wrV f t r (.slice (some ⟨b, o, none⟩) l.length cv)) 41 (0, 0)) ∧ w'.cell? ⟨b, o + K * 2, none⟩ = some e0 ∧ w'.cell? ⟨b, o + K * 2 + 1, none⟩ = some e1)) (by kernel_rfl) ?_
        change wpAnyH _ _ _ _ _ _ _ _ (World.drew _)
        obtain ⟨w9, hw9⟩ : ∃ w9, w9 = w8.drew := ⟨_, rfl⟩
        rw [← hw9]
        have HW19 := Lib.hid (show Below w1.heap.size w1 w9 by rw [hw9]; exact HW18.out.drew)
        have HW79 := Lib.hid (show Below w7.heap.size w7 w9 by rw [hw9]; exact HW78.out.drew)
        have HSS := Lib.hid (show ∀ wz, Below w9.heap.size w9 wz → (wz.heap[w1.heap.size]? = some (.cells (wrV f t r (.slice (some ⟨b, o, none⟩) l.length cv)) 41 (0, 0)) ∧ wz.cell? ⟨b, o + K * 2, none⟩ = some e0 ∧ wz.cell? ⟨b, o + K * 2 + 1, none⟩ = some e1) from fun wz hz => ⟨(hz.block _ (lt_of_heap ((HW79.out.block _ (lt_of_heap HWA7.out)).trans HWA7.out))).trans ((HW79.out.block _ (lt_of_heap HWA7.out)).trans HWA7.out), HX01.out _ (HW19.out.trans (hz.mono HW19.out.size))⟩)
        have HS := Lib.hid (HSS.out w9 (Below.refl _ _))
        have HN9 := Lib.hid (show w9.heap[w7.heap.size]? = some (.cells (wrV f t r (.slice (some ⟨b, o, none⟩) l.length cv)) 41 (0, 0)) by rw [hw9]; exact HN8.out)
        have HS9 := Lib.hid (show w9.heap.size = w7.heap.size + 1 by rw [hw9]; exact HS8.out)
        have HHD := Lib.hid (fun wz (hz : Below w9.heap.size w9 wz) => RowF.kept (rowf_hd (m := K) HR.out (by have := HK.out; omega)) (kp_old (HW19.out.trans (hz.mono HW19.out.size))))
        have HTL2 := Lib.hid (fun wz (hz : Below w9.heap.size w9 wz) => RowF.kept (rowf_tl (m := K) HR.out (by have := HK.out; omega)) (kp_old (HW19.out.trans (hz.mono HW19.out.size))))
        clear hw9
        refine wpAnyH_take (i := 1) (oi := ⟨some 52, .fieldAddr 41 (.tmp 5) 3, _, _, _, none⟩) (v := .pointer (some ⟨w1.heap.size, 3, none⟩)) rfl (by kernel_rfl) (by kernel_rfl) (by kernel_rfl) (fun _ _ _ h => h) (Or.inl ⟨by rfl, fun w' hS => by go_simp⟩) HS.out ?_
        simp only [Act.put, List.setIfInBounds_toArray, List.set_cons_zero, List.set_cons_succ]
        refine wpAnyH_take (i := 2) (oi := ⟨some 53, .load 39 (.tmp 52), _, _, _, none⟩) (v := .slice (some ⟨b, o, none⟩) l.length cv) rfl (by kernel_rfl) (by kernel_rfl) (by kernel_rfl) (fun _ _ _ h => h) (Or.inl ⟨by rfl, fun w' hS => by have c := cell_of_arr hS.1 3; go_simp⟩) HS.out ?_
        simp only [Act.put, List.setIfInBounds_toArray, List.set_cons_zero, List.set_cons_succ]
        refine wpAnyH_take (i := 3) (oi := ⟨some 54, .move (.tmp 8), _, _, _, none⟩) (v := .int .i64 (K : Int)) rfl (by kernel_rfl) (by kernel_rfl) (by kernel_rfl) (fun _ _ _ h => h) (Or.inl ⟨by rfl, fun w' hS => by go_simp⟩) HS.out ?_
        simp only [Act.put, List.setIfInBounds_toArray, List.set_cons_zero, List.set_cons_succ]
        refine wpAnyH_take (i := 4) (oi := ⟨some 55, .slice 39 (.tmp 53) none (some (.tmp 54)) none, _, _, _, none⟩) (v := .slice (sub2 (some ⟨b, o, none⟩) cv 0) K cv) rfl (by kernel_rfl) (by kernel_rfl) (by kernel_rfl) (fun _ _ _ h => h) (yi_sgH (by rfl) _ _ rfl (some ⟨b, o, none⟩) l.length cv K rfl rfl (by have := HK.out; have := HN.out.2; omega)) HS.out ?_
        simp only [Act.put, List.setIfInBounds_toArray, List.set_cons_zero, List.set_cons_succ]
        refine wpAnyH_take (i := 6) (oi := ⟨some 57, .fieldAddr 41 (.tmp 5) 3, _, _, _, none⟩) (v := .pointer (some ⟨w1.heap.size, 3, none⟩)) rfl (by kernel_rfl) (by kernel_rfl) (by kernel_rfl) (fun _ _ _ h => h) (Or.inl ⟨by rfl, fun w' hS => by go_simp⟩) HS.out ?_
        simp only [Act.put, List.setIfInBounds_toArray, List.set_cons_zero, List.set_cons_succ]
        refine wpAnyH_take (i := 7) (oi := ⟨some 58, .load 39 (.tmp 57), _, _, _, none⟩) (v := .slice (some ⟨b, o, none⟩) l.length cv) rfl (by kernel_rfl) (by kernel_rfl) (by kernel_rfl) (fun _ _ _ h => h) (Or.inl ⟨by rfl, fun w' hS => by have c := cell_of_arr hS.1 3; go_simp⟩) HS.out ?_
        simp only [Act.put, List.setIfInBounds_toArray, List.set_cons_zero, List.set_cons_succ]
        refine wpAnyH_take (i := 8) (oi := ⟨some 59, .move (.tmp 8), _, _, _, none⟩) (v := .int .i64 (K : Int)) rfl (by kernel_rfl) (by kernel_rfl) (by kernel_rfl) (fun _ _ _ h => h) (Or.inl ⟨by rfl, fun w' hS => by go_simp⟩) HS.out ?_
        simp only [Act.put, List.setIfInBounds_toArray, List.set_cons_zero, List.set_cons_succ]
        refine wpAnyH_take (i := 9) (oi := ⟨some 60, .indexAddr 39 (.tmp 58) (.tmp 59), _, _, _, none⟩) (v := .pointer (some ⟨b, o + K * 2, none⟩)) rfl (by kernel_rfl) (by kernel_rfl) (by kernel_rfl) (fun _ _ _ h => h) (Or.inl ⟨by rfl, fun w' hS => by go_simp⟩) HS.out ?_
        simp only [Act.put, List.setIfInBounds_toArray, List.set_cons_zero, List.set_cons_succ]
        refine wpAnyH_take (i := 10) (oi := ⟨some 61, .load 58 (.tmp 60), _, _, _, none⟩) (v := .agg #[e0, e1]) rfl (by kernel_rfl) (by kernel_rfl) (by kernel_rfl) (fun _ _ _ h => h) (Or.inl ⟨by rfl, fun w' hS => by have c0 := hS.2.1; have c1 := hS.2.2; go_simp⟩) HS.out ?_
        simp only [Act.put, List.setIfInBounds_toArray, List.set_cons_zero, List.set_cons_succ]
        refine wpAnyH_take (i := 13) (oi := ⟨some 64, .fieldAddr 41 (.tmp 5) 3, _, _, _, none⟩) (v := .pointer (some ⟨w1.heap.size, 3, none⟩)) rfl (by kernel_rfl) (by kernel_rfl) (by kernel_rfl) (fun _ _ _ h => h) (Or.inl ⟨by rfl, fun w' hS => by go_simp⟩) HS.out ?_
        simp only [Act.put, List.setIfInBounds_toArray, List.set_cons_zero, List.set_cons_succ]
        refine wpAnyH_take (i := 14) (oi := ⟨some 65, .load 39 (.tmp 64), _, _, _, none⟩) (v := .slice (some ⟨b, o, none⟩) l.length cv) rfl (by kernel_rfl) (by kernel_rfl) (by kernel_rfl) (fun _ _ _ h => h) (Or.inl ⟨by rfl, fun w' hS => by have c := cell_of_arr hS.1 3; go_simp⟩) HS.out ?_
        simp only [Act.put, List.setIfInBounds_toArray, List.set_cons_zero, List.set_cons_succ]
        refine wpAnyH_take (i := 15) (oi := ⟨some 66, .move (.tmp 8), _, _, _, none⟩) (v := .int .i64 (K : Int)) rfl (by kernel_rfl) (by kernel_rfl) (by kernel_rfl) (fun _ _ _ h => h) (Or.inl ⟨by rfl, fun w' hS => by go_simp⟩) HS.out ?_
        simp only [Act.put, List.setIfInBounds_toArray, List.set_cons_zero, List.set_cons_succ]
        refine wpAnyH_take (i := 16) (oi := ⟨some 67, .slice 39 (.tmp 65) (some (.tmp 66)) none none, _, _, _, none⟩) (v := .slice (sub2 (some ⟨b, o, none⟩) cv K) (l.length - K) (cv - K)) rfl (by kernel_rfl) (by kernel_rfl) (by kernel_rfl) (fun _ _ _ h => h) (yi_sgL (by rfl) _ _ rfl (some ⟨b, o, none⟩) l.length cv K rfl rfl (by have := HK.out; omega)) HS.out ?_
        simp only [Act.put, List.setIfInBounds_toArray, List.set_cons_zero, List.set_cons_succ]
        refine wpAnyH_ready (rs := [0, 11]) (by kernel_rfl) (by simp) (AllReadyH.cons (o := ⟨some 51, .buildSlice 39 0 #[], _, _, _, none⟩) rfl (fun K' hK => ?_) (AllReadyH.cons (o := ⟨some 62, .buildSlice 39 1 #[(0, .tmp 61)], _, _, _, none⟩) rfl (fun K' hK => ?_) AllReadyH.nil))
        · obtain ⟨wn, hwn⟩ : ∃ wn, wn = w9.alloc (.cells #[] 58) := ⟨_, rfl⟩
          have Hwn := Lib.hid (show Below w9.heap.size w9 wn by rw [hwn]; exact (Below.refl w9.heap.size w9).alloc ((Below.refl w9.heap.size w9)).size _)
          have HOA := Lib.hid (show wn.ownsRow w9.heap.size 58 2 (.slice (some ⟨w9.heap.size, 0, none⟩) 0 0) 0 [] by rw [hwn]; exact World.ownsRow_made (base := w9.heap.size) (e := 58) (size := 2) w9 #[] 0 ((Below.refl w9.heap.size w9)).size (by decide) rfl)
          go_simp
          rw [← hwn]
          refine hK.out _ _ (HSS.out _ Hwn.out) (fun _ => ?_)
          clear hK K'
          try (simp only [Act.put, List.setIfInBounds_toArray, List.set_cons_zero, List.set_cons_succ])
          refine wpAnyH_ready (rs := [5, 11]) (by kernel_rfl) (by simp) (AllReadyH.cons (o := ⟨some 56, .call ⟨.builtin .append, #[.tmp 51, .tmp 55], _⟩, _, _, _, none⟩) rfl (fun K' hK => ?_) (AllReadyH.cons (o := ⟨some 62, .buildSlice 39 1 #[(0, .tmp 61)], _, _, _, none⟩) rfl (fun K' hK => ?_) AllReadyH.nil))
          · clear hwn
            rw [if_pos (by rfl)]
            refine st_appF 39 58 (.agg #[.string ⟨#[]⟩, .slice none 0 0]) 2 40 par_segm Tryz.underlying39 rfl (by decide) (by decide) w9.heap.size (.slice (some ⟨w9.heap.size, 0, none⟩) 0 0) 0 [] rfl HOA.out (.slice (sub2 (some ⟨b, o, none⟩) cv 0) K cv) _ K (xs.take (K * 2)) rfl (HHD.out _ Hwn.out) (by rw [List.length_take, HXL.out]; have := HK.out; omega) (fun u hu => one_sgc HC.out u (List.mem_of_mem_take hu)) (by have := HK.out; omega) Hwn.out.size ?_
            intro v1 wp ho1 hgr1 _
            rw [Nat.zero_add, List.nil_append] at ho1
            obtain ⟨p1, c1, rfl⟩ := own_slice ho1
            have HO1 := Lib.hid ho1
            have HG1 := Lib.hid hgr1
            have Hwp := Lib.hid (Hwn.out.grown hgr1 Hwn.out.size (fun k hk => (HOA.out.lt k hk).1))
            clear ho1 hgr1
            refine hK.out _ _ (HSS.out _ Hwp.out) (fun _ => ?_)
            clear hK K'
            try (simp only [Act.put, List.setIfInBounds_toArray, List.set_cons_zero, List.set_cons_succ])
            try rw [Nat.zero_add]
            refine wpAnyH_ready (rs := [11]) (by kernel_rfl) (by simp) (AllReadyH.cons (o := ⟨some 62, .buildSlice 39 1 #[(0, .tmp 61)], _, _, _, none⟩) rfl (fun K' hK => ?_) AllReadyH.nil)
            obtain ⟨wq, hwq⟩ : ∃ wq, wq = wp.alloc (.cells #[e0, e1] 58) := ⟨_, rfl⟩
            have Hwq := Lib.hid (show Below w9.heap.size w9 wq by rw [hwq]; exact Hwp.out.alloc (Hwp.out).size _)
            have HGwq := Lib.hid (show wq.heap[wp.heap.size]? = some (.cells #[e0, e1] 58 (0, 0)) by rw [hwq]; exact at_last _ _)
            go_simp
            rw [← hwq]
            have HO1b := Lib.hid (show wq.ownsRow w9.heap.size 58 2 (.slice p1 K c1) K (xs.take (K * 2)) by rw [hwq]; exact HO1.out.alloc _)
            clear HO1 hwq
            have HO1 := HO1b
            have HGE1 := HGwq
            refine hK.out _ _ (HSS.out _ Hwq.out) (fun _ => ?_)
            clear hK K'
            try (simp only [Act.put, List.setIfInBounds_toArray, List.set_cons_zero, List.set_cons_succ])
            refine wpAnyH_ready (rs := [12]) (by kernel_rfl) (by simp) (AllReadyH.cons (o := ⟨some 63, .call ⟨.builtin .append, #[.tmp 56, .tmp 62], _⟩, _, _, _, none⟩) rfl (fun K' hK => ?_) AllReadyH.nil)
            rw [if_pos (by rfl)]
            refine st_app1 39 58 (.agg #[.string ⟨#[]⟩, .slice none 0 0]) 2 40 par_segm Tryz.underlying39 rfl (by decide) (by decide) w9.heap.size (.slice p1 K c1) K (xs.take (K * 2)) rfl HO1.out wp.heap.size 1 [e0, e1] 58 (0, 0) rfl rfl HGE1.out (by intro u hu; simp at hu; rcases hu with rfl | rfl; exact HXB.out.1; exact HXB.out.2) (by have := HK.out; omega) Hwq.out.size ?_
            intro v2 wy ho2 hgr2 _
            obtain ⟨p2, c2, rfl⟩ := own_slice ho2
            have HO2 := Lib.hid ho2
            have Hwy := Lib.hid (Hwq.out.grown hgr2 Hwq.out.size (fun k hk => (HO1.out.lt k hk).1))
            clear ho2 hgr2
            refine hK.out _ _ (HSS.out _ Hwy.out) (fun _ => ?_)
            clear hK K'
            try (simp only [Act.put, List.setIfInBounds_toArray, List.set_cons_zero, List.set_cons_succ])
            refine wpAnyH_ready (rs := [17]) (by kernel_rfl) (by simp) (AllReadyH.cons (o := ⟨some 68, .call ⟨.builtin .append, #[.tmp 63, .tmp 67], _⟩, _, _, _, none⟩) rfl (fun K' hK => ?_) AllReadyH.nil)
            rw [if_pos (by rfl)]
            refine st_appF 39 58 (.agg #[.string ⟨#[]⟩, .slice none 0 0]) 2 40 par_segm Tryz.underlying39 rfl (by decide) (by decide) w9.heap.size (.slice p2 (K + 1) c2) (K + 1) (xs.take (K * 2) ++ [e0, e1]) rfl HO2.out (.slice (sub2 (some ⟨b, o, none⟩) cv K) (l.length - K) (cv - K)) _ (l.length - K) (xs.drop (K * 2)) rfl (HTL2.out _ Hwy.out) (by rw [List.length_drop, HXL.out]; have := HK.out; omega) (fun u hu => one_sgc HC.out u (List.mem_of_mem_drop hu)) (by have := HK.out; omega) Hwy.out.size ?_
            intro v3 wz ho3 hgr3 _
            obtain ⟨p3, c3, rfl⟩ := own_slice ho3
            have Hwz := Lib.hid (Hwy.out.grown hgr3 Hwy.out.size (fun k hk => (HO2.out.lt k hk).1))
            have HMI := Lib.hid (more_in HC.out HK.out (HW19.out.trans (Hwz.out.mono HW19.out.size)) HGE.out ho3)
            have HNZ := Lib.hid (show wz.heap[w7.heap.size]? = some (.cells (wrV f t r (.slice (some ⟨b, o, none⟩) l.length cv)) 41 (0, 0)) from (Hwz.out.block _ (lt_of_heap HN9.out)).trans HN9.out)
            clear ho3 hgr3
            refine hK.out _ _ (HSS.out _ Hwz.out) (fun _ => ?_)
            clear hK K'
            try (simp only [Act.put, List.setIfInBounds_toArray, List.set_cons_zero, List.set_cons_succ])
            refine wpAnyH_take (i := 18) (oi := ⟨some 69, .fieldAddr 41 (.tmp 10) 3, _, _, _, none⟩) (v := .pointer (some ⟨w7.heap.size, 3, none⟩)) rfl (by kernel_rfl) (by kernel_rfl) (by kernel_rfl) (fun _ _ _ h => h) (Or.inl ⟨by rfl, fun w' hS => by go_simp⟩) (HSS.out _ Hwz.out) ?_
            simp only [Act.put, List.setIfInBounds_toArray, List.set_cons_zero, List.set_cons_succ]
            refine wpAnyH_ready (rs := [19]) (by kernel_rfl) (by simp) (AllReadyH.cons (o := ⟨none, .store 39 (.tmp 69) (.tmp 68), _, _, _, none⟩) rfl (fun K' hK => ?_) AllReadyH.nil)
            have cc := cell_of_arr HNZ.out 3
            have cf := frozen_of_arr HNZ.out 3
            simp only [List.getElem?_toArray, List.getElem?_cons_zero, List.getElem?_cons_succ] at cc
            go_simp
            obtain ⟨wt, hwt⟩ : ∃ wt, wt = wz.setCell ⟨w7.heap.size, 3, none⟩ (.slice p3 (K + 1 + (l.length - K)) c3) := ⟨_, rfl⟩
            rw [← hwt]
            have HST := Lib.hid (show wt.heap.size = wz.heap.size by rw [hwt]; simp)
            have HWT := Lib.hid (show Below w7.heap.size w7 wt by rw [hwt]; exact (HW79.out.trans (Hwz.out.mono HW79.out.size)).setCell (p := ⟨w7.heap.size, 3, none⟩) (Nat.le_refl _) _)
            have HST2 := Lib.hid (show (wt.heap[w1.heap.size]? = some (.cells (wrV f t r (.slice (some ⟨b, o, none⟩) l.length cv)) 41 (0, 0)) ∧ wt.cell? ⟨b, o + K * 2, none⟩ = some e0 ∧ wt.cell? ⟨b, o + K * 2 + 1, none⟩ = some e1) from ⟨(HWT.out.block _ (lt_of_heap HWA7.out)).trans HWA7.out, HX01.out _ (HW17.out.trans (HWT.out.mono HW17.out.size))⟩)
            have HMR := Lib.hid (show MoreR w7 f t r l K wt from ⟨p3, c3, by rw [hwt]; exact set_heap HNZ.out 3 _, HMI.out.kept (fun b hb => by
              have h1 := HST.out; have h2 := HS9.out; have h4 := Hwz.out.size; have h5 := HW17.out.size
              refine ⟨by rw [h1]; omega, ?_⟩
              rw [hwt]
              exact Below.heap_setCell _ _ _ _ (by simp only; omega)), HWT.out⟩)
            clear hwt cc cf
            refine hK.out _ _ HST2.out (fun _ => ?_)
            clear hK K'
            try (simp only [Act.put, List.setIfInBounds_toArray, List.set_cons_zero, List.set_cons_succ])
            refine wpAnyH_done (by kernel_rfl) ?_ _
            go_wp2_with fail
            go_meet
            case rel => exact ⟨rfl, HMR⟩
          · have HZN := Lib.hid (show wn.heap.size = w9.heap.size + 1 by rw [hwn, size_a])
            clear hwn
            obtain ⟨wp, hwp⟩ : ∃ wp, wp = wn.alloc (.cells #[e0, e1] 58) := ⟨_, rfl⟩
            have Hwp := Lib.hid (show Below w9.heap.size w9 wp by rw [hwp]; exact Hwn.out.alloc (Hwn.out).size _)
            have HGwp := Lib.hid (show wp.heap[wn.heap.size]? = some (.cells #[e0, e1] 58 (0, 0)) by rw [hwp]; exact at_last _ _)
            go_simp
            rw [← hwp]
            have HOAb := Lib.hid (show wp.ownsRow w9.heap.size 58 2 (.slice (some ⟨w9.heap.size, 0, none⟩) 0 0) 0 [] by rw [hwp]; exact HOA.out.alloc _)
            clear HOA
            have HOA := HOAb
            clear hwp
            refine hK.out _ _ (HSS.out _ Hwp.out) (fun _ => ?_)
            clear hK K'
            try (simp only [Act.put, List.setIfInBounds_toArray, List.set_cons_zero, List.set_cons_succ])
            refine wpAnyH_ready (rs := [5]) (by kernel_rfl) (by simp) (AllReadyH.cons (o := ⟨some 56, .call ⟨.builtin .append, #[.tmp 51, .tmp 55], _⟩, _, _, _, none⟩) rfl (fun K' hK => ?_) AllReadyH.nil)
            rw [if_pos (by rfl)]
            refine st_appF 39 58 (.agg #[.string ⟨#[]⟩, .slice none 0 0]) 2 40 par_segm Tryz.underlying39 rfl (by decide) (by decide) w9.heap.size (.slice (some ⟨w9.heap.size, 0, none⟩) 0 0) 0 [] rfl HOA.out (.slice (sub2 (some ⟨b, o, none⟩) cv 0) K cv) _ K (xs.take (K * 2)) rfl (HHD.out _ Hwp.out) (by rw [List.length_take, HXL.out]; have := HK.out; omega) (fun u hu => one_sgc HC.out u (List.mem_of_mem_take hu)) (by have := HK.out; omega) Hwp.out.size ?_
            intro v1 wq ho1 hgr1 _
            rw [Nat.zero_add, List.nil_append] at ho1
            obtain ⟨p1, c1, rfl⟩ := own_slice ho1
            have HO1 := Lib.hid ho1
            have HG1 := Lib.hid hgr1
            have Hwq := Lib.hid (Hwp.out.grown hgr1 Hwp.out.size (fun k hk => (HOA.out.lt k hk).1))
            clear ho1 hgr1
            have HGE1 := Lib.hid (show wq.heap[wn.heap.size]? = some (.cells #[e0, e1] 58 (0, 0)) from (HG1.out.block _ (lt_of_heap HGwp.out) (by have := HZN.out; simp only [Value.ownBlock]; intro e; have := Option.some.inj e; omega)).trans HGwp.out)
            refine hK.out _ _ (HSS.out _ Hwq.out) (fun _ => ?_)
            clear hK K'
            try (simp only [Act.put, List.setIfInBounds_toArray, List.set_cons_zero, List.set_cons_succ])
            try rw [Nat.zero_add]
            refine wpAnyH_ready (rs := [12]) (by kernel_rfl) (by simp) (AllReadyH.cons (o := ⟨some 63, .call ⟨.builtin .append, #[.tmp 56, .tmp 62], _⟩, _, _, _, none⟩) rfl (fun K' hK => ?_) AllReadyH.nil)
            rw [if_pos (by rfl)]
            refine st_app1 39 58 (.agg #[.string ⟨#[]⟩, .slice none 0 0]) 2 40 par_segm Tryz.underlying39 rfl (by decide) (by decide) w9.heap.size (.slice p1 K c1) K (xs.take (K * 2)) rfl HO1.out wn.heap.size 1 [e0, e1] 58 (0, 0) rfl rfl HGE1.out (by intro u hu; simp at hu; rcases hu with rfl | rfl; exact HXB.out.1; exact HXB.out.2) (by have := HK.out; omega) Hwq.out.size ?_
            intro v2 wy ho2 hgr2 _
            obtain ⟨p2, c2, rfl⟩ := own_slice ho2
            have HO2 := Lib.hid ho2
            have Hwy := Lib.hid (Hwq.out.grown hgr2 Hwq.out.size (fun k hk => (HO1.out.lt k hk).1))
            clear ho2 hgr2
            refine hK.out _ _ (HSS.out _ Hwy.out) (fun _ => ?_)
            clear hK K'
            try (simp only [Act.put, List.setIfInBounds_toArray, List.set_cons_zero, List.set_cons_succ])
            refine wpAnyH_ready (rs := [17]) (by kernel_rfl) (by simp) (AllReadyH.cons (o := ⟨some 68, .call ⟨.builtin .append, #[.tmp 63, .tmp 67], _⟩, _, _, _, none⟩) rfl (fun K' hK => ?_) AllReadyH.nil)
            rw [if_pos (by rfl)]
            refine st_appF 39 58 (.agg #[.string ⟨#[]⟩, .slice none 0 0]) 2 40 par_segm Tryz.underlying39 rfl (by decide) (by decide) w9.heap.size (.slice p2 (K + 1) c2) (K + 1) (xs.take (K * 2) ++ [e0, e1]) rfl HO2.out (.slice (sub2 (some ⟨b, o, none⟩) cv K) (l.length - K) (cv - K)) _ (l.length - K) (xs.drop (K * 2)) rfl (HTL2.out _ Hwy.out) (by rw [List.length_drop, HXL.out]; have := HK.out; omega) (fun u hu => one_sgc HC.out u (List.mem_of_mem_drop hu)) (by have := HK.out; omega) Hwy.out.size ?_
            intro v3 wz ho3 hgr3 _
            obtain ⟨p3, c3, rfl⟩ := own_slice ho3
            have Hwz := Lib.hid (Hwy.out.grown hgr3 Hwy.out.size (fun k hk => (HO2.out.lt k hk).1))
            have HMI := Lib.hid (more_in HC.out HK.out (HW19.out.trans (Hwz.out.mono HW19.out.size)) HGE.out ho3)
            have HNZ := Lib.hid (show wz.heap[w7.heap.size]? = some (.cells (wrV f t r (.slice (some ⟨b, o, none⟩) l.length cv)) 41 (0, 0)) from (Hwz.out.block _ (lt_of_heap HN9.out)).trans HN9.out)
            clear ho3 hgr3
            refine hK.out _ _ (HSS.out _ Hwz.out) (fun _ => ?_)
            clear hK K'
            try (simp only [Act.put, List.setIfInBounds_toArray, List.set_cons_zero, List.set_cons_succ])
            refine wpAnyH_take (i := 18) (oi := ⟨some 69, .fieldAddr 41 (.tmp 10) 3, _, _, _, none⟩) (v := .pointer (some ⟨w7.heap.size, 3, none⟩)) rfl (by kernel_rfl) (by kernel_rfl) (by kernel_rfl) (fun _ _ _ h => h) (Or.inl ⟨by rfl, fun w' hS => by go_simp⟩) (HSS.out _ Hwz.out) ?_
            simp only [Act.put, List.setIfInBounds_toArray, List.set_cons_zero, List.set_cons_succ]
            refine wpAnyH_ready (rs := [19]) (by kernel_rfl) (by simp) (AllReadyH.cons (o := ⟨none, .store 39 (.tmp 69) (.tmp 68), _, _, _, none⟩) rfl (fun K' hK => ?_) AllReadyH.nil)
            have cc := cell_of_arr HNZ.out 3
            have cf := frozen_of_arr HNZ.out 3
            simp only [List.getElem?_toArray, List.getElem?_cons_zero, List.getElem?_cons_succ] at cc
            go_simp
            obtain ⟨wt, hwt⟩ : ∃ wt, wt = wz.setCell ⟨w7.heap.size, 3, none⟩ (.slice p3 (K + 1 + (l.length - K)) c3) := ⟨_, rfl⟩
            rw [← hwt]
            have HST := Lib.hid (show wt.heap.size = wz.heap.size by rw [hwt]; simp)
            have HWT := Lib.hid (show Below w7.heap.size w7 wt by rw [hwt]; exact (HW79.out.trans (Hwz.out.mono HW79.out.size)).setCell (p := ⟨w7.heap.size, 3, none⟩) (Nat.le_refl _) _)
            have HST2 := Lib.hid (show (wt.heap[w1.heap.size]? = some (.cells (wrV f t r (.slice (some ⟨b, o, none⟩) l.length cv)) 41 (0, 0)) ∧ wt.cell? ⟨b, o + K * 2, none⟩ = some e0 ∧ wt.cell? ⟨b, o + K * 2 + 1, none⟩ = some e1) from ⟨(HWT.out.block _ (lt_of_heap HWA7.out)).trans HWA7.out, HX01.out _ (HW17.out.trans (HWT.out.mono HW17.out.size))⟩)
            have HMR := Lib.hid (show MoreR w7 f t r l K wt from ⟨p3, c3, by rw [hwt]; exact set_heap HNZ.out 3 _, HMI.out.kept (fun b hb => by
              have h1 := HST.out; have h2 := HS9.out; have h4 := Hwz.out.size; have h5 := HW17.out.size
              refine ⟨by rw [h1]; omega, ?_⟩
              rw [hwt]
              exact Below.heap_setCell _ _ _ _ (by simp only; omega)), HWT.out⟩)
            clear hwt cc cf
            refine hK.out _ _ HST2.out (fun _ => ?_)
            clear hK K'
            try (simp only [Act.put, List.setIfInBounds_toArray, List.set_cons_zero, List.set_cons_succ])
            refine wpAnyH_done (by kernel_rfl) ?_ _
            go_wp2_with fail
            go_meet
            case rel => exact ⟨rfl, HMR⟩
        · obtain ⟨wn, hwn⟩ : ∃ wn, wn = w9.alloc (.cells #[e0, e1] 58) := ⟨_, rfl⟩
          have Hwn := Lib.hid (show Below w9.heap.size w9 wn by rw [hwn]; exact (Below.refl w9.heap.size w9).alloc ((Below.refl w9.heap.size w9)).size _)
          have HGwn := Lib.hid (show wn.heap[w9.heap.size]? = some (.cells #[e0, e1] 58 (0, 0)) by rw [hwn]; exact at_last _ _)
          go_simp
          rw [← hwn]
          have HZN := Lib.hid (show wn.heap.size = w9.heap.size + 1 by rw [hwn, size_a])
          clear hwn
          refine hK.out _ _ (HSS.out _ Hwn.out) (fun _ => ?_)
          clear hK K'
          try (simp only [Act.put, List.setIfInBounds_toArray, List.set_cons_zero, List.set_cons_succ])
          refine wpAnyH_ready (rs := [0]) (by kernel_rfl) (by simp) (AllReadyH.cons (o := ⟨some 51, .buildSlice 39 0 #[], _, _, _, none⟩) rfl (fun K' hK => ?_) AllReadyH.nil)
          obtain ⟨wp, hwp⟩ : ∃ wp, wp = wn.alloc (.cells #[] 58) := ⟨_, rfl⟩
          have Hwp := Lib.hid (show Below w9.heap.size w9 wp by rw [hwp]; exact Hwn.out.alloc (Hwn.out).size _)
          have HOA := Lib.hid (show wp.ownsRow w9.heap.size 58 2 (.slice (some ⟨wn.heap.size, 0, none⟩) 0 0) 0 [] by rw [hwp]; exact World.ownsRow_made (base := w9.heap.size) (e := 58) (size := 2) wn #[] 0 (Hwn.out).size (by decide) rfl)
          go_simp
          rw [← hwp]
          have HGP := Lib.hid (show wp.heap[w9.heap.size]? = some (.cells #[e0, e1] 58 (0, 0)) by rw [hwp]; exact heap_past _ _ _ (lt_of_heap HGwn.out) HGwn.out)
          clear hwp
          refine hK.out _ _ (HSS.out _ Hwp.out) (fun _ => ?_)
          clear hK K'
          try (simp only [Act.put, List.setIfInBounds_toArray, List.set_cons_zero, List.set_cons_succ])
          refine wpAnyH_ready (rs := [5]) (by kernel_rfl) (by simp) (AllReadyH.cons (o := ⟨some 56, .call ⟨.builtin .append, #[.tmp 51, .tmp 55], _⟩, _, _, _, none⟩) rfl (fun K' hK => ?_) AllReadyH.nil)
          rw [if_pos (by rfl)]
          refine st_appF 39 58 (.agg #[.string ⟨#[]⟩, .slice none 0 0]) 2 40 par_segm Tryz.underlying39 rfl (by decide) (by decide) w9.heap.size (.slice (some ⟨wn.heap.size, 0, none⟩) 0 0) 0 [] rfl HOA.out (.slice (sub2 (some ⟨b, o, none⟩) cv 0) K cv) _ K (xs.take (K * 2)) rfl (HHD.out _ Hwp.out) (by rw [List.length_take, HXL.out]; have := HK.out; omega) (fun u hu => one_sgc HC.out u (List.mem_of_mem_take hu)) (by have := HK.out; omega) Hwp.out.size ?_
          intro v1 wq ho1 hgr1 _
          rw [Nat.zero_add, List.nil_append] at ho1
          obtain ⟨p1, c1, rfl⟩ := own_slice ho1
          have HO1 := Lib.hid ho1
          have HG1 := Lib.hid hgr1
          have Hwq := Lib.hid (Hwp.out.grown hgr1 Hwp.out.size (fun k hk => (HOA.out.lt k hk).1))
          clear ho1 hgr1
          have HGE1 := Lib.hid (show wq.heap[w9.heap.size]? = some (.cells #[e0, e1] 58 (0, 0)) from (HG1.out.block _ (lt_of_heap HGP.out) (by have := HZN.out; simp only [Value.ownBlock]; intro e; have := Option.some.inj e; omega)).trans HGP.out)
          refine hK.out _ _ (HSS.out _ Hwq.out) (fun _ => ?_)
          clear hK K'
          try (simp only [Act.put, List.setIfInBounds_toArray, List.set_cons_zero, List.set_cons_succ])
          try rw [Nat.zero_add]
          refine wpAnyH_ready (rs := [12]) (by kernel_rfl) (by simp) (AllReadyH.cons (o := ⟨some 63, .call ⟨.builtin .append, #[.tmp 56, .tmp 62], _⟩, _, _, _, none⟩) rfl (fun K' hK => ?_) AllReadyH.nil)
          rw [if_pos (by rfl)]
          refine st_app1 39 58 (.agg #[.string ⟨#[]⟩, .slice none 0 0]) 2 40 par_segm Tryz.underlying39 rfl (by decide) (by decide) w9.heap.size (.slice p1 K c1) K (xs.take (K * 2)) rfl HO1.out w9.heap.size 1 [e0, e1] 58 (0, 0) rfl rfl HGE1.out (by intro u hu; simp at hu; rcases hu with rfl | rfl; exact HXB.out.1; exact HXB.out.2) (by have := HK.out; omega) Hwq.out.size ?_
          intro v2 wy ho2 hgr2 _
          obtain ⟨p2, c2, rfl⟩ := own_slice ho2
          have HO2 := Lib.hid ho2
          have Hwy := Lib.hid (Hwq.out.grown hgr2 Hwq.out.size (fun k hk => (HO1.out.lt k hk).1))
          clear ho2 hgr2
          refine hK.out _ _ (HSS.out _ Hwy.out) (fun _ => ?_)
          clear hK K'
          try (simp only [Act.put, List.setIfInBounds_toArray, List.set_cons_zero, List.set_cons_succ])
          refine wpAnyH_ready (rs := [17]) (by kernel_rfl) (by simp) (AllReadyH.cons (o := ⟨some 68, .call ⟨.builtin .append, #[.tmp 63, .tmp 67], _⟩, _, _, _, none⟩) rfl (fun K' hK => ?_) AllReadyH.nil)
          rw [if_pos (by rfl)]
          refine st_appF 39 58 (.agg #[.string ⟨#[]⟩, .slice none 0 0]) 2 40 par_segm Tryz.underlying39 rfl (by decide) (by decide) w9.heap.size (.slice p2 (K + 1) c2) (K + 1) (xs.take (K * 2) ++ [e0, e1]) rfl HO2.out (.slice (sub2 (some ⟨b, o, none⟩) cv K) (l.length - K) (cv - K)) _ (l.length - K) (xs.drop (K * 2)) rfl (HTL2.out _ Hwy.out) (by rw [List.length_drop, HXL.out]; have := HK.out; omega) (fun u hu => one_sgc HC.out u (List.mem_of_mem_drop hu)) (by have := HK.out; omega) Hwy.out.size ?_
          intro v3 wz ho3 hgr3 _
          obtain ⟨p3, c3, rfl⟩ := own_slice ho3
          have Hwz := Lib.hid (Hwy.out.grown hgr3 Hwy.out.size (fun k hk => (HO2.out.lt k hk).1))
          have HMI := Lib.hid (more_in HC.out HK.out (HW19.out.trans (Hwz.out.mono HW19.out.size)) HGE.out ho3)
          have HNZ := Lib.hid (show wz.heap[w7.heap.size]? = some (.cells (wrV f t r (.slice (some ⟨b, o, none⟩) l.length cv)) 41 (0, 0)) from (Hwz.out.block _ (lt_of_heap HN9.out)).trans HN9.out)
          clear ho3 hgr3
          refine hK.out _ _ (HSS.out _ Hwz.out) (fun _ => ?_)
          clear hK K'
          try (simp only [Act.put, List.setIfInBounds_toArray, List.set_cons_zero, List.set_cons_succ])
          refine wpAnyH_take (i := 18) (oi := ⟨some 69, .fieldAddr 41 (.tmp 10) 3, _, _, _, none⟩) (v := .pointer (some ⟨w7.heap.size, 3, none⟩)) rfl (by kernel_rfl) (by kernel_rfl) (by kernel_rfl) (fun _ _ _ h => h) (Or.inl ⟨by rfl, fun w' hS => by go_simp⟩) (HSS.out _ Hwz.out) ?_
          simp only [Act.put, List.setIfInBounds_toArray, List.set_cons_zero, List.set_cons_succ]
          refine wpAnyH_ready (rs := [19]) (by kernel_rfl) (by simp) (AllReadyH.cons (o := ⟨none, .store 39 (.tmp 69) (.tmp 68), _, _, _, none⟩) rfl (fun K' hK => ?_) AllReadyH.nil)
          have cc := cell_of_arr HNZ.out 3
          have cf := frozen_of_arr HNZ.out 3
          simp only [List.getElem?_toArray, List.getElem?_cons_zero, List.getElem?_cons_succ] at cc
          go_simp
          obtain ⟨wt, hwt⟩ : ∃ wt, wt = wz.setCell ⟨w7.heap.size, 3, none⟩ (.slice p3 (K + 1 + (l.length - K)) c3) := ⟨_, rfl⟩
          rw [← hwt]
          have HST := Lib.hid (show wt.heap.size = wz.heap.size by rw [hwt]; simp)
          have HWT := Lib.hid (show Below w7.heap.size w7 wt by rw [hwt]; exact (HW79.out.trans (Hwz.out.mono HW79.out.size)).setCell (p := ⟨w7.heap.size, 3, none⟩) (Nat.le_refl _) _)
          have HST2 := Lib.hid (show (wt.heap[w1.heap.size]? = some (.cells (wrV f t r (.slice (some ⟨b, o, none⟩) l.length cv)) 41 (0, 0)) ∧ wt.cell? ⟨b, o + K * 2, none⟩ = some e0 ∧ wt.cell? ⟨b, o + K * 2 + 1, none⟩ = some e1) from ⟨(HWT.out.block _ (lt_of_heap HWA7.out)).trans HWA7.out, HX01.out _ (HW17.out.trans (HWT.out.mono HW17.out.size))⟩)
          have HMR := Lib.hid (show MoreR w7 f t r l K wt from ⟨p3, c3, by rw [hwt]; exact set_heap HNZ.out 3 _, HMI.out.kept (fun b hb => by
            have h1 := HST.out; have h2 := HS9.out; have h4 := Hwz.out.size; have h5 := HW17.out.size
            refine ⟨by rw [h1]; omega, ?_⟩
            rw [hwt]
            exact Below.heap_setCell _ _ _ _ (by simp only; omega)), HWT.out⟩)
          clear hwt cc cf
          refine hK.out _ _ HST2.out (fun _ => ?_)
          clear hK K'
          try (simp only [Act.put, List.setIfInBounds_toArray, List.set_cons_zero, List.set_cons_succ])
          refine wpAnyH_done (by kernel_rfl) ?_ _
          go_wp2_with fail
          go_meet
          case rel => exact ⟨rfl, HMR⟩
      case rest => as_aux_lemma =>
        obtain ⟨rfl, hmr⟩ := hcut
        obtain ⟨pm, cm, hm1, hm2, hm3⟩ := hmr.out
        have HWT := Lib.hid hm3
        have HM1 := Lib.hid hm1
        have HM2 := Lib.hid hm2
        have HBT := Lib.hid (show Below wb.heap.size wb wc from HB7.out.trans (hm3.mono HB7.out.size))
        have HN7T := Lib.hid ((hm3.block _ (lt_of_heap HN7.out)).trans HN7.out)
        have HLT := Lib.hid (HLS.out.kept (w' := wc) (F' := (· < wc.heap.size)) (fun b hb => ⟨Nat.lt_of_lt_of_le hb.1 hm3.size, hm3.block b hb.1⟩))
        have HPL := Lib.hid (pack_less f t r l K HK.out HTL.out HFT.out.1 HFT.out.2 (HPA.out K HK.out).1 _ B wc HLT.out (HEN.out _ HBT.out).1 (HEN.out _ HBT.out).2)
        clear hm1 hm2 hm3 hmr
        go_wp2_with (refine wpList_load_row rfl 41 _ rfl wa.heap.size rfl 41 (wrV f t r (.slice p2 (K + (l.length - (K + 1))) c2)) (0, 0) _ HN7T.out Tryz.underlying41 rfl sizeWr ?_)
        refine (HPL.out).mono ?_
        rintro e wd ⟨q, E1, rfl, hE1, hbd⟩
        have hbd' := HBT.out.trans (hbd.mono HBT.out.size)
        have hbe := hbd'.alloc hbd'.size (.cells pk0 38)
        have HBE := Lib.hid (show Below wb.heap.size wb ((wd.alloc (.cells pk0 38)).setRow wd.heap.size (pkV q)) from below_setR hbe hbd'.size _)
        have HD := Lib.hid (show (wd.alloc (.cells pk0 38)).heap[wd.heap.size]? = some (.cells pk0 38 (0, 0)) from at_last _ _)
        obtain ⟨we, hwe⟩ : ∃ we, we = (wd.alloc (.cells pk0 38)).setRow wd.heap.size (pkV q) := ⟨_, rfl⟩
        rw [← hwe] at HBE
        have HCE := Lib.hid (show Below wc.heap.size wc we by rw [hwe]; exact below_setR (hbd.alloc hbd.size _) hbd.size _)
        have HM1E := Lib.hid ((HCE.out.block _ (lt_of_heap HM1.out)).trans HM1.out)
        have HM2E := Lib.hid (HM2.out.kept (w' := we) (F' := (· < we.heap.size)) (kp_old HCE.out))
        have HPM := Lib.hid (pack_more f t r l K HK.out HTL.out HFT.out.1 HFT.out.2 (HPA.out K HK.out).2 _ B we HM2E.out (HEN.out _ HBE.out).1 (HEN.out _ HBE.out).2)
        clear hbd hbd' hbe
        go_wp2_with (first | (refine wpList_store_row rfl 38 _ _ rfl wd.heap.size (pkV q) rfl rfl 38 pk0 HD.out sizePk rfl (pkv_one _) ?_) | (refine wpList_load_row rfl 41 _ rfl w7.heap.size rfl 41 (wrV f t r (.slice pm (K + 1 + (l.length - K)) cm)) (0, 0) _ (by rw [← hwe]; exact HM1E.out) Tryz.underlying41 rfl sizeWr ?_))
        rw [← hwe]
        clear hwe
        refine (HPM.out).mono ?_
        rintro e wf ⟨q2, rfl, hbf⟩
        have hbf' := HBE.out.trans (hbf.mono HBE.out.size)
        have hbg := hbf'.alloc hbf'.size (.cells pk0 38)
        have HBG := Lib.hid (show Below wb.heap.size wb ((wf.alloc (.cells pk0 38)).setRow wf.heap.size (pkV q2)) from below_setR hbg hbf'.size _)
        have HD2 := Lib.hid (show (wf.alloc (.cells pk0 38)).heap[wf.heap.size]? = some (.cells pk0 38 (0, 0)) from at_last _ _)
        clear hbf hbf' hbg
        rcases hE1 with rfl | rfl
        all_goals
          go_wp2_with (refine wpList_store_row rfl 38 _ _ rfl wf.heap.size (pkV q2) rfl rfl 38 pk0 HD2.out sizePk rfl (pkv_one _) ?_)
          refine (HTE.out _ HBG.out).mono ?_
          rintro e wh ⟨rfl, hbh⟩
          have HBH := Lib.hid (HBG.out.trans (hbh.mono HBG.out.size))
          clear hbh
          go_wp2
          go_ret
          exact ⟨rfl, HBH.out⟩
  · have hEi : ¬ ((E : Nat) : Int) = 0 := by omega
    have HB2 := Lib.hid (HB1.out.alloc HB1.out.size (.cells (wrV f t r (.slice pv nv cv)) 41))
    clear HPK hE
    go_wp2_with fail
    refine (HTE.out _ HB2.out).mono ?_
    rintro e w3 ⟨rfl, hb3⟩
    have HB3 := Lib.hid (HB2.out.trans (hb3.mono HB2.out.size))
    clear hb3
    go_wp2
    go_ret
    exact ⟨rfl, HB3.out⟩
end Go.Proofs.YtjkdhdficaacaaaGreatDoor
