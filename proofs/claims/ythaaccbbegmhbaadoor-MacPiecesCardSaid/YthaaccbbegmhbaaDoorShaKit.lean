/- What walks of laws over sha lean on: a walk stopped by hand, slices of one's own, regions that draw their order. -/
import Derived.Test.YthaaccbbegmhbaaDoorShaW9
import Derived.Maps.AppendAt
import Derived.Deep.RegionHeld
namespace Go.Proofs.YthaaccbbegmhbaaDoor
open Go.RowKit Go.Sha

/-- where a walk is to stand still -/
def Stp (p : Prop) : Prop := p
theorem stp {p : Prop} (h : Stp p) : p := h
/-- a slice of ints in memory -/
def Ints (w : World) (p : Option Addr) (cs : List Int) : Prop := 0 < cs.length → ∃ b o, p = some ⟨b, o, none⟩ ∧ b < w.heap.size ∧ ∀ j, j < cs.length → w.cell? ⟨b, o + j, none⟩ = some (.int .i64 (cs.getD j 0))
theorem byt_of_owns {w : World} {base n g : Nat} {v : Value} {x : List Nat} (h : w.ownsRow base 5 1 v n (bl x)) (hg : g < base) : Byt w g v x ∧ x.length = n ∧
    ∃ p cap, v = .slice p n cap ∧ (0 < n → ∃ b, p = some ⟨b, 0, none⟩ ∧ base ≤ b ∧ ∃ cur : Array Value, w.heap[b]? = some (.cells cur 5 (0, 0)) ∧ n ≤ cur.size) := by
  obtain ⟨h1, h2⟩ := h
  rw [bl_len, Nat.mul_one] at h1
  rcases h2 with ⟨rfl, rfl⟩ | ⟨b, cap, cur, rfl, hb, hh, hn, hm, hsz, htk⟩
  · exact ⟨⟨none, 0, by rw [h1], by omega, fun h => by omega⟩, h1, none, 0, rfl, fun h => by omega⟩
  · rw [Nat.mul_one] at hsz htk
    refine ⟨⟨some ⟨b, 0, none⟩, cap, by rw [h1], by omega, fun _ => ⟨b, 0, rfl, by omega, (Array.getElem?_eq_some_iff.1 hh).1, fun j hj => ?_⟩⟩, h1, some ⟨b, 0, none⟩, cap, rfl, fun _ => ⟨b, rfl, hb, cur, hh, by omega⟩⟩
    rw [Nat.zero_add, cell_of_row w b j cur _ _ hh, ← bv_get x j hj, ← bl_get, ← htk]
    rw [List.getElem?_take, if_pos (by omega)]
    simp
theorem parts5p : (Tryd.prog.info? 5).map (fun i => (i.zero, i.size, i.bytes)) = some (some (.int .u8 0), 1, 1) := by kernel_rfl
/-- the number of bytes of a piece -/
theorem tmod_abs (c : Int) (L k : Nat) (hk : k ≤ L) : ∃ n : Nat, n ≤ L - k ∧ (c.tmod ((L : Int) - (k : Int) + 1) = (n : Int) ∨ (c.tmod ((L : Int) - (k : Int) + 1) = -(n : Int) ∧ 0 < n)) := by
  refine ⟨(c.tmod ((L : Int) - (k : Int) + 1)).natAbs, ?_, ?_⟩
  · rw [Int.natAbs_tmod]
    have : ((L : Int) - (k : Int) + 1).natAbs = L - k + 1 := by omega
    rw [this]
    have := Nat.mod_lt c.natAbs (show 0 < L - k + 1 by omega)
    omega
  · omega
/-- what the drawn regions of ShaPieces lean on -/
def TP (w : World) (g : Nat) (s : HS) (w' : World) : Prop := w'.heap[g]? = some (.cells s.cells 60 (0, 0)) ∧ Below w.heap.size w w' ∧ Gl w'
theorem TP_below {w w1 w2 : World} {g : Nat} {s : HS} (h : TP w g s w1) (hb : Below w1.heap.size w1 w2) : TP w g s w2 :=
  ⟨(hb.block _ (Array.getElem?_eq_some_iff.1 h.1).1).trans h.1, h.2.1.trans (hb.mono h.2.1.size), h.2.2.below h.2.2.size hb⟩
theorem yi_neq_same {P : Program} {ops : Array Oper} {S : World → Prop} {o : Oper} {a : Act} (hw : Region.wanted o (yielded ops a.tmps) = true) (ty ty2 : TypeId) (x y : Operand) (ho : o.op = .binOp .neq ty x y ty2)
    (e : TypeId) (n : Nat) (l : List Nat) (hu : P.underlying ty = some (.array n e)) (he : P.underlying e = some (.int .u8)) (hc : P.cellsOf e = 1) (hm : P.eqGuardType P.depth ty = false)
    (hx : a.eval x = .agg (bv l)) (hy : a.eval y = .agg (bv l)) (hl : l.length = n) : YieldsIf P ops S o (.bool false) a :=
  .inl ⟨hw, fun w _ => by
    unfold execOp
    simp only [ho, hx, hy, Sem.run_bind, run_eqGuard_agg w .neq ty x y (bv l) (bv l) hm, Result.andThen_ok, run_neq_bytes w hu he hc l l hl hl, Sem.run_pure, decide_true, Bool.not_true]⟩
def TQ (w : World) (g : Nat) (s : HS) (x : Nat) (D : List Nat) (w' : World) : Prop := w'.heap[x]? = some (.cells (bv D) 25 (0, 0)) ∧ TP w g s w'
theorem TQ_below {w w1 w2 : World} {g x : Nat} {s : HS} {D : List Nat} (h : TQ w g s x D w1) (hb : Below w1.heap.size w1 w2) : TQ w g s x D w2 :=
  ⟨(hb.block _ (Array.getElem?_eq_some_iff.1 h.1).1).trans h.1, TP_below h.2 hb⟩
theorem yi_row' {P : Program} {ops : Array Oper} {S : World → Prop} {o : Oper} {a : Act} (hw : Region.wanted o (yielded ops a.tmps) = true) (ty : TypeId) (x : Operand) (ho : o.op = .load ty x)
    (g : Nat) (A : Array Value) (n : Nat) (el : TypeId) (hu : P.underlying ty = some (.array n el)) (hi : (P.info? ty).map (·.size) = some A.size) (hx : a.eval x = .pointer (some ⟨g, 0, none⟩))
    (hS : ∀ w, S w → ∃ t fr, w.heap[g]? = some (.cells A t fr)) : YieldsIf P ops S o (.agg A) a :=
  .inl ⟨hw, fun w h => by
    obtain ⟨t, fr, hg⟩ := hS w h
    unfold execOp
    simp only [ho, hx, Instr.loadAt, Instr.sureAddr, Sem.run_bind, Sem.run_pure, Result.andThen_ok, run_loadVar_row w g t ty A fr _ hg hu rfl hi]⟩
theorem yi_eql_same {P : Program} {ops : Array Oper} {S : World → Prop} {o : Oper} {a : Act} (hw : Region.wanted o (yielded ops a.tmps) = true) (ty ty2 : TypeId) (x y : Operand) (ho : o.op = .binOp .eql ty x y ty2)
    (e : TypeId) (n : Nat) (l : List Nat) (hu : P.underlying ty = some (.array n e)) (he : P.underlying e = some (.int .u8)) (hc : P.cellsOf e = 1) (hm : P.eqGuardType P.depth ty = false)
    (hx : a.eval x = .agg (bv l)) (hy : a.eval y = .agg (bv l)) (hl : l.length = n) : YieldsIf P ops S o (.bool true) a :=
  .inl ⟨hw, fun w _ => by
    unfold execOp
    simp only [ho, hx, hy, Sem.run_bind, run_eqGuard_agg w .eql ty x y (bv l) (bv l) hm, Result.andThen_ok, run_eql_bytes w hu he hc l l hl hl, Sem.run_pure, decide_true]⟩
end Go.Proofs.YthaaccbbegmhbaaDoor
