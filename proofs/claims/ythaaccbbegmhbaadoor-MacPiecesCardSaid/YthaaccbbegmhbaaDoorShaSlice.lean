/- Slicing a slice of bytes, wherever it lies, as laws of the walk. -/
import Derived.Test.YthaaccbbegmhbaaDoorShaApp
namespace Go.Proofs.YthaaccbbegmhbaaDoor
open Go.RowKit Go.Sha

/-- where a slice that begins at 'k' points to -/
def subp (p : Option Addr) (cap k : Nat) : Option Addr := if cap = k then p else p.map (·.add (k * 1))
theorem run_size1 (w : World) : (sizeOf 5).run Tryd.prog w = .ok 1 w := by
  obtain ⟨i0, hi0, _, hz1, _⟩ := info_parts parts5p
  simp [sizeOf, typeInfo, hi0, hz1]
theorem elemBytes : Tryd.prog.elem 22 = 5 := by kernel_rfl
theorem undBytes : Tryd.prog.underlying 22 = some (.slice (Tryd.prog.elem 22)) := by rw [elemBytes]; exact Tryd.underlying22
theorem run_sliceLH (w : World) (p : Option Addr) (L cap lo : Nat) (l h : Int) (k : Nat) (hl : l = (lo : Int)) (hh : h = ((lo + k : Nat) : Int)) (h1 : lo + k ≤ cap) :
    (Instr.sliceAt 22 (.slice p L cap) (some (.int .i64 l)) (some (.int .i64 h)) none).run Tryd.prog w = .ok (.slice (subp p cap lo) k (cap - lo)) w := by
  subst hl; subst hh
  rw [run_sliceAt_slice _ _ _ _ _ _ undBytes, run_slice_lh _ _ _ _ _ undBytes _ _ _ _ (by omega) (by omega) (by omega), elemBytes, run_size1, Result.andThen_ok]
  unfold sliced subp
  rw [Int.toNat_natCast, Int.toNat_natCast, show lo + k - lo = k by omega]
theorem run_sliceL (w : World) (p : Option Addr) (L cap lo : Nat) (l : Int) (hl : l = (lo : Int)) (h1 : lo ≤ L) :
    (Instr.sliceAt 22 (.slice p L cap) (some (.int .i64 l)) none none).run Tryd.prog w = .ok (.slice (subp p cap lo) (L - lo) (cap - lo)) w := by
  subst hl
  rw [run_sliceAt_slice _ _ _ _ _ _ undBytes, run_slice_l _ _ _ _ _ undBytes _ _ (by omega) (by omega), elemBytes, run_size1, Result.andThen_ok]
  unfold sliced subp
  rw [Int.toNat_natCast]
theorem run_sliceH (w : World) (p : Option Addr) (L cap hi : Nat) (h : Int) (hh : h = (hi : Int)) (h1 : hi ≤ cap) :
    (Instr.sliceAt 22 (.slice p L cap) none (some (.int .i64 h)) none).run Tryd.prog w = .ok (.slice (subp p cap 0) hi cap) w := by
  subst hh
  rw [run_sliceAt_slice _ _ _ _ _ _ undBytes, run_slice_h _ _ _ _ _ undBytes _ _ (by omega) (by omega), elemBytes, run_size1, Result.andThen_ok]
  unfold sliced subp
  rw [Int.toNat_natCast, Nat.sub_zero, Nat.sub_zero]
theorem byt_sub {w : World} {g L cap : Nat} {p : Option Addr} {l : List Nat} (h : Byt w g (.slice p L cap) l) (lo k : Nat) (hL : l.length = L) (hk : lo + k ≤ L) : Byt w g (.slice (subp p cap lo) k (cap - lo)) ((l.drop lo).take k) := by
  obtain ⟨p', cap', e, hc, hp⟩ := h
  cases e
  have hlen : ((l.drop lo).take k).length = k := by rw [List.length_take, List.length_drop]; omega
  refine ⟨subp p cap lo, cap - lo, by rw [hlen], by rw [hlen]; omega, fun h0 => ?_⟩
  rw [hlen] at h0
  obtain ⟨b, o, rfl, e2, e3, e4⟩ := hp (by omega)
  refine ⟨b, o + lo, ?_, e2, e3, fun j hj => ?_⟩
  · unfold subp
    rw [if_neg (by omega), Option.map_some, Nat.mul_one, Addr.add_mid]
  · rw [hlen] at hj
    rw [show o + lo + j = o + (lo + j) by omega, e4 (lo + j) (by omega)]
    unfold at0
    rw [List.getD_eq_getElem?_getD, List.getD_eq_getElem?_getD, List.getElem?_take, if_pos hj, List.getElem?_drop]
theorem wl_sliceLH {ops : Array Oper} {rest : List Oper} {a : Act} {w : World} {Q : Exit → Act → World → Prop} {dst : Tmp} {x y z : Operand} {typ : TypeId} {pos : String} {after : Array Edge}
    (p : Option Addr) (L cap lo k : Nat) (l h : Int) (hx : a.eval x = .slice p L cap) (hy : a.eval y = .int .i64 l) (hz : a.eval z = .int .i64 h) (hl : l = (lo : Int)) (hh : h = ((lo + k : Nat) : Int)) (h1 : lo + k ≤ cap)
    (hK : wpList Tryd.prog ops Q rest (a.put (some dst) (.slice (subp p cap lo) k (cap - lo))) w) : wpList Tryd.prog ops Q (⟨some dst, .slice 22 x (some y) (some z) none, typ, pos, after, none⟩ :: rest) a w := by
  refine wpList_plain rfl fun K hK' => ?_
  unfold Oper.wp execOp
  simp only [hx, hy, hz, Option.map_some, Option.map_none, Sem.run_bind, run_sliceLH w p L cap lo l h k hl hh h1, Result.andThen_ok, Sem.run_pure]
  exact hK' _ _ hK
theorem wl_sliceL {ops : Array Oper} {rest : List Oper} {a : Act} {w : World} {Q : Exit → Act → World → Prop} {dst : Tmp} {x y : Operand} {typ : TypeId} {pos : String} {after : Array Edge}
    (p : Option Addr) (L cap lo : Nat) (l : Int) (hx : a.eval x = .slice p L cap) (hy : a.eval y = .int .i64 l) (hl : l = (lo : Int)) (h1 : lo ≤ L)
    (hK : wpList Tryd.prog ops Q rest (a.put (some dst) (.slice (subp p cap lo) (L - lo) (cap - lo))) w) : wpList Tryd.prog ops Q (⟨some dst, .slice 22 x (some y) none none, typ, pos, after, none⟩ :: rest) a w := by
  refine wpList_plain rfl fun K hK' => ?_
  unfold Oper.wp execOp
  simp only [hx, hy, Option.map_some, Option.map_none, Sem.run_bind, run_sliceL w p L cap lo l hl h1, Result.andThen_ok, Sem.run_pure]
  exact hK' _ _ hK
theorem yi_sliceH {ops : Array Oper} {S : World → Prop} {o : Oper} {a : Act} (hw : Region.wanted o (yielded ops a.tmps) = true) (x z : Operand) (ho : o.op = .slice 22 x none (some z) none)
    (p : Option Addr) (L cap hi : Nat) (h : Int) (hx : a.eval x = .slice p L cap) (hz : a.eval z = .int .i64 h) (hh : h = (hi : Int)) (h1 : hi ≤ cap) : YieldsIf Tryd.prog ops S o (.slice (subp p cap 0) hi cap) a :=
  .inl ⟨hw, fun w _ => by
    unfold execOp
    simp only [ho, hx, hz, Option.map_some, Option.map_none, Sem.run_bind, run_sliceH w p L cap hi h hh h1, Result.andThen_ok, Sem.run_pure]⟩
theorem stp_slice {P : Program} {ops : Array Oper} {rest : List Oper} {a : Act} {w : World} {Q : Exit → Act → World → Prop} {dst : Tmp} {ty typ : TypeId} {x : Operand} {lo hi mx : Option Operand} {pos : String} {after : Array Edge}
    (h : Stp (wpList P ops Q (⟨some dst, .slice ty x lo hi mx, typ, pos, after, none⟩ :: rest) a w)) : wpList P ops Q (⟨some dst, .slice ty x lo hi mx, typ, pos, after, none⟩ :: rest) a w := h
attribute [irreducible] subp
end Go.Proofs.YthaaccbbegmhbaaDoor
