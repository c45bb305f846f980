/- '==' and '!=' on two arrays of bytes, of whatever program. -/
import Derived.Test.YtabahkeologbmaaShaPure5
import Derived.ChangeKeysEq
import Derived.Laws.StructEq
import Derived.Lib.SlBytesConst
namespace Go.Sha
open Go.RowKit
variable {P : Program}

theorem eqItems_bytes (w : World) (d : Nat) {e : TypeId} (he : P.underlying e = some (.int .u8)) (x y : List Nat) : ∀ (is : List Nat), (∀ i ∈ is, i < x.length ∧ i < y.length) →
    (Op.eqItems (d + 1) e 1 (bv x) (bv y) is).run P w = .ok (is.all fun i => at0 x i == at0 y i) w
  | [], _ => by simp [Op.eqItems]
  | i :: is, h => by
    obtain ⟨h1, h2⟩ := h i (by simp)
    have p1 : (part e (bv x) (i * 1)).run P w = .ok (.int .u8 (at0 x i : Nat)) w := by
      simp [part, isAgg, run_underlying he, bv_get x i h1]
    have p2 : (part e (bv y) (i * 1)).run P w = .ok (.int .u8 (at0 y i : Nat)) w := by
      simp [part, isAgg, run_underlying he, bv_get y i h2]
    have p3 : (Op.equalIn (d + 1) e (.int .u8 (at0 x i : Nat)) (.int .u8 (at0 y i : Nat))).run P w = .ok (at0 x i == at0 y i) w := by
      rw [run_equalIn_int w d e .u8 .u8 _ _ he]
      congr 1
      rw [Bool.eq_iff_iff]; simp only [beq_iff_eq]; omega
    have ih := eqItems_bytes w d he x y is (fun j hj => h j (by simp [hj]))
    simp only [Op.eqItems, Sem.run_bind, p1, p2, p3, Result.andThen_ok, List.all_cons]
    cases hb : (at0 x i == at0 y i)
    · simp
    · simpa using ih
theorem all_at0 {x y : List Nat} {n : Nat} (hx : x.length = n) (hy : y.length = n) : ((List.range n).all fun i => at0 x i == at0 y i) = decide (x = y) := by
  rw [Bool.eq_iff_iff]
  simp only [List.all_eq_true, List.mem_range, beq_iff_eq, decide_eq_true_eq]
  constructor
  · intro h
    apply List.ext_getElem (by omega)
    intro i h1 h2
    have := h i (by omega)
    simpa [at0, List.getD_eq_getElem?_getD, h1, h2] using this
  · rintro rfl i _; rfl
theorem run_equalIn_bytes (w : World) (d : Nat) {t e : TypeId} {n : Nat} (hu : P.underlying t = some (.array n e)) (he : P.underlying e = some (.int .u8)) (hc : P.cellsOf e = 1) (x y : List Nat) (hx : x.length = n) (hy : y.length = n) :
    (Op.equalIn (d + 2) t (.agg (bv x)) (.agg (bv y))).run P w = .ok (decide (x = y)) w := by
  obtain ⟨i, hi⟩ := info_of_underlying he
  rw [run_equalIn_array w (d + 1) (bv x) (bv y) hu hi, hc, eqItems_bytes w d he x y _ (fun j hj => by simp at hj; omega), all_at0 hx hy]
theorem run_eql_bytes (w : World) {t e : TypeId} {n : Nat} (hu : P.underlying t = some (.array n e)) (he : P.underlying e = some (.int .u8)) (hc : P.cellsOf e = 1) (x y : List Nat) (hx : x.length = n) (hy : y.length = n) :
    (binOp .eql t (.agg (bv x)) (.agg (bv y))).run P w = .ok (.bool (decide (x = y))) w := by
  rw [run_eql_struct, run_equalIn_bytes w 9998 hu he hc x y hx hy]; rfl
theorem run_neq_bytes (w : World) {t e : TypeId} {n : Nat} (hu : P.underlying t = some (.array n e)) (he : P.underlying e = some (.int .u8)) (hc : P.cellsOf e = 1) (x y : List Nat) (hx : x.length = n) (hy : y.length = n) :
    (binOp .neq t (.agg (bv x)) (.agg (bv y))).run P w = .ok (.bool (!decide (x = y))) w := by
  rw [run_neq_struct, run_equalIn_bytes w 9998 hu he hc x y hx hy]; rfl
/-- the operations -/
theorem wl_eql {ops : Array Oper} {rest : List Oper} {a : Act} {w : World} {Q : Exit → Act → World → Prop} {dst : Tmp} {ty typ ty2 : TypeId} {x y : Operand} {pos : String} {after : Array Edge}
    (e : TypeId) (n : Nat) (l k : List Nat) (hu : P.underlying ty = some (.array n e)) (he : P.underlying e = some (.int .u8)) (hc : P.cellsOf e = 1) (hm : P.eqGuardType P.depth ty = false)
    (hx : a.eval x = .agg (bv l)) (hy : a.eval y = .agg (bv k)) (hl : l.length = n) (hk : k.length = n)
    (h : wpList P ops Q rest (a.put (some dst) (.bool (decide (l = k)))) w) : wpList P ops Q (⟨some dst, .binOp .eql ty x y ty2, typ, pos, after, none⟩ :: rest) a w := by
  refine wpList_plain rfl fun K hK => ?_
  unfold Oper.wp execOp
  simp only [hx, hy, Sem.run_bind, run_eqGuard_agg w .eql ty x y (bv l) (bv k) hm, Result.andThen_ok, run_eql_bytes w hu he hc l k hl hk, Sem.run_pure]
  exact hK _ _ h
theorem wl_neq {ops : Array Oper} {rest : List Oper} {a : Act} {w : World} {Q : Exit → Act → World → Prop} {dst : Tmp} {ty typ ty2 : TypeId} {x y : Operand} {pos : String} {after : Array Edge}
    (e : TypeId) (n : Nat) (l k : List Nat) (hu : P.underlying ty = some (.array n e)) (he : P.underlying e = some (.int .u8)) (hc : P.cellsOf e = 1) (hm : P.eqGuardType P.depth ty = false)
    (hx : a.eval x = .agg (bv l)) (hy : a.eval y = .agg (bv k)) (hl : l.length = n) (hk : k.length = n)
    (h : wpList P ops Q rest (a.put (some dst) (.bool (!decide (l = k)))) w) : wpList P ops Q (⟨some dst, .binOp .neq ty x y ty2, typ, pos, after, none⟩ :: rest) a w := by
  refine wpList_plain rfl fun K hK => ?_
  unfold Oper.wp execOp
  simp only [hx, hy, Sem.run_bind, run_eqGuard_agg w .neq ty x y (bv l) (bv k) hm, Result.andThen_ok, run_neq_bytes w hu he hc l k hl hk, Sem.run_pure]
  exact hK _ _ h
end Go.Sha
