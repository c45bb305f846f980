/- More small laws of the walk, of whatever program: a copy into a row; 'nothing but one block has turned'. -/
import Derived.Test.YtabahkeologbmaaShaLaws
import Derived.OwnWalk
import Derived.Laws.CopyOwn
import Derived.RegionTactic
import Derived.Laws.CopyRow
namespace Go.Sha
open Go.RowKit
variable {P : Program}

theorem wl_copy {ops : Array Oper} {rest : List Oper} {a : Act} {w : World} {Q : Exit → Act → World → Prop} {dst : Tmp} {d s : Operand} {dT sT typ : TypeId} {pos : String} {after : Array Edge}
    (elem : TypeId) (hu : P.underlying dT = some (.slice elem)) (hsz : (P.info? elem).map (·.size) = some 1)
    (g off dLen dCap : Nat) (ad : Addr) (sLen sCap : Nat) (cur row : Array Value) (t : TypeId) (cs : List Value)
    (hd : a.eval d = .slice (some ⟨g, off, none⟩) dLen dCap) (hs : a.eval s = .slice (some ad) sLen sCap)
    (hg : w.heap[g]? = some (.cells cur t (0, 0))) (hn : cs.length = Nat.min sLen dLen)
    (hsrc : ∀ j v, cs[j]? = some v → w.cell? (ad.add j) = some v) (hfit : off + cs.length ≤ cur.size) (h1 : ∀ v ∈ cs, v.oneCell' = true)
    (hrow : (cur.toList.take off ++ cs ++ cur.toList.drop (off + cs.length)).toArray = row)
    (h : wpList P ops Q rest (a.put (some dst) (.int .i64 (cs.length : Int))) (w.setRow g row)) :
    wpList P ops Q (⟨some dst, .call { callee := .builtin .copy, args := #[d, s], argTypes := #[dT, sT] }, typ, pos, after, none⟩ :: rest) a w :=
  wpList_copy_own rfl d s dT sT rfl elem hu hsz g off dLen dCap ad sLen sCap hd hs cur t hg cs hn hsrc hfit h1 (by rw [← List.append_assoc, hrow]; exact h)

theorem grown_trans {a b c : World} {g : Nat} (h : a.grownBy b (some g)) (k : b.grownBy c (some g)) : a.grownBy c (some g) :=
  ⟨k.os.trans h.os, k.tape.trans h.tape, k.output.trans h.output, Nat.le_trans h.size k.size, fun i hi hne => (k.block i (Nat.lt_of_lt_of_le hi h.size) hne).trans (h.block i hi hne)⟩
theorem grown_drew {a b : World} {g : Option Nat} (h : a.grownBy b g) : a.grownBy b.drew g := ⟨h.os, h.tape, h.output, h.size, h.block⟩
theorem grown_drewN {a b : World} {g : Option Nat} (h : a.grownBy b g) (n : Nat) : a.grownBy (b.drewN n) g := ⟨h.os, h.tape, h.output, h.size, h.block⟩
theorem grown_setRow {a b : World} {g : Nat} (h : a.grownBy b (some g)) (cs : Array Value) : a.grownBy (b.setRow g cs) (some g) :=
  ⟨h.os, h.tape, h.output, by simpa using h.size, fun i hi hne => (setRow_other b g i cs (fun e => hne (by rw [e]))).trans (h.block i hi hne)⟩
theorem grown_setCell {a b : World} {g : Nat} (h : a.grownBy b (some g)) (o : Nat) (v : Value) : a.grownBy (b.setCell ⟨g, o, none⟩ v) (some g) :=
  ⟨h.os, h.tape, h.output, by simpa [World.setCell] using h.size, fun i hi hne => (heap_setCell_other b ⟨g, o, none⟩ i v (fun e => hne (by rw [e]))).trans (h.block i hi hne)⟩
theorem grown_below {a b c : World} {g : Nat} (h : a.grownBy b (some g)) (k : Below b.heap.size b c) : a.grownBy c (some g) :=
  ⟨k.os.trans h.os, k.tape.trans h.tape, k.output.trans h.output, Nat.le_trans h.size k.size, fun i hi hne => (k.block i (Nat.lt_of_lt_of_le hi h.size)).trans (h.block i hi hne)⟩

/-! one step of a region that draws its order: an array out of, and into, a part of a block that is known whole -/
theorem step_load {ops : Array Oper} {o : Oper} {a : Act} {w : World} {K : Act → World → Prop} {Q : Exit → Act → World → Prop} {E : Prop} (hgd : o.guard = none) (ty : TypeId) (x : Operand) (ho : o.op = .load ty x)
    (g off : Nat) (A cur : Array Value) (t : TypeId) (fr : Nat × Nat) (n : Nat) (el : TypeId) (hu : P.underlying ty = some (.array n el)) (hi : (P.info? ty).map (·.size) = some A.size)
    (hx : a.eval x = .pointer (some ⟨g, off, none⟩)) (hg : w.heap[g]? = some (.cells cur t fr)) (hA : ∀ j v, A[j]? = some v → cur[off + j]? = some v)
    (hK : K (a.put o.dst (.agg A)) w) : if Region.wanted o (yielded ops a.tmps) = true then Oper.wp P o a w K Q else E := by
  rw [if_pos (by simp [Region.wanted, hgd])]
  refine wp_load_mid ty x ho g off hx A.toList _ (fun j v hv => ?_) hu rfl (by simpa using hi) (by simpa using hK)
  rw [cell_of_row w g (off + j) cur t fr hg]
  exact hA j v (by simpa using hv)
theorem run_storeVar_part (w : World) (g off : Nat) (t ty : TypeId) (cur cells : Array Value) (hg : w.heap[g]? = some (.cells cur t (0, 0))) (hi : (P.info? ty).map (·.size) = some cells.size)
    (hf : off + cells.size ≤ cur.size) (h1 : cells.all (·.oneCell') = true) :
    (storeVar ty ⟨g, off, none⟩ (.agg cells)).run P w = .ok () (w.setRow g (cur.toList.take off ++ cells.toList ++ cur.toList.drop (off + cells.size)).toArray) := by
  have := run_storeCells_at P g off t cells.toList 0 cur w hg (by simpa using hf) (fun v hv => (Array.all_eq_true_iff_forall_mem.1 h1) v (by simpa using hv))
  cases hq : P.info? ty with
  | none => simp [hq] at hi
  | some i =>
    have hs : cells.size = i.size := by simp [hq] at hi; omega
    simp only [Nat.add_zero, Array.length_toList] at this
    simp [storeVar, sizeOf, typeInfo, hq, Value.cells, hs] at this ⊢
    simpa [hs] using this
theorem step_store {ops : Array Oper} {o : Oper} {a : Act} {w : World} {K : Act → World → Prop} {Q : Exit → Act → World → Prop} {E : Prop} (hgd : o.guard = none) (ty : TypeId) (x y : Operand) (ho : o.op = .store ty x y)
    (g off : Nat) (cells cur row : Array Value) (t : TypeId) (hi : (P.info? ty).map (·.size) = some cells.size)
    (hx : a.eval x = .pointer (some ⟨g, off, none⟩)) (hy : a.eval y = .agg cells) (hg : w.heap[g]? = some (.cells cur t (0, 0))) (hf : off + cells.size ≤ cur.size) (h1 : cells.all (·.oneCell') = true)
    (hrow : (cur.toList.take off ++ cells.toList ++ cur.toList.drop (off + cells.size)).toArray = row)
    (hK : K (a.put o.dst undef) (w.setRow g row)) : if Region.wanted o (yielded ops a.tmps) = true then Oper.wp P o a w K Q else E := by
  rw [if_pos (by simp [Region.wanted, hgd])]
  unfold Oper.wp execOp
  simp only [ho, hx, hy, Instr.storeAt, Instr.sureAddr, Sem.run_bind, Sem.run_pure, Result.andThen_ok, run_storeVar_part w g off t ty cur cells hg hi hf h1, hrow]
  exact hK

/-- a whole struct; an array that is a part of a block that is known whole -/
theorem wl_loadS {ops : Array Oper} {rest : List Oper} {a : Act} {w : World} {Q : Exit → Act → World → Prop} {dst : Tmp} {ty typ : TypeId} {x : Operand} {pos : String} {after : Array Edge}
    (g : Nat) (t : TypeId) (cs : Array Value) (fr : Nat × Nat) (fs : Array Field) (hu : P.underlying ty = some (.struct fs)) (hx : a.eval x = .pointer (some ⟨g, 0, none⟩)) (hg : w.heap[g]? = some (.cells cs t fr))
    (hi : (P.info? ty).map (·.size) = some cs.size)
    (h : wpList P ops Q rest (a.put (some dst) (.agg cs)) w) : wpList P ops Q (⟨some dst, .load ty x, typ, pos, after, none⟩ :: rest) a w :=
  wpList_load_row rfl ty x rfl g hx t cs fr _ hg hu rfl hi h
theorem wl_loadP {ops : Array Oper} {rest : List Oper} {a : Act} {w : World} {Q : Exit → Act → World → Prop} {dst : Tmp} {ty typ : TypeId} {x : Operand} {pos : String} {after : Array Edge}
    (g off : Nat) (t : TypeId) (A cur : Array Value) (fr : Nat × Nat) (n : Nat) (el : TypeId) (hu : P.underlying ty = some (.array n el)) (hx : a.eval x = .pointer (some ⟨g, off, none⟩)) (hg : w.heap[g]? = some (.cells cur t fr))
    (hA : ∀ j v, A[j]? = some v → cur[off + j]? = some v) (hi : (P.info? ty).map (·.size) = some A.size)
    (h : wpList P ops Q rest (a.put (some dst) (.agg A)) w) : wpList P ops Q (⟨some dst, .load ty x, typ, pos, after, none⟩ :: rest) a w := by
  refine wpList_load_mid rfl ty x rfl g off hx A.toList _ (fun j v hv => ?_) hu rfl (by simpa using hi) (by simpa using h)
  rw [cell_of_row w g (off + j) cur t fr hg]
  exact hA j v (by simpa using hv)
end Go.Sha
