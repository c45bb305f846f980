/- What comes back of the arguments, of whatever types: a call that leaves what lay there. -/
import Derived.Test.YtpapcilffkpjjaaTkOpen
import Derived.Carry
import Derived.ChangeCalls
namespace Go.Proofs.Ytpapcilffkpjjaa
open Go.ChangeShapes Go.WideShapes Go.ChangeAt Go.RowKit Go.Money Go.ChangeMaps Go.Pror Go.Tick

theorem list3 {α : Type} (l : List α) (h : l.length = 3) : ∃ a b c, l = [a, b, c] := by
  match l, h with
  | [a, b, c], _ => exact ⟨a, b, c, rfl⟩
theorem arr3 (A : Array Value) (h : A.toList.length = 3) : ∃ a b c, A = #[a, b, c] := by
  obtain ⟨a, b, c, he⟩ := list3 A.toList h
  exact ⟨a, b, c, Array.toList_inj.1 he⟩
theorem list4 {α : Type} (l : List α) (h : l.length = 4) : ∃ a b c d, l = [a, b, c, d] := by
  match l, h with
  | [a, b, c, d], _ => exact ⟨a, b, c, d, rfl⟩
theorem arr4 (A : Array Value) (h : A.toList.length = 4) : ∃ a b c d, A = #[a, b, c, d] := by
  obtain ⟨a, b, c, d, he⟩ := list4 A.toList h
  exact ⟨a, b, c, d, Array.toList_inj.1 he⟩
theorem list5 {α : Type} (l : List α) (h : l.length = 5) : ∃ a b c d e, l = [a, b, c, d, e] := by
  match l, h with
  | [a, b, c, d, e], _ => exact ⟨a, b, c, d, e, rfl⟩
theorem arr5 (A : Array Value) (h : A.toList.length = 5) : ∃ a b c d e, A = #[a, b, c, d, e] := by
  obtain ⟨a, b, c, d, e, he⟩ := list5 A.toList h
  exact ⟨a, b, c, d, e, Array.toList_inj.1 he⟩
section
variable {H : Type} {enc : TypeId × Value → H}
theorem trodAll_get {W : World} {base : Nat} {sp : Nat → Bool} {held : Bool} : ∀ {ts : List TypeId} {vs : List Value} {ds : List (DataW H)} {ps : List MemPlace}, DataW.TrodAll enc Try.prog W base sp held ts vs ds ps →
    ∀ (j : Nat) {t : TypeId} {v : Value}, ts[j]? = some t → vs[j]? = some v → ∃ d p, DataW.Trod enc Try.prog W base sp held t v d p
  | [], _, _, _, _, j, t, v, ht, _ => by simp at ht
  | t0 :: ts, vs, ds, ps, h, j, t, v, ht, hv => by
    obtain ⟨v0, vs', d0, ds', p0, p', rfl, rfl, rfl, h0, h1⟩ := trodAll_cons h
    cases j with
    | zero =>
      simp only [List.getElem?_cons_zero, Option.some.injEq] at ht hv
      subst ht hv
      exact ⟨d0, p0, h0⟩
    | succ j => exact trodAll_get h1 j (by simpa using ht) (by simpa using hv)
theorem trodAll_below' {W W' : World} (hb : Below W.heap.size W W') : ∀ {ts : List TypeId} {vs : List Value} {ds : List (DataW H)} {ps : List MemPlace}, DataW.TrodAll enc Try.prog W 0 (fun _ => true) true ts vs ds ps →
    (∀ t ∈ ts, Try.prog.readableRec t = true ∧ t < Try.prog.types.size) → (∀ x ∈ ps, x.block < W.heap.size) → DataW.TrodAll enc Try.prog W' 0 (fun b => decide (b < W.heap.size)) true ts vs ds ps
  | [], vs, ds, ps, h, _, _ => by
    obtain ⟨rfl, rfl, rfl⟩ := trodAll_nil h
    exact trodAll_mk0
  | t :: ts, vs, ds, ps, h, ht, hl => by
    obtain ⟨v0, vs', d0, ds', p0, p', rfl, rfl, rfl, h0, h1⟩ := trodAll_cons h
    have h2 := ht t (by simp)
    exact trodAll_cons_mk (Below.trod laidOut h2.1 h2.2 h0 hb (fun x hx => hl x (by simp [hx]))) (trodAll_below' hb h1 (fun t' h' => ht t' (by simp [h'])) (fun x hx => hl x (by simp [hx])))
theorem trodAll_below {W W' : World} {ts : List TypeId} {vs : List Value} {ds : List (DataW H)} {ps : List MemPlace} (h : DataW.TrodAll enc Try.prog W 0 (fun _ => true) true ts vs ds ps)
    (hr : ts.all (fun t => Try.prog.readableRec t) = true) (hn : ts.all (fun t => decide (t < 120)) = true) (hb : Below W.heap.size W W') (hl : ∀ x ∈ ps, x.block < W.heap.size) :
    DataW.TrodAll enc Try.prog W' 0 (fun b => decide (b < W.heap.size)) true ts vs ds ps := by
  have hsz : 120 ≤ Try.prog.types.size := of_decide_eq_true (by kernel_rfl)
  exact trodAll_below' hb h (fun t ht => ⟨List.all_eq_true.1 hr t ht, Nat.lt_of_lt_of_le (of_decide_eq_true (List.all_eq_true.1 hn t ht)) hsz⟩) hl
set_option maxRecDepth 100000 in
theorem open_i64 {W : World} {r : Reach} {b0 base : Nat} {held : Bool} {sp : Nat → Bool} {v : Value} {d : DataW H} {p : List MemPlace} (hv : Value.okWide Try.prog W r b0 2 v) (h : DataW.Trod enc Try.prog W base sp held 2 v d p) :
    ∃ a : Int, v = iv a ∧ -9223372036854775808 ≤ a ∧ a ≤ 9223372036854775807 := by
  obtain ⟨a, e, _, _, w0⟩ := open_int Try.underlying2 hv h
  exact ⟨a, e, bd_i64 w0⟩
set_option maxRecDepth 100000 in
theorem open_int' {W : World} {r : Reach} {b0 base : Nat} {held : Bool} {sp : Nat → Bool} {v : Value} {d : DataW H} {p : List MemPlace} (hv : Value.okWide Try.prog W r b0 3 v) (h : DataW.Trod enc Try.prog W base sp held 3 v d p) :
    ∃ a : Int, v = iv a ∧ -9223372036854775808 ≤ a ∧ a ≤ 9223372036854775807 := by
  obtain ⟨a, e, _, _, w0⟩ := open_int Try.underlying3 hv h
  exact ⟨a, e, bd_i64 w0⟩
end
end Go.Proofs.Ytpapcilffkpjjaa
