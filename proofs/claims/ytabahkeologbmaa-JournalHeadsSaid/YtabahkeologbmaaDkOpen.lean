/- What the disk rows' cards lean on: bytes, fates and acts that came in; what comes back of the arguments. -/
import Derived.Test.YtabahkeologbmaaRows
import Derived.Test.YtabahkeologbmaaDkC
import Derived.ProofKit
import Derived.OpenShut
import Derived.JoinedOf
import Derived.ChangeMaps5
import Derived.Deep.Slices
import Derived.Carry
import Derived.ChangeCalls
namespace Go.Proofs.Ytabahkeologbmaa.Dk
open Go.ChangeShapes Go.WideShapes Go.ChangeAt Go.RowKit Go.ChangeMaps Go.Deep Go.Dk

theorem own : ownKnob Try.prog.godebug = none := by kernel_rfl
theorem laidOut : laidOutB Try.prog = true := by kernel_rfl
theorem cellsU8 : Try.prog.cellsOf 5 = 1 := by kernel_rfl
theorem cellsInt : Try.prog.cellsOf 3 = 1 := by kernel_rfl
theorem cellsBytes : Try.prog.cellsOf 40 = 1 := by kernel_rfl
theorem cellsInts : Try.prog.cellsOf 35 = 1 := by kernel_rfl
theorem wf8 {n : Int} (h : (Lit.int .u8 n).wf = true) : 0 ≤ n ∧ n < 256 := by
  simp [Lit.wf, IntKind.min, IntKind.max, IntKind.signed, IntKind.bits] at h; omega
theorem list3 {α : Type} (l : List α) (h : l.length = 3) : ∃ a b c, l = [a, b, c] := by
  match l, h with
  | [a, b, c], _ => exact ⟨a, b, c, rfl⟩
theorem arr3 (A : Array Value) (h : A.toList.length = 3) : ∃ a b c, A = #[a, b, c] := by
  obtain ⟨a, b, c, he⟩ := list3 A.toList h
  exact ⟨a, b, c, Array.toList_inj.1 he⟩
theorem list4 {α : Type} (l : List α) (h : l.length = 4) : ∃ a b c d, l = [a, b, c, d] := by
  match l, h with
  | [a, b, c, d], _ => exact ⟨a, b, c, d, rfl⟩
theorem arr4 (A : Array Value) (h : A.toList.length = 4) : ∃ a b c d, A = #[a, b, c, d] := by
  obtain ⟨a, b, c, d, he⟩ := list4 A.toList h
  exact ⟨a, b, c, d, Array.toList_inj.1 he⟩
section
variable {H : Type} {enc : TypeId × Value → H}
theorem trodAll_get {W : World} {base : Nat} {sp : Nat → Bool} {held : Bool} : ∀ {ts : List TypeId} {vs : List Value} {ds : List (DataW H)} {ps : List MemPlace}, DataW.TrodAll enc Try.prog W base sp held ts vs ds ps →
    ∀ (j : Nat) {t : TypeId} {v : Value}, ts[j]? = some t → vs[j]? = some v → ∃ d p, DataW.Trod enc Try.prog W base sp held t v d p
  | [], _, _, _, _, j, t, v, ht, _ => by simp at ht
  | t0 :: ts, vs, ds, ps, h, j, t, v, ht, hv => by
    obtain ⟨v0, vs', d0, ds', p0, p', rfl, rfl, rfl, h0, h1⟩ := trodAll_cons h
    cases j with
    | zero =>
      simp only [List.getElem?_cons_zero, Option.some.injEq] at ht hv
      subst ht hv
      exact ⟨d0, p0, h0⟩
    | succ j => exact trodAll_get h1 j (by simpa using ht) (by simpa using hv)
theorem trodAll_below' {W W' : World} (hb : Below W.heap.size W W') : ∀ {ts : List TypeId} {vs : List Value} {ds : List (DataW H)} {ps : List MemPlace}, DataW.TrodAll enc Try.prog W 0 (fun _ => true) true ts vs ds ps →
    (∀ t ∈ ts, Try.prog.readableRec t = true ∧ t < Try.prog.types.size) → (∀ x ∈ ps, x.block < W.heap.size) → DataW.TrodAll enc Try.prog W' 0 (fun b => decide (b < W.heap.size)) true ts vs ds ps
  | [], vs, ds, ps, h, _, _ => by
    obtain ⟨rfl, rfl, rfl⟩ := trodAll_nil h
    exact trodAll_mk0
  | t :: ts, vs, ds, ps, h, ht, hl => by
    obtain ⟨v0, vs', d0, ds', p0, p', rfl, rfl, rfl, h0, h1⟩ := trodAll_cons h
    have h2 := ht t (by simp)
    exact trodAll_cons_mk (Below.trod laidOut h2.1 h2.2 h0 hb (fun x hx => hl x (by simp [hx]))) (trodAll_below' hb h1 (fun t' h' => ht t' (by simp [h'])) (fun x hx => hl x (by simp [hx])))
theorem trodAll_below {W W' : World} {ts : List TypeId} {vs : List Value} {ds : List (DataW H)} {ps : List MemPlace} (h : DataW.TrodAll enc Try.prog W 0 (fun _ => true) true ts vs ds ps)
    (hr : ts.all (fun t => Try.prog.readableRec t) = true) (hn : ts.all (fun t => decide (t < 110)) = true) (hb : Below W.heap.size W W') (hl : ∀ x ∈ ps, x.block < W.heap.size) :
    DataW.TrodAll enc Try.prog W' 0 (fun b => decide (b < W.heap.size)) true ts vs ds ps := by
  have hsz : 110 ≤ Try.prog.types.size := of_decide_eq_true (by kernel_rfl)
  exact trodAll_below' hb h (fun t ht => ⟨List.all_eq_true.1 hr t ht, Nat.lt_of_lt_of_le (of_decide_eq_true (List.all_eq_true.1 hn t ht)) hsz⟩) hl
set_option maxRecDepth 100000 in
theorem open_int' {W : World} {r : Reach} {b0 base : Nat} {held : Bool} {sp : Nat → Bool} {v : Value} {d : DataW H} {p : List MemPlace} (hv : Value.okWide Try.prog W r b0 3 v) (h : DataW.Trod enc Try.prog W base sp held 3 v d p) :
    ∃ a : Int, v = .int .i64 a ∧ (Lit.int .i64 a).wf = true := by
  obtain ⟨a, e, _, _, w0⟩ := open_int Try.underlying3 hv h
  exact ⟨a, e, w0⟩
set_option maxRecDepth 100000 in
theorem open_u8' {W : World} {r : Reach} {b0 base : Nat} {held : Bool} {sp : Nat → Bool} {v : Value} {d : DataW H} {p : List MemPlace} (hv : Value.okWide Try.prog W r b0 5 v) (h : DataW.Trod enc Try.prog W base sp held 5 v d p) :
    ∃ a : Nat, v = .int .u8 (a : Int) ∧ a < 256 := by
  obtain ⟨a, e, _, _, w0⟩ := open_int Try.underlying5 hv h
  have := wf8 w0
  exact ⟨a.toNat, by rw [e, show ((a.toNat : Nat) : Int) = a by omega], by omega⟩
section
variable {W : World} {base : Nat} {sp : Nat → Bool} {held : Bool}
theorem addr_of {W : World} {a : Addr} {u : Value} (h : W.cell? (a.add 0) = some u) : ∃ b o, a = ⟨b, o, none⟩ ∧ b < W.heap.size := by
  obtain ⟨b, o, spot⟩ := a
  have hspot : spot = none := by simpa [Addr.add] using World.cell?_spot h
  subst hspot
  refine ⟨b, o, rfl, ?_⟩
  have := block_lt_of_cell h
  rw [Addr.add_mid] at this
  exact this
set_option maxRecDepth 100000 in
theorem ints_of {t e : TypeId} {k : IntKind} (ht : Try.prog.underlying t = some (.slice e)) (he : Try.prog.underlying e = some (.int k)) (hcl : Try.prog.cellsOf e = 1) {n : Nat} {v : Value} {y : DataW H × List MemPlace}
    (h : DataW.trod enc Try.prog W base sp held n t [v] = some y) : ∃ (l : List Int) (p : Option Addr) (cap : Nat), v = .slice p l.length cap ∧ (∀ x ∈ l, (Lit.int k x).wf = true) ∧ RowF W (· < W.heap.size) v l.length (l.map (Value.int k)) := by
  rcases open_ints ht he hcl h with ⟨hcs, _⟩ | ⟨a, len, cap, zs, hcs, _, hl, hm, hz, _, hcell, hwz⟩
  · simp only [List.cons.injEq, and_true] at hcs
    subst hcs
    exact ⟨[], none, 0, rfl, fun x hx => by simp at hx, none, 0, rfl, Nat.le_refl _, fun h => absurd h (by simp)⟩
  · simp only [List.cons.injEq, and_true] at hcs
    subst hcs
    have hlz : len ≤ zs.length := by rw [hz]; split <;> omega
    have hlen : (zs.take len).length = len := by rw [List.length_take]; omega
    refine ⟨zs.take len, some a, cap, by rw [hlen], fun x hx => hwz x (List.mem_of_mem_take hx), ?_⟩
    rw [hlen]
    refine ⟨some a, cap, rfl, hl, fun hp => ?_⟩
    have c0 := hcell 0 (by omega)
    obtain ⟨b, o, rfl, hb⟩ := addr_of c0
    refine ⟨b, o, rfl, hb, fun j u hu => ?_⟩
    rw [List.getElem?_map, List.getElem?_take] at hu
    split at hu
    · rename_i hj
      have hjz : j < zs.length := by omega
      rw [List.getElem?_eq_getElem hjz] at hu
      have := hcell j hjz
      rw [Addr.add_mid, List.getD_eq_getElem?_getD, List.getElem?_eq_getElem hjz] at this
      rw [this, ← hu]
      rfl
    · cases hu
theorem bytes_of {n : Nat} {v : Value} {y : DataW H × List MemPlace} (h : DataW.trod enc Try.prog W base sp held n 40 [v] = some y) : ∃ (l : By) (p : Option Addr) (cap : Nat), v = .slice p l.length cap ∧ BysF W (· < W.heap.size) v l := by
  obtain ⟨l, p, cap, hv, hw, hr⟩ := ints_of Try.underlying40 Try.underlying5 cellsU8 h
  have e : l.map (Value.int .u8) = Lib.byteCells (l.map fun x => UInt8.ofNat x.toNat) := by
    unfold Lib.byteCells
    rw [List.map_map]
    refine List.map_congr_left (fun x hx => ?_)
    have := wf8 (hw x hx)
    simp only [Function.comp, UInt8.toNat_ofNat']
    rw [show x.toNat % 2 ^ 8 = x.toNat by omega, show ((x.toNat : Nat) : Int) = x by omega]
  rw [e] at hr
  refine ⟨l.map fun x => UInt8.ofNat x.toNat, p, cap, by rw [List.length_map]; exact hv, ?_⟩
  unfold BysF
  rw [List.length_map]
  exact hr
set_option maxRecDepth 100000 in
theorem open_bytes {r : Reach} {b0 : Nat} {v : Value} {d : DataW H} {p : List MemPlace} (hv : Value.okWide Try.prog W r b0 40 v) (h : DataW.Trod enc Try.prog W base sp held 40 v d p) :
    ∃ (l : By) (q : Option Addr) (cap : Nat), v = .slice q l.length cap ∧ BysF W (· < W.heap.size) v l := by
  obtain ⟨a0, len, cap, rfl⟩ := okWide_slice Try.underlying40 hv
  obtain ⟨fuel, hf⟩ := h
  exact bytes_of hf
set_option maxRecDepth 100000 in
theorem open_fates {r : Reach} {b0 : Nat} {v : Value} {d : DataW H} {p : List MemPlace} (hv : Value.okWide Try.prog W r b0 35 v) (h : DataW.Trod enc Try.prog W base sp held 35 v d p) :
    ∃ (l : List Int) (q : Option Addr) (cap : Nat), v = .slice q l.length cap ∧ FtsF W (· < W.heap.size) v l := by
  obtain ⟨a0, len, cap, rfl⟩ := okWide_slice Try.underlying35 hv
  obtain ⟨fuel, hf⟩ := h
  obtain ⟨l, q, c, h1, _, h2⟩ := ints_of Try.underlying35 Try.underlying3 cellsInt hf
  exact ⟨l, q, c, h1, h2⟩
end
end
end Go.Proofs.Ytabahkeologbmaa.Dk
