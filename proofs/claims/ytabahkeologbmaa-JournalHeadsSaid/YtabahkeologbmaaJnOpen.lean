/- What the journal rows' cards lean on: lists of bytes that came in. -/
import Derived.Test.YtabahkeologbmaaDkOpen
import Derived.Test.YtabahkeologbmaaDkK
namespace Go.Proofs.Ytabahkeologbmaa.Jn
open Go.ChangeShapes Go.WideShapes Go.ChangeAt Go.RowKit Go.ChangeMaps Go.Deep Go.Dk Go.Proofs.Ytabahkeologbmaa.Dk

theorem cellsBytess : Try.prog.cellsOf 28 = 1 := by kernel_rfl
theorem list1 {α : Type} (l : List α) (h : l.length = 1) : ∃ a, l = [a] := by
  match l, h with
  | [a], _ => exact ⟨a, rfl⟩
theorem arr1 (A : Array Value) (h : A.toList.length = 1) : ∃ a, A = #[a] := by
  obtain ⟨a, e⟩ := list1 _ h
  exact ⟨a, by rw [← Array.toArray_toList (xs := A), e]⟩
theorem list2 {α : Type} (l : List α) (h : l.length = 2) : ∃ a b, l = [a, b] := by
  match l, h with
  | [a, b], _ => exact ⟨a, b, rfl⟩
theorem arr2 (A : Array Value) (h : A.toList.length = 2) : ∃ a b, A = #[a, b] := by
  obtain ⟨a, b, e⟩ := list2 _ h
  exact ⟨a, b, by rw [← Array.toArray_toList (xs := A), e]⟩
/-- rows of bytes in memory -/
def BsF (w : World) (F : Nat → Prop) (v : Value) (rs : List By) : Prop := ∃ p cap, v = .slice p rs.length cap ∧ (0 < rs.length → ∃ b o, p = some ⟨b, o, none⟩ ∧ F b ∧ ∀ (i : Nat) r, rs[i]? = some r → ∃ y, w.cell? ⟨b, o + i, none⟩ = some y ∧ BysF w F y r)
theorem BsF.kept {w w' : World} {F F' : Nat → Prop} {v : Value} {rs : List By} (h : BsF w F v rs) (hk : Kp F F' w w') : BsF w' F' v rs := by
  obtain ⟨p, cap, h1, h2⟩ := h
  refine ⟨p, cap, h1, fun h0 => ?_⟩
  obtain ⟨b, o, e1, e2, e3⟩ := h2 h0
  refine ⟨b, o, e1, (hk b e2).1, fun i r hr => ?_⟩
  obtain ⟨y, h3, h4⟩ := e3 i r hr
  exact ⟨y, (World.cell?_of_block (a := ⟨b, o + i, none⟩) (hk b e2).2).trans h3, h4.kept hk⟩
section
variable {H : Type} {enc : TypeId × Value → H} {W : World} {base : Nat} {sp : Nat → Bool} {held : Bool}
set_option maxRecDepth 100000 in
theorem rows_of {fuel : Nat} {v : Value} {y : DataW H × List MemPlace} (hf : DataW.trod enc Try.prog W base sp held fuel 28 [v] = some y) : ∃ (rs : List By) (p : Option Addr) (cap : Nat), v = .slice p rs.length cap ∧ BsF W (· < W.heap.size) v rs := by
  rcases open_slice Try.underlying28 hf with ⟨hcs, _⟩ | ⟨a, len, cap, m, n, D, Pl, hcs, _, hl, hm, hmm, _, hx⟩
  · simp only [List.cons.injEq, and_true] at hcs
    subst hcs
    exact ⟨[], none, 0, rfl, none, 0, rfl, fun h => absurd h (by simp)⟩
  · simp only [List.cons.injEq, and_true] at hcs
    subst hcs
    have hlm : len ≤ m := by rw [hmm]; split <;> omega
    have key : ∀ q, q ≤ len → ∃ rs : List By, rs.length = q ∧ ∀ (i : Nat) r, rs[i]? = some r → ∃ z, W.cell? (a.add i) = some z ∧ BysF W (· < W.heap.size) z r := by
      intro q
      induction q with
      | zero => intro _; exact ⟨[], rfl, fun i r hi => by simp at hi⟩
      | succ q ih =>
        intro hq
        obtain ⟨rs, e1, e2⟩ := ih (by omega)
        obtain ⟨cs, h1, h2⟩ := hx q (by omega)
        rw [cellsBytes] at h1
        obtain ⟨_, hlen, hcell⟩ := World.cells?_some h1
        obtain ⟨z, rfl⟩ := list1 cs hlen
        obtain ⟨l, p, c, hz, hb⟩ := bytes_of h2
        have hc0 := hcell 0 (by omega)
        refine ⟨rs ++ [l], by simp [e1], fun i r hi => ?_⟩
        by_cases hi2 : i < rs.length
        · rw [List.getElem?_append_left hi2] at hi
          exact e2 i r hi
        · have hjl := (List.getElem?_eq_some_iff.1 hi).1
          rw [List.length_append, List.length_singleton] at hjl
          obtain rfl : i = q := by omega
          rw [List.getElem?_append_right (by omega), show i - rs.length = 0 by omega] at hi
          obtain rfl := Option.some.inj hi
          refine ⟨z, ?_, hb⟩
          rw [add_add] at hc0
          simpa using hc0
    obtain ⟨rs, e1, e2⟩ := key len (Nat.le_refl _)
    refine ⟨rs, some a, cap, by rw [e1], some a, cap, by rw [e1], fun hp => ?_⟩
    obtain ⟨r, hr⟩ : ∃ r, rs[0]? = some r := ⟨_, List.getElem?_eq_getElem hp⟩
    obtain ⟨z, hz, _⟩ := e2 0 r hr
    obtain ⟨b, o, rfl, hb⟩ := addr_of hz
    refine ⟨b, o, rfl, hb, fun i r hi => ?_⟩
    obtain ⟨z, hz, hb⟩ := e2 i r hi
    rw [Addr.add_mid] at hz
    exact ⟨z, hz, hb⟩
set_option maxRecDepth 100000 in
theorem open_rows {r : Reach} {b0 : Nat} {v : Value} {d : DataW H} {p : List MemPlace} (hv : Value.okWide Try.prog W r b0 28 v) (h : DataW.Trod enc Try.prog W base sp held 28 v d p) :
    ∃ (rs : List By) (q : Option Addr) (cap : Nat), v = .slice q rs.length cap ∧ BsF W (· < W.heap.size) v rs := by
  obtain ⟨a0, len, cap, rfl⟩ := okWide_slice Try.underlying28 hv
  obtain ⟨fuel, hf⟩ := h
  exact rows_of hf
end
end Go.Proofs.Ytabahkeologbmaa.Jn
