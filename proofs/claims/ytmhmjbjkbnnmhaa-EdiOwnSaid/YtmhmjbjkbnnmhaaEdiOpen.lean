/- Segments that came in, opened: whatever is handed over reads as a list of segments in memory. -/
import Derived.Test.YtmhmjbjkbnnmhaaRows
import Derived.Test.YtmhmjbjkbnnmhaaEdiM
import Derived.ProofKit
import Derived.OpenShut
import Derived.Deep.SlicePairs
import Derived.Deep.Strs
namespace Go.Proofs.Ytmhmjbjkbnnmhaa
open Go.ChangeShapes Go.WideShapes Go.ChangeAt Go.RowKit Go.Edi Go.Deep 

theorem own : ownKnob Try.prog.godebug = none := by kernel_rfl
theorem laidOut : laidOutB Try.prog = true := by kernel_rfl
theorem cellsStr : Try.prog.cellsOf 9 = 1 := by kernel_rfl
theorem cellsStrs : Try.prog.cellsOf 29 = 1 := by kernel_rfl
theorem cellsElems : Try.prog.cellsOf 26 = 1 := by kernel_rfl
theorem cellsSeg : Try.prog.cellsOf 28 = 2 := by kernel_rfl
theorem str_of (s : ByteArray) : str s.data.toList = .string s := by simp [tx]
/-- an address at which a cell lies -/
theorem addr_of {W : World} {a : Addr} {u : Value} (h : W.cell? (a.add 0) = some u) : ∃ b o, a = ⟨b, o, none⟩ ∧ b < W.heap.size := by
  obtain ⟨b, o, spot⟩ := a
  have hspot : spot = none := by simpa [Addr.add] using World.cell?_spot h
  subst hspot
  refine ⟨b, o, rfl, ?_⟩
  have := block_lt_of_cell h
  rw [Addr.add_mid] at this
  exact this
section
variable {H : Type} {enc : TypeId × Value → H} {W : World} {base : Nat} {sp : Nat → Bool} {held : Bool}
theorem open_texts {fuel : Nat} {v : Value} {x : DataW H × List MemPlace} (h : DataW.trod enc Try.prog W base sp held fuel 29 [v] = some x) : ∃ l, StrsF W (· < W.heap.size) v l := by
  rcases open_strs Try.underlying29 Try.underlying9 cellsStr h with ⟨hcs, _⟩ | ⟨a, len, cap, m, Sx, hcs, _, hl, hm, hmm, _, hx⟩
  · simp only [List.cons.injEq, and_true] at hcs
    subst hcs
    exact ⟨[], none, 0, rfl, Nat.le_refl _, fun h => absurd h (by simp)⟩
  · simp only [List.cons.injEq, and_true] at hcs
    subst hcs
    have hlm : len ≤ m := by rw [hmm]; split <;> omega
    refine ⟨(List.range len).map fun i => (Sx i).data.toList, some a, cap, by simp, by simpa using hl, fun h0 => ?_⟩
    have h0' : 0 < len := by simpa using h0
    obtain ⟨b, o, rfl, hb⟩ := addr_of (hx 0 (by omega)).1
    refine ⟨b, o, rfl, hb, fun j u hu => ?_⟩
    have hj : j < len := by have := (List.getElem?_eq_some_iff.1 hu).1; simpa using this
    have := (hx j (by omega)).1
    rw [Addr.add_mid] at this
    rw [this]
    rw [← hu]
    simp [hj, str_of]
theorem open_els {fuel : Nat} {v : Value} {x : DataW H × List MemPlace} (h : DataW.trod enc Try.prog W base sp held fuel 26 [v] = some x) : ∃ els, ElsF W (· < W.heap.size) v els := by
  rcases open_slice1 Try.underlying26 cellsStrs h with ⟨hcs, _⟩ | ⟨a, len, cap, m, n, V, D, Pl, hcs, _, hl, hm, hmm, _, hx⟩
  · simp only [List.cons.injEq, and_true] at hcs
    subst hcs
    exact ⟨[], [], ⟨none, 0, rfl, Nat.le_refl _, fun h => absurd h (by simp)⟩, True.intro⟩
  · simp only [List.cons.injEq, and_true] at hcs
    subst hcs
    have hlm : len ≤ m := by rw [hmm]; split <;> omega
    have key : ∀ k, k ≤ len → ∃ els ys, els.length = k ∧ ElC W (· < W.heap.size) els ys ∧ ∀ j u, ys[j]? = some u → W.cell? (a.add j) = some u := by
      intro k
      induction k with
      | zero => intro _; exact ⟨[], [], rfl, True.intro, fun j u hu => by simp at hu⟩
      | succ k ih =>
        intro hk
        obtain ⟨els, ys, e1, e2, e3⟩ := ih (by omega)
        obtain ⟨h1, h2⟩ := hx k (by omega)
        obtain ⟨l, hls⟩ := open_texts h2
        refine ⟨els ++ [l], ys ++ [V k], by simp [e1], ElC.snoc hls e2, fun j u hu => ?_⟩
        have hyl := e2.len
        by_cases hj : j < ys.length
        · rw [List.getElem?_append_left hj] at hu; exact e3 j u hu
        · have hj2 : j = ys.length := by have := (List.getElem?_eq_some_iff.1 hu).1; simp at this; omega
          subst hj2
          simp at hu
          rw [← hu, hyl, e1]; exact h1
    obtain ⟨els, ys, e1, e2, e3⟩ := key len (Nat.le_refl _)
    refine ⟨els, ys, ⟨some a, cap, by rw [e1], by rw [e1]; exact hl, fun h0 => ?_⟩, e2⟩
    obtain ⟨b, o, rfl, hb⟩ := addr_of (hx 0 (by omega)).1
    exact ⟨b, o, rfl, hb, fun j u hu => by have := e3 j u hu; rw [Addr.add_mid] at this; exact this⟩
end
theorem segU : ∃ f0 f1 : Field, Try.prog.underlying 28 = some (.struct #[f0, f1]) ∧ f0.offset = 0 ∧ f1.offset = 1 ∧ f0.type = 9 ∧ f1.type = 26 :=
  ⟨_, _, Try.underlying28, rfl, rfl, rfl, rfl⟩
section
variable {H : Type} {enc : TypeId × Value → H} {W : World} {base : Nat} {sp : Nat → Bool} {held : Bool}
theorem open_segs0 {fuel : Nat} {v : Value} {x : DataW H × List MemPlace} (h : DataW.trod enc Try.prog W base sp held fuel 22 [v] = some x) : ∃ l, SegsF W (· < W.heap.size) v l := by
  obtain ⟨f0, f1, hu, o0, o1, t0, t1⟩ := segU
  rcases open_slice_pairs Try.underlying22 hu cellsSeg o0 o1 (by rw [t0]; exact cellsStr) (by rw [t1]; exact cellsElems) h with ⟨hcs, _⟩ | ⟨a, len, cap, m, n, V0, V1, D0, D1, P0, P1, hcs, _, hl, hm, hmm, _, hx⟩
  · simp only [List.cons.injEq, and_true] at hcs
    subst hcs
    exact ⟨[], [], ⟨none, 0, rfl, Nat.le_refl _, fun h => absurd h (by simp)⟩, True.intro⟩
  · simp only [List.cons.injEq, and_true] at hcs
    subst hcs
    have hlm : len ≤ m := by rw [hmm]; split <;> omega
    have key : ∀ k, k ≤ len → ∃ l xs, l.length = k ∧ SgC W (· < W.heap.size) l xs ∧ ∀ j u, xs[j]? = some u → W.cell? (a.add j) = some u := by
      intro k
      induction k with
      | zero => intro _; exact ⟨[], [], rfl, True.intro, fun j u hu => by simp at hu⟩
      | succ k ih =>
        intro hk
        obtain ⟨l, xs, e1, e2, e3⟩ := ih (by omega)
        obtain ⟨h1, h2, h3, h4⟩ := hx k (by omega)
        rw [t0] at h3
        rw [t1] at h4
        obtain ⟨els, hels⟩ := open_els h4
        obtain ⟨s, hs, _⟩ := DataW.trod_string Try.underlying9 h3
        simp only [List.cons.injEq, and_true] at hs
        have hsn : SgC W (· < W.heap.size) (l ++ [⟨s.data.toList, els⟩]) (xs ++ [str s.data.toList, V1 k]) := SgC.snoc (s := ⟨s.data.toList, els⟩) hels e2
        rw [str_of, ← hs] at hsn
        refine ⟨l ++ [⟨s.data.toList, els⟩], xs ++ [V0 k, V1 k], by simp [e1], hsn, fun j u hu => ?_⟩
        have hyl := e2.len
        by_cases hj : j < xs.length
        · rw [List.getElem?_append_left hj] at hu; exact e3 j u hu
        · rw [List.getElem?_append_right (by omega)] at hu
          by_cases hj2 : j = xs.length
          · subst hj2
            simp at hu
            rw [← hu, hyl, e1]; exact h1
          · have hj3 : j = xs.length + 1 := by have := (List.getElem?_eq_some_iff.1 hu).1; simp at this; omega
            subst hj3
            simp at hu
            rw [← hu, hyl, e1]; exact h2
    obtain ⟨l, xs, e1, e2, e3⟩ := key len (Nat.le_refl _)
    refine ⟨l, xs, ⟨some a, cap, by rw [e1], by rw [e1]; exact hl, fun h0 => ?_⟩, e2⟩
    obtain ⟨b, o, rfl, hb⟩ := addr_of (show W.cell? (a.add 0) = _ from by have := (hx 0 (by omega)).1; simpa using this)
    exact ⟨b, o, rfl, hb, fun j u hu => by have := e3 j u hu; rw [Addr.add_mid] at this; exact this⟩
set_option maxRecDepth 100000 in
theorem open_segs {r : Reach} {b0 : Nat} {v : Value} {d : DataW H} {p : List MemPlace} (hv : Value.okWide Try.prog W r b0 22 v) (h : DataW.Trod enc Try.prog W base sp held 22 v d p) : ∃ l, SegsF W (· < W.heap.size) v l := by
  obtain ⟨a0, len, cap, rfl⟩ := okWide_slice Try.underlying22 hv
  obtain ⟨fuel, hf⟩ := h
  exact open_segs0 (v := .slice a0 len cap) (by simpa [Value.cells] using hf)
end
end Go.Proofs.Ytmhmjbjkbnnmhaa
