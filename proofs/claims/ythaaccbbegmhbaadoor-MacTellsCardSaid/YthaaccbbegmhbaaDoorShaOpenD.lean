/- A digest that came in, opened. -/
import Derived.Test.YthaaccbbegmhbaaDoorShaLift
import Derived.Test.YthaaccbbegmhbaaDoorShaW9
namespace Go.Proofs.YthaaccbbegmhbaaDoor
open Go.ChangeShapes Go.WideShapes Go.ChangeAt Go.RowKit Go.Sha

theorem cells25 : Tryd.prog.cellsOf 25 = 32 := by kernel_rfl
theorem open_digest {H : Type} {enc : TypeId × Value → H} {W : World} {r : Reach} {b0 base : Nat} {sp : Nat → Bool} {held : Bool} {v : Value} {d : DataW H} {p : List MemPlace}
    (hv : Value.okWide Tryd.prog W r b0 25 v) (h : DataW.Trod enc Tryd.prog W base sp held 25 v d p) : ∃ a : List Nat, a.length = 32 ∧ Lt 256 a ∧ v = .agg (bv a) := by
  simp only [Value.okWide, Tryd.underlying25] at hv
  obtain ⟨cs, rfl, hsz, _⟩ := hv
  rw [cells25] at hsz
  obtain ⟨fuel, hf⟩ := h
  obtain ⟨xs, m, _, _, _, hn, hel⟩ := DataW.trod_array Tryd.underlying25 hf
  have key : ∀ i, i < 32 → ∃ n : Nat, n < 256 ∧ cs[i]? = some (.int .u8 (n : Int)) := by
    intro i hi
    have h1 := hel i hi
    rw [cells5, Nat.mul_one] at h1
    rw [List.getElem?_eq_getElem (by omega)] at h1
    obtain ⟨n, e1, _, wf⟩ := DataW.trod_int Tryd.underlying5 h1
    have hb := bounds_u8 wf
    refine ⟨n.toNat, by omega, ?_⟩
    have e2 := congrArg (fun l : List Value => l[0]?) e1
    simp only [Value.cells] at e2
    rw [show ((n.toNat : Nat) : Int) = n by omega]
    simpa using e2
  have ex : ∃ a : List Nat, a.length = 32 ∧ Lt 256 a ∧ ∀ i, i < 32 → cs[i]? = some (.int .u8 (at0 a i : Nat)) := by
    have : ∀ k, k ≤ 32 → ∃ a : List Nat, a.length = k ∧ Lt 256 a ∧ ∀ i, i < k → cs[i]? = some (.int .u8 (at0 a i : Nat)) := by
      intro k
      induction k with
      | zero => intro _; exact ⟨[], rfl, by intro x hx; simp at hx, fun i hi => by omega⟩
      | succ k ih =>
        intro hk
        obtain ⟨a, h1, h2, h3⟩ := ih (by omega)
        obtain ⟨n, hn1, hn2⟩ := key k (by omega)
        refine ⟨a ++ [n], by simp [h1], ?_, fun i hi => ?_⟩
        · intro x hx
          rcases List.mem_append.1 hx with hx | hx
          · exact h2 x hx
          · simp at hx; omega
        · by_cases hik : i = k
          · subst hik
            rw [hn2]; simp [at0, ← h1]
          · rw [h3 i (by omega)]
            simp [at0, List.getElem?_append_left (show i < a.length by omega)]
    exact this 32 (Nat.le_refl _)
  obtain ⟨a, h1, h2, h3⟩ := ex
  refine ⟨a, h1, h2, ?_⟩
  congr 1
  apply Array.ext_getElem?
  intro i
  by_cases hi : i < 32
  · rw [h3 i hi, bv_get a i (by omega)]
  · rw [Array.getElem?_eq_none (by omega), Array.getElem?_eq_none (by rw [bv_size]; omega)]

end Go.Proofs.YthaaccbbegmhbaaDoor
