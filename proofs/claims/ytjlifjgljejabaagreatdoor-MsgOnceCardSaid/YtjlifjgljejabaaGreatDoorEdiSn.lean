/- A text without its bytes 10; what was parsed, and what is short, is of bounded size. -/
import Derived.Test.YtjlifjgljejabaaGreatDoorEdiW6
namespace Go.Proofs.YtjlifjgljejabaaGreatDoor
open Go.RowKit Go.Edi

def flt (t : Tx) : Tx := t.filter (fun c => decide (¬ c = 10))
theorem flt_10 (t : Tx) (k : Nat) (h : k < t.length) (hc : t[k] = 10) : flt (t.take (k + 1)) = flt (t.take k) := by
  unfold flt; rw [← List.take_append_getElem h, List.filter_append]; simp [hc]
theorem flt_no (t : Tx) (k : Nat) (h : k < t.length) (hc : ¬ t[k] = 10) : flt (t.take (k + 1)) = flt (t.take k) ++ [t[k]] := by
  unfold flt; rw [← List.take_append_getElem h, List.filter_append]; simp [hc]
theorem segs_slice {w : World} {F : Nat → Prop} {v : Value} {l : List Sg} (h : SegsF w F v l) : ∃ p cap, v = .slice p l.length cap := by
  obtain ⟨xs, ⟨p, cap, e, _⟩, _⟩ := h
  exact ⟨p, cap, e⟩
theorem sane_short {l : List Sg} (h1 : l.length ≤ 64) (h2 : ∀ s ∈ l, shortS s = true) : sane l := by
  refine ⟨by omega, fun s hs => ?_⟩
  have := h2 s hs
  simp only [shortS, shortE, Bool.and_eq_true, decide_eq_true_eq, List.all_eq_true] at this
  exact ⟨by omega, fun e he => ⟨by have := (this.2 e he).1; omega, fun t ht => by have := (this.2 e he).2 t ht; omega⟩⟩
theorem sane_parse (t : Tx) : sane (parseL t).1 := by
  by_cases h : (parseL t).2.2 = 0
  · obtain ⟨_, h2, _⟩ := parse_ok h
    have hi := run_inv t s0 0 good_s0 (by rw [h2])
    rw [h2] at hi
    exact sane_short hi.1.2.1 (fun s hs => (hi.1.1 s hs).2.2)
  · rw [parse_bad h]; exact ⟨by simp, fun s hs => by simp at hs⟩
end Go.Proofs.YtjlifjgljejabaaGreatDoor
