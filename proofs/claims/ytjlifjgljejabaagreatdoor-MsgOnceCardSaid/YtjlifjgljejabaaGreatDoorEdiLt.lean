/- Few and short segments. -/
import Derived.Test.YtjlifjgljejabaaGreatDoorEdiW6
namespace Go.Proofs.YtjlifjgljejabaaGreatDoor
open Go.RowKit Go.Edi

def lightE (e : List Tx) : Prop := e.length ≤ 40 ∧ ∀ t ∈ e, t.length ≤ 3000
def lightS (s : Sg) : Prop := s.tag.length ≤ 300 ∧ s.els.length ≤ 40 ∧ ∀ e ∈ s.els, lightE e
def light (l : List Sg) : Prop := l.length ≤ 80 ∧ ∀ s ∈ l, lightS s
theorem light.sane {l : List Sg} (h : light l) : sane l :=
  ⟨by have := h.1; omega, fun s hs => ⟨by have := (h.2 s hs).2.1; omega, fun e he => ⟨by have := ((h.2 s hs).2.2 e he).1; omega, fun t ht => by have := ((h.2 s hs).2.2 e he).2 t ht; omega⟩⟩⟩
theorem mem_snoc {α : Type} {P : α → Prop} (l : List α) (k : Nat) (h : k < l.length) (h1 : ∀ x ∈ l.take k, P x) (h2 : P l[k]) : ∀ x ∈ l.take (k + 1), P x := by
  intro x hx
  rw [← List.take_append_getElem h, List.mem_append, List.mem_singleton] at hx
  rcases hx with hx | rfl
  · exact h1 x hx
  · exact h2
end Go.Proofs.YtjlifjgljejabaaGreatDoor
