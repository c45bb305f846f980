/- Parts of a list of segments in memory: its beginning, its end. -/
import Derived.Test.YtjlifjgljejabaaGreatDoorEdiM
namespace Go.Proofs.YtjlifjgljejabaaGreatDoor
open Go.RowKit Go.Edi

theorem SgC.tk {w : World} {F : Nat → Prop} : ∀ {l : List Sg} {xs : List Value}, SgC w F l xs → ∀ m, SgC w F (l.take m) (xs.take (m * 2))
  | [], [], _, m => by simp; trivial
  | _ :: _, _ :: _ :: _, h, 0 => by simp; trivial
  | s :: r, a :: v :: t, h, m + 1 => by
    rw [List.take_succ_cons, show (m + 1) * 2 = m * 2 + 1 + 1 by omega, List.take_succ_cons, List.take_succ_cons]
    exact ⟨h.1, h.2.1, SgC.tk h.2.2 m⟩
  | [], _ :: _, h, _ => h.elim
  | _ :: _, [], h, _ => h.elim
  | _ :: _, [_], h, _ => h.elim
theorem SgC.dp {w : World} {F : Nat → Prop} : ∀ {l : List Sg} {xs : List Value}, SgC w F l xs → ∀ m, SgC w F (l.drop m) (xs.drop (m * 2))
  | [], [], _, m => by simp; trivial
  | _ :: _, _ :: _ :: _, h, 0 => by simpa using h
  | s :: r, a :: v :: t, h, m + 1 => by
    rw [List.drop_succ_cons, show (m + 1) * 2 = m * 2 + 1 + 1 by omega, List.drop_succ_cons, List.drop_succ_cons]
    exact SgC.dp h.2.2 m
  | [], _ :: _, h, _ => h.elim
  | _ :: _, [], h, _ => h.elim
  | _ :: _, [_], h, _ => h.elim
theorem RowF.tk {w : World} {F : Nat → Prop} {p : Option Addr} {cap n m size : Nat} {xs : List Value} (h : RowF w F (.slice p n cap) n xs) (hm : m ≤ n) : RowF w F (.slice p m cap) m (xs.take (m * size)) := by
  obtain ⟨p', cap', e, hn, hp⟩ := h
  simp only [Value.slice.injEq, true_and] at e
  obtain ⟨rfl, rfl⟩ := e
  refine ⟨_, _, rfl, by omega, fun h0 => ?_⟩
  obtain ⟨b, o, rfl, hF, hc⟩ := hp (by omega)
  refine ⟨b, o, rfl, hF, fun j u hu => hc j u ?_⟩
  rw [List.getElem?_take] at hu
  split at hu
  · exact hu
  · cases hu
theorem RowF.dp {w : World} {F : Nat → Prop} {b o : Nat} {cap c n m size : Nat} {xs : List Value} (h : RowF w F (.slice (some ⟨b, o, none⟩) n cap) n xs) (hm : m < n) (hc : n - m ≤ c) : RowF w F (.slice (some ⟨b, o + m * size, none⟩) (n - m) c) (n - m) (xs.drop (m * size)) := by
  obtain ⟨p', cap', e, hn, hp⟩ := h
  simp only [Value.slice.injEq, true_and] at e
  obtain ⟨rfl, rfl⟩ := e
  refine ⟨_, _, rfl, hc, fun _ => ?_⟩
  obtain ⟨b', o', e, hF, hcc⟩ := hp (by omega)
  simp only [Option.some.injEq, Addr.mk.injEq, and_true] at e
  obtain ⟨rfl, rfl⟩ := e
  refine ⟨b, o + m * size, rfl, hF, fun j u hu => ?_⟩
  rw [List.getElem?_drop] at hu
  have := hcc (m * size + j) u hu
  rw [Nat.add_assoc]; exact this
theorem RowF.no {w : World} {F : Nat → Prop} (p : Option Addr) (c : Nat) : RowF w F (.slice p 0 c) 0 [] := ⟨p, c, rfl, Nat.zero_le _, fun h => absurd h (by simp)⟩
theorem SegsF.tk {w : World} {F : Nat → Prop} {p : Option Addr} {cap m : Nat} {l : List Sg} (h : SegsF w F (.slice p l.length cap) l) (hm : m ≤ l.length) : SegsF w F (.slice p m cap) (l.take m) := by
  obtain ⟨xs, h1, h2⟩ := h
  refine ⟨xs.take (m * 2), ?_, h2.tk m⟩
  rw [List.length_take, Nat.min_eq_left hm]
  exact h1.tk hm
theorem SegsF.dp {w : World} {F : Nat → Prop} {b o : Nat} {cap c m : Nat} {l : List Sg} (h : SegsF w F (.slice (some ⟨b, o, none⟩) l.length cap) l) (hm : m < l.length) (hc : l.length - m ≤ c) : SegsF w F (.slice (some ⟨b, o + m * 2, none⟩) (l.length - m) c) (l.drop m) := by
  obtain ⟨xs, h1, h2⟩ := h
  refine ⟨xs.drop (m * 2), ?_, h2.dp m⟩
  rw [List.length_drop]
  exact h1.dp hm hc
end Go.Proofs.YtjlifjgljejabaaGreatDoor
