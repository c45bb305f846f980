/- append of one number to a list of one's own; Share by what it answers. -/
import Derived.Test.YtpapcilffkpjjaaPrK
namespace Go.Proofs.Ytpapcilffkpjjaa
open Go.Shelf Go.RowKit Go.Lib Go.Sort Go.Stb Go.Money Go.Pror

theorem par_u32 : (Try.prog.info? 56).map (fun i => (i.zero, i.size, i.bytes)) = some (some (.int .u32 0), 1, 4) := by kernel_rfl
/-- a list of one's own, of numbers of kind k -/
abbrev OwN (k : IntKind) (ty : TypeId) (base : Nat) (w : World) (v : Value) (L : List Nat) : Prop := w.ownsRow base ty 1 v L.length ((ints L).map (Value.int k))
theorem own_sl {k : IntKind} {ty : TypeId} {base : Nat} {w : World} {v : Value} {L : List Nat} (h : OwN k ty base w v L) : ∃ p cap, v = .slice p L.length cap ∧ L.length ≤ cap := by
  rcases h.2 with ⟨rfl, h0⟩ | ⟨g, cap, cur, rfl, _, _, hnc, _⟩
  · exact ⟨none, 0, by rw [h0], by omega⟩
  · exact ⟨_, cap, rfl, hnc⟩
theorem own_nm {k : IntKind} {ty : TypeId} {base : Nat} {w : World} {p : Option Addr} {cap : Nat} {L : List Nat} (h : OwN k ty base w (.slice p L.length cap) L) : Nums w k p (ints L) := by
  have h' := h
  rcases h.2 with ⟨e, h0⟩ | ⟨g, cap', cur, e, hb, hg, hnc, _, hs, ht⟩
  · refine ⟨fun hp => ?_⟩
    rw [ints_len] at hp; omega
  · simp only [Value.slice.injEq] at e
    obtain ⟨rfl, _, rfl⟩ := e
    refine ⟨fun hp => ⟨g, 0, rfl, (Array.getElem?_eq_some_iff.1 hg).1, fun j hj => ?_⟩⟩
    rw [ints_len] at hj
    rw [Nat.zero_add, h'.cellAt j (by omega), List.getElem?_map, List.getElem?_eq_getElem (by rw [ints_len]; exact hj), List.getD_eq_getElem?_getD, List.getElem?_eq_getElem (by rw [ints_len]; exact hj)]
    rfl
theorem own_snoc {k : IntKind} {ty : TypeId} {base : Nat} {w : World} {v : Value} {L : List Nat} {x n : Nat} (hn : n = L.length) (h : w.ownsRow base ty 1 v (n + 1) ((ints L).map (Value.int k) ++ [.int k (x : Int)])) : OwN k ty base w v (L ++ [x]) := by
  subst hn
  unfold OwN
  have e1 : (L ++ [x]).length = L.length + 1 := by simp
  have e2 : (ints (L ++ [x])).map (Value.int k) = (ints L).map (Value.int k) ++ [.int k (x : Int)] := by simp [ints]
  rw [e1, e2]; exact h
theorem own_at {k : IntKind} {ty : TypeId} {base : Nat} {w : World} {v : Value} {L : List Nat} {n : Nat} (hn : L.length = n) (h : OwN k ty base w v L) : ∃ p cap, v = .slice p n cap ∧ n ≤ cap ∧ w.ownsRow base ty 1 (.slice p n cap) n ((ints L).map (Value.int k)) ∧ Nums w k p (ints L) := by
  subst hn
  obtain ⟨p, cap, rfl, hc⟩ := own_sl h
  exact ⟨p, cap, rfl, hc, h, own_nm h⟩
theorem row1 (w : World) (u : Value) (T : TypeId) : RowF (w.alloc (.cells #[u] T)) (fun _ => True) (.slice (some ⟨w.heap.size, 0, none⟩) 1 1) 1 [u] :=
  ⟨_, 1, rfl, Nat.le_refl _, fun _ => ⟨w.heap.size, 0, rfl, trivial, fun j v hv => by
    have hj : j = 0 := by
      have := (List.getElem?_eq_some_iff.1 hv).1
      simp at this; exact this
    subst hj
    simp only [List.getElem?_cons_zero, Option.some.injEq] at hv
    subst hv
    exact cell_of_row _ _ 0 _ _ _ (heap_last _ _ _ rfl)⟩⟩
theorem one_int (k : IntKind) (x : Int) : ∀ u ∈ [Value.int k x], u.oneCell' = true := by
  intro u hu; simp at hu; subst hu; rfl
/-- the cell of a number -/
theorem kcell {k : IntKind} {w : World} {p : Option Addr} {ws : List Nat} (h : Nums w k p (ints ws)) {j : Nat} (hj : j < ws.length) : ∃ b o, p = some ⟨b, o, none⟩ ∧ b < w.heap.size ∧ w.cell? ⟨b, o + j, none⟩ = some (.int k ((ws.getD j 0 : Nat) : Int)) := by
  obtain ⟨b, o, h1, h2, h3⟩ := h.cell (j := j) (by rw [ints_len]; exact hj)
  rw [ints_getD] at h3
  exact ⟨b, o, h1, h2, h3⟩
theorem take_snoc (l : List Nat) (k : Nat) (h : k < l.length) : l.take (k + 1) = l.take k ++ [l.getD k 0] := by
  rw [List.take_succ_eq_append_getElem h, List.getD_eq_getElem?_getD, List.getElem?_eq_getElem h]; rfl
theorem share_is {t : Int} {ws : List Nat} {L : List Int} {c : Int} (hr : shareR t ws = (L, c)) (p : Option Addr) (cap : Nat) (w : World) (hN : Nums w .u32 p (ints ws)) (hw : ∀ x ∈ ws, x ≤ 4294967295) :
    Calls Try.prog 28 #[iv t, .slice p ws.length cap] w fun e w' => ∃ q cap', e = .returned (.tuple #[.slice q L.length cap', iv c]) ∧ L.length ≤ cap' ∧ Nums w' .i64 q L ∧ Below w.heap.size w w' := by
  have := share_any t ws p cap w hN hw
  unfold ShareP at this
  rw [hr] at this
  exact this
/-- where the weights share out, the shares lie in a block of the call's own -/
theorem share_new {A : Nat} {ws : List Nat} {L : List Int} {c : Int} (hr : shareR (A : Int) ws = (L, c)) (p : Option Addr) (cap : Nat) (w : World) (hN : Nums w .u32 p (ints ws)) (hw : ∀ x ∈ ws, x ≤ 4294967295) (h64 : ¬ 64 < ws.length) (h0 : 0 < ws.sum) (hA : (A : Int) ≤ 1125899906842624) :
    Calls Try.prog 28 #[iv (A : Int), .slice p ws.length cap] w fun e w' => ∃ g cap', e = .returned (.tuple #[.slice (some ⟨g, 0, none⟩) L.length cap', iv c]) ∧ w.heap.size ≤ g ∧ L.length ≤ cap' ∧ Nums w' .i64 (some ⟨g, 0, none⟩) L ∧ Below w.heap.size w w' := by
  refine (share_good A ws p cap w hN hw h64 (by omega) (by omega)).mono ?_
  rintro e w' ⟨hP, g, n, cc, x, he, hg⟩
  unfold ShareP at hP
  rw [hr] at hP
  obtain ⟨q, cap', he', hc, hn, hb⟩ := hP
  rw [he] at he'
  simp only [Ending.returned.injEq, Value.tuple.injEq, Array.mk.injEq, List.cons.injEq, Value.slice.injEq] at he'
  obtain ⟨⟨rfl, rfl, rfl⟩, rfl, _⟩ := he'
  exact ⟨g, cc, he, hg, hc, hn, hb⟩
end Go.Proofs.Ytpapcilffkpjjaa
