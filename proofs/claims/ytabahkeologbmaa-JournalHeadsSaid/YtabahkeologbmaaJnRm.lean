/- A list of records that is wanted; what an Add leaves of it. -/
import Derived.Test.YtabahkeologbmaaJnSe
import Derived.Test.YtabahkeologbmaaJnSm
namespace Go.Proofs.Ytabahkeologbmaa.Jn
open Go.RowKit Go.Shelf Go.Dk Go.Jn Go.Sha Go.Proofs.Ytabahkeologbmaa.Dk

/-- a row of one's own of bytes that lie in blocks that meet F -/
def BsW (w : World) (base : Nat) (F : Nat → Prop) (v : Value) (rs : List By) : Prop := ∃ ys : List Value, w.ownsRow base 40 1 v rs.length ys ∧ ∀ (i : Nat) r, rs[i]? = some r → ∃ y, ys[i]? = some y ∧ BysF w F y r
theorem bsW_nil (w : World) (base : Nat) (F : Nat → Prop) : BsW w base F (.slice none 0 0) [] := ⟨[], ⟨rfl, Or.inl ⟨rfl, rfl⟩⟩, fun i r h => by simp at h⟩
theorem BsW.len {w : World} {base : Nat} {F : Nat → Prop} {v : Value} {rs : List By} (h : BsW w base F v rs) : ∃ p cap, v = .slice p rs.length cap := by obtain ⟨ys, h1, _⟩ := h; exact own_slice h1
theorem BsW.keep {w w' : World} {base : Nat} {F : Nat → Prop} {v : Value} {rs : List By} (h : BsW w base F v rs) (hk : ∀ g cs, v.ownBlock = some g → w.heap[g]? = some (.cells cs 40 (0, 0)) → w'.heap[g]? = some (.cells cs 40 (0, 0))) (hF : ∀ x, F x → w'.heap[x]? = w.heap[x]?) : BsW w' base F v rs := by
  obtain ⟨ys, h1, h2⟩ := h
  refine ⟨ys, own_keep h1 hk, fun i r hr => ?_⟩
  obtain ⟨y, hy, ho⟩ := h2 i r hr
  exact ⟨y, hy, ho.kept (fun x hx => ⟨hx, hF x hx⟩)⟩
theorem BsW.row {w : World} {base : Nat} {F : Nat → Prop} {v : Value} {rs : List By} (h : BsW w base F v rs) (hF : ∀ x, F x → x < w.heap.size) : BsF w (· < w.heap.size) v rs := by
  obtain ⟨ys, h1, h2⟩ := h
  obtain ⟨p, cap, rfl, _, hp⟩ := row_own (F := (· < w.heap.size)) h1 (fun b e => (own_lt h1 e).2)
  refine ⟨p, cap, rfl, fun h0 => ?_⟩
  obtain ⟨b, o, e1, e2, e3⟩ := hp h0
  refine ⟨b, o, e1, e2, fun i r hr => ?_⟩
  obtain ⟨y, hy, ho⟩ := h2 i r hr
  exact ⟨y, e3 i y hy, ho.kept (fun x hx => ⟨hF x hx, rfl⟩)⟩
/-- one more -/
theorem want_app {w : World} {base : Nat} {F : Nat → Prop} {v y : Value} {rs : List By} {r : By} (h : BsW w base F v rs) (hb : base ≤ w.heap.size) (hF : ∀ x, F x → x < base) (hy : BysF w F y r) (hn : rs.length ≤ 100000) :
    ∃ v' w', (Builtin.append_ #[28, 28] 28 #[v, .slice (some ⟨w.heap.size, 0, none⟩) 1 1]).run Try.prog (w.alloc (.cells #[y] 40)) = .ok v' w' ∧ BsW w' base F v' (rs ++ [r]) ∧ Frq (fun k => v.ownBlock = some k) w w' := by
  obtain ⟨ys, h1, h2⟩ := h
  have hbl : Below w.heap.size w (w.alloc (.cells #[y] 40)) := (Below.refl _ _).alloc (Nat.le_refl _) _
  have hown := own_keep h1 (w' := w.alloc (.cells #[y] 40)) (fun g cs _ hg => (hbl.block g (lt_of_heap hg)).trans hg)
  obtain ⟨v', w', hr, ho, hg, hn'⟩ := run_appF (w.alloc (.cells #[y] 40)) 28 28 40 (.slice none 0 0) 1 24 par_bytes Try.underlying28 rfl (by decide) (by decide) base v rs.length ys hown (.slice (some ⟨w.heap.size, 0, none⟩) 1 1) (fun _ => True) 1 [y]
    ⟨_, _, rfl, Nat.le_refl _, fun _ => ⟨w.heap.size, 0, rfl, trivial, fun j u hu => by
      rw [Nat.zero_add, cell_of_arr (heap_last w _ _ rfl)]
      simpa using hu⟩⟩ rfl (fun u hu => by
        obtain rfl := List.mem_singleton.1 hu
        obtain ⟨p, c, rfl, _⟩ := hy
        rfl) (by omega) (by simp; omega)
  have hfr : Frq (fun k => v.ownBlock = some k) w w' := (Frq.ofBelow hbl).grown hg (fun k e => .inl e)
  have hFk : ∀ x, F x → w'.heap[x]? = w.heap[x]? := fun x hx => hfr.block x (Nat.lt_of_lt_of_le (hF x hx) hb) (fun e => by have := (own_lt h1 e).1; have := hF x hx; omega)
  refine ⟨v', w', hr, ⟨ys ++ [y], by rw [List.length_append]; exact ho, fun i r' hr' => ?_⟩, hfr⟩
  have hl := h1.1
  rw [Nat.mul_one] at hl
  by_cases hi : i < rs.length
  · rw [List.getElem?_append_left hi] at hr'
    obtain ⟨z, hz, hoz⟩ := h2 i r' hr'
    exact ⟨z, by rw [List.getElem?_append_left (by omega)]; exact hz, hoz.kept (fun x hx => ⟨hx, hFk x hx⟩)⟩
  · have e1 : i = rs.length := by
      have := (List.getElem?_eq_some_iff.1 hr').1
      rw [List.length_append, List.length_singleton] at this; omega
    subst e1
    rw [List.getElem?_append_right (Nat.le_refl _), Nat.sub_self] at hr'
    obtain rfl : r = r' := by simpa using hr'
    exact ⟨y, by rw [List.getElem?_append_right (by omega), hl, Nat.sub_self]; rfl, hy.kept (fun x hx => ⟨hx, hFk x hx⟩)⟩
/-- what an Add changes is no row of slices -/
theorem adG_not {w : World} {D L M J base : Nat} {v : Value} {rs : List By} {num : Nat} {dead : Bool} {d : Dk} (hj : JnAt w J D base v rs num dead) (h : DkAt w D L M d) {g : Nat} {cs : Array Value} (hg : w.heap[g]? = some (.cells cs 40 (0, 0))) : ¬ AdG D L M J v g := by
  rintro ((e | e | e) | e | e)
  · subst e; rw [h.hd] at hg; simp only [Option.some.injEq, Obj.cells.injEq] at hg; exact absurd hg.2.1 (by decide)
  · subst e; rw [h.hl] at hg; simp only [Option.some.injEq, Obj.cells.injEq] at hg; exact absurd hg.2.1 (by decide)
  · subst e; obtain ⟨es, c, hm⟩ := h.hm.obj; rw [hm] at hg; cases hg
  · subst e; rw [hj.hj] at hg; simp only [Option.some.injEq, Obj.cells.injEq] at hg; exact absurd hg.2.1 (by decide)
  · obtain ⟨cs2, hcs⟩ := own_cells hj.row e.symm
    rw [hcs] at hg; simp only [Option.some.injEq, Obj.cells.injEq] at hg; exact absurd hg.2.1 (by decide)
end Go.Proofs.Ytabahkeologbmaa.Jn
