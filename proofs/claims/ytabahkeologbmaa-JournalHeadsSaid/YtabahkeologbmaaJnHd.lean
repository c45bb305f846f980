/- What lies between the rounds of JournalHeads. -/
import Derived.Test.YtabahkeologbmaaJnHx
import Derived.Test.YtabahkeologbmaaJnDh
import Derived.Test.YtabahkeologbmaaJnRm
namespace Go.Proofs.Ytabahkeologbmaa.Jn
open Go.RowKit Go.Shelf Go.Dk Go.Jn Go.Sha Go.Proofs.Ytabahkeologbmaa.Dk

/-- what is held of the parts -/
structure HdB (w : World) (D L M J b1 b2 : Nat) : Prop where
  d : w.heap.size ≤ D ∧ w.heap.size ≤ L ∧ w.heap.size ≤ M ∧ w.heap.size ≤ J
  b : w.heap.size ≤ b1 ∧ b1 ≤ b2 ∧ D < b1 ∧ L < b1 ∧ M < b1 ∧ J < b2
/-- between two rounds: u is a row of the statement's own, apart from what an Add may change -/
structure HdI (w : World) (D L M J b1 b2 n : Nat) (rs : List By) (u : Value) (W : World) : Prop where
  ex : ∃ la v, DkAt W D L M (mkD n la) ∧ Hold (mkD n la) rs ∧ Exact n la rs ∧ JnAt W J D b1 v rs rs.length false ∧ ∀ k, u.ownBlock = some k → v.ownBlock ≠ some k
  data : OwnB W b2 u (dat rs)
  b : Below w.heap.size w W
  s : b1 ≤ W.heap.size ∧ b2 ≤ W.heap.size
theorem HdI.to {w : World} {D L M J b1 b2 n : Nat} {rs : List By} {u : Value} {W W' : World} (h : HdI w D L M J b1 b2 n rs u W) (hb : Below W.heap.size W W') : HdI w D L M J b1 b2 n rs u W' := by
  obtain ⟨la, v, hd, hh, hx, hj, hne⟩ := h.ex
  exact ⟨⟨la, v, hd.below hb hd.ltD hd.ltL hd.ltM, hh, hx, ⟨(hb.block _ (lt_of_heap hj.hj)).trans hj.hj, own_keep hj.row (fun g cs _ hg => (hb.block _ (lt_of_heap hg)).trans hg)⟩, hne⟩, own_keep h.data (fun g cs _ hg => (hb.block _ (lt_of_heap hg)).trans hg), h.b.trans (hb.mono h.b.size), Nat.le_trans h.s.1 hb.size, Nat.le_trans h.s.2 hb.size⟩
/-- a row of one's own that no Add touches -/
theorem own_apart {W : World} {D L M J b1 b2 : Nat} {w : World} {u v : Value} {l : By} (q : HdB w D L M J b1 b2) (h : OwnB W b2 u l) (hne : ∀ k, u.ownBlock = some k → v.ownBlock ≠ some k) : ∀ k, u.ownBlock = some k → ¬ AdG D L M J v k := by
  intro k e hk
  have := (own_lt h e).1
  have qb := q.b
  rcases hk with h | h | h
  · omega
  · omega
  · exact hne k e h.symm
/-- behind an Add: the row as it was, the journal one further -/
structure HdA (w : World) (D L M J b1 b2 n : Nat) (rs : List By) (r : By) (u : Value) (W : World) : Prop where
  ex : ∃ la v, DkAt W D L M (mkD n la) ∧ Hold (mkD n la) (rs ++ [r]) ∧ Exact n la (rs ++ [r]) ∧ JnAt W J D b1 v (rs ++ [r]) (rs ++ [r]).length false ∧ ∀ k, u.ownBlock = some k → v.ownBlock ≠ some k
  data : OwnB W b2 u (dat rs)
  b : Below w.heap.size w W
  s : b1 ≤ W.heap.size ∧ b2 ≤ W.heap.size
theorem HdI.add {w : World} {D L M J b1 b2 n : Nat} {rs : List By} {u : Value} {W : World} (h : HdI w D L M J b1 b2 n rs u W) (q : HdB w D L M J b1 b2) (r : By) (F : Nat → Prop) {y : Value} (hy : BysF W F y r) (hF : ∀ x, F x → x < w.heap.size) (hr : r.length ≤ 400) (hf : (dat rs).length + 4 + r.length ≤ 64 * (n - 2)) :
    Calls Try.prog 15 #[pJ J, y] W fun e W' => e = .returned (.int .i64 0) ∧ HdA w D L M J b1 b2 n rs r u W' := by
  obtain ⟨la, v, hd, hh, hx, hj, hne⟩ := h.ex
  have hvb : ∀ k, some k = v.ownBlock → b1 ≤ k ∧ k < W.heap.size := fun k e => own_lt hj.row e.symm
  have hwb := h.b.size
  have qb := q.b
  refine (add_mk hj hd hh h.s.1 r F hy (fun x hx => ⟨Nat.lt_of_lt_of_le (hF x hx) hwb, fun e => by have := (hvb x e).1; have := hF x hx; omega⟩) (by omega) hf).mono ?_
  rintro e W' ⟨rfl, hd', hf', v', hj', hv'⟩
  have hap := own_apart q h.data hne
  exact ⟨rfl, ⟨_, v', hd', hold_mk hh r (by rw [dat_snoc_len]; omega), exact_next hx hh r, hj', fun k e => by
      rcases hv' with h1 | ⟨g, h1, hg⟩
      · rw [h1]; exact hne k e
      · rw [h1]; intro e2; obtain rfl := Option.some.inj e2; have := (own_lt h.data e).2; omega⟩,
    own_keep h.data (fun g cs e hg => (hf'.block g (lt_of_heap hg) (hap g e)).trans hg),
    h.b.trans (adG_below hf' hj hwb ⟨q.d.1, q.d.2.1, q.d.2.2.1⟩ q.d.2.2.2 qb.1), Nat.le_trans h.s.1 hf'.size, Nat.le_trans h.s.2 hf'.size⟩
/-- the row, one record further -/
theorem HdA.grow {w : World} {D L M J b1 b2 n : Nat} {rs : List By} {r : By} {u u' : Value} {W W' : World} (h : HdA w D L M J b1 b2 n rs r u W) (q : HdB w D L M J b1 b2) (ho : OwnB W' b2 u' (dat (rs ++ [r]))) (hf : Frq (fun k => u.ownBlock = some k) W W') (hn : u'.ownBlock = u.ownBlock ∨ ∃ g, u'.ownBlock = some g ∧ W.heap.size ≤ g) : HdI w D L M J b1 b2 n (rs ++ [r]) u' W' := by
  obtain ⟨la, v, hd, hh, hx, hj, hne⟩ := h.ex
  have hap := own_apart q h.data hne
  have hne2 : ∀ k, AdG D L M J v k → u.ownBlock ≠ some k := fun k ha e => hap k e ha
  exact ⟨⟨la, v, hd.kept (hf.block D hd.ltD (hne2 D (.inl (.inl rfl)))) (hf.block L hd.ltL (hne2 L (.inl (.inr (.inl rfl))))) (hf.block M hd.ltM (hne2 M (.inl (.inr (.inr rfl))))), hh, hx, ⟨(hf.block J (lt_of_heap hj.hj) (hne2 J (.inr (.inl rfl)))).trans hj.hj, own_keep hj.row (fun g cs e hg => (hf.block g (lt_of_heap hg) (hne2 g (.inr (.inr e.symm)))).trans hg)⟩, fun k e => by
      rcases hn with h1 | ⟨g, h1, hg⟩
      · exact hne k (h1 ▸ e)
      · rw [h1] at e; obtain rfl := Option.some.inj e; intro e2; have := (own_lt hj.row e2).2; omega⟩, ho, h.b.trans (hf.below h.b.size (fun k e => by have := (own_lt h.data e).1; have := q.b; omega)), Nat.le_trans h.s.1 hf.size, Nat.le_trans h.s.2 hf.size⟩
/-- the region's two appends: the length in four bytes, then the record -/
theorem HdA.apps {w : World} {D L M J b1 b2 n : Nat} {rs : List By} {r : By} {u : Value} {W : World} (h : HdA w D L M J b1 b2 n rs r u W) (q : HdB w D L M J b1 b2) {W2 : World} {x : Value} (hx : OwnB W2 W.heap.size x (beL 4 r.length)) (hb : Below W.heap.size W W2) (hr : r.length ≤ 400) (hl : (dat rs).length ≤ 262144) (t : TypeId)
    (F : Nat → Prop) (hF : ∀ k, F k → k < w.heap.size) {y : Value} (hy : BysF w F y r) :
    ∃ v1 W3 v2 W4, (Builtin.append_ #[40, 40] t #[u, x]).run Try.prog W2 = .ok v1 W3 ∧ (Builtin.append_ #[40, 40] t #[v1, y]).run Try.prog W3 = .ok v2 W4 ∧ HdI w D L M J b1 b2 n (rs ++ [r]) v2 W4 ∧ (∃ p c, v1 = .slice p ((dat rs).length + 4) c) ∧ (∃ p c, v2 = .slice p (dat (rs ++ [r])).length c) ∧ Below w.heap.size w W3 := by
  have qb := q.b
  have hu2 : OwnB W2 b2 u (dat rs) := own_keep h.data (fun g cs _ hg => (hb.block _ (lt_of_heap hg)).trans hg)
  obtain ⟨v1, W3, hr1, ho1, hg1, hn1⟩ := own_cat hu2 (row_own (F := fun _ => True) hx (fun _ _ => trivial)) (Nat.le_trans h.s.2 hb.size) (by rw [beL_len]; omega) t
  have f1 : Frq (fun k => u.ownBlock = some k) W W3 := (Frq.ofBelow hb).grown hg1 (fun k e => .inl e)
  have hB2 := h.b.trans (hb.mono h.b.size)
  have hB3 : Below w.heap.size w W3 := h.b.trans (f1.below h.b.size (fun k e => by have := (own_lt h.data e).1; omega))
  obtain ⟨v2, W4, hr2, ho2, hg2, hn2⟩ := own_cat ho1 (hy.kept (fun k hk => ⟨hk, hB3.block k (hF k hk)⟩)) (Nat.le_trans h.s.2 f1.size) (by rw [List.length_append, beL_len]; omega) t
  have f2 : Frq (fun k => u.ownBlock = some k) W W4 := f1.grown hg2 (fun k e => by
    rcases hn1 with h1 | h1
    · exact .inl (h1 ▸ e)
    · rw [h1] at e; obtain rfl := Option.some.inj e; exact .inr hb.size)
  have e1 : dat rs ++ beL 4 r.length ++ r = dat (rs ++ [r]) := by rw [dat_snoc, List.append_assoc]
  rw [e1] at ho2
  refine ⟨v1, W3, v2, W4, hr1, hr2, h.grow q ho2 f2 ?_, ?_, own_slice ho2, hB3⟩
  · have hs1 := hb.size
    have hs3 := f1.size
    rcases hn2 with h2 | h2
    · rcases hn1 with h1 | h1
      · exact .inl (h2.trans h1)
      · exact .inr ⟨_, h2.trans h1, hs1⟩
    · exact .inr ⟨_, h2, hs3⟩
  · obtain ⟨p, c, e⟩ := own_slice ho1
    rw [List.length_append, beL_len] at e
    exact ⟨p, c, e⟩
end Go.Proofs.Ytabahkeologbmaa.Jn
