/- What lies between the rounds of JournalKeeps. -/
import Derived.Test.YtabahkeologbmaaJnRn
import Derived.Test.YtabahkeologbmaaJnRm
namespace Go.Proofs.Ytabahkeologbmaa.Jn
open Go.RowKit Go.Shelf Go.Dk Go.Jn Go.Sha Go.Proofs.Ytabahkeologbmaa.Dk

set_option maxRecDepth 100000 in
theorem fuse_gen {D L M : Nat} {d : Dk} {w : World} (h : DkAt w D L M d) (hd : d.dead = false) (n : Int) : Calls Try.prog 13 #[pD D, .int .i64 n] w fun e w' => e = .returned (.tuple #[]) ∧ w' = w.setCell ⟨D, 3, none⟩ (.int .i64 (max n (-1))) := by
  have c2 := h.c2
  rw [hd] at c2
  have c3 := h.c3
  have f3 := h.fr 3
  clear h hd
  by_cases hn : n < -1
  · have i1 : decide (n < -1) = true := decide_eq_true hn
    go_enter Try.func13, Try.ntmps13
    go_wp2
    go_end0
    exact ⟨rfl, by first | rfl | rw [show max n (-1) = -1 by omega]⟩
  · have i1 : decide (n < -1) = false := decide_eq_false hn
    go_enter Try.func13, Try.ntmps13
    go_wp2
    go_end0
    exact ⟨rfl, by first | rfl | rw [show max n (-1) = n by omega]⟩
/-- many more -/
theorem want_cat {w : World} {base : Nat} {F : Nat → Prop} {v y : Value} {rs fl : List By} (h : BsW w base F v rs) (hb : base ≤ w.heap.size) (hF : ∀ x, F x → x < base) (hy : BsW w base F y fl) (hn : rs.length ≤ 100000) (hn2 : fl.length ≤ 100000) (t : TypeId) :
    ∃ v' w', (Builtin.append_ #[28, 28] t #[v, y]).run Try.prog w = .ok v' w' ∧ BsW w' base F v' (rs ++ fl) ∧ Frq (fun k => v.ownBlock = some k) w w' ∧ (v'.ownBlock = v.ownBlock ∨ v'.ownBlock = some w.heap.size) := by
  obtain ⟨ys, h1, h2⟩ := h
  obtain ⟨zs, g1, g2⟩ := hy
  obtain ⟨v', w', hr, ho, hg, hn'⟩ := run_appF w 28 t 40 (.slice none 0 0) 1 24 par_bytes Try.underlying28 rfl (by decide) (by decide) base v rs.length ys h1 y (· < w.heap.size) fl.length zs
    (row_own g1 (fun b e => (own_lt g1 e).2)) (by rw [g1.1]) (fun u hu => by
      obtain ⟨i, hi⟩ := List.mem_iff_getElem?.1 hu
      have hil : i < fl.length := by have := (List.getElem?_eq_some_iff.1 hi).1; have := g1.1; omega
      obtain ⟨z, hz, p, c, rfl, _⟩ := g2 i _ (List.getElem?_eq_getElem hil)
      rw [hi] at hz
      obtain rfl := Option.some.inj hz
      rfl) (by omega) hb
  have hfr : Frq (fun k => v.ownBlock = some k) w w' := (Frq.refl _ w).grown hg (fun k e => .inl e)
  have hFk : ∀ x, F x → w'.heap[x]? = w.heap[x]? := fun x hx => hfr.block x (Nat.lt_of_lt_of_le (hF x hx) hb) (fun e => by have := (own_lt h1 e).1; have := hF x hx; omega)
  refine ⟨v', w', hr, ⟨ys ++ zs, by rw [List.length_append]; exact ho, fun i r' hr' => ?_⟩, hfr, hn'⟩
  have hl := h1.1
  rw [Nat.mul_one] at hl
  by_cases hi : i < rs.length
  · rw [List.getElem?_append_left hi] at hr'
    obtain ⟨z, hz, hoz⟩ := h2 i r' hr'
    exact ⟨z, by rw [List.getElem?_append_left (by omega)]; exact hz, hoz.kept (fun x hx => ⟨hx, hFk x hx⟩)⟩
  · rw [List.getElem?_append_right (by omega)] at hr'
    obtain ⟨z, hz, hoz⟩ := g2 _ r' hr'
    exact ⟨z, by rw [List.getElem?_append_right (by omega), hl]; exact hz, hoz.kept (fun x hx => ⟨hx, hFk x hx⟩)⟩
/-- a row that a row's append leaves -/
theorem BsW.other {w w' : World} {base : Nat} {F : Nat → Prop} {v v2 : Value} {rs rs2 : List By} (h : BsW w base F v rs) (hne : ∀ k, v.ownBlock = some k → v2.ownBlock ≠ some k) (hf : Frq (fun k => v2.ownBlock = some k) w w') (hF : ∀ x, F x → x < base) (hb : base ≤ w.heap.size) (h2 : BsW w base F v2 rs2) : BsW w' base F v rs := by
  obtain ⟨ys, g1, _⟩ := h2
  exact h.keep (fun g cs e hg => (hf.block g (lt_of_heap hg) (hne g e)).trans hg) (fun x hx => hf.block x (Nat.lt_of_lt_of_le (hF x hx) hb) (fun e => by have := (own_lt g1 e).1; have := hF x hx; omega))
theorem JnAt.to {w w' : World} {J D base : Nat} {v : Value} {rs : List By} {num : Nat} {dead : Bool} (hj : JnAt w J D base v rs num dead) (hb : Below w.heap.size w w') : JnAt w' J D base v rs num dead :=
  ⟨(hb.block _ (lt_of_heap hj.hj)).trans hj.hj, own_keep hj.row (fun g cs _ hg => (hb.block _ (lt_of_heap hg)).trans hg)⟩
theorem same_rows {rs : List By} {w : World} {a b : Nat} {F : Nat → Prop} {v u : Value} (hv : BsO w a v rs) (ha : a ≤ w.heap.size) (hu : BsW w b F u rs) (hF : ∀ x, F x → x < w.heap.size) (hl : rs.length ≤ 1000000) :
    Calls Try.prog 11 #[v, u] w fun e w' => e = .returned (.bool true) ∧ Below w.heap.size w w' := by
  have := same_any rs rs v u w (hv.row ha) (hu.row hF) hl hl
  rw [show decide (rs = rs) = true from decide_eq_true rfl] at this
  exact this
/-- what is held of the parts -/
structure KpB (w : World) (D L M b2 : Nat) : Prop where
  d : w.heap.size ≤ D ∧ w.heap.size ≤ L ∧ w.heap.size ≤ M
  b : w.heap.size ≤ b2
/-- between two rounds -/
structure KpI (w : World) (D L M b2 n : Nat) (rs : List By) (u : Value) (W : World) : Prop where
  ex : ∃ la, DkAt W D L M (mkD n la) ∧ Hold (mkD n la) rs
  want : BsW W b2 (· < w.heap.size) u rs
  b : Below w.heap.size w W
  s : b2 ≤ W.heap.size
/-- only reading, and new blocks -/
theorem KpI.to {w : World} {D L M b2 n : Nat} {rs : List By} {u : Value} {W W' : World} (h : KpI w D L M b2 n rs u W) (hb : Below W.heap.size W W') : KpI w D L M b2 n rs u W' := by
  obtain ⟨la, hd, hh⟩ := h.ex
  exact ⟨⟨la, hd.below hb hd.ltD hd.ltL hd.ltM, hh⟩, h.want.keep (fun g cs _ hg => (hb.block _ (lt_of_heap hg)).trans hg) (fun x hx => hb.block x (Nat.lt_of_lt_of_le hx h.b.size)), h.b.trans (hb.mono h.b.size), Nat.le_trans h.s hb.size⟩
/-- within a round, before an Add -/
structure KpJ (w : World) (D L M J b1 b2 n : Nat) (rs : List By) (u : Value) (W : World) : Prop where
  ex : ∃ d v, DkAt W D L M d ∧ Hold d rs ∧ d.dead = false ∧ d.n = n ∧ JnAt W J D b1 v rs rs.length false
  want : BsW W b2 (· < w.heap.size) u rs
  b : Below w.heap.size w W
  s : b1 ≤ W.heap.size ∧ b2 ≤ W.heap.size
theorem KpJ.to {w : World} {D L M J b1 b2 n : Nat} {rs : List By} {u : Value} {W W' : World} (h : KpJ w D L M J b1 b2 n rs u W) (hb : Below W.heap.size W W') : KpJ w D L M J b1 b2 n rs u W' := by
  obtain ⟨d, v, hd, hh, h1, h2, hj⟩ := h.ex
  exact ⟨⟨d, v, hd.below hb hd.ltD hd.ltL hd.ltM, hh, h1, h2, (hb.block _ (lt_of_heap hj.hj)).trans hj.hj, own_keep hj.row (fun g cs _ hg => (hb.block _ (lt_of_heap hg)).trans hg)⟩, h.want.keep (fun g cs _ hg => (hb.block _ (lt_of_heap hg)).trans hg) (fun x hx => hb.block x (Nat.lt_of_lt_of_le hx h.b.size)), h.b.trans (hb.mono h.b.size), Nat.le_trans h.s.1 hb.size, Nat.le_trans h.s.2 hb.size⟩
/-- one more is wanted -/
theorem kp_grow {w : World} {D L M J b1 b2 n : Nat} {rs rs' : List By} {u u' v : Value} {d : Dk} {W W' : World} (hd : DkAt W D L M d) (hh : Hold d rs') (hdd : d.dead = false) (hdn : d.n = n) (hj : JnAt W J D b1 v rs' rs'.length false) (hw : BsW W b2 (· < w.heap.size) u rs) (hb : Below w.heap.size w W) (q : KpB w D L M b2) (hs : b1 ≤ W.heap.size ∧ b2 ≤ W.heap.size)
    (hw' : BsW W' b2 (· < w.heap.size) u' rs') (hf : Frq (fun k => u.ownBlock = some k) W W') : KpJ w D L M J b1 b2 n rs' u' W' := by
  obtain ⟨ys, hy, _⟩ := hw
  have hne : ∀ k, AdG D L M J v k → u.ownBlock ≠ some k := fun k ha e => by
    obtain ⟨cs, hcs⟩ := own_cells hy e
    exact adG_not hj hd hcs ha
  exact ⟨⟨d, v, hd.kept (hf.block D hd.ltD (hne D (.inl (.inl rfl)))) (hf.block L hd.ltL (hne L (.inl (.inr (.inl rfl))))) (hf.block M hd.ltM (hne M (.inl (.inr (.inr rfl))))), hh, hdd, hdn, ⟨(hf.block J (lt_of_heap hj.hj) (hne J (.inr (.inl rfl)))).trans hj.hj, own_keep hj.row (fun g cs e hg => (hf.block g (lt_of_heap hg) (hne g (.inr (.inr e.symm)))).trans hg)⟩⟩, hw', hb.trans (hf.below hb.size (fun k e => Nat.le_trans q.b (own_lt hy e).1)), Nat.le_trans hs.1 hf.size, Nat.le_trans hs.2 hf.size⟩
/-- behind the Adds: what a restart may leave -/
structure KpE (w : World) (D L M b2 n : Nat) (rs fl : List By) (u uf : Value) (W : World) : Prop where
  ex : ∃ d, DkAt W D L M d ∧ d.n = n ∧ ∀ fs, Hold (d.rst fs) rs ∨ (fl ≠ [] ∧ Hold (d.rst fs) (rs ++ fl))
  want : BsW W b2 (· < w.heap.size) u rs
  wantf : BsW W b2 (· < w.heap.size) uf fl
  ln : fl.length ≤ 1
  num : rs.length ≤ 70000 ∧ (dat rs).length ≤ 262144
  b : Below w.heap.size w W
  s : b2 ≤ W.heap.size
/-- behind the Add that failed -/
structure KpD (w : World) (D L M J b1 b2 n : Nat) (rs : List By) (r : By) (u uf : Value) (W : World) : Prop where
  ex : ∃ d v, DkAt W D L M d ∧ d.n = n ∧ d.dead = true ∧ (∀ fs, Hold (d.rst fs) rs ∨ Hold (d.rst fs) (rs ++ [r])) ∧ JnAt W J D b1 v rs rs.length true
  want : BsW W b2 (· < w.heap.size) u rs
  wantf : BsW W b2 (· < w.heap.size) uf [r]
  fit : (dat rs).length + 4 ≤ 64 * (n - 2) ∧ 4 ≤ n
  num : rs.length ≤ 70000 ∧ (dat rs).length ≤ 262144
  b : Below w.heap.size w W
  s : b2 ≤ W.heap.size
theorem KpD.to {w : World} {D L M J b1 b2 n : Nat} {rs : List By} {r : By} {u uf : Value} {W W' : World} (h : KpD w D L M J b1 b2 n rs r u uf W) (hb : Below W.heap.size W W') : KpD w D L M J b1 b2 n rs r u uf W' := by
  obtain ⟨d, v, hd, h1, h2, h3, hj⟩ := h.ex
  have hk : ∀ {v : Value} {l : List By}, BsW W b2 (· < w.heap.size) v l → BsW W' b2 (· < w.heap.size) v l := fun hw => hw.keep (fun g cs _ hg => (hb.block _ (lt_of_heap hg)).trans hg) (fun x hx => hb.block x (Nat.lt_of_lt_of_le hx h.b.size))
  exact ⟨⟨d, v, hd.below hb hd.ltD hd.ltL hd.ltM, h1, h2, h3, (hb.block _ (lt_of_heap hj.hj)).trans hj.hj, own_keep hj.row (fun g cs _ hg => (hb.block _ (lt_of_heap hg)).trans hg)⟩, hk h.want, hk h.wantf, h.fit, h.num, h.b.trans (hb.mono h.b.size), Nat.le_trans h.s hb.size⟩
theorem KpD.end_ {w : World} {D L M J b1 b2 n : Nat} {rs : List By} {r : By} {u uf : Value} {W : World} (h : KpD w D L M J b1 b2 n rs r u uf W) : KpE w D L M b2 n rs [r] u uf W := by
  obtain ⟨d, v, hd, h1, h2, h3, hj⟩ := h.ex
  exact ⟨⟨d, hd, h1, fun fs => (h3 fs).imp id (fun q => ⟨by simp, q⟩)⟩, h.want, h.wantf, Nat.le_refl _, h.num, h.b, h.s⟩
theorem bsW_ne {w : World} {D L M b2 : Nat} {F : Nat → Prop} {d : Dk} {u : Value} {rs : List By} (hd : DkAt w D L M d) (hw : BsW w b2 F u rs) : ∀ k, u.ownBlock = some k → ¬ (k = D ∨ k = L ∨ k = M) := by
  obtain ⟨ys, hy, _⟩ := hw
  intro k e
  obtain ⟨cs, hg⟩ := own_cells hy e
  rintro (e | e | e)
  · subst e; rw [hd.hd] at hg; simp only [Option.some.injEq, Obj.cells.injEq] at hg; exact absurd hg.2.1 (by decide)
  · subst e; rw [hd.hl] at hg; simp only [Option.some.injEq, Obj.cells.injEq] at hg; exact absurd hg.2.1 (by decide)
  · subst e; obtain ⟨es, c, hm⟩ := hd.hm.obj; rw [hm] at hg; cases hg
/-- a change of the disk's own blocks -/
theorem BsW.disk {w : World} {D L M b2 : Nat} {W W' : World} {d : Dk} {u : Value} {rs : List By} (h : BsW W b2 (· < w.heap.size) u rs) (hd : DkAt W D L M d) (q : KpB w D L M b2) (hb : Below w.heap.size w W) (hf : Frq (fun k => k = D ∨ k = L ∨ k = M) W W') : BsW W' b2 (· < w.heap.size) u rs :=
  h.keep (fun g cs e hg => (hf.block g (lt_of_heap hg) (bsW_ne hd h g e)).trans hg) (fun x hx => hf.block x (Nat.lt_of_lt_of_le hx hb.size) (fun e => by have := q.d; omega))
theorem KpE.kill {w : World} {D L M b2 n : Nat} {rs fl : List By} {u uf : Value} {W : World} (h : KpE w D L M b2 n rs fl u uf W) (q : KpB w D L M b2) :
    ∃ d, DkAt (W.setCell ⟨D, 2, none⟩ (.bool true)) D L M d ∧ d.dead = true ∧ KpE w D L M b2 n rs fl u uf (W.setCell ⟨D, 2, none⟩ (.bool true)) := by
  obtain ⟨d, hd, hn, hfs⟩ := h.ex
  have hf : Frq (fun k => k = D ∨ k = L ∨ k = M) W (W.setCell ⟨D, 2, none⟩ (.bool true)) := Frq.setCell (p := ⟨D, 2, none⟩) (Frq.refl _ _) (Or.inl (Or.inl rfl)) _
  exact ⟨_, hd.setDead true, rfl, ⟨_, hd.setDead true, hn, hfs⟩, h.want.disk hd q h.b hf, h.wantf.disk hd q h.b hf, h.ln, h.num, h.b.trans (hf.below h.b.size (fun k e => by have := q.d; omega)), Nat.le_trans h.s hf.size⟩
theorem KpE.to {w : World} {D L M b2 n : Nat} {rs fl : List By} {u uf : Value} {W W' : World} (h : KpE w D L M b2 n rs fl u uf W) (hb : Below W.heap.size W W') : KpE w D L M b2 n rs fl u uf W' := by
  obtain ⟨d, hd, hn, hfs⟩ := h.ex
  have hk : ∀ {v : Value} {l : List By}, BsW W b2 (· < w.heap.size) v l → BsW W' b2 (· < w.heap.size) v l := fun hw => hw.keep (fun g cs _ hg => (hb.block _ (lt_of_heap hg)).trans hg) (fun x hx => hb.block x (Nat.lt_of_lt_of_le hx h.b.size))
  exact ⟨⟨d, hd.below hb hd.ltD hd.ltL hd.ltM, hn, hfs⟩, hk h.want, hk h.wantf, h.ln, h.num, h.b.trans (hb.mono h.b.size), Nat.le_trans h.s hb.size⟩
theorem BsW.to {w w' : World} {base : Nat} {F : Nat → Prop} {v : Value} {rs : List By} (h : BsW w base F v rs) (hF : ∀ x, F x → x < w.heap.size) (hb : Below w.heap.size w w') : BsW w' base F v rs :=
  h.keep (fun g cs _ hg => (hb.block _ (lt_of_heap hg)).trans hg) (fun x hx => hb.block x (hF x hx))
/-- behind a restart -/
structure KpF (w : World) (D L M b2 n : Nat) (rs fl rs2 : List By) (u uf : Value) (W : World) : Prop where
  ex : ∃ la, DkAt W D L M (mkD n la) ∧ Hold (mkD n la) rs2
  want : BsW W b2 (· < w.heap.size) u rs
  wantf : BsW W b2 (· < w.heap.size) uf fl
  ln : fl.length ≤ 1
  num : rs.length ≤ 70000 ∧ (dat rs).length ≤ 262144
  b : Below w.heap.size w W
  s : b2 ≤ W.heap.size
theorem KpF.to {w : World} {D L M b2 n : Nat} {rs fl rs2 : List By} {u uf : Value} {W W' : World} (h : KpF w D L M b2 n rs fl rs2 u uf W) (hb : Below W.heap.size W W') : KpF w D L M b2 n rs fl rs2 u uf W' := by
  obtain ⟨la, hd, hh⟩ := h.ex
  have hk : ∀ {v : Value} {l : List By}, BsW W b2 (· < w.heap.size) v l → BsW W' b2 (· < w.heap.size) v l := fun hw => hw.keep (fun g cs _ hg => (hb.block _ (lt_of_heap hg)).trans hg) (fun x hx => hb.block x (Nat.lt_of_lt_of_le hx h.b.size))
  exact ⟨⟨la, hd.below hb hd.ltD hd.ltL hd.ltM, hh⟩, hk h.want, hk h.wantf, h.ln, h.num, h.b.trans (hb.mono h.b.size), Nat.le_trans h.s hb.size⟩
/-- what was held and what was under way, in one -/
theorem KpF.more {w : World} {D L M b2 n : Nat} {rs fl rs2 : List By} {u uf : Value} {W : World} (h : KpF w D L M b2 n rs fl rs2 u uf W) (q : KpB w D L M b2) (t : TypeId) :
    ∃ v1 W2 v2 W3, (Builtin.append_ #[28, 28] t #[.slice (some ⟨W.heap.size, 0, none⟩) 0 0, u]).run Try.prog (W.alloc (.cells #[] 40)) = .ok v1 W2 ∧ (Builtin.append_ #[28, 28] t #[v1, uf]).run Try.prog W2 = .ok v2 W3 ∧
      BsW W3 b2 (· < w.heap.size) v2 (rs ++ fl) ∧ Below W.heap.size W W3 ∧ ∃ p c, v1 = .slice p rs.length c := by
  have hb1 : Below W.heap.size W (W.alloc (.cells #[] 40)) := (Below.refl _ _).alloc (Nat.le_refl _) _
  have h1 := h.to hb1
  have hs1 : (W.alloc (.cells #[] 40)).heap.size = W.heap.size + 1 := by simp
  have hF : ∀ x, x < w.heap.size → x < b2 := fun x hx => Nat.lt_of_lt_of_le hx q.b
  have e0 : BsW (W.alloc (.cells #[] 40)) b2 (· < w.heap.size) (.slice (some ⟨W.heap.size, 0, none⟩) 0 0) [] :=
    ⟨[], World.ownsRow_made (base := b2) (e := 40) (size := 1) W #[] 0 h.s (by decide) rfl, fun i r hr => by simp at hr⟩
  have hn := h.num
  have hl := h.ln
  obtain ⟨v1, W2, hr1, hw1, hf1, ho1⟩ := want_cat e0 h1.s hF h1.want (by simp) (by omega) t
  rw [List.nil_append] at hw1
  have hb2 : Below W.heap.size W W2 := hb1.trans (hf1.below (by omega) (fun k e => by simp [Value.ownBlock] at e; omega))
  have h2 := h.to hb2
  obtain ⟨v2, W3, hr2, hw2, hf2, _⟩ := want_cat hw1 h2.s hF h2.wantf (by omega) (by omega) t
  refine ⟨v1, W2, v2, W3, hr1, hr2, hw2, hb2.trans (hf2.below hb2.size (fun k e => ?_)), hw1.len⟩
  rcases ho1 with ho | ho
  · rw [ho] at e; simp [Value.ownBlock] at e; omega
  · rw [ho] at e; have := Option.some.inj e; omega
def RsG (w : World) (D L M b2 n : Nat) (rs fl : List By) (u uf : Value) (e : Ending) (W' : World) : Prop := e = .returned (.tuple #[]) ∧ ∃ rs2, (rs2 = rs ∨ (fl ≠ [] ∧ rs2 = rs ++ fl)) ∧ KpF w D L M b2 n rs fl rs2 u uf W'
theorem KpE.restart {w : World} {D L M b2 n : Nat} {rs fl : List By} {u uf : Value} {W : World} (h : KpE w D L M b2 n rs fl u uf W) (q : KpB w D L M b2) (fs : List Int) (v : Value) (hv : FtsF w (· < w.heap.size) v fs) (hl : fs.length ≤ 1000000) :
    Calls Try.prog 18 #[pD D, v] W (RsG w D L M b2 n rs fl u uf) := by
  obtain ⟨d, hd, hn, hfs⟩ := h.ex
  refine (restart_any hd fs v (· < w.heap.size) hl (hv.kept (fun x hx => ⟨hx, h.b.block x hx⟩)) (fun x hx => ⟨Nat.lt_of_lt_of_le hx h.b.size, by have := q.d; omega⟩)).mono ?_
  rintro e W' ⟨rfl, hd', hf⟩
  have e1 : d.rst fs = mkD n (rstL fs d.la d.wt) := by rw [← hn]; rfl
  rw [e1] at hd'
  have hq := hfs fs
  rw [e1] at hq
  have hB : Below w.heap.size w W' := h.b.trans (hf.below h.b.size (fun k e => by have := q.d; omega))
  rcases hq with hq | ⟨h0, hq⟩
  · exact ⟨rfl, rs, .inl rfl, ⟨_, hd', hq⟩, h.want.disk hd q h.b hf, h.wantf.disk hd q h.b hf, h.ln, h.num, hB, Nat.le_trans h.s hf.size⟩
  · exact ⟨rfl, _, .inr ⟨h0, rfl⟩, ⟨_, hd', hq⟩, h.want.disk hd q h.b hf, h.wantf.disk hd q h.b hf, h.ln, h.num, hB, Nat.le_trans h.s hf.size⟩
end Go.Proofs.Ytabahkeologbmaa.Jn
