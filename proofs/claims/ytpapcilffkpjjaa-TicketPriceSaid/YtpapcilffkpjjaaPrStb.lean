/- The plain theory of the library's stable sort: insertion in blocks, and merges by rotation, under an order in which no two are equal. -/
import Derived.Sort.LotA
namespace Go.Stb
open Go.Sort
variable {α : Type} [Inhabited α]

/-- R: the order with the places; lt: what the call of cmp tells, which is R where the later one is asked against the earlier one -/
structure Odr (R lt : α → α → Bool) (ix : α → Nat) : Prop where
  swo : SWO R
  ok : ∀ x y, ix x < ix y → lt y x = R y x

theorem insInner_perm (lt : α → α → Bool) (a b : Nat) : ∀ (j : Nat) (d : Array α), a ≤ j → j < b → b ≤ d.size → PermIn a b d (insInner lt a j d)
  | 0, d, _, _, _ => by unfold insInner; exact permIn_refl d a b
  | j + 1, d, haj, hjb, hb => by
    unfold insInner
    split
    · rename_i hc
      simp only [Bool.and_eq_true, decide_eq_true_eq] at hc
      exact permIn_trans _ _ _ a b (swp_permIn d a b (j + 1) j haj hjb (by omega) (by omega) hb) (insInner_perm lt a b j _ (by omega) (by omega) (by rw [swp_size]; exact hb))
    · exact permIn_refl d a b
theorem insInner_eq {R lt : α → α → Bool} {ix : α → Nat} (h : Odr R lt ix) (a : Nat) : ∀ (j : Nat) (d : Array α), j < d.size → (∀ p, a ≤ p → p < j → ix d[p]! < ix d[j]!) → insInner lt a j d = insInner R a j d
  | 0, d, _, _ => rfl
  | j + 1, d, hj, hx => by
    unfold insInner
    by_cases hja : j + 1 > a
    · rw [h.ok d[j]! d[j + 1]! (hx j (by omega) (by omega))]
      have ih := insInner_eq h a j (swp d (j + 1) j) (by rw [swp_size]; omega) (fun p h1 h2 => by
        rw [swp_get d hj (by omega), swp_get d hj (by omega), if_neg (by omega), if_neg (by omega), if_pos rfl]
        exact hx p h1 (by omega))
      rw [ih]
    · rw [if_neg (by simp [hja]), if_neg (by simp [hja])]
/-- whatever is told of each one of a part holds behind a permutation -/
theorem perm_mem {d d' : Array α} {a b : Nat} (h : PermIn a b d d') (hb : b ≤ d.size) {i : Nat} (h1 : a ≤ i) (h2 : i < b) : ∃ j, a ≤ j ∧ j < b ∧ d'[i]! = d[j]! :=
  permIn_all d d' a b (fun x => ∃ j, a ≤ j ∧ j < b ∧ x = d[j]!) hb h (fun i h1 h2 => ⟨i, h1, h2, rfl⟩) i h1 h2
theorem insOuter_stop' (lt : α → α → Bool) (a b i : Nat) (d : Array α) (h : ¬ i < b) : insOuter lt a b i d = d := by rw [insOuter, if_neg h]
theorem insOuter_go' (lt : α → α → Bool) (a b i : Nat) (d : Array α) (h : i < b) : insOuter lt a b i d = insOuter lt a b (i + 1) (insInner lt a i d) := by rw [insOuter, if_pos h]
theorem insOuter_eq {R lt : α → α → Bool} {ix : α → Nat} (h : Odr R lt ix) (a b : Nat) : ∀ (n i : Nat) (d : Array α), b - i = n → a < i → b ≤ d.size → (∀ p q, a ≤ p → p < q → i ≤ q → q < b → ix d[p]! < ix d[q]!) → insOuter lt a b i d = insOuter R a b i d
  | 0, i, d, hn, hai, hb, hx => by
    rw [insOuter_stop' _ _ _ _ _ (by omega), insOuter_stop' _ _ _ _ _ (by omega)]
  | n + 1, i, d, hn, hai, hb, hx => by
    have hib : i < b := by omega
    rw [insOuter_go' _ _ _ _ _ hib, insOuter_go' _ _ _ _ _ hib, insInner_eq h a i d (by omega) (fun p h1 h2 => hx p i h1 h2 (Nat.le_refl _) hib)]
    have hP := insInner_perm R a (i + 1) i d (by omega) (by omega) (by omega)
    refine insOuter_eq h a b n (i + 1) _ (by omega) (by omega) (by rw [hP.1]; exact hb) (fun p q h1 h2 h3 h4 => ?_)
    rw [hP.2.1 q (by omega)]
    by_cases hp : p < i + 1
    · obtain ⟨k, k1, k2, e⟩ := perm_mem hP (by omega) h1 hp
      rw [e]; exact hx k q k1 (by omega) (by omega) h4
    · rw [hP.2.1 p (by omega)]; exact hx p q h1 h2 (by omega) h4
/-- a row whose places ascend, behind the insertion -/
theorem ins_all {R lt : α → α → Bool} {ix : α → Nat} (h : Odr R lt ix) (a b : Nat) (d : Array α) (hab : a ≤ b) (hb : b ≤ d.size) (hx : ∀ p q, a ≤ p → p < q → q < b → ix d[p]! < ix d[q]!) :
    PermIn a b d (insertionSort lt d a b) ∧ SortedIn R a b (insertionSort lt d a b) := by
  have e : insertionSort lt d a b = insertionSort R d a b := by
    unfold insertionSort
    exact insOuter_eq h a b (b - (a + 1)) (a + 1) d rfl (by omega) hb (fun p q h1 h2 _ h4 => hx p q h1 h2 h4)
  rw [e]
  exact insertionSort_holds h.swo d a b hab hb

/-! ### Merging -/
/-- two rows side by side, each sorted, the left one's places ahead of the right one's -/
structure Two (R : α → α → Bool) (ix : α → Nat) (a m b : Nat) (d : Array α) : Prop where
  left : SortedIn R a m d
  right : SortedIn R m b d
  ix : ∀ p q, a ≤ p → p < m → m ≤ q → q < b → ix d[p]! < ix d[q]!
def Mg (R : α → α → Bool) (a b : Nat) (d d' : Array α) : Prop := PermIn a b d d' ∧ SortedIn R a b d'
/-- u and v side by side have changed places -/
structure Rot (a m b : Nat) (d d' : Array α) : Prop where
  perm : PermIn a b d d'
  one : ∀ k, k < b - m → d'[a + k]! = d[m + k]!
  two : ∀ k, k < m - a → d'[a + (b - m) + k]! = d[a + k]!
/-- nothing to rotate -/
theorem Rot.none {a m b : Nat} {d : Array α} (h : a = m ∨ m = b) (h1 : a ≤ m) (h2 : m ≤ b) : Rot a m b d d :=
  ⟨permIn_refl d a b, fun k hk => by rcases h with h | h <;> first | omega | (subst h; rfl) , fun k hk => by rcases h with h | h <;> first | omega | (subst h; rw [Nat.sub_self]; rfl)⟩

omit [Inhabited α] in
theorem swo_le {R : α → α → Bool} (h : SWO R) {x y z : α} (h1 : R y x = false) (h2 : R z y = false) : R z x = false := h.ntrans _ _ _ h2 h1
theorem SortedIn.le {R : α → α → Bool} (h : SWO R) {a b : Nat} {d : Array α} (hs : SortedIn R a b d) {i j : Nat} (h1 : a ≤ i) (h2 : i ≤ j) (h3 : j < b) : R d[j]! d[i]! = false := by
  by_cases e : i = j
  · subst e; exact h.irrefl _
  · exact hs i j h1 (by omega) h3

structure Split (R : α → α → Bool) (ix : α → Nat) (a st mid en b : Nat) (d : Array α) : Prop where
  one : a < st → st < mid → Two R ix a st mid d
  two : mid < en → en < b → Two R ix mid en b d
  one' : ¬ (a < st ∧ st < mid) → SortedIn R a mid d
  two' : ¬ (mid < en ∧ en < b) → SortedIn R mid b d
  cross : ∀ p q, a ≤ p → p < mid → mid ≤ q → q < b → R d[q]! d[p]! = false
theorem split_of {R lt : α → α → Bool} {ix : α → Nat} (hO : Odr R lt ix) {a m b mid st en : Nat} {d d1 : Array α} (h : Two R ix a m b d) (hb : b ≤ d.size) (h1 : a ≤ st) (h2 : st ≤ mid) (h3 : st ≤ m) (h4 : m ≤ en) (h5 : en ≤ b) (h6 : mid + m = st + en)
    (hlo : a < st → en < b → R d[en]! d[st - 1]! = false) (hhi : m < en → st < m → R d[en - 1]! d[st]! = true) (hr : Rot st m en d d1) : Split R ix a st mid en b d1 := by
  have hS := hO.swo
  -- where each one comes from
  have gA : ∀ k, k < st → d1[k]! = d[k]! := fun k hk => hr.perm.2.1 k (Or.inl hk)
  have gB : ∀ k, st ≤ k → k < mid → d1[k]! = d[k + m - st]! := fun k k1 k2 => by
    have := hr.one (k - st) (by omega)
    rw [show st + (k - st) = k by omega] at this
    rw [this]; congr 1; omega
  have gC : ∀ k, mid ≤ k → k < en → d1[k]! = d[k + m - en]! := fun k k1 k2 => by
    have := hr.two (k - mid) (by omega)
    rw [show st + (en - m) + (k - mid) = k by omega] at this
    rw [this]; congr 1; omega
  have gD : ∀ k, en ≤ k → d1[k]! = d[k]! := fun k hk => hr.perm.2.1 k (Or.inr hk)
  have sA : SortedIn R a st d1 := fun i j i1 i2 i3 => by rw [gA i (by omega), gA j i3]; exact h.left i j i1 i2 (by omega)
  have sB : SortedIn R st mid d1 := fun i j i1 i2 i3 => by rw [gB i i1 (by omega), gB j (by omega) i3]; exact h.right _ _ (by omega) (by omega) (by omega)
  have sC : SortedIn R mid en d1 := fun i j i1 i2 i3 => by rw [gC i i1 (by omega), gC j (by omega) i3]; exact h.left _ _ (by omega) (by omega) (by omega)
  have sD : SortedIn R en b d1 := fun i j i1 i2 i3 => by rw [gD i (by omega), gD j (by omega)]; exact h.right _ _ (by omega) (by omega) (by omega)
  refine ⟨fun x1 x2 => ⟨sA, sB, fun p q p1 p2 q1 q2 => ?_⟩, fun x1 x2 => ⟨sC, sD, fun p q p1 p2 q1 q2 => ?_⟩, fun hn => ?_, fun hn => ?_, fun p q p1 p2 q1 q2 => ?_⟩
  · rw [gA p p2, gB q q1 q2]; exact h.ix _ _ p1 (by omega) (by omega) (by omega)
  · rw [gC p p1 p2, gD q q1]; exact h.ix _ _ (by omega) (by omega) (by omega) q2
  · by_cases hx : a < st
    · obtain rfl : st = mid := by omega
      exact sA
    · obtain rfl : st = a := by omega
      exact sB
  · by_cases hx : mid < en
    · obtain rfl : en = b := by omega
      exact sC
    · intro i j i1 i2 i3
      exact sD i j (by omega) i2 i3
  · by_cases hp : p < st
    · rw [gA p hp]
      by_cases hq : q < en
      · rw [gC q q1 hq]
        exact SortedIn.le hS h.left p1 (by omega) (by omega)
      · rw [gD q (by omega)]
        refine swo_le hS (y := d[st - 1]!) (SortedIn.le hS h.left p1 (by omega) (by omega)) (swo_le hS (y := d[en]!) (hlo (by omega) (by omega)) (SortedIn.le hS h.right h4 (by omega) q2))
    · rw [gB p (by omega) p2]
      by_cases hq : q < en
      · rw [gC q q1 hq]
        have e1 : R d[st]! d[en - 1]! = false := hS.asymmA (hhi (by omega) (by omega))
        refine swo_le hS (y := d[en - 1]!) (SortedIn.le hS h.right (by omega) (by omega) (by omega)) (swo_le hS (y := d[st]!) e1 (SortedIn.le hS h.left h1 (by omega) (by omega)))
      · rw [gD q (by omega)]
        exact SortedIn.le hS h.right (by omega) (by omega) q2
/-- both halves merged: the whole -/
theorem join_of {R : α → α → Bool} {a m b mid st en : Nat} {ix : α → Nat} {d d1 d2 d3 : Array α} (hb : b ≤ d.size) (h1 : a ≤ st) (h5 : en ≤ b) (ham : a ≤ mid) (hmb : mid ≤ b) (hr : Rot st m en d d1) (hs : Split R ix a st mid en b d1)
    (hA : PermIn a mid d1 d2) (hA' : SortedIn R a mid d2) (hB : PermIn mid b d2 d3) (hB' : SortedIn R mid b d3) : Mg R a b d d3 := by
  have s1 : d1.size = d.size := hr.perm.1
  have s2 : d2.size = d.size := hA.1.trans s1
  refine ⟨permIn_trans _ _ _ a b (permIn_mono d d1 st en a b h1 h5 hb hr.perm) (permIn_trans _ _ _ a b (permIn_mono d1 d2 a mid a b (Nat.le_refl _) hmb (by omega) hA) (permIn_mono d2 d3 mid b a b ham (Nat.le_refl _) (by omega) hB)), ?_⟩
  intro i j i1 i2 i3
  by_cases hj : j < mid
  · rw [hB.2.1 i (by omega), hB.2.1 j (by omega)]; exact hA' i j i1 i2 hj
  · by_cases hi : i < mid
    · rw [hB.2.1 i (by omega)]
      obtain ⟨k, k1, k2, e⟩ := perm_mem hA (by omega) i1 hi
      obtain ⟨q, q1, q2, e'⟩ := perm_mem hB (by omega) (show mid ≤ j by omega) i3
      rw [e, e', hA.2.1 q (by omega)]
      exact hs.cross k q k1 k2 q1 q2
    · exact hB' i j (by omega) i2 i3
theorem merged_none {R : α → α → Bool} {a b : Nat} {d : Array α} (h : SortedIn R a b d) : Mg R a b d d := ⟨permIn_refl d a b, h⟩

/-! ### One against many -/
/-- the first of a row is taken to the place ahead of i -/
structure Up (a i : Nat) (d d' : Array α) : Prop where
  perm : PermIn a i d d'
  go : ∀ t, a ≤ t → t + 1 < i → d'[t]! = d[t + 1]!
  last : d'[i - 1]! = d[a]!
structure Dn (i m : Nat) (d d' : Array α) : Prop where
  perm : PermIn i (m + 1) d d'
  go : ∀ t, i < t → t ≤ m → d'[t]! = d[t - 1]!
  first : d'[i]! = d[m]!
theorem up_merged {R lt : α → α → Bool} {ix : α → Nat} (hO : Odr R lt ix) {a b i : Nat} {d d' : Array α} (h : Two R ix a (a + 1) b d) (hb : b ≤ d.size) (h1 : a < i) (h2 : i ≤ b)
    (hlo : a + 1 < i → R d[i - 1]! d[a]! = true) (hhi : i < b → R d[i]! d[a]! = false) (hu : Up a i d d') : Mg R a b d d' := by
  have hS := hO.swo
  refine ⟨permIn_mono d d' a i a b (Nat.le_refl _) h2 hb hu.perm, fun p q p1 p2 p3 => ?_⟩
  by_cases hq : q + 1 < i
  · rw [hu.go p p1 (by omega), hu.go q (by omega) hq]; exact h.right _ _ (by omega) (by omega) (by omega)
  · by_cases hq' : q + 1 = i
    · obtain rfl : q = i - 1 := by omega
      rw [hu.last, hu.go p p1 (by omega)]
      refine hS.asymmA ?_
      have e := SortedIn.le hS h.right (i := p + 1) (j := i - 1) (by omega) (by omega) (by omega)
      have e2 := hlo (by omega)
      cases e3 : R d[p + 1]! d[a]! with
      | true => rfl
      | false => rw [swo_le hS e3 e] at e2; cases e2
    · rw [hu.perm.2.1 q (by omega)]
      by_cases hp : p + 1 < i
      · rw [hu.go p p1 hp]; exact h.right _ _ (by omega) (by omega) (by omega)
      · by_cases hp' : p + 1 = i
        · obtain rfl : p = i - 1 := by omega
          rw [hu.last]
          exact swo_le hS (hhi (by omega)) (SortedIn.le hS h.right (by omega) (by omega) p3)
        · rw [hu.perm.2.1 p (by omega)]; exact h.right _ _ (by omega) (by omega) (by omega)
theorem dn_merged {R lt : α → α → Bool} {ix : α → Nat} (hO : Odr R lt ix) {a m i : Nat} {d d' : Array α} (h : Two R ix a m (m + 1) d) (hb : m + 1 ≤ d.size) (h1 : a ≤ i) (h2 : i ≤ m)
    (hlo : a < i → R d[m]! d[i - 1]! = false) (hhi : i < m → R d[m]! d[i]! = true) (hu : Dn i m d d') : Mg R a (m + 1) d d' := by
  have hS := hO.swo
  refine ⟨permIn_mono d d' i (m + 1) a (m + 1) h1 (Nat.le_refl _) hb hu.perm, fun p q p1 p2 p3 => ?_⟩
  by_cases hp : i < p
  · rw [hu.go p hp (by omega), hu.go q (by omega) (by omega)]; exact h.left _ _ (by omega) (by omega) (by omega)
  · by_cases hp' : p = i
    · subst hp'
      rw [hu.first, hu.go q (by omega) (by omega)]
      refine hS.asymmA ?_
      have e := SortedIn.le hS h.left (i := p) (j := q - 1) (by omega) (by omega) (by omega)
      have e2 := hhi (by omega)
      cases e3 : R d[m]! d[q - 1]! with
      | true => rfl
      | false => rw [swo_le hS e e3] at e2; cases e2
    · rw [hu.perm.2.1 p (by omega)]
      by_cases hq : i < q
      · rw [hu.go q hq (by omega)]; exact h.left _ _ (by omega) (by omega) (by omega)
      · by_cases hq' : q = i
        · subst hq'
          rw [hu.first]
          exact swo_le hS (SortedIn.le hS h.left p1 (by omega) (by omega)) (hlo (by omega))
        · rw [hu.perm.2.1 q (by omega)]; exact h.left _ _ (by omega) (by omega) (by omega)

/-! ### Blocks -/
/-- all ahead of x have places ahead of those behind it -/
def Bnd (ix : α → Nat) (n x : Nat) (d : Array α) : Prop := ∀ p q, p < x → x ≤ q → q < n → ix d[p]! < ix d[q]!
theorem Bnd.perm {ix : α → Nat} {n x a b : Nat} {d d' : Array α} (h : Bnd ix n x d) (hp : PermIn a b d d') (hb : b ≤ d.size) (hbn : b ≤ n) (hx : x ≤ a ∨ b ≤ x) : Bnd ix n x d' := by
  intro p q p1 p2 p3
  have fp : ∃ p', p' < x ∧ d'[p]! = d[p']! := by
    by_cases c : a ≤ p ∧ p < b
    · obtain ⟨k, k1, k2, e⟩ := perm_mem hp hb c.1 c.2
      exact ⟨k, by omega, e⟩
    · exact ⟨p, p1, hp.2.1 p (by omega)⟩
  have fq : ∃ q', x ≤ q' ∧ q' < n ∧ d'[q]! = d[q']! := by
    by_cases c : a ≤ q ∧ q < b
    · obtain ⟨k, k1, k2, e⟩ := perm_mem hp hb c.1 c.2
      exact ⟨k, by omega, by omega, e⟩
    · exact ⟨q, p2, p3, hp.2.1 q (by omega)⟩
  obtain ⟨p', e1, e2⟩ := fp
  obtain ⟨q', e3, e4, e5⟩ := fq
  rw [e2, e5]
  exact h p' q' e1 e3 e4
/-- every block of bs is sorted, and the blocks stand in the order of places -/
structure Blks (R : α → α → Bool) (ix : α → Nat) (n bs : Nat) (d0 d : Array α) : Prop where
  perm : PermIn 0 n d0 d
  srt : ∀ t, SortedIn R (t * bs) (min (t * bs + bs) n) d
  bnd : ∀ t, Bnd ix n (t * bs) d
/-- the first u pairs of blocks are merged -/
structure Blks2 (R : α → α → Bool) (ix : α → Nat) (n bs u : Nat) (d0 d : Array α) : Prop where
  perm : PermIn 0 n d0 d
  old : ∀ t, 2 * u ≤ t → SortedIn R (t * bs) (min (t * bs + bs) n) d
  new : ∀ t, t < u → SortedIn R (t * (2 * bs)) (min (t * (2 * bs) + 2 * bs) n) d
  bnd : ∀ t, 2 * u ≤ t → Bnd ix n (t * bs) d
  bnd2 : ∀ t, Bnd ix n (t * (2 * bs)) d
theorem two_bs (t bs : Nat) : t * (2 * bs) = 2 * t * bs := by rw [Nat.mul_comm 2 t, Nat.mul_assoc]
theorem blks2_start {R : α → α → Bool} {ix : α → Nat} {n bs : Nat} {d0 d : Array α} (h : Blks R ix n bs d0 d) : Blks2 R ix n bs 0 d0 d :=
  ⟨h.perm, fun t _ => h.srt t, fun t ht => absurd ht (Nat.not_lt_zero _), fun t _ => h.bnd t, fun t => by rw [two_bs]; exact h.bnd (2 * t)⟩
theorem blks2_two {R : α → α → Bool} {ix : α → Nat} {n bs u : Nat} {d0 d : Array α} (h : Blks2 R ix n bs u d0 d) : Two R ix (u * (2 * bs)) (min (u * (2 * bs) + bs) n) (min (u * (2 * bs) + 2 * bs) n) d := by
  have h0 := h.old (2 * u) (Nat.le_refl _)
  have h1 := h.old (2 * u + 1) (by omega)
  have hb := h.bnd (2 * u + 1) (by omega)
  rw [Nat.add_mul, Nat.one_mul, ← two_bs] at h1 hb
  rw [← two_bs] at h0
  generalize u * (2 * bs) = A at *
  refine ⟨h0, fun i j i1 i2 i3 => h1 i j (by omega) i2 (by omega), fun p q p1 p2 q1 q2 => hb p q (by omega) (by omega) (by omega)⟩
theorem blks2_next {R : α → α → Bool} {ix : α → Nat} {n bs u : Nat} {d0 d d' : Array α} (h : Blks2 R ix n bs u d0 d) (hn : n ≤ d0.size) (hm : Mg R (u * (2 * bs)) (min (u * (2 * bs) + 2 * bs) n) d d') : Blks2 R ix n bs (u + 1) d0 d' := by
  have hs : d.size = d0.size := h.perm.1
  have e1 : (u + 1) * (2 * bs) = u * (2 * bs) + 2 * bs := by rw [Nat.add_mul, Nat.one_mul]
  have far : ∀ t, 2 * (u + 1) ≤ t → u * (2 * bs) + 2 * bs ≤ t * bs := fun t ht => by
    have := Nat.mul_le_mul_right bs ht
    rw [← two_bs, e1] at this; exact this
  have near : ∀ t, t < u → t * (2 * bs) + 2 * bs ≤ u * (2 * bs) := fun t ht => by
    have := Nat.mul_le_mul_right (2 * bs) (show t + 1 ≤ u from ht)
    rw [Nat.add_mul, Nat.one_mul] at this; exact this
  refine ⟨permIn_trans _ _ _ 0 n h.perm (permIn_mono d d' _ _ 0 n (Nat.zero_le _) (Nat.min_le_right _ _) (by omega) hm.1), fun t ht => ?_, fun t ht => ?_, fun t ht => ?_, fun t => ?_⟩
  · intro i j i1 i2 i3
    have := far t ht
    rw [hm.1.2.1 i (by omega), hm.1.2.1 j (by omega)]
    exact h.old t (by omega) i j i1 i2 i3
  · by_cases c : t = u
    · subst c; exact hm.2
    · intro i j i1 i2 i3
      have := near t (by omega)
      rw [hm.1.2.1 i (by omega), hm.1.2.1 j (by omega)]
      exact h.new t (by omega) i j i1 i2 i3
  · have := far t ht
    exact (h.bnd t (by omega)).perm hm.1 (by omega) (by omega) (by omega)
  · refine (h.bnd2 t).perm hm.1 (by omega) (by omega) ?_
    by_cases c : t ≤ u
    · exact Or.inl (Nat.mul_le_mul_right _ c)
    · have := Nat.mul_le_mul_right (2 * bs) (show u + 1 ≤ t by omega)
      rw [e1] at this
      exact Or.inr (by omega)
/-- nothing is left to merge -/
theorem blks2_end {R : α → α → Bool} {ix : α → Nat} {n bs u : Nat} {d0 d : Array α} (h : Blks2 R ix n bs u d0 d) (hu : n ≤ u * (2 * bs) + bs) : Blks R ix n (2 * bs) d0 d := by
  refine ⟨h.perm, fun t => ?_, h.bnd2⟩
  by_cases c : t < u
  · exact h.new t c
  · have e := Nat.mul_le_mul_right (2 * bs) (show u ≤ t by omega)
    intro i j i1 i2 i3
    have h0 := h.old (2 * t) (by omega)
    rw [← two_bs] at h0
    exact h0 i j i1 i2 (by omega)
theorem blks_all {R : α → α → Bool} {ix : α → Nat} {n bs : Nat} {d0 d : Array α} (h : Blks R ix n bs d0 d) (hn : n ≤ bs) : Mg R 0 n d0 d := by
  refine ⟨h.perm, ?_⟩
  have := h.srt 0
  rw [Nat.zero_mul, Nat.zero_add, Nat.min_eq_right hn] at this
  exact this
end Go.Stb
