/- Contract of the statement's own: a sale with rows of its own, by appending to nothing. -/
import Derived.Test.YtpapcilffkpjjaaTkMk
namespace Go.Proofs.Ytpapcilffkpjjaa
open Go.Shelf Go.RowKit Go.Lib Go.Money Go.Pror Go.Tick

/-- taxes from a block's beginning on -/
structure OT (w : World) (base g : Nat) (l : List Tax) : Prop where
  ge : base ≤ g
  at_ : ∃ cur, w.heap[g]? = some (.cells cur 48 (0, 0)) ∧ ∀ j, j < l.length → cur[j * 2]? = some (str (l[j]!).code) ∧ cur[j * 2 + 1]? = some (iv (l[j]!).am)
def NewT (w : World) (base : Nat) (p : Option Addr) (l : List Tax) (lp : Option Addr) (nl : Nat) : Prop := 0 < l.length → ∃ g, p = some ⟨g, 0, none⟩ ∧ OT w base g l ∧ (0 < nl → ∀ q, lp = some q → q.block ≠ g)
theorem Row.keepN {α : Type} [Inhabited α] {w w' : World} {k : Nat} {enc : α → List Value} {p : Option Addr} {l : List α} (h : Row w k enc p l) (g : Nat) (hap : 0 < l.length → ∀ q, p = some q → q.block ≠ g) (hs : w.heap.size ≤ w'.heap.size) (hk : ∀ b, b ≠ g → w'.heap[b]? = w.heap[b]?) : Row w' k enc p l :=
  ⟨fun h0 => by
    obtain ⟨b, o, h1, h2, h3⟩ := h.at_ h0
    exact ⟨b, o, h1, Nat.lt_of_lt_of_le h2 hs, fun j hj i v hi => (World.cell?_of_block (a := ⟨b, o + j * k + i, none⟩) (hk b (hap h0 _ h1))).trans (h3 j hj i v hi)⟩⟩
theorem newT_of {w : World} {base n cap : Nat} {p : Option Addr} {L : List Tax} (hn : L.length = n) (h : w.ownsRow base 48 2 (.slice p n cap) n (L.flatMap txC)) : 0 < L.length → ∃ g, p = some ⟨g, 0, none⟩ ∧ OT w base g L := by
  subst hn
  intro h0
  have h' := h
  rcases h.2 with ⟨_, h1⟩ | ⟨g, c, cur, he, hb, hg, hnc, _⟩
  · omega
  · simp only [Value.slice.injEq] at he
    obtain ⟨rfl, _, rfl⟩ := he
    refine ⟨g, rfl, hb, cur, hg, fun j hj => ?_⟩
    have hc : ∀ r u, (txC L[j]!)[r]? = some u → cur[j * 2 + r]? = some u := fun r u hu => by
      have hf := flat_get (enc := txC) (k := 2) (fun _ => rfl) L j r u hj hu
      have hlt := (List.getElem?_eq_some_iff.1 hf).1
      rw [flat_len (enc := txC) (k := 2) (fun _ => rfl)] at hlt
      have := h'.cellAt _ hlt
      rw [hf, cell_arr hg] at this
      exact this
    exact ⟨hc 0 _ rfl, hc 1 _ rfl⟩
theorem OT.keepA {w w' : World} {base g : Nat} {l : List Tax} (h : OT w base g l) (hk : w'.heap[g]? = w.heap[g]?) : OT w' base g l := by
  obtain ⟨cur, h1, h2⟩ := h.at_
  exact ⟨h.ge, cur, hk.trans h1, h2⟩
theorem OT.lt {w : World} {base g : Nat} {l : List Tax} (h : OT w base g l) : g < w.heap.size := by
  obtain ⟨cur, h1, _⟩ := h.at_
  exact lt_heap h1
theorem OT.keep {w w' : World} {base g : Nat} {l : List Tax} (h : OT w base g l) (hb : Below w.heap.size w w') : OT w' base g l := h.keepA (hb.block _ h.lt)
theorem OT.mono {w : World} {base base' g : Nat} {l : List Tax} (h : OT w base g l) (hb : base' ≤ base) : OT w base' g l := ⟨Nat.le_trans hb h.ge, h.at_⟩
theorem OT.c0 {w : World} {base g : Nat} {l : List Tax} (h : OT w base g l) {j : Nat} (hj : j < l.length) : w.cell? ⟨g, j * 2, none⟩ = some (str (l[j]!).code) := by
  obtain ⟨cur, h1, h2⟩ := h.at_
  exact (cell_arr h1 _).trans (h2 j hj).1
theorem OT.c1 {w : World} {base g : Nat} {l : List Tax} (h : OT w base g l) {j : Nat} (hj : j < l.length) : w.cell? ⟨g, j * 2 + 1, none⟩ = some (iv (l[j]!).am) := by
  obtain ⟨cur, h1, h2⟩ := h.at_
  exact (cell_arr h1 _).trans (h2 j hj).2
theorem OT.fr {w : World} {base g : Nat} {l : List Tax} (h : OT w base g l) (j : Nat) : w.frozen? ⟨g, j, none⟩ = false := by
  obtain ⟨cur, h1, h2⟩ := h.at_
  exact frozen_of_row _ _ _ _ _ h1
theorem OT.set {w : World} {base g : Nat} {l : List Tax} (h : OT w base g l) (a : Nat) (x : Tax) : OT ((w.setCell ⟨g, a * 2, none⟩ (str x.code)).setCell ⟨g, a * 2 + 1, none⟩ (iv x.am)) base g (l.set a x) := by
  obtain ⟨cur, h1, h2⟩ := h.at_
  have g1 := heap_setCell_same w g (a * 2) _ 48 (str x.code) h1
  refine ⟨h.ge, _, heap_setCell_same _ g (a * 2 + 1) _ 48 (iv x.am) g1, fun j hj => ?_⟩
  rw [List.length_set] at hj
  have h3 := h2 j hj
  have s0 := (Array.getElem?_eq_some_iff.1 h3.1).1
  have s1 := (Array.getElem?_eq_some_iff.1 h3.2).1
  by_cases e : a = j
  · subst e
    have hx : (l.set a x)[a]! = x := by rw [getElem!_pos _ a (by simpa using hj), List.getElem_set_self]
    rw [hx]
    simp only [Array.getElem?_setIfInBounds]
    rw [if_neg (show ¬ a * 2 + 1 = a * 2 by omega)]
    simp only [if_true, Array.size_setIfInBounds, s0, s1, and_self]
  · have hx : (l.set a x)[j]! = l[j]! := by rw [getElem!_pos _ j (by simpa using hj), List.getElem_set_ne e, getElem!_pos l j hj]
    rw [hx]
    simp only [Array.getElem?_setIfInBounds]
    rw [if_neg (show ¬ a * 2 + 1 = j * 2 by omega), if_neg (show ¬ a * 2 = j * 2 by omega), if_neg (show ¬ a * 2 + 1 = j * 2 + 1 by omega), if_neg (show ¬ a * 2 = j * 2 + 1 by omega)]
    exact h3
theorem OT.row {w : World} {base g : Nat} {l : List Tax} (h : OT w base g l) : Row w 2 txC (some ⟨g, 0, none⟩) l := by
  refine ⟨fun h0 => ⟨g, 0, rfl, h.lt, fun j hj i v hv => ?_⟩⟩
  rw [Nat.zero_add]
  match i, hv with
  | 0, hv =>
    simp only [txC, List.getElem?_cons_zero, Option.some.injEq] at hv
    rw [← hv]; exact h.c0 hj
  | 1, hv =>
    simp only [txC, List.getElem?_cons_succ, List.getElem?_cons_zero, Option.some.injEq] at hv
    rw [← hv]; exact h.c1 hj
  | i + 2, hv => simp [txC] at hv
theorem own_low {w w' : World} {B B' : Nat} {e : TypeId} {size n : Nat} {v : Value} {xs : List Value} (h : w.ownsRow B e size v n xs) (hB : B' ≤ B) (hk : ∀ b, B ≤ b → w'.heap[b]? = w.heap[b]?) : w'.ownsRow B' e size v n xs := by
  obtain ⟨h1, h2⟩ := h
  refine ⟨h1, h2.imp id ?_⟩
  rintro ⟨b, cap, cur, rfl, e2, e3, e4⟩
  exact ⟨b, cap, cur, rfl, Nat.le_trans hB e2, (hk b e2).trans e3, e4⟩
set_option maxRecDepth 100000 in
set_option maxHeartbeats 1600000 in
theorem own_any' (s : Sl) (lp : Option Addr) (lc : Nat) (tp : Option Addr) (tc : Nat) (w : World) (hL : Row w 3 lgC lp s.legs) (hT : Row w 2 txC tp s.taxes) (hlc : s.legs.length ≤ lc) (htc : s.taxes.length ≤ tc) (hl : s.legs.length ≤ 1000) (ht : s.taxes.length ≤ 1000) :
    Calls Try.prog 20 #[.agg (saV s lp lc tp tc)] w fun e w' => ∃ lp' lc' tp' tc', e = .returned (.agg (saV s lp' lc' tp' tc')) ∧ s.legs.length ≤ lc' ∧ s.taxes.length ≤ tc' ∧ RowA w' (w.heap.size + 2) 3 lgC lp' s.legs ∧ RowA w' (w.heap.size + 2) 2 txC tp' s.taxes ∧ NewT w' (w.heap.size + 2) tp' s.taxes lp' s.legs.length ∧ Below w.heap.size w w' ∧ w'.ownsRow (w.heap.size + 2) 48 2 (.slice tp' s.taxes.length tc') s.taxes.length (s.taxes.flatMap txC) ∧ (0 < s.legs.length → ∀ q, lp' = some q → ∀ b, (Value.slice tp' s.taxes.length tc').ownBlock = some b → q.block < b) := by
  obtain ⟨wb, hwb⟩ : ∃ wb, wb = (w.alloc (.cells (saV s lp lc tp tc) 28)).alloc (.cells zSale 28) := ⟨_, rfl⟩
  have hb0 : Below w.heap.size w wb := by rw [hwb]; exact ((Below.refl _ _).alloc (Nat.le_refl _) _).alloc (by simp) _
  have hws : wb.heap.size = w.heap.size + 2 := by rw [hwb]; simp
  have hbB : wb.heap[w.heap.size]? = some (.cells (saV s lp lc tp tc) 28 (0, 0)) := by rw [hwb, Below.heap_alloc _ _ _ (by simp)]; exact heap_last _ _ _ rfl
  have hbR : wb.heap[w.heap.size + 1]? = some (.cells zSale 28 (0, 0)) := by rw [hwb]; exact heap_last _ _ _ (by simp)
  have HBB := Lib.hid (fun wz (hz : Below wb.heap.size wb wz) => (hz.block _ (lt_heap hbB)).trans hbB)
  have HBR := Lib.hid (fun wz (hz : Below wb.heap.size wb wz) => (hz.block _ (lt_heap hbR)).trans hbR)
  have HL := Lib.hid (fun W (h : Below w.heap.size w W) => flat_row (enc := lgC) (k := 3) (fun _ => rfl) (hL.keep h) hlc)
  have HT := Lib.hid (fun W (h : Below w.heap.size w W) => flat_row (enc := txC) (k := 2) (fun _ => rfl) (hT.keep h) htc)
  have HLL := Lib.hid (flat_len (enc := lgC) (k := 3) (fun _ => rfl) s.legs)
  have HTL := Lib.hid (flat_len (enc := txC) (k := 2) (fun _ => rfl) s.taxes)
  have HN := Lib.hid (And.intro hl ht)
  have HB0 := Lib.hid hb0
  have HWS := Lib.hid hws
  have d1 : wb.cell? ⟨w.heap.size, 1, none⟩ = some (.slice lp s.legs.length lc) := cell_arr hbB 1
  rw [hwb] at d1
  clear hL hT hlc htc hl ht hbB hbR hb0 hws
  have HWB := Lib.hid hwb
  clear hwb
  go_enter Try.func20, Try.ntmps20
  go_wp2_with (at_builtin; rw [← HWB.out]; refine wl_appF 25 58 (.agg #[.int .u8 0, .int .u16 0, .int .u32 0]) 3 8 par_leg Try.underlying25 rfl (by decide) (by decide) wb.heap.size (.slice none 0 0) 0 [] rfl (World.ownsRow_nil _ _ _ _) (.slice lp s.legs.length lc) _ s.legs.length (s.legs.flatMap lgC) rfl (HL.out _ HB0.out) HLL.out (one_lg _) (by have := HN.out.1; omega) (Nat.le_refl _) ?_)
  intro v1 w1 ho hg _
  rw [Nat.zero_add, List.nil_append] at ho
  obtain ⟨p1, q1, rfl, hq1, hr1⟩ := row_of_own (enc := lgC) (k := 3) (fun _ => rfl) rfl ho
  have hb1 : Below wb.heap.size wb w1 := (Below.refl _ _).grown hg (Nat.le_refl _) (fun k hk => by cases hk)
  have hA1 := HBB.out _ hb1
  have f1 : w1.frozen? ⟨w.heap.size, 1, none⟩ = false := frozen_of_row _ _ _ _ _ hA1
  have e1 : w1.cell? ⟨w.heap.size, 1, none⟩ = some (.slice lp s.legs.length lc) := cell_arr hA1 1
  have e3 : w1.cell? ⟨w.heap.size, 3, none⟩ = some (.slice tp s.taxes.length tc) := cell_arr hA1 3
  have hA2 : (w1.setCell ⟨w.heap.size, 1, none⟩ (.slice p1 s.legs.length q1)).heap[w.heap.size]? = some (.cells #[str s.name, .slice p1 s.legs.length q1, iv s.fare, .slice tp s.taxes.length tc, iv s.pen] 28 (0, 0)) := heap_setCell_same w1 w.heap.size 1 _ 28 _ hA1
  have g3 : (w1.setCell ⟨w.heap.size, 1, none⟩ (.slice p1 s.legs.length q1)).cell? ⟨w.heap.size, 3, none⟩ = some (.slice tp s.taxes.length tc) := cell_arr hA2 3
  have HA2 := Lib.hid hA2
  have HR2 := Lib.hid ((HBR.out _ hb1))
  have HQ1 := Lib.hid hq1
  have HX2 := Lib.hid (show Below w.heap.size w (w1.setCell ⟨w.heap.size, 1, none⟩ (.slice p1 s.legs.length q1)) from (HB0.out.trans (hb1.mono HB0.out.size)).setCell (p := ⟨w.heap.size, 1, none⟩) (Nat.le_refl _) _)
  have HZ1 := Lib.hid hb1.size
  have HRL := Lib.hid (hr1.keepA (w' := w1.setCell ⟨w.heap.size, 1, none⟩ (.slice p1 s.legs.length q1)) (by simp [World.setCell]) (fun b hb _ => Below.heap_setCell _ _ _ _ (show b ≠ w.heap.size by have := HWS.out; omega)))
  have HP1 := Lib.hid (show 0 < s.legs.length → ∀ q, p1 = some q → q.block < w1.heap.size from fun h0 q hq => by
    obtain ⟨b, o, h1, h2, h3, _⟩ := hr1.at_ h0
    rw [h1] at hq
    simp only [Option.some.injEq] at hq
    rw [← hq]; exact h3)
  have HZ2 := Lib.hid (show (w1.setCell ⟨w.heap.size, 1, none⟩ (.slice p1 s.legs.length q1)).heap.size = w1.heap.size by simp [World.setCell])
  clear ho hg hA1 hA2 hr1 hq1 hb1
  go_wp2_with (at_builtin; refine wl_appF 26 48 (.agg #[.string ⟨#[]⟩, .int .i64 0]) 2 24 par_tax Try.underlying26 rfl (by decide) (by decide) (w1.setCell ⟨w.heap.size, 1, none⟩ (.slice p1 s.legs.length q1)).heap.size (.slice none 0 0) 0 [] rfl (World.ownsRow_nil _ _ _ _) (.slice tp s.taxes.length tc) _ s.taxes.length (s.taxes.flatMap txC) rfl (HT.out _ HX2.out) HTL.out (one_tx _) (by have := HN.out.2; omega) (Nat.le_refl _) ?_)
  intro v2 w2 ho hg _
  rw [Nat.zero_add, List.nil_append] at ho
  obtain ⟨p2, q2, rfl, hq2, hr2⟩ := row_of_own (enc := txC) (k := 2) (fun _ => rfl) rfl ho
  have HNT := Lib.hid (newT_of rfl ho)
  have HOO := Lib.hid ho
  have hb2 := (Below.refl (w1.setCell ⟨w.heap.size, 1, none⟩ (.slice p1 s.legs.length q1)).heap.size (w1.setCell ⟨w.heap.size, 1, none⟩ (.slice p1 s.legs.length q1))).grown hg (Nat.le_refl _) (fun k hk => by cases hk)
  have hA3 := (hb2.block _ (lt_heap HA2.out)).trans HA2.out
  have hR2 : (w1.setCell ⟨w.heap.size, 1, none⟩ (.slice p1 s.legs.length q1)).heap[w.heap.size + 1]? = some (.cells zSale 28 (0, 0)) := (Below.heap_setCell _ _ _ _ (show w.heap.size + 1 ≠ w.heap.size by omega)).trans HR2.out
  have hR3 := (hb2.block _ (lt_heap hR2)).trans hR2
  have HRL3 := Lib.hid (HRL.out.keep hb2)
  have HX3 := Lib.hid (HX2.out.trans (hb2.mono HX2.out.size))
  have hk5 : ∀ b, w.heap.size + 1 ≤ b → (w2.setCell ⟨w.heap.size, 3, none⟩ (.slice p2 s.taxes.length q2)).heap[b]? = w2.heap[b]? := fun b hb => Below.heap_setCell _ _ _ _ (show b ≠ w.heap.size by omega)
  have hA5 : (w2.setCell ⟨w.heap.size, 3, none⟩ (.slice p2 s.taxes.length q2)).heap[w.heap.size]? = some (.cells #[str s.name, .slice p1 s.legs.length q1, iv s.fare, .slice p2 s.taxes.length q2, iv s.pen] 28 (0, 0)) := heap_setCell_same w2 w.heap.size 3 _ 28 _ hA3
  have hR5 := (hk5 _ (Nat.le_refl _)).trans hR3
  have hs5 : w2.heap.size ≤ (w2.setCell ⟨w.heap.size, 3, none⟩ (.slice p2 s.taxes.length q2)).heap.size := by simp [World.setCell]
  have HL5 := Lib.hid ((HRL3.out.mono (base' := w.heap.size + 2) (by have := HWS.out; omega)).keepA hs5 (fun b hb _ => hk5 b (by omega)))
  have HT5 := Lib.hid ((hr2.mono (base' := w.heap.size + 2) (by have := HWS.out; have := HZ1.out; have := HZ2.out; omega)).keepA hs5 (fun b hb _ => hk5 b (by omega)))
  have HX5 := Lib.hid (HX3.out.setCell (p := ⟨w.heap.size, 3, none⟩) (Nat.le_refl _) (.slice p2 s.taxes.length q2))
  have HQ2 := Lib.hid hq2
  have a3 : w2.frozen? ⟨w.heap.size, 3, none⟩ = false := frozen_of_row _ _ _ _ _ hA3
  have b3 : w2.cell? ⟨w.heap.size, 3, none⟩ = some (.slice tp s.taxes.length tc) := cell_arr hA3 3
  have c0 : (w2.setCell ⟨w.heap.size, 3, none⟩ (.slice p2 s.taxes.length q2)).cell? ⟨w.heap.size, 0, none⟩ = some (str s.name) := cell_arr hA5 0
  have c1 : (w2.setCell ⟨w.heap.size, 3, none⟩ (.slice p2 s.taxes.length q2)).cell? ⟨w.heap.size, 1, none⟩ = some (.slice p1 s.legs.length q1) := cell_arr hA5 1
  have c2 : (w2.setCell ⟨w.heap.size, 3, none⟩ (.slice p2 s.taxes.length q2)).cell? ⟨w.heap.size, 2, none⟩ = some (iv s.fare) := cell_arr hA5 2
  have c3 : (w2.setCell ⟨w.heap.size, 3, none⟩ (.slice p2 s.taxes.length q2)).cell? ⟨w.heap.size, 3, none⟩ = some (.slice p2 s.taxes.length q2) := cell_arr hA5 3
  have c4 : (w2.setCell ⟨w.heap.size, 3, none⟩ (.slice p2 s.taxes.length q2)).cell? ⟨w.heap.size, 4, none⟩ = some (iv s.pen) := cell_arr hA5 4
  have r0 : (w2.setCell ⟨w.heap.size, 3, none⟩ (.slice p2 s.taxes.length q2)).cell? ⟨w.heap.size + 1, 0, none⟩ = some (.string ⟨#[]⟩) := cell_arr hR5 0
  have r1 : (w2.setCell ⟨w.heap.size, 3, none⟩ (.slice p2 s.taxes.length q2)).cell? ⟨w.heap.size + 1, 1, none⟩ = some (.slice none 0 0) := cell_arr hR5 1
  have r2 : (w2.setCell ⟨w.heap.size, 3, none⟩ (.slice p2 s.taxes.length q2)).cell? ⟨w.heap.size + 1, 2, none⟩ = some (iv 0) := cell_arr hR5 2
  have r3 : (w2.setCell ⟨w.heap.size, 3, none⟩ (.slice p2 s.taxes.length q2)).cell? ⟨w.heap.size + 1, 3, none⟩ = some (.slice none 0 0) := cell_arr hR5 3
  have r4 : (w2.setCell ⟨w.heap.size, 3, none⟩ (.slice p2 s.taxes.length q2)).cell? ⟨w.heap.size + 1, 4, none⟩ = some (iv 0) := cell_arr hR5 4
  have f0 := frozen_of_row (w2.setCell ⟨w.heap.size, 3, none⟩ (.slice p2 s.taxes.length q2)) (w.heap.size + 1) 0 _ _ hR5
  have f1 := frozen_of_row (w2.setCell ⟨w.heap.size, 3, none⟩ (.slice p2 s.taxes.length q2)) (w.heap.size + 1) 1 _ _ hR5
  have f2 := frozen_of_row (w2.setCell ⟨w.heap.size, 3, none⟩ (.slice p2 s.taxes.length q2)) (w.heap.size + 1) 2 _ _ hR5
  have f3 := frozen_of_row (w2.setCell ⟨w.heap.size, 3, none⟩ (.slice p2 s.taxes.length q2)) (w.heap.size + 1) 3 _ _ hR5
  have f4 := frozen_of_row (w2.setCell ⟨w.heap.size, 3, none⟩ (.slice p2 s.taxes.length q2)) (w.heap.size + 1) 4 _ _ hR5
  have HR5 := Lib.hid hR5
  clear ho hg hA3 hA5 hR5 hR3 hR2 hr2 hq2 hb2 hk5 hs5
  go_wp2
  refine bodyPost_ret (results_cell_row rfl _ _ (w.heap.size + 1) 28 _ (0, 0) _ rfl (set5c HR5.out _ _ _ _ _) Try.underlying28 rfl sizeSale) rfl ?_
  have hS : ∀ (w5 : World) v0 v1 v2 v3 v4 b, b ≠ w.heap.size + 1 → (((((w5.setCell ⟨w.heap.size + 1, 0, none⟩ v0).setCell ⟨w.heap.size + 1, 1, none⟩ v1).setCell ⟨w.heap.size + 1, 2, none⟩ v2).setCell ⟨w.heap.size + 1, 3, none⟩ v3).setCell ⟨w.heap.size + 1, 4, none⟩ v4).heap[b]? = w5.heap[b]? := fun w5 v0 v1 v2 v3 v4 b hb =>
    (Below.heap_setCell _ _ _ _ hb).trans ((Below.heap_setCell _ _ _ _ hb).trans ((Below.heap_setCell _ _ _ _ hb).trans ((Below.heap_setCell _ _ _ _ hb).trans (Below.heap_setCell _ _ _ _ hb))))
  refine ⟨p1, q1, p2, q2, rfl, HQ1.out, HQ2.out, HL5.out.keepA (by simp [World.setCell]) (fun b hb _ => hS _ _ _ _ _ _ b (by omega)), HT5.out.keepA (by simp [World.setCell]) (fun b hb _ => hS _ _ _ _ _ _ b (by omega)), fun h0 => ?_, ?_, ?_, fun h0 q hq b hb => by have h1 := HP1.out h0 q hq; have h2 := (HOO.out.lt b hb).1; have h3 := HZ2.out; omega⟩
  · obtain ⟨g, e, ho⟩ := HNT.out h0
    have hge := ho.ge
    have hz1 := HZ1.out
    have hz2 := HZ2.out
    have hws := HWS.out
    refine ⟨g, e, (ho.mono (base' := w.heap.size + 2) (by omega)).keepA ?_, fun h1 q hq => by have := HP1.out h1 q hq; omega⟩
    exact (hS _ _ _ _ _ _ g (by omega)).trans (Below.heap_setCell _ _ _ _ (show g ≠ w.heap.size by omega))
  · exact ((((HX5.out.setCell (Nat.le_succ _) _).setCell (Nat.le_succ _) _).setCell (Nat.le_succ _) _).setCell (Nat.le_succ _) _).setCell (Nat.le_succ _) _
  · have hz1 := HZ1.out
    have hz2 := HZ2.out
    have hws := HWS.out
    exact own_low HOO.out (by omega) (fun b hb => (hS _ _ _ _ _ _ b (by omega)).trans (Below.heap_setCell _ _ _ _ (show b ≠ w.heap.size by omega)))
set_option maxRecDepth 100000 in
set_option maxHeartbeats 1600000 in
theorem own_any (s : Sl) (lp : Option Addr) (lc : Nat) (tp : Option Addr) (tc : Nat) (w : World) (hL : Row w 3 lgC lp s.legs) (hT : Row w 2 txC tp s.taxes) (hlc : s.legs.length ≤ lc) (htc : s.taxes.length ≤ tc) (hl : s.legs.length ≤ 1000) (ht : s.taxes.length ≤ 1000) :
    Calls Try.prog 20 #[.agg (saV s lp lc tp tc)] w fun e w' => ∃ lp' lc' tp' tc', e = .returned (.agg (saV s lp' lc' tp' tc')) ∧ s.legs.length ≤ lc' ∧ s.taxes.length ≤ tc' ∧ RowA w' (w.heap.size + 2) 3 lgC lp' s.legs ∧ RowA w' (w.heap.size + 2) 2 txC tp' s.taxes ∧ NewT w' (w.heap.size + 2) tp' s.taxes lp' s.legs.length ∧ Below w.heap.size w w' :=
  (own_any' s lp lc tp tc w hL hT hlc htc hl ht).mono fun e w' ⟨a, b, c, d, h1, h2, h3, h4, h5, h6, h7, _⟩ => ⟨a, b, c, d, h1, h2, h3, h4, h5, h6, h7⟩
end Go.Proofs.Ytpapcilffkpjjaa
