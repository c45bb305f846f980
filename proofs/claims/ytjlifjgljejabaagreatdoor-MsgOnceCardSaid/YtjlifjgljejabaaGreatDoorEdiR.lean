/- The reader in memory, and what its methods do to it. -/
import Derived.Test.YtjlifjgljejabaaGreatDoorEdiM
namespace Go.Proofs.YtjlifjgljejabaaGreatDoor
open Go.RowKit Go.Edi

/-- the method that comes next -/
def nx (g : Nat) : Md → Value
  | .out => .func (.func 91) #[.pointer (some ⟨g, 0, none⟩)] #[]
  | .tag => .func (.func 120) #[.pointer (some ⟨g, 0, none⟩)] #[]
  | .beh => .func (.func 136) #[.pointer (some ⟨g, 0, none⟩)] #[]
  | .cmp => .func (.func 165) #[.pointer (some ⟨g, 0, none⟩)] #[]
  | .mrk => .func (.func 170) #[.pointer (some ⟨g, 0, none⟩)] #[]
/-- what stands in memory of one's own, each row in a block of its own: `φ b` names the row that lies in the block -/
def EO (w : World) (B : Nat) (F : Nat → Prop) (φ : Nat → Nat × Nat) (i : Nat) (els : List (List Tx)) (ys : List Value) : Prop :=
  ys.length = els.length ∧ ∀ k (hk : k < els.length), ∃ v, ys[k]? = some v ∧ w.ownsRow B 9 1 v (els[k]'hk).length ((els[k]'hk).map str) ∧ ∀ b, v.ownBlock = some b → F b ∧ φ b = (i, k + 1)
def SO (w : World) (B : Nat) (F : Nat → Prop) (φ : Nat → Nat × Nat) (sl : List Sg) (xs : List Value) : Prop :=
  xs.length = sl.length * 2 ∧ ∀ i (hi : i < sl.length), ∃ v ys, xs[2 * i + 1]? = some v ∧ w.ownsRow B 62 1 v (sl[i]'hi).els.length ys ∧ (∀ b, v.ownBlock = some b → F b ∧ φ b = (i, 0)) ∧ EO w B F φ i (sl[i]'hi).els ys
def OwR (w : World) (B : Nat) (F : Nat → Prop) (vs ve : Value) (segs : List Sg) (els : List (List Tx)) : Prop :=
  ∃ φ xs ys, w.ownsRow B 59 2 vs segs.length xs ∧ SO w B F φ segs xs ∧ w.ownsRow B 62 1 ve els.length ys ∧ EO w B F φ segs.length els ys
theorem own_keep {w w' : World} {B : Nat} {e : TypeId} {size n : Nat} {v : Value} {xs : List Value} (h : w.ownsRow B e size v n xs) (hk : ∀ b, v.ownBlock = some b → w'.heap[b]? = w.heap[b]?) : w'.ownsRow B e size v n xs := by
  obtain ⟨h1, h2⟩ := h
  refine ⟨h1, h2.imp id ?_⟩
  rintro ⟨b, cap, cur, rfl, e2, e3, e4⟩
  exact ⟨b, cap, cur, rfl, e2, (hk b rfl).trans e3, e4⟩
theorem own_eq {w : World} {B B' : Nat} {e : TypeId} {size n : Nat} {v : Value} {xs xs' : List Value} (h : w.ownsRow B e size v n xs) (h' : w.ownsRow B' e size v n xs') : xs = xs' := by
  obtain ⟨h1, ⟨rfl, rfl⟩ | ⟨b, cap, cur, rfl, e2, e3, _, _, _, e7⟩⟩ := h
  · have := h'.1
    rw [Nat.zero_mul] at h1 this
    rw [List.eq_nil_of_length_eq_zero h1, List.eq_nil_of_length_eq_zero this]
  · obtain ⟨_, ⟨h, _⟩ | ⟨b', cap', cur', h, f2, f3, _, _, _, f7⟩⟩ := h'
    · simp at h
    · simp only [Value.slice.injEq, Option.some.injEq, Addr.mk.injEq, and_true, true_and] at h
      obtain ⟨rfl, rfl⟩ := h
      rw [e3] at f3
      simp only [Option.some.injEq, Obj.cells.injEq, and_true] at f3
      rw [← e7, ← f7, f3]
theorem EO.kept {w w' : World} {B i : Nat} {F F' : Nat → Prop} {φ φ' : Nat → Nat × Nat} {els : List (List Tx)} {ys : List Value} (h : EO w B F φ i els ys) (hk : Kp F F' w w') (hφ : ∀ b, F b → φ' b = φ b) : EO w' B F' φ' i els ys := by
  refine ⟨h.1, fun k hk2 => ?_⟩
  obtain ⟨v, h1, h2, h3⟩ := h.2 k hk2
  exact ⟨v, h1, own_keep h2 (fun b hb => (hk b (h3 b hb).1).2), fun b hb => ⟨(hk b (h3 b hb).1).1, (hφ b (h3 b hb).1).trans (h3 b hb).2⟩⟩
theorem EO.snoc {w : World} {B i : Nat} {F : Nat → Prop} {φ : Nat → Nat × Nat} {els : List (List Tx)} {ys : List Value} {e : List Tx} {v : Value} (h : EO w B F φ i els ys) (hv : w.ownsRow B 9 1 v e.length (e.map str)) (hb : ∀ b, v.ownBlock = some b → F b ∧ φ b = (i, els.length + 1)) : EO w B F φ i (els ++ [e]) (ys ++ [v]) := by
  refine ⟨by simp [h.1], fun k hk => ?_⟩
  by_cases hl : k < els.length
  · obtain ⟨u, h1, h2, h3⟩ := h.2 k hl
    refine ⟨u, by rw [List.getElem?_append_left (by rw [h.1]; exact hl)]; exact h1, ?_, h3⟩
    rw [List.getElem_append_left hl]; exact h2
  · have hkl : k = els.length := by simp at hk; omega
    subst hkl
    refine ⟨v, by rw [← h.1]; simp, ?_, hb⟩
    rw [List.getElem_append_right (Nat.le_refl _)]
    simpa using hv
theorem SO.kept {w w' : World} {B : Nat} {F F' : Nat → Prop} {φ φ' : Nat → Nat × Nat} {sl : List Sg} {xs : List Value} (h : SO w B F φ sl xs) (hk : Kp F F' w w') (hφ : ∀ b, F b → φ' b = φ b) : SO w' B F' φ' sl xs := by
  refine ⟨h.1, fun k hk2 => ?_⟩
  obtain ⟨v, ys, h1, h2, h3, h4⟩ := h.2 k hk2
  exact ⟨v, ys, h1, own_keep h2 (fun b hb => (hk b (h3 b hb).1).2), fun b hb => ⟨(hk b (h3 b hb).1).1, (hφ b (h3 b hb).1).trans (h3 b hb).2⟩, h4.kept hk hφ⟩
theorem SO.snoc {w : World} {B : Nat} {F : Nat → Prop} {φ : Nat → Nat × Nat} {sl : List Sg} {xs ys : List Value} {s : Sg} {a v : Value} (h : SO w B F φ sl xs) (hv : w.ownsRow B 62 1 v s.els.length ys) (hb : ∀ b, v.ownBlock = some b → F b ∧ φ b = (sl.length, 0)) (he : EO w B F φ sl.length s.els ys) : SO w B F φ (sl ++ [s]) (xs ++ [a, v]) := by
  refine ⟨by simp [h.1]; omega, fun k hk => ?_⟩
  by_cases hl : k < sl.length
  · obtain ⟨u, zs, h1, h2, h3, h4⟩ := h.2 k hl
    refine ⟨u, zs, by rw [List.getElem?_append_left (by rw [h.1]; omega)]; exact h1, ?_, h3, ?_⟩
    · rw [List.getElem_append_left hl]; exact h2
    · rw [List.getElem_append_left hl]; exact h4
  · have hkl : k = sl.length := by simp at hk; omega
    subst hkl
    refine ⟨v, ys, ?_, ?_, hb, ?_⟩
    · rw [List.getElem?_append_right (by rw [h.1]; omega), h.1, show 2 * sl.length + 1 - sl.length * 2 = 1 by omega]; rfl
    · rw [List.getElem_append_right (Nat.le_refl _)]; simpa using hv
    · rw [List.getElem_append_right (Nat.le_refl _)]; simpa using he
theorem OwR.to {w w' : World} {B : Nat} {F F' : Nat → Prop} {vs ve : Value} {segs : List Sg} {els : List (List Tx)} (h : OwR w B F vs ve segs els) (hk : Kp F F' w w') (hs : ∀ n xs, w.ownsRow B 59 2 vs n xs → w'.ownsRow B 59 2 vs n xs) (he : ∀ n ys, w.ownsRow B 62 1 ve n ys → w'.ownsRow B 62 1 ve n ys) : OwR w' B F' vs ve segs els := by
  obtain ⟨φ, xs, ys, h1, h2, h3, h4⟩ := h
  exact ⟨φ, xs, ys, hs _ _ h1, h2.kept hk (fun _ _ => rfl), he _ _ h3, h4.kept hk (fun _ _ => rfl)⟩
open Classical in
/-- an element is laid to the others -/
theorem OwR.elems {w w' : World} {B : Nat} {F : Nat → Prop} {vs ve ve' vl : Value} {segs : List Sg} {els : List (List Tx)} {el : List Tx} {ys : List Value} (h : OwR w B F vs ve segs els) (hve : w.ownsRow B 62 1 ve els.length ys) (hk : Kp F (fun b => F b ∨ vl.ownBlock = some b) w w') (hF : ∀ b, F b → vl.ownBlock ≠ some b) (hs : ∀ n xs, w.ownsRow B 59 2 vs n xs → w'.ownsRow B 59 2 vs n xs)
    (hl : w'.ownsRow B 9 1 vl el.length (el.map str)) (ho : w'.ownsRow B 62 1 ve' (els.length + 1) (ys ++ [vl])) : OwR w' B (fun b => F b ∨ vl.ownBlock = some b) vs ve' segs (els ++ [el]) := by
  obtain ⟨φ, xs, ys', h1, h2, h3, h4⟩ := h
  obtain rfl := own_eq hve h3
  have hφ : ∀ b, F b → (fun b => if vl.ownBlock = some b then (segs.length, els.length + 1) else φ b) b = φ b := fun b hb => if_neg (hF b hb)
  refine ⟨fun b => if vl.ownBlock = some b then (segs.length, els.length + 1) else φ b, xs, ys ++ [vl], hs _ _ h1, h2.kept hk hφ, by simpa using ho, (h4.kept hk hφ).snoc hl (fun b hb => ⟨Or.inr hb, ?_⟩)⟩
  exact if_pos hb
open Classical in
/-- a segment is laid to the others -/
theorem OwR.seg {w w' : World} {B : Nat} {F : Nat → Prop} {vs vs' ve : Value} {segs : List Sg} {tg : Tx} {els : List (List Tx)} {xs : List Value} {a : Value} (h : OwR w B F vs ve segs els) (hvs : w.ownsRow B 59 2 vs segs.length xs) (hk : Kp F (fun b => F b ∨ ve.ownBlock = some b) w w') (hF : ∀ b, F b → ve.ownBlock ≠ some b) (he : ∀ n ys, w.ownsRow B 62 1 ve n ys → w'.ownsRow B 62 1 ve n ys)
    (ho : w'.ownsRow B 59 2 vs' (segs.length + 1) (xs ++ [a, ve])) : OwR w' B (fun b => F b ∨ ve.ownBlock = some b) vs' (.slice none 0 0) (segs ++ [⟨tg, els⟩]) [] := by
  obtain ⟨φ, xs', ys, h1, h2, h3, h4⟩ := h
  obtain rfl := own_eq hvs h1
  have hφ : ∀ b, F b → (fun b => if ve.ownBlock = some b then (segs.length, 0) else φ b) b = φ b := fun b hb => if_neg (hF b hb)
  refine ⟨fun b => if ve.ownBlock = some b then (segs.length, 0) else φ b, xs ++ [a, ve], [], by simpa using ho, (h2.kept hk hφ).snoc (s := ⟨tg, els⟩) (he _ _ h3) (fun b hb => ⟨Or.inr hb, ?_⟩) (h4.kept hk hφ), World.ownsRow_nil _ _ _ _, rfl, fun k hk => by simp at hk⟩
  exact if_pos hb
structure RdV (B g : Nat) (F : Nat → Prop) (s : RS) (vn vs ve vl vw : Value) (w : World) : Prop where
  hB : B ≤ g
  hg : w.heap[g]? = some (.cells #[vn, vs, str s.tg, ve, vl, vw, .bool s.wi] 125 (0, 0))
  vn : vn = nx g s.md
  segs : ∃ xs, w.ownsRow B 59 2 vs s.segs.length xs ∧ SgC w F s.segs xs
  els : ∃ ys, w.ownsRow B 62 1 ve s.els.length ys ∧ ElC w F s.els ys
  el : w.ownsRow B 9 1 vl s.el.length (s.el.map str)
  wd : w.ownsRow B 5 1 vw s.wd.length (Lib.byteCells s.wd)
  ow : OwR w B F vs ve s.segs s.els
  fz : ∀ b, F b → B ≤ b ∧ b < w.heap.size ∧ b ≠ g ∧ vs.ownBlock ≠ some b ∧ ve.ownBlock ≠ some b ∧ vl.ownBlock ≠ some b ∧ vw.ownBlock ≠ some b
def RdAt (B g : Nat) (s : RS) (w : World) : Prop := ∃ F vn vs ve vl vw, RdV B g F s vn vs ve vl vw w
def Bd (s : RS) : Prop := s.wd.length ≤ 1000 ∧ s.el.length ≤ 1000 ∧ s.els.length ≤ 1000 ∧ s.segs.length ≤ 1000
section
variable {B g : Nat} {F : Nat → Prop} {s : RS} {vn vs ve vl vw : Value} {w : World}
theorem RdV.lt (h : RdV B g F s vn vs ve vl vw w) : g < w.heap.size := lt_of_heap h.hg
theorem RdV.cell (h : RdV B g F s vn vs ve vl vw w) (j : Nat) : w.cell? ⟨g, j, none⟩ = #[vn, vs, str s.tg, ve, vl, vw, .bool s.wi][j]? := by simp [World.cell?, h.hg]
theorem RdV.frozen (h : RdV B g F s vn vs ve vl vw w) (j : Nat) : w.frozen? ⟨g, j, none⟩ = false := by simp [World.frozen?, h.hg]
theorem RdV.keep (h : RdV B g F s vn vs ve vl vw w) {w' : World} {row : Option Nat} (hc : Chg w w' g row) (hr : ∀ b, F b → some b ≠ row) : Kp F F w w' :=
  fun b hb => ⟨hb, hc.block b (h.fz b hb).2.1 (h.fz b hb).2.2.1 (hr b hb)⟩
theorem RdV.to (h : RdV B g F s vn vs ve vl vw w) {w' : World} {s' : RS} {vn' : Value} (hc : Chg w w' g none) (hg' : w'.heap[g]? = some (.cells #[vn', vs, str s'.tg, ve, vl, vw, .bool s'.wi] 125 (0, 0))) (hvn : vn' = nx g s'.md)
    (h1 : s'.segs = s.segs) (h2 : s'.els = s.els) (h3 : s'.el = s.el) (h4 : s'.wd = s.wd) : RdV B g F s' vn' vs ve vl vw w' := by
  have hk := h.keep hc (fun _ _ => by simp)
  have hn : ∀ v : Value, v.ownBlock = none ∨ v.ownBlock ≠ none := fun v => Classical.em _
  obtain ⟨xs, a1, a2⟩ := h.segs
  obtain ⟨ys, b1, b2⟩ := h.els
  have how : OwR w' B F vs ve s'.segs s'.els := by
    rw [h1, h2]
    exact h.ow.to hk (fun _ _ a => own_chg a h.hg (by decide) hc (hn _)) (fun _ _ a => own_chg a h.hg (by decide) hc (hn _))
  refine ⟨h.hB, hg', hvn, ⟨xs, ?_, ?_⟩, ⟨ys, ?_, ?_⟩, ?_, ?_, how, fun b hb => ?_⟩
  · rw [h1]; exact own_chg a1 h.hg (by decide) hc (hn _)
  · rw [h1]; exact a2.kept hk
  · rw [h2]; exact own_chg b1 h.hg (by decide) hc (hn _)
  · rw [h2]; exact b2.kept hk
  · rw [h3]; exact own_chg h.el h.hg (by decide) hc (hn _)
  · rw [h4]; exact own_chg h.wd h.hg (by decide) hc (hn _)
  · have := h.fz b hb; have := hc.size; exact ⟨by omega, by omega, by omega, (h.fz b hb).2.2.2⟩
/-- another word -/
theorem RdV.word (h : RdV B g F s vn vs ve vl vw w) {w' : World} {vw' : Value} {wd' : Tx} (hc : Chg w w' g vw.ownBlock) (ho : w'.ownsRow B 5 1 vw' wd'.length (Lib.byteCells wd')) (hb : vw'.ownBlock = vw.ownBlock ∨ ∃ k, vw'.ownBlock = some k ∧ w.heap.size ≤ k)
    (hg' : w'.heap[g]? = some (.cells #[vn, vs, str s.tg, ve, vl, vw', .bool s.wi] 125 (0, 0))) : RdV B g F { s with wd := wd' } vn vs ve vl vw' w' := by
  have hk := h.keep hc (fun b hb => (h.fz b hb).2.2.2.2.2.2.symm)
  obtain ⟨xs, a1, a2⟩ := h.segs
  obtain ⟨ys, b1, b2⟩ := h.els
  refine ⟨h.hB, hg', h.vn, ⟨xs, own_chg a1 h.hg (by decide) hc (own_apart a1 h.wd (by decide)), a2.kept hk⟩, ⟨ys, own_chg b1 h.hg (by decide) hc (own_apart b1 h.wd (by decide)), b2.kept hk⟩, own_chg h.el h.hg (by decide) hc (own_apart h.el h.wd (by decide)), ho, h.ow.to hk (fun _ _ a => own_chg a h.hg (by decide) hc (own_apart a h.wd (by decide))) (fun _ _ a => own_chg a h.hg (by decide) hc (own_apart a h.wd (by decide))), fun b hb2 => ?_⟩
  have h5 := h.fz b hb2
  have h6 := hc.size
  refine ⟨h5.1, by omega, h5.2.2.1, h5.2.2.2.1, h5.2.2.2.2.1, h5.2.2.2.2.2.1, ?_⟩
  rcases hb with e | ⟨k, e, hk⟩
  · rw [e]; exact h5.2.2.2.2.2.2
  · rw [e]; intro e2; simp only [Option.some.injEq] at e2; omega
/-- another element -/
theorem RdV.elem (h : RdV B g F s vn vs ve vl vw w) {w' : World} {vl' : Value} {el' : List Tx} (hc : Chg w w' g vl.ownBlock) (ho : w'.ownsRow B 9 1 vl' el'.length (el'.map str)) (hb : vl'.ownBlock = vl.ownBlock ∨ ∃ k, vl'.ownBlock = some k ∧ w.heap.size ≤ k)
    (hg' : w'.heap[g]? = some (.cells #[vn, vs, str s.tg, ve, vl', vw, .bool s.wi] 125 (0, 0))) : RdV B g F { s with el := el' } vn vs ve vl' vw w' := by
  have hk := h.keep hc (fun b hb => (h.fz b hb).2.2.2.2.2.1.symm)
  obtain ⟨xs, a1, a2⟩ := h.segs
  obtain ⟨ys, b1, b2⟩ := h.els
  refine ⟨h.hB, hg', h.vn, ⟨xs, own_chg a1 h.hg (by decide) hc (own_apart a1 h.el (by decide)), a2.kept hk⟩, ⟨ys, own_chg b1 h.hg (by decide) hc (own_apart b1 h.el (by decide)), b2.kept hk⟩, ho, own_chg h.wd h.hg (by decide) hc (own_apart h.wd h.el (by decide)), h.ow.to hk (fun _ _ a => own_chg a h.hg (by decide) hc (own_apart a h.el (by decide))) (fun _ _ a => own_chg a h.hg (by decide) hc (own_apart a h.el (by decide))), fun b hb2 => ?_⟩
  have h5 := h.fz b hb2
  have h6 := hc.size
  refine ⟨h5.1, by omega, h5.2.2.1, h5.2.2.2.1, h5.2.2.2.2.1, ?_, h5.2.2.2.2.2.2⟩
  rcases hb with e | ⟨k, e, hk⟩
  · rw [e]; exact h5.2.2.2.2.2.1
  · rw [e]; intro e2; simp only [Option.some.injEq] at e2; omega
/-- an element is laid to the others -/
theorem RdV.elems (h : RdV B g F s vn vs ve vl vw w) {w' : World} {ve' : Value} {ys : List Value} (hys : ElC w F s.els ys) (hc : Chg w w' g ve.ownBlock) (ho : w'.ownsRow B 62 1 ve' (s.els.length + 1) (ys ++ [vl])) (hve : w.ownsRow B 62 1 ve s.els.length ys) (hb : ve'.ownBlock = ve.ownBlock ∨ ∃ k, ve'.ownBlock = some k ∧ w.heap.size ≤ k)
    (hg' : w'.heap[g]? = some (.cells #[vn, vs, str s.tg, ve', .slice none 0 0, vw, .bool s.wi] 125 (0, 0))) : RdV B g (fun b => F b ∨ vl.ownBlock = some b) { s with els := s.els ++ [s.el], el := [] } vn vs ve' (.slice none 0 0) vw w' := by
  have hlb := own_apart h.el hve (by decide)
  have hlt : ∀ b, vl.ownBlock = some b → B ≤ b ∧ b < w.heap.size := h.el.lt
  have hng := own_not h.el h.hg (by decide)
  have hk : Kp F (fun b => F b ∨ vl.ownBlock = some b) w w' := fun b hb => ⟨Or.inl hb, (h.keep hc (fun b hb => (h.fz b hb).2.2.2.2.1.symm) b hb).2⟩
  have hel' : w'.ownsRow B 9 1 vl s.el.length (s.el.map str) := own_chg h.el h.hg (by decide) hc hlb
  obtain ⟨xs, a1, a2⟩ := h.segs
  refine ⟨h.hB, hg', h.vn, ⟨xs, own_chg a1 h.hg (by decide) hc (own_apart a1 hve (by decide)), a2.kept hk⟩, ⟨ys ++ [vl], by simpa using ho, ElC.snoc (row_own hel' (fun b e => Or.inr e)) (hys.kept hk)⟩, World.ownsRow_nil _ _ _ _, own_chg h.wd h.hg (by decide) hc (own_apart h.wd hve (by decide)), h.ow.elems hve hk (fun b hb => (h.fz b hb).2.2.2.2.2.1) (fun _ _ a => own_chg a h.hg (by decide) hc (own_apart a hve (by decide))) hel' ho, fun b hb2 => ?_⟩
  have h6 := hc.size
  have hsz : ∀ v : Value, v.ownBlock = vs.ownBlock ∨ v.ownBlock = vw.ownBlock → vl.ownBlock = some b → v.ownBlock ≠ some b := by
    intro v hv hb e
    rcases hv with hv | hv
    · rcases own_apart h.el a1 (by decide) with e1 | e1
      · rw [e1] at hb; simp at hb
      · exact e1 (by rw [hb, ← hv, e])
    · rcases own_apart h.el h.wd (by decide) with e1 | e1
      · rw [e1] at hb; simp at hb
      · exact e1 (by rw [hb, ← hv, e])
  have hnve : ∀ b, (b < w.heap.size) → ve.ownBlock ≠ some b → ve'.ownBlock ≠ some b := by
    intro b hlt hne
    rcases hb with e | ⟨k, e, hk⟩
    · rw [e]; exact hne
    · rw [e]; intro e2; simp only [Option.some.injEq] at e2; omega
  rcases hb2 with hb2 | hb2
  · have h5 := h.fz b hb2
    exact ⟨h5.1, by omega, h5.2.2.1, h5.2.2.2.1, hnve b h5.2.1 h5.2.2.2.2.1, by simp [Value.ownBlock], h5.2.2.2.2.2.2⟩
  · have h5 := hlt b hb2
    refine ⟨h5.1, by omega, fun e => hng (by rw [hb2, e]), hsz vs (Or.inl rfl) hb2, hnve b h5.2 (fun e => ?_), by simp [Value.ownBlock], hsz vw (Or.inr rfl) hb2⟩
    rcases hlb with e1 | e1
    · rw [e1] at hb2; simp at hb2
    · exact e1 (by rw [hb2, e])
/-- a segment is laid to the others -/
theorem RdV.seg (h : RdV B g F s vn vs ve vl vw w) {w' : World} {vs' : Value} {xs : List Value} (hxs : SgC w F s.segs xs) (hc : Chg w w' g vs.ownBlock) (ho : w'.ownsRow B 59 2 vs' (s.segs.length + 1) (xs ++ [str s.tg, ve])) (hvs : w.ownsRow B 59 2 vs s.segs.length xs) (hb : vs'.ownBlock = vs.ownBlock ∨ ∃ k, vs'.ownBlock = some k ∧ w.heap.size ≤ k)
    (hg' : w'.heap[g]? = some (.cells #[nx g .out, vs', str [], .slice none 0 0, vl, vw, .bool false] 125 (0, 0))) : RdV B g (fun b => F b ∨ ve.ownBlock = some b) (endSeg s) (nx g .out) vs' (.slice none 0 0) vl vw w' := by
  obtain ⟨ys, b1, b2⟩ := h.els
  have hlb := own_apart b1 hvs (by decide)
  have hlt : ∀ b, ve.ownBlock = some b → B ≤ b ∧ b < w.heap.size := b1.lt
  have hng := own_not b1 h.hg (by decide)
  have hk : Kp F (fun b => F b ∨ ve.ownBlock = some b) w w' := fun b hb => ⟨Or.inl hb, (h.keep hc (fun b hb => (h.fz b hb).2.2.2.1.symm) b hb).2⟩
  have hel' : w'.ownsRow B 62 1 ve s.els.length ys := own_chg b1 h.hg (by decide) hc hlb
  have hsn : SgC w' (fun b => F b ∨ ve.ownBlock = some b) (s.segs ++ [⟨s.tg, s.els⟩]) (xs ++ [str s.tg, ve]) := SgC.snoc (s := ⟨s.tg, s.els⟩) ⟨ys, row_own hel' (fun b e => Or.inr e), b2.kept hk⟩ (hxs.kept hk)
  refine ⟨h.hB, hg', rfl, ⟨xs ++ [str s.tg, ve], by simpa [endSeg] using ho, hsn⟩, ⟨[], World.ownsRow_nil _ _ _ _, True.intro⟩, own_chg h.el h.hg (by decide) hc (own_apart h.el hvs (by decide)), own_chg h.wd h.hg (by decide) hc (own_apart h.wd hvs (by decide)), h.ow.seg (tg := s.tg) hvs hk (fun b hb => (h.fz b hb).2.2.2.2.1) (fun _ _ a => own_chg a h.hg (by decide) hc (own_apart a hvs (by decide))) ho, fun b hb2 => ?_⟩
  have h6 := hc.size
  have hnvs : ∀ b, (b < w.heap.size) → vs.ownBlock ≠ some b → vs'.ownBlock ≠ some b := by
    intro b hlt hne
    rcases hb with e | ⟨k, e, hk⟩
    · rw [e]; exact hne
    · rw [e]; intro e2; simp only [Option.some.injEq] at e2; omega
  have hno : ∀ {v : Value}, (ve.ownBlock = none ∨ ve.ownBlock ≠ v.ownBlock) → ve.ownBlock = some b → v.ownBlock ≠ some b := by
    intro v hv hb e
    rcases hv with e1 | e1
    · rw [e1] at hb; simp at hb
    · exact e1 (by rw [hb, e])
  rcases hb2 with hb2 | hb2
  · have h5 := h.fz b hb2
    exact ⟨h5.1, by omega, h5.2.2.1, hnvs b h5.2.1 h5.2.2.2.1, by simp [Value.ownBlock], h5.2.2.2.2.2.1, h5.2.2.2.2.2.2⟩
  · have h5 := hlt b hb2
    exact ⟨h5.1, by omega, fun e => hng (by rw [hb2, e]), hnvs b h5.2 (hno hlb hb2), by simp [Value.ownBlock], hno (own_apart b1 h.el (by decide)) hb2, hno (own_apart b1 h.wd (by decide)) hb2⟩
end
theorem below_chg {B g : Nat} {w w' : World} {row : Option Nat} (hc : Chg w w' g row) (hB : B ≤ g) (hr : ∀ k, row = some k → B ≤ k) (h1 : w'.os = w.os) (h2 : w'.tape = w.tape) (h3 : w'.output = w.output) (hs : B ≤ w.heap.size) : Below B w w' :=
  ⟨h1, h2, h3, hc.size, fun k hk => hc.block k (by omega) (by omega) (fun e => by have := hr k e.symm; omega)⟩
theorem cellsByte (l : Tx) (c : UInt8) : Lib.byteCells l ++ [by8 c] = Lib.byteCells (l ++ [c]) := by simp [Lib.byteCells]
set_option maxRecDepth 100000 in
set_option maxHeartbeats 800000 in
theorem takeWord_v {B g : Nat} {F : Nat → Prop} {s : RS} {vn vs ve vl vw : Value} (w : World) (h : RdV B g F s vn vs ve vl vw w) (hBw : B ≤ w.heap.size) :
    Calls Tryz.prog 135 #[.pointer (some ⟨g, 0, none⟩)] w fun e w' => e = .returned (str s.wd) ∧ (∃ vw', RdV B g F { s with wd := [] } vn vs ve vl vw' w') ∧ Below B w w' := by
  have c5 : w.cell? ⟨g, 5, none⟩ = some vw := (h.cell 5).trans rfl
  have f5 := h.frozen 5
  have hcv := run_convW w B vw s.wd h.wd
  have HR := Lib.hid h
  obtain ⟨vw', hsl, how, hbl⟩ : ∃ vw', (∃ p n cap, vw = .slice p n cap ∧ n ≤ cap ∧ vw' = .slice p 0 cap) ∧ w.ownsRow B 5 1 vw' 0 [] ∧ vw'.ownBlock = vw.ownBlock := by
    rcases h.wd.2 with ⟨rfl, h0⟩ | ⟨b, cap, cur, rfl, hb, hh, hn, hm, hs, ht⟩
    · exact ⟨.slice none 0 0, ⟨none, 0, 0, rfl, Nat.le_refl _, rfl⟩, World.ownsRow_nil _ _ _ _, rfl⟩
    · exact ⟨.slice (some ⟨b, 0, none⟩) 0 cap, ⟨_, _, _, rfl, hn, rfl⟩, ⟨rfl, Or.inr ⟨b, cap, cur, rfl, hb, hh, Nat.zero_le _, hm, hs, by simp⟩⟩, rfl⟩
  clear h
  obtain ⟨p, n, cap, rfl, hnc, rfl⟩ := hsl
  go_enter Tryz.func135, Tryz.ntmps135
  go_wp2
  go_ret
  have h := HR.out
  have hc : Chg w (w.setCell ⟨g, 5, none⟩ (.slice p 0 cap)) g (Value.slice p n cap).ownBlock := (Chg.refl w g _).set 5 _
  refine ⟨rfl, ⟨_, h.word (wd' := []) hc (own_chg (g := g) how h.hg (by decide) ((Chg.refl w g none).set 5 _) (Classical.em _)) (Or.inl hbl) (set_heap h.hg 5 _)⟩, below_chg hc h.hB (fun k hk => (h.wd.lt k hk).1) rfl rfl rfl hBw⟩
end Go.Proofs.YtjlifjgljejabaaGreatDoor
