/- Contract of the statements' own: segments in memory of their own. -/
import Derived.Test.YtgaoeljdlpemnaaGreatDoorEdiM
import Derived.Test.YtgaoeljdlpemnaaGreatDoorEdiLt
/- The reader in memory, and what its methods do to it. -/
namespace Go.Proofs.YtgaoeljdlpemnaaGreatDoor
open Go.RowKit Go.Edi

/-- the method that comes next -/
def nx (g : Nat) : Md → Value
  | .out => .func (.func 82) #[.pointer (some ⟨g, 0, none⟩)] #[]
  | .tag => .func (.func 104) #[.pointer (some ⟨g, 0, none⟩)] #[]
  | .beh => .func (.func 132) #[.pointer (some ⟨g, 0, none⟩)] #[]
  | .cmp => .func (.func 161) #[.pointer (some ⟨g, 0, none⟩)] #[]
  | .mrk => .func (.func 171) #[.pointer (some ⟨g, 0, none⟩)] #[]
/-- what stands in memory of one's own, each row in a block of its own: `φ b` names the row that lies in the block -/
def EO (w : World) (B : Nat) (F : Nat → Prop) (φ : Nat → Nat × Nat) (i : Nat) (els : List (List Tx)) (ys : List Value) : Prop :=
  ys.length = els.length ∧ ∀ k (hk : k < els.length), ∃ v, ys[k]? = some v ∧ w.ownsRow B 9 1 v (els[k]'hk).length ((els[k]'hk).map str) ∧ ∀ b, v.ownBlock = some b → F b ∧ φ b = (i, k + 1)
def SO (w : World) (B : Nat) (F : Nat → Prop) (φ : Nat → Nat × Nat) (sl : List Sg) (xs : List Value) : Prop :=
  xs.length = sl.length * 2 ∧ ∀ i (hi : i < sl.length), ∃ v ys, xs[2 * i + 1]? = some v ∧ w.ownsRow B 129 1 v (sl[i]'hi).els.length ys ∧ (∀ b, v.ownBlock = some b → F b ∧ φ b = (i, 0)) ∧ EO w B F φ i (sl[i]'hi).els ys
def OwR (w : World) (B : Nat) (F : Nat → Prop) (vs ve : Value) (segs : List Sg) (els : List (List Tx)) : Prop :=
  ∃ φ xs ys, w.ownsRow B 112 2 vs segs.length xs ∧ SO w B F φ segs xs ∧ w.ownsRow B 129 1 ve els.length ys ∧ EO w B F φ segs.length els ys
theorem own_keep {w w' : World} {B : Nat} {e : TypeId} {size n : Nat} {v : Value} {xs : List Value} (h : w.ownsRow B e size v n xs) (hk : ∀ b, v.ownBlock = some b → w'.heap[b]? = w.heap[b]?) : w'.ownsRow B e size v n xs := by
  obtain ⟨h1, h2⟩ := h
  refine ⟨h1, h2.imp id ?_⟩
  rintro ⟨b, cap, cur, rfl, e2, e3, e4⟩
  exact ⟨b, cap, cur, rfl, e2, (hk b rfl).trans e3, e4⟩
theorem own_eq {w : World} {B B' : Nat} {e : TypeId} {size n : Nat} {v : Value} {xs xs' : List Value} (h : w.ownsRow B e size v n xs) (h' : w.ownsRow B' e size v n xs') : xs = xs' := by
  obtain ⟨h1, ⟨rfl, rfl⟩ | ⟨b, cap, cur, rfl, e2, e3, _, _, _, e7⟩⟩ := h
  · have := h'.1
    rw [Nat.zero_mul] at h1 this
    rw [List.eq_nil_of_length_eq_zero h1, List.eq_nil_of_length_eq_zero this]
  · obtain ⟨_, ⟨h, _⟩ | ⟨b', cap', cur', h, f2, f3, _, _, _, f7⟩⟩ := h'
    · simp at h
    · simp only [Value.slice.injEq, Option.some.injEq, Addr.mk.injEq, and_true, true_and] at h
      obtain ⟨rfl, rfl⟩ := h
      rw [e3] at f3
      simp only [Option.some.injEq, Obj.cells.injEq, and_true] at f3
      rw [← e7, ← f7, f3]
theorem EO.kept {w w' : World} {B i : Nat} {F F' : Nat → Prop} {φ φ' : Nat → Nat × Nat} {els : List (List Tx)} {ys : List Value} (h : EO w B F φ i els ys) (hk : Kp F F' w w') (hφ : ∀ b, F b → φ' b = φ b) : EO w' B F' φ' i els ys := by
  refine ⟨h.1, fun k hk2 => ?_⟩
  obtain ⟨v, h1, h2, h3⟩ := h.2 k hk2
  exact ⟨v, h1, own_keep h2 (fun b hb => (hk b (h3 b hb).1).2), fun b hb => ⟨(hk b (h3 b hb).1).1, (hφ b (h3 b hb).1).trans (h3 b hb).2⟩⟩
theorem EO.snoc {w : World} {B i : Nat} {F : Nat → Prop} {φ : Nat → Nat × Nat} {els : List (List Tx)} {ys : List Value} {e : List Tx} {v : Value} (h : EO w B F φ i els ys) (hv : w.ownsRow B 9 1 v e.length (e.map str)) (hb : ∀ b, v.ownBlock = some b → F b ∧ φ b = (i, els.length + 1)) : EO w B F φ i (els ++ [e]) (ys ++ [v]) := by
  refine ⟨by simp [h.1], fun k hk => ?_⟩
  by_cases hl : k < els.length
  · obtain ⟨u, h1, h2, h3⟩ := h.2 k hl
    refine ⟨u, by rw [List.getElem?_append_left (by rw [h.1]; exact hl)]; exact h1, ?_, h3⟩
    rw [List.getElem_append_left hl]; exact h2
  · have hkl : k = els.length := by simp at hk; omega
    subst hkl
    refine ⟨v, by rw [← h.1]; simp, ?_, hb⟩
    rw [List.getElem_append_right (Nat.le_refl _)]
    simpa using hv
theorem SO.kept {w w' : World} {B : Nat} {F F' : Nat → Prop} {φ φ' : Nat → Nat × Nat} {sl : List Sg} {xs : List Value} (h : SO w B F φ sl xs) (hk : Kp F F' w w') (hφ : ∀ b, F b → φ' b = φ b) : SO w' B F' φ' sl xs := by
  refine ⟨h.1, fun k hk2 => ?_⟩
  obtain ⟨v, ys, h1, h2, h3, h4⟩ := h.2 k hk2
  exact ⟨v, ys, h1, own_keep h2 (fun b hb => (hk b (h3 b hb).1).2), fun b hb => ⟨(hk b (h3 b hb).1).1, (hφ b (h3 b hb).1).trans (h3 b hb).2⟩, h4.kept hk hφ⟩
theorem SO.snoc {w : World} {B : Nat} {F : Nat → Prop} {φ : Nat → Nat × Nat} {sl : List Sg} {xs ys : List Value} {s : Sg} {a v : Value} (h : SO w B F φ sl xs) (hv : w.ownsRow B 129 1 v s.els.length ys) (hb : ∀ b, v.ownBlock = some b → F b ∧ φ b = (sl.length, 0)) (he : EO w B F φ sl.length s.els ys) : SO w B F φ (sl ++ [s]) (xs ++ [a, v]) := by
  refine ⟨by simp [h.1]; omega, fun k hk => ?_⟩
  by_cases hl : k < sl.length
  · obtain ⟨u, zs, h1, h2, h3, h4⟩ := h.2 k hl
    refine ⟨u, zs, by rw [List.getElem?_append_left (by rw [h.1]; omega)]; exact h1, ?_, h3, ?_⟩
    · rw [List.getElem_append_left hl]; exact h2
    · rw [List.getElem_append_left hl]; exact h4
  · have hkl : k = sl.length := by simp at hk; omega
    subst hkl
    refine ⟨v, ys, ?_, ?_, hb, ?_⟩
    · rw [List.getElem?_append_right (by rw [h.1]; omega), h.1, show 2 * sl.length + 1 - sl.length * 2 = 1 by omega]; rfl
    · rw [List.getElem_append_right (Nat.le_refl _)]; simpa using hv
    · rw [List.getElem_append_right (Nat.le_refl _)]; simpa using he
theorem OwR.to {w w' : World} {B : Nat} {F F' : Nat → Prop} {vs ve : Value} {segs : List Sg} {els : List (List Tx)} (h : OwR w B F vs ve segs els) (hk : Kp F F' w w') (hs : ∀ n xs, w.ownsRow B 112 2 vs n xs → w'.ownsRow B 112 2 vs n xs) (he : ∀ n ys, w.ownsRow B 129 1 ve n ys → w'.ownsRow B 129 1 ve n ys) : OwR w' B F' vs ve segs els := by
  obtain ⟨φ, xs, ys, h1, h2, h3, h4⟩ := h
  exact ⟨φ, xs, ys, hs _ _ h1, h2.kept hk (fun _ _ => rfl), he _ _ h3, h4.kept hk (fun _ _ => rfl)⟩
open Classical in
/-- an element is laid to the others -/
theorem OwR.elems {w w' : World} {B : Nat} {F : Nat → Prop} {vs ve ve' vl : Value} {segs : List Sg} {els : List (List Tx)} {el : List Tx} {ys : List Value} (h : OwR w B F vs ve segs els) (hve : w.ownsRow B 129 1 ve els.length ys) (hk : Kp F (fun b => F b ∨ vl.ownBlock = some b) w w') (hF : ∀ b, F b → vl.ownBlock ≠ some b) (hs : ∀ n xs, w.ownsRow B 112 2 vs n xs → w'.ownsRow B 112 2 vs n xs)
    (hl : w'.ownsRow B 9 1 vl el.length (el.map str)) (ho : w'.ownsRow B 129 1 ve' (els.length + 1) (ys ++ [vl])) : OwR w' B (fun b => F b ∨ vl.ownBlock = some b) vs ve' segs (els ++ [el]) := by
  obtain ⟨φ, xs, ys', h1, h2, h3, h4⟩ := h
  obtain rfl := own_eq hve h3
  have hφ : ∀ b, F b → (fun b => if vl.ownBlock = some b then (segs.length, els.length + 1) else φ b) b = φ b := fun b hb => if_neg (hF b hb)
  refine ⟨fun b => if vl.ownBlock = some b then (segs.length, els.length + 1) else φ b, xs, ys ++ [vl], hs _ _ h1, h2.kept hk hφ, by simpa using ho, (h4.kept hk hφ).snoc hl (fun b hb => ⟨Or.inr hb, ?_⟩)⟩
  exact if_pos hb
open Classical in
/-- a segment is laid to the others -/
theorem OwR.seg {w w' : World} {B : Nat} {F : Nat → Prop} {vs vs' ve : Value} {segs : List Sg} {tg : Tx} {els : List (List Tx)} {xs : List Value} {a : Value} (h : OwR w B F vs ve segs els) (hvs : w.ownsRow B 112 2 vs segs.length xs) (hk : Kp F (fun b => F b ∨ ve.ownBlock = some b) w w') (hF : ∀ b, F b → ve.ownBlock ≠ some b) (he : ∀ n ys, w.ownsRow B 129 1 ve n ys → w'.ownsRow B 129 1 ve n ys)
    (ho : w'.ownsRow B 112 2 vs' (segs.length + 1) (xs ++ [a, ve])) : OwR w' B (fun b => F b ∨ ve.ownBlock = some b) vs' (.slice none 0 0) (segs ++ [⟨tg, els⟩]) [] := by
  obtain ⟨φ, xs', ys, h1, h2, h3, h4⟩ := h
  obtain rfl := own_eq hvs h1
  have hφ : ∀ b, F b → (fun b => if ve.ownBlock = some b then (segs.length, 0) else φ b) b = φ b := fun b hb => if_neg (hF b hb)
  refine ⟨fun b => if ve.ownBlock = some b then (segs.length, 0) else φ b, xs ++ [a, ve], [], by simpa using ho, (h2.kept hk hφ).snoc (s := ⟨tg, els⟩) (he _ _ h3) (fun b hb => ⟨Or.inr hb, ?_⟩) (h4.kept hk hφ), World.ownsRow_nil _ _ _ _, rfl, fun k hk => by simp at hk⟩
  exact if_pos hb
structure RdV (B g : Nat) (F : Nat → Prop) (s : RS) (vn vs ve vl vw : Value) (w : World) : Prop where
  hB : B ≤ g
  hg : w.heap[g]? = some (.cells #[vn, vs, str s.tg, ve, vl, vw, .bool s.wi] 131 (0, 0))
  vn : vn = nx g s.md
  segs : ∃ xs, w.ownsRow B 112 2 vs s.segs.length xs ∧ SgC w F s.segs xs
  els : ∃ ys, w.ownsRow B 129 1 ve s.els.length ys ∧ ElC w F s.els ys
  el : w.ownsRow B 9 1 vl s.el.length (s.el.map str)
  wd : w.ownsRow B 5 1 vw s.wd.length (Lib.byteCells s.wd)
  ow : OwR w B F vs ve s.segs s.els
  fz : ∀ b, F b → B ≤ b ∧ b < w.heap.size ∧ b ≠ g ∧ vs.ownBlock ≠ some b ∧ ve.ownBlock ≠ some b ∧ vl.ownBlock ≠ some b ∧ vw.ownBlock ≠ some b
def RdAt (B g : Nat) (s : RS) (w : World) : Prop := ∃ F vn vs ve vl vw, RdV B g F s vn vs ve vl vw w
def Bd (s : RS) : Prop := s.wd.length ≤ 1000 ∧ s.el.length ≤ 1000 ∧ s.els.length ≤ 1000 ∧ s.segs.length ≤ 1000
section
variable {B g : Nat} {F : Nat → Prop} {s : RS} {vn vs ve vl vw : Value} {w : World}
theorem RdV.lt (h : RdV B g F s vn vs ve vl vw w) : g < w.heap.size := lt_of_heap h.hg
theorem RdV.cell (h : RdV B g F s vn vs ve vl vw w) (j : Nat) : w.cell? ⟨g, j, none⟩ = #[vn, vs, str s.tg, ve, vl, vw, .bool s.wi][j]? := by simp [World.cell?, h.hg]
theorem RdV.frozen (h : RdV B g F s vn vs ve vl vw w) (j : Nat) : w.frozen? ⟨g, j, none⟩ = false := by simp [World.frozen?, h.hg]
theorem RdV.keep (h : RdV B g F s vn vs ve vl vw w) {w' : World} {row : Option Nat} (hc : Chg w w' g row) (hr : ∀ b, F b → some b ≠ row) : Kp F F w w' :=
  fun b hb => ⟨hb, hc.block b (h.fz b hb).2.1 (h.fz b hb).2.2.1 (hr b hb)⟩
theorem RdV.to (h : RdV B g F s vn vs ve vl vw w) {w' : World} {s' : RS} {vn' : Value} (hc : Chg w w' g none) (hg' : w'.heap[g]? = some (.cells #[vn', vs, str s'.tg, ve, vl, vw, .bool s'.wi] 131 (0, 0))) (hvn : vn' = nx g s'.md)
    (h1 : s'.segs = s.segs) (h2 : s'.els = s.els) (h3 : s'.el = s.el) (h4 : s'.wd = s.wd) : RdV B g F s' vn' vs ve vl vw w' := by
  have hk := h.keep hc (fun _ _ => by simp)
  have hn : ∀ v : Value, v.ownBlock = none ∨ v.ownBlock ≠ none := fun v => Classical.em _
  obtain ⟨xs, a1, a2⟩ := h.segs
  obtain ⟨ys, b1, b2⟩ := h.els
  have how : OwR w' B F vs ve s'.segs s'.els := by
    rw [h1, h2]
    exact h.ow.to hk (fun _ _ a => own_chg a h.hg (by decide) hc (hn _)) (fun _ _ a => own_chg a h.hg (by decide) hc (hn _))
  refine ⟨h.hB, hg', hvn, ⟨xs, ?_, ?_⟩, ⟨ys, ?_, ?_⟩, ?_, ?_, how, fun b hb => ?_⟩
  · rw [h1]; exact own_chg a1 h.hg (by decide) hc (hn _)
  · rw [h1]; exact a2.kept hk
  · rw [h2]; exact own_chg b1 h.hg (by decide) hc (hn _)
  · rw [h2]; exact b2.kept hk
  · rw [h3]; exact own_chg h.el h.hg (by decide) hc (hn _)
  · rw [h4]; exact own_chg h.wd h.hg (by decide) hc (hn _)
  · have := h.fz b hb; have := hc.size; exact ⟨by omega, by omega, by omega, (h.fz b hb).2.2.2⟩
/-- another word -/
theorem RdV.word (h : RdV B g F s vn vs ve vl vw w) {w' : World} {vw' : Value} {wd' : Tx} (hc : Chg w w' g vw.ownBlock) (ho : w'.ownsRow B 5 1 vw' wd'.length (Lib.byteCells wd')) (hb : vw'.ownBlock = vw.ownBlock ∨ ∃ k, vw'.ownBlock = some k ∧ w.heap.size ≤ k)
    (hg' : w'.heap[g]? = some (.cells #[vn, vs, str s.tg, ve, vl, vw', .bool s.wi] 131 (0, 0))) : RdV B g F { s with wd := wd' } vn vs ve vl vw' w' := by
  have hk := h.keep hc (fun b hb => (h.fz b hb).2.2.2.2.2.2.symm)
  obtain ⟨xs, a1, a2⟩ := h.segs
  obtain ⟨ys, b1, b2⟩ := h.els
  refine ⟨h.hB, hg', h.vn, ⟨xs, own_chg a1 h.hg (by decide) hc (own_apart a1 h.wd (by decide)), a2.kept hk⟩, ⟨ys, own_chg b1 h.hg (by decide) hc (own_apart b1 h.wd (by decide)), b2.kept hk⟩, own_chg h.el h.hg (by decide) hc (own_apart h.el h.wd (by decide)), ho, h.ow.to hk (fun _ _ a => own_chg a h.hg (by decide) hc (own_apart a h.wd (by decide))) (fun _ _ a => own_chg a h.hg (by decide) hc (own_apart a h.wd (by decide))), fun b hb2 => ?_⟩
  have h5 := h.fz b hb2
  have h6 := hc.size
  refine ⟨h5.1, by omega, h5.2.2.1, h5.2.2.2.1, h5.2.2.2.2.1, h5.2.2.2.2.2.1, ?_⟩
  rcases hb with e | ⟨k, e, hk⟩
  · rw [e]; exact h5.2.2.2.2.2.2
  · rw [e]; intro e2; simp only [Option.some.injEq] at e2; omega
/-- another element -/
theorem RdV.elem (h : RdV B g F s vn vs ve vl vw w) {w' : World} {vl' : Value} {el' : List Tx} (hc : Chg w w' g vl.ownBlock) (ho : w'.ownsRow B 9 1 vl' el'.length (el'.map str)) (hb : vl'.ownBlock = vl.ownBlock ∨ ∃ k, vl'.ownBlock = some k ∧ w.heap.size ≤ k)
    (hg' : w'.heap[g]? = some (.cells #[vn, vs, str s.tg, ve, vl', vw, .bool s.wi] 131 (0, 0))) : RdV B g F { s with el := el' } vn vs ve vl' vw w' := by
  have hk := h.keep hc (fun b hb => (h.fz b hb).2.2.2.2.2.1.symm)
  obtain ⟨xs, a1, a2⟩ := h.segs
  obtain ⟨ys, b1, b2⟩ := h.els
  refine ⟨h.hB, hg', h.vn, ⟨xs, own_chg a1 h.hg (by decide) hc (own_apart a1 h.el (by decide)), a2.kept hk⟩, ⟨ys, own_chg b1 h.hg (by decide) hc (own_apart b1 h.el (by decide)), b2.kept hk⟩, ho, own_chg h.wd h.hg (by decide) hc (own_apart h.wd h.el (by decide)), h.ow.to hk (fun _ _ a => own_chg a h.hg (by decide) hc (own_apart a h.el (by decide))) (fun _ _ a => own_chg a h.hg (by decide) hc (own_apart a h.el (by decide))), fun b hb2 => ?_⟩
  have h5 := h.fz b hb2
  have h6 := hc.size
  refine ⟨h5.1, by omega, h5.2.2.1, h5.2.2.2.1, h5.2.2.2.2.1, ?_, h5.2.2.2.2.2.2⟩
  rcases hb with e | ⟨k, e, hk⟩
  · rw [e]; exact h5.2.2.2.2.2.1
  · rw [e]; intro e2; simp only [Option.some.injEq] at e2; omega
/-- an element is laid to the others -/
theorem RdV.elems (h : RdV B g F s vn vs ve vl vw w) {w' : World} {ve' : Value} {ys : List Value} (hys : ElC w F s.els ys) (hc : Chg w w' g ve.ownBlock) (ho : w'.ownsRow B 129 1 ve' (s.els.length + 1) (ys ++ [vl])) (hve : w.ownsRow B 129 1 ve s.els.length ys) (hb : ve'.ownBlock = ve.ownBlock ∨ ∃ k, ve'.ownBlock = some k ∧ w.heap.size ≤ k)
    (hg' : w'.heap[g]? = some (.cells #[vn, vs, str s.tg, ve', .slice none 0 0, vw, .bool s.wi] 131 (0, 0))) : RdV B g (fun b => F b ∨ vl.ownBlock = some b) { s with els := s.els ++ [s.el], el := [] } vn vs ve' (.slice none 0 0) vw w' := by
  have hlb := own_apart h.el hve (by decide)
  have hlt : ∀ b, vl.ownBlock = some b → B ≤ b ∧ b < w.heap.size := h.el.lt
  have hng := own_not h.el h.hg (by decide)
  have hk : Kp F (fun b => F b ∨ vl.ownBlock = some b) w w' := fun b hb => ⟨Or.inl hb, (h.keep hc (fun b hb => (h.fz b hb).2.2.2.2.1.symm) b hb).2⟩
  have hel' : w'.ownsRow B 9 1 vl s.el.length (s.el.map str) := own_chg h.el h.hg (by decide) hc hlb
  obtain ⟨xs, a1, a2⟩ := h.segs
  refine ⟨h.hB, hg', h.vn, ⟨xs, own_chg a1 h.hg (by decide) hc (own_apart a1 hve (by decide)), a2.kept hk⟩, ⟨ys ++ [vl], by simpa using ho, ElC.snoc (row_own hel' (fun b e => Or.inr e)) (hys.kept hk)⟩, World.ownsRow_nil _ _ _ _, own_chg h.wd h.hg (by decide) hc (own_apart h.wd hve (by decide)), h.ow.elems hve hk (fun b hb => (h.fz b hb).2.2.2.2.2.1) (fun _ _ a => own_chg a h.hg (by decide) hc (own_apart a hve (by decide))) hel' ho, fun b hb2 => ?_⟩
  have h6 := hc.size
  have hsz : ∀ v : Value, v.ownBlock = vs.ownBlock ∨ v.ownBlock = vw.ownBlock → vl.ownBlock = some b → v.ownBlock ≠ some b := by
    intro v hv hb e
    rcases hv with hv | hv
    · rcases own_apart h.el a1 (by decide) with e1 | e1
      · rw [e1] at hb; simp at hb
      · exact e1 (by rw [hb, ← hv, e])
    · rcases own_apart h.el h.wd (by decide) with e1 | e1
      · rw [e1] at hb; simp at hb
      · exact e1 (by rw [hb, ← hv, e])
  have hnve : ∀ b, (b < w.heap.size) → ve.ownBlock ≠ some b → ve'.ownBlock ≠ some b := by
    intro b hlt hne
    rcases hb with e | ⟨k, e, hk⟩
    · rw [e]; exact hne
    · rw [e]; intro e2; simp only [Option.some.injEq] at e2; omega
  rcases hb2 with hb2 | hb2
  · have h5 := h.fz b hb2
    exact ⟨h5.1, by omega, h5.2.2.1, h5.2.2.2.1, hnve b h5.2.1 h5.2.2.2.2.1, by simp [Value.ownBlock], h5.2.2.2.2.2.2⟩
  · have h5 := hlt b hb2
    refine ⟨h5.1, by omega, fun e => hng (by rw [hb2, e]), hsz vs (Or.inl rfl) hb2, hnve b h5.2 (fun e => ?_), by simp [Value.ownBlock], hsz vw (Or.inr rfl) hb2⟩
    rcases hlb with e1 | e1
    · rw [e1] at hb2; simp at hb2
    · exact e1 (by rw [hb2, e])
/-- a segment is laid to the others -/
theorem RdV.seg (h : RdV B g F s vn vs ve vl vw w) {w' : World} {vs' : Value} {xs : List Value} (hxs : SgC w F s.segs xs) (hc : Chg w w' g vs.ownBlock) (ho : w'.ownsRow B 112 2 vs' (s.segs.length + 1) (xs ++ [str s.tg, ve])) (hvs : w.ownsRow B 112 2 vs s.segs.length xs) (hb : vs'.ownBlock = vs.ownBlock ∨ ∃ k, vs'.ownBlock = some k ∧ w.heap.size ≤ k)
    (hg' : w'.heap[g]? = some (.cells #[nx g .out, vs', str [], .slice none 0 0, vl, vw, .bool false] 131 (0, 0))) : RdV B g (fun b => F b ∨ ve.ownBlock = some b) (endSeg s) (nx g .out) vs' (.slice none 0 0) vl vw w' := by
  obtain ⟨ys, b1, b2⟩ := h.els
  have hlb := own_apart b1 hvs (by decide)
  have hlt : ∀ b, ve.ownBlock = some b → B ≤ b ∧ b < w.heap.size := b1.lt
  have hng := own_not b1 h.hg (by decide)
  have hk : Kp F (fun b => F b ∨ ve.ownBlock = some b) w w' := fun b hb => ⟨Or.inl hb, (h.keep hc (fun b hb => (h.fz b hb).2.2.2.1.symm) b hb).2⟩
  have hel' : w'.ownsRow B 129 1 ve s.els.length ys := own_chg b1 h.hg (by decide) hc hlb
  have hsn : SgC w' (fun b => F b ∨ ve.ownBlock = some b) (s.segs ++ [⟨s.tg, s.els⟩]) (xs ++ [str s.tg, ve]) := SgC.snoc (s := ⟨s.tg, s.els⟩) ⟨ys, row_own hel' (fun b e => Or.inr e), b2.kept hk⟩ (hxs.kept hk)
  refine ⟨h.hB, hg', rfl, ⟨xs ++ [str s.tg, ve], by simpa [endSeg] using ho, hsn⟩, ⟨[], World.ownsRow_nil _ _ _ _, True.intro⟩, own_chg h.el h.hg (by decide) hc (own_apart h.el hvs (by decide)), own_chg h.wd h.hg (by decide) hc (own_apart h.wd hvs (by decide)), h.ow.seg (tg := s.tg) hvs hk (fun b hb => (h.fz b hb).2.2.2.2.1) (fun _ _ a => own_chg a h.hg (by decide) hc (own_apart a hvs (by decide))) ho, fun b hb2 => ?_⟩
  have h6 := hc.size
  have hnvs : ∀ b, (b < w.heap.size) → vs.ownBlock ≠ some b → vs'.ownBlock ≠ some b := by
    intro b hlt hne
    rcases hb with e | ⟨k, e, hk⟩
    · rw [e]; exact hne
    · rw [e]; intro e2; simp only [Option.some.injEq] at e2; omega
  have hno : ∀ {v : Value}, (ve.ownBlock = none ∨ ve.ownBlock ≠ v.ownBlock) → ve.ownBlock = some b → v.ownBlock ≠ some b := by
    intro v hv hb e
    rcases hv with e1 | e1
    · rw [e1] at hb; simp at hb
    · exact e1 (by rw [hb, e])
  rcases hb2 with hb2 | hb2
  · have h5 := h.fz b hb2
    exact ⟨h5.1, by omega, h5.2.2.1, hnvs b h5.2.1 h5.2.2.2.1, by simp [Value.ownBlock], h5.2.2.2.2.2.1, h5.2.2.2.2.2.2⟩
  · have h5 := hlt b hb2
    exact ⟨h5.1, by omega, fun e => hng (by rw [hb2, e]), hnvs b h5.2 (hno hlb hb2), by simp [Value.ownBlock], hno (own_apart b1 h.el (by decide)) hb2, hno (own_apart b1 h.wd (by decide)) hb2⟩
end
theorem below_chg {B g : Nat} {w w' : World} {row : Option Nat} (hc : Chg w w' g row) (hB : B ≤ g) (hr : ∀ k, row = some k → B ≤ k) (h1 : w'.os = w.os) (h2 : w'.tape = w.tape) (h3 : w'.output = w.output) (hs : B ≤ w.heap.size) : Below B w w' :=
  ⟨h1, h2, h3, hc.size, fun k hk => hc.block k (by omega) (by omega) (fun e => by have := hr k e.symm; omega)⟩
theorem cellsByte (l : Tx) (c : UInt8) : Lib.byteCells l ++ [by8 c] = Lib.byteCells (l ++ [c]) := by simp [Lib.byteCells]
set_option maxRecDepth 100000 in
set_option maxHeartbeats 800000 in
theorem takeWord_v {B g : Nat} {F : Nat → Prop} {s : RS} {vn vs ve vl vw : Value} (w : World) (h : RdV B g F s vn vs ve vl vw w) (hBw : B ≤ w.heap.size) :
    Calls Tryz.prog 131 #[.pointer (some ⟨g, 0, none⟩)] w fun e w' => e = .returned (str s.wd) ∧ (∃ vw', RdV B g F { s with wd := [] } vn vs ve vl vw' w') ∧ Below B w w' := by
  have c5 : w.cell? ⟨g, 5, none⟩ = some vw := (h.cell 5).trans rfl
  have f5 := h.frozen 5
  have hcv := run_convW w B vw s.wd h.wd
  have HR := Lib.hid h
  obtain ⟨vw', hsl, how, hbl⟩ : ∃ vw', (∃ p n cap, vw = .slice p n cap ∧ n ≤ cap ∧ vw' = .slice p 0 cap) ∧ w.ownsRow B 5 1 vw' 0 [] ∧ vw'.ownBlock = vw.ownBlock := by
    rcases h.wd.2 with ⟨rfl, h0⟩ | ⟨b, cap, cur, rfl, hb, hh, hn, hm, hs, ht⟩
    · exact ⟨.slice none 0 0, ⟨none, 0, 0, rfl, Nat.le_refl _, rfl⟩, World.ownsRow_nil _ _ _ _, rfl⟩
    · exact ⟨.slice (some ⟨b, 0, none⟩) 0 cap, ⟨_, _, _, rfl, hn, rfl⟩, ⟨rfl, Or.inr ⟨b, cap, cur, rfl, hb, hh, Nat.zero_le _, hm, hs, by simp⟩⟩, rfl⟩
  clear h
  obtain ⟨p, n, cap, rfl, hnc, rfl⟩ := hsl
  go_enter Tryz.func131, Tryz.ntmps131
  go_wp2
  go_ret
  have h := HR.out
  have hc : Chg w (w.setCell ⟨g, 5, none⟩ (.slice p 0 cap)) g (Value.slice p n cap).ownBlock := (Chg.refl w g _).set 5 _
  refine ⟨rfl, ⟨_, h.word (wd' := []) hc (own_chg (g := g) how h.hg (by decide) ((Chg.refl w g none).set 5 _) (Classical.em _)) (Or.inl hbl) (set_heap h.hg 5 _)⟩, below_chg hc h.hB (fun k hk => (h.wd.lt k hk).1) rfl rfl rfl hBw⟩
end Go.Proofs.YtgaoeljdlpemnaaGreatDoor
/- The reader's methods that take one byte of a word, or begin an element. -/
namespace Go.Proofs.YtgaoeljdlpemnaaGreatDoor
open Go.RowKit Go.Edi

/-- what a method of the reader does -/
def Does (B g : Nat) (f : Nat) (args : Array Value) (w : World) (r : Nat × RS) : Prop :=
  Calls Tryz.prog f args w fun e w' => e = .returned (.int .i64 (r.1 : Nat)) ∧ RdAt B g r.2 w' ∧ Below B w w'
theorem ret_i64 {a b : Int} (h : a = b) : Ending.returned (.int .i64 a) = .returned (.int .i64 b) := by rw [h]
theorem at_last (w : World) (o : Obj) : (w.alloc o).heap[w.heap.size]? = some o := by
  show (w.heap.push o)[w.heap.size]? = some o
  simp
theorem grown_alloc_owner {w w' : World} {g : Nat} {row : Option Nat} (o : Obj) (h : (w.alloc o).grownBy w' row) : Chg w w' g row := ((Chg.refl w g row).alloc o).grown h
set_option maxRecDepth 100000 in
set_option maxHeartbeats 800000 in
theorem add_v {B g : Nat} {F : Nat → Prop} {s : RS} {vn vs ve vl vw : Value} (c : UInt8) (w : World) (h : RdV B g F s vn vs ve vl vw w) (hBw : B ≤ w.heap.size) (hbd : s.wd.length ≤ 1000) :
    Does B g 172 #[.pointer (some ⟨g, 0, none⟩), by8 c] w (add s c) := by
  unfold Does
  have c5 : w.cell? ⟨g, 5, none⟩ = some vw := (h.cell 5).trans rfl
  have HR := Lib.hid h
  have HW := Lib.hid hbd
  have HBw := Lib.hid hBw
  obtain ⟨p, cap, rfl⟩ := own_slice h.wd
  clear h hbd hBw
  by_cases h256 : (s.wd.length : Int) = 256
  · have hp : add s c = (2, s) := by unfold add; rw [if_pos (by omega)]
    rw [hp]
    go_enter Tryz.func172, Tryz.ntmps172
    go_wp2
    go_ret
    exact ⟨rfl, ⟨F, _, _, _, _, _, HR.out⟩, Below.refl _ _⟩
  · by_cases hpl : pln c = true
    · have hp : add s c = (0, { s with wd := s.wd ++ [c] }) := by unfold add; rw [if_neg (by omega), if_pos hpl]
      rw [hp]
      have hq := isPlain_any c
      rw [hpl] at hq
      go_enter Tryz.func172, Tryz.ntmps172
      go_wp2_with (first
        | (go_at_call 99; refine (hq _).mono ?_; rintro e w' ⟨rfl, rfl⟩)
        | (at_builtin; refine wl_app1 39 5 (.int .u8 0) 1 1 par_u8 Tryz.underlying39 rfl (by decide) (by decide) B (.slice p s.wd.length cap) s.wd.length (Lib.byteCells s.wd) rfl (HR.out.wd.alloc _) w.heap.size 1 [by8 c] 5 (0, 0) rfl rfl (at_last _ _) (by intro u hu; simp at hu; subst hu; rfl) (by have := HW.out; omega) (by have := HBw.out; simp; omega) ?_))
      intro v' w2 ho hgr hbl
      obtain ⟨p', cap', rfl⟩ := own_slice ho
      have h := HR.out
      have hc : Chg w w2 g (Value.slice p s.wd.length cap).ownBlock := grown_alloc_owner _ hgr
      have hng := own_not h.wd h.hg (by decide)
      have hg2 : w2.heap[g]? = some (.cells #[vn, vs, str s.tg, ve, vl, .slice p s.wd.length cap, .bool s.wi] 131 (0, 0)) := by
        rw [hgr.block g (by have := h.lt; simp; omega) hng, Below.heap_alloc _ _ _ h.lt]; exact h.hg
      have HO := Lib.hid ho; clear ho
      have HG := Lib.hid hgr; clear hgr
      have HC := Lib.hid hc; clear hc
      have HBL := Lib.hid hbl; clear hbl
      have c5' : w2.cell? ⟨g, 5, none⟩ = some (.slice p s.wd.length cap) := by simp [World.cell?, hg2]
      have f5' : w2.frozen? ⟨g, 5, none⟩ = false := by simp [World.frozen?, hg2]
      have HG2 := Lib.hid hg2; clear hg2
      clear h
      go_wp2
      go_ret
      have h := HR.out
      refine ⟨rfl, ⟨F, _, _, _, _, _, h.word (wd' := s.wd ++ [c]) (HC.out.set 5 _) ?_ ?_ (set_heap HG2.out 5 _)⟩, below_chg (HC.out.set 5 _) h.hB (fun k hk => (h.wd.lt k hk).1) HG.out.os HG.out.tape HG.out.output HBw.out⟩
      · rw [← cellsByte, List.length_append]
        exact own_chg (g := g) HO.out HG2.out (by decide) ((Chg.refl w2 g none).set 5 _) (Classical.em _)
      · rcases HBL.out with e | e
        · exact Or.inl e
        · exact Or.inr ⟨_, e, by simp⟩
    · have hp : add s c = (30, s) := by unfold add; rw [if_neg (by omega), if_neg hpl]
      rw [hp]
      have hq := isPlain_any c
      rw [show pln c = false by simpa using hpl] at hq
      go_enter Tryz.func172, Tryz.ntmps172
      go_wp2_with (go_at_call 99; refine (hq _).mono ?_; rintro e w' ⟨rfl, rfl⟩)
      go_ret
      exact ⟨rfl, ⟨F, _, _, _, _, _, HR.out⟩, Below.refl _ _⟩
set_option maxRecDepth 100000 in
set_option maxHeartbeats 800000 in
theorem beginElem_v {B g : Nat} {F : Nat → Prop} {s : RS} {vn vs ve vl vw : Value} (w : World) (h : RdV B g F s vn vs ve vl vw w) (hBw : B ≤ w.heap.size) :
    Does B g 150 #[.pointer (some ⟨g, 0, none⟩)] w (beginElem s) := by
  unfold Does
  have hmf : ∀ (fn : Fn) (first cap : Array Value) (w : World), (Instr.makeFunc fn first cap).run Tryz.prog w = .ok (.func fn first cap) w := fun _ _ _ _ => rfl
  have HR := Lib.hid h
  have HBw := Lib.hid hBw
  obtain ⟨ys, hve, _⟩ := h.els
  obtain ⟨p, cap, rfl⟩ := own_slice hve
  have c3 : w.cell? ⟨g, 3, none⟩ = some (.slice p s.els.length cap) := (h.cell 3).trans rfl
  have c0 : w.cell? ⟨g, 0, none⟩ = some vn := (h.cell 0).trans rfl
  have f0 := h.frozen 0
  clear h hBw hve
  by_cases h16 : (s.els.length : Int) = 16
  · have hp : beginElem s = (2, s) := by unfold beginElem; rw [if_pos (by omega)]
    rw [hp]
    go_enter Tryz.func150, Tryz.ntmps150
    go_wp2
    go_ret
    exact ⟨rfl, ⟨F, _, _, _, _, _, HR.out⟩, Below.refl _ _⟩
  · have hp : beginElem s = (0, { s with md := .cmp }) := by unfold beginElem; rw [if_neg (by omega)]
    rw [hp]
    go_enter Tryz.func150, Tryz.ntmps150
    go_wp2
    go_ret
    have h := HR.out
    have hc := (Chg.refl w g none).set 0 (nx g .cmp)
    exact ⟨rfl, ⟨F, nx g .cmp, _, _, _, _, h.to hc (set_heap h.hg 0 _) rfl rfl rfl rfl rfl⟩, below_chg hc h.hB (fun k hk => by simp at hk) rfl rfl rfl HBw.out⟩
set_option maxRecDepth 100000 in
set_option maxHeartbeats 800000 in
theorem behindMark_v {B g : Nat} {F : Nat → Prop} {s : RS} {vn vs ve vl vw : Value} (c : UInt8) (w : World) (h : RdV B g F s vn vs ve vl vw w) (hBw : B ≤ w.heap.size) (hbd : s.wd.length ≤ 1000) :
    Does B g 171 #[.pointer (some ⟨g, 0, none⟩), by8 c] w (behMark s c) := by
  unfold Does
  have hmf : ∀ (fn : Fn) (first cap : Array Value) (w : World), (Instr.makeFunc fn first cap).run Tryz.prog w = .ok (.func fn first cap) w := fun _ _ _ _ => rfl
  have HR := Lib.hid h
  have HBw := Lib.hid hBw
  have c0 : w.cell? ⟨g, 0, none⟩ = some vn := (h.cell 0).trans rfl
  have f0 := h.frozen 0
  by_cases hsg : sgn c = true
  · have hp : behMark s c = add { s with md := .cmp } c := by unfold behMark; rw [if_pos hsg]
    rw [hp]
    have hq := isSign_any c
    rw [hsg] at hq
    have hc := (Chg.refl w g none).set 0 (nx g .cmp)
    have hnew : RdV B g F { s with md := .cmp } (nx g .cmp) vs ve vl vw (w.setCell ⟨g, 0, none⟩ (nx g .cmp)) := h.to hc (set_heap h.hg 0 _) rfl rfl rfl rfl rfl
    have hbl := below_chg hc h.hB (fun k hk => by simp at hk) rfl rfl rfl hBw
    have HA := Lib.hid (add_v c _ hnew (by simpa [World.setCell] using hBw) hbd)
    have HBL := Lib.hid hbl
    clear h hBw hnew hbl hc
    go_enter Tryz.func171, Tryz.ntmps171
    go_wp2_with (first
      | (go_at_call 142; refine (hq _).mono ?_; rintro e w' ⟨rfl, rfl⟩)
      | (go_at_call 172; refine (HA.out).mono ?_))
    rintro e w2 ⟨rfl, hr, hb2⟩
    have HR2 := Lib.hid hr
    have HB2 := Lib.hid hb2
    clear hr hb2
    go_wp2
    go_ret
    exact ⟨rfl, HR2.out, HBL.out.trans HB2.out⟩
  · have hp : behMark s c = (30, s) := by unfold behMark; rw [if_neg hsg]
    rw [hp]
    have hq := isSign_any c
    rw [show sgn c = false by simpa using hsg] at hq
    clear h hBw
    go_enter Tryz.func171, Tryz.ntmps171
    go_wp2_with (go_at_call 142; refine (hq _).mono ?_; rintro e w' ⟨rfl, rfl⟩)
    go_ret
    exact ⟨rfl, ⟨F, _, _, _, _, _, HR.out⟩, Below.refl _ _⟩
set_option maxRecDepth 100000 in
set_option maxHeartbeats 1600000 in
theorem inTag_v {B g : Nat} {F : Nat → Prop} {s : RS} {vn vs ve vl vw : Value} (c : UInt8) (w : World) (h : RdV B g F s vn vs ve vl vw w) (hBw : B ≤ w.heap.size) (hbd : s.wd.length ≤ 1000) :
    Does B g 104 #[.pointer (some ⟨g, 0, none⟩), by8 c] w (inTag s c) := by
  unfold Does
  have hmf : ∀ (fn : Fn) (first cap : Array Value) (w : World), (Instr.makeFunc fn first cap).run Tryz.prog w = .ok (.func fn first cap) w := fun _ _ _ _ => rfl
  have c5 : w.cell? ⟨g, 5, none⟩ = some vw := (h.cell 5).trans rfl
  have HR := Lib.hid h
  have HW := Lib.hid hbd
  have HBw := Lib.hid hBw
  obtain ⟨p, cap, rfl⟩ := own_slice h.wd
  clear h hbd hBw
  by_cases htg : tgc c = true
  · have hq := isOfTag_any c
    rw [htg] at hq
    go_enter Tryz.func104, Tryz.ntmps104
    go_wp2_with (first
      | (go_at_call 98; refine (hq _).mono ?_; rintro e w' ⟨rfl, rfl⟩)
      | (at_builtin; refine wl_app1 39 5 (.int .u8 0) 1 1 par_u8 Tryz.underlying39 rfl (by decide) (by decide) B (.slice p s.wd.length cap) s.wd.length (Lib.byteCells s.wd) rfl (HR.out.wd.alloc _) w.heap.size 1 [by8 c] 5 (0, 0) rfl rfl (at_last _ _) (by intro u hu; simp at hu; subst hu; rfl) (by have := HW.out; omega) (by have := HBw.out; simp; omega) ?_))
    intro v' w2 ho hgr hbl
    obtain ⟨p', cap', rfl⟩ := own_slice ho
    have h := HR.out
    have hc : Chg w w2 g (Value.slice p s.wd.length cap).ownBlock := grown_alloc_owner _ hgr
    have hng := own_not h.wd h.hg (by decide)
    have hg2 : w2.heap[g]? = some (.cells #[vn, vs, str s.tg, ve, vl, .slice p s.wd.length cap, .bool s.wi] 131 (0, 0)) := by
      rw [hgr.block g (by have := h.lt; simp; omega) hng, Below.heap_alloc _ _ _ h.lt]; exact h.hg
    have hv3 : RdV B g F { s with wd := s.wd ++ [c] } vn vs ve vl (.slice p' (s.wd.length + 1) cap') (w2.setCell ⟨g, 5, none⟩ (.slice p' (s.wd.length + 1) cap')) := by
      refine h.word (wd' := s.wd ++ [c]) (hc.set 5 _) ?_ ?_ (set_heap hg2 5 _)
      · rw [← cellsByte, List.length_append]
        exact own_chg (g := g) ho hg2 (by decide) ((Chg.refl w2 g none).set 5 _) (Classical.em _)
      · rcases hbl with e | e
        · exact Or.inl e
        · exact Or.inr ⟨_, e, by simp⟩
    have hb3 : Below B w (w2.setCell ⟨g, 5, none⟩ (.slice p' (s.wd.length + 1) cap')) := below_chg (hc.set 5 _) h.hB (fun k hk => (h.wd.lt k hk).1) hgr.os hgr.tape hgr.output HBw.out
    have c5' : w2.cell? ⟨g, 5, none⟩ = some (.slice p s.wd.length cap) := by simp [World.cell?, hg2]
    have f5' : w2.frozen? ⟨g, 5, none⟩ = false := by simp [World.frozen?, hg2]
    have HV := Lib.hid hv3
    have HB3 := Lib.hid hb3
    have hB2 : B ≤ (w2.setCell ⟨g, 5, none⟩ (.slice p' (s.wd.length + 1) cap')).heap.size := by have := HBw.out; have := hb3.size; omega
    have HTW := Lib.hid (takeWord_v _ hv3 hB2)
    clear hv3 hb3 h hc hgr hbl ho hg2 hng hB2
    by_cases h3 : (s.wd.length : Int) + 1 = 3
    · have hp : inTag s c = (0, { s with tg := s.wd ++ [c], wd := [], md := .beh }) := by unfold inTag; rw [if_pos htg, if_pos (by omega)]
      have HP := Lib.hid hp; clear hp
      go_wp2_with (go_at_call 131; refine (HTW.out).mono ?_)
      rintro e w4 rfl vw4 h4 hb4
      have c2 : w4.cell? ⟨g, 2, none⟩ = some (str s.tg) := (h4.cell 2).trans rfl
      have f2 := h4.frozen 2
      have c0 : w4.cell? ⟨g, 0, none⟩ = some vn := (h4.cell 0).trans rfl
      have f0 := h4.frozen 0
      have H4 := Lib.hid h4
      have HB4 := Lib.hid hb4
      clear h4 hb4
      go_wp2
      go_ret
      rw [HP.out]
      have h4 := H4.out
      have hc5 := ((Chg.refl w4 g none).set 2 (str (s.wd ++ [c]))).set 0 (nx g .beh)
      have hb5 := HB3.out.trans HB4.out
      refine ⟨rfl, ⟨F, nx g .beh, _, _, _, _, h4.to (s' := { s with tg := s.wd ++ [c], wd := [], md := .beh }) hc5 (set_heap (set_heap h4.hg 2 _) 0 _) rfl rfl rfl rfl rfl⟩, hb5.trans (below_chg hc5 h4.hB (fun k hk => by simp at hk) rfl rfl rfl (by have := hb5.size; have := HBw.out; omega))⟩
    · have hp : inTag s c = (0, { s with wd := s.wd ++ [c] }) := by unfold inTag; rw [if_pos htg, if_neg (by omega)]
      have HP := Lib.hid hp; clear hp
      go_wp2
      go_ret
      rw [HP.out]
      exact ⟨rfl, ⟨F, _, _, _, _, _, HV.out⟩, HB3.out⟩
  · have hp : inTag s c = (30, s) := by unfold inTag; rw [if_neg htg]
    rw [hp]
    have hq := isOfTag_any c
    rw [show tgc c = false by simpa using htg] at hq
    go_enter Tryz.func104, Tryz.ntmps104
    go_wp2_with (go_at_call 98; refine (hq _).mono ?_; rintro e w' ⟨rfl, rfl⟩)
    go_ret
    exact ⟨rfl, ⟨F, _, _, _, _, _, HR.out⟩, Below.refl _ _⟩
end Go.Proofs.YtgaoeljdlpemnaaGreatDoor
namespace Go.Proofs.YtgaoeljdlpemnaaGreatDoor
open Go.RowKit Go.Edi

def small (l : List Sg) : Prop := l.length ≤ 1000 ∧ ∀ s ∈ l, s.els.length ≤ 1000 ∧ ∀ e ∈ s.els, e.length ≤ 1000
theorem light.small {l : List Sg} (h : light l) : small l :=
  ⟨by have := h.1; omega, fun s hs => ⟨by have := (h.2 s hs).2.1; omega, fun e he => by have := ((h.2 s hs).2.2 e he).1; omega⟩⟩
/-- segments of one's own, so far -/
structure OwO (B : Nat) (F : Nat → Prop) (l0 : List Sg) (vo : Value) (w : World) : Prop where
  out : ∃ xs, w.ownsRow B 112 2 vo l0.length xs ∧ SgC w F l0 xs
  fz : ∀ b, F b → B ≤ b ∧ b < w.heap.size ∧ vo.ownBlock ≠ some b
/-- and the one that is being made, in block g -/
structure OwI (B g : Nat) (F : Nat → Prop) (l0 : List Sg) (tg : Tx) (es : List (List Tx)) (vo ve : Value) (w : World) : Prop where
  hB : B ≤ g
  hg : w.heap[g]? = some (.cells #[str tg, ve] 112 (0, 0))
  out : ∃ xs, w.ownsRow B 112 2 vo l0.length xs ∧ SgC w F l0 xs
  els : ∃ ys, w.ownsRow B 129 1 ve es.length ys ∧ ElC w F es ys
  ne : vo.ownBlock ≠ some g
  fz : ∀ b, F b → B ≤ b ∧ b < w.heap.size ∧ b ≠ g ∧ vo.ownBlock ≠ some b ∧ ve.ownBlock ≠ some b
theorem OwI.drew {B g : Nat} {F : Nat → Prop} {l0 : List Sg} {tg : Tx} {es : List (List Tx)} {vo ve : Value} {w : World} (h : OwI B g F l0 tg es vo ve w) : OwI B g F l0 tg es vo ve w.drew := by
  obtain ⟨xs, a1, a2⟩ := h.out
  obtain ⟨ys, b1, b2⟩ := h.els
  exact ⟨h.hB, h.hg, ⟨xs, own_keep a1 (fun _ _ => rfl), SgC.kept (w := w) (w' := w.drew) (fun _ hb => ⟨hb, rfl⟩) a2⟩, ⟨ys, own_keep b1 (fun _ _ => rfl), ElC.kept (w := w) (w' := w.drew) (fun _ hb => ⟨hb, rfl⟩) b2⟩, h.ne, h.fz⟩
theorem OwO.begin {B : Nat} {F : Nat → Prop} {l0 : List Sg} {vo : Value} {w : World} (h : OwO B F l0 vo w) (hB : B ≤ w.heap.size) (tg : Tx) : OwI B w.heap.size F l0 tg [] vo (.slice none 0 0) (w.alloc (.cells #[str tg, .slice none 0 0] 112)) := by
  obtain ⟨xs, a1, a2⟩ := h.out
  have hlt := a1.lt
  exact ⟨hB, at_last _ _, ⟨xs, a1.alloc _, a2.kept (fun b hb => ⟨hb, Below.heap_alloc _ _ _ (h.fz b hb).2.1⟩)⟩, ⟨[], World.ownsRow_nil _ _ _ _, True.intro⟩, fun e => by have := (hlt _ e).2; omega, fun b hb => ⟨(h.fz b hb).1, by have := (h.fz b hb).2.1; simp; omega, by have := (h.fz b hb).2.1; omega, (h.fz b hb).2.2, by simp [Value.ownBlock]⟩⟩
/-- an element more -/
theorem OwI.elem {B g : Nat} {F : Nat → Prop} {l0 : List Sg} {tg : Tx} {es : List (List Tx)} {vo ve : Value} {w : World} (h : OwI B g F l0 tg es vo ve w) {e : List Tx} {v1 ve' : Value} {w2 w4 : World} {k1 : Nat} {ys : List Value}
    (hys : w.ownsRow B 129 1 ve es.length ys) (hyc : ElC w F es ys) (hv1 : v1.ownBlock = some k1) (hk1 : w.heap.size ≤ k1) (h1 : w2.ownsRow B 9 1 v1 e.length (e.map str)) (hg1 : ∀ b, b < w.heap.size → w2.heap[b]? = w.heap[b]?) (hsz : w.heap.size ≤ w2.heap.size)
    (h2 : w4.ownsRow B 129 1 ve' (es.length + 1) (ys ++ [v1])) (hg2 : (w2.alloc (.cells #[v1] 129)).grownBy w4 ve.ownBlock) (hb : ve'.ownBlock = ve.ownBlock ∨ ve'.ownBlock = some (w2.alloc (.cells #[v1] 129)).heap.size) :
    OwI B g (fun b => F b ∨ v1.ownBlock = some b) l0 tg (es ++ [e]) vo ve' (w4.setCell ⟨g, 1, none⟩ ve') := by
  obtain ⟨xs, a1, a2⟩ := h.out
  have hglt : g < w.heap.size := lt_of_heap h.hg
  have hvelt := hys.lt
  have hsz4 : w2.heap.size + 1 ≤ w4.heap.size := by have := hg2.size; simpa using this
  have hgve : ve.ownBlock ≠ some g := (own_not hys h.hg (by decide)).symm
  have hold : ∀ b, b < w2.heap.size → ve.ownBlock ≠ some b → w4.heap[b]? = w2.heap[b]? := fun b hb hne =>
    (hg2.block b (by simp; omega) (Ne.symm hne)).trans (Below.heap_alloc _ _ _ hb)
  have hset : ∀ b, b ≠ g → (w4.setCell ⟨g, 1, none⟩ ve').heap[b]? = w4.heap[b]? := fun b hb => Below.heap_setCell _ _ _ _ (by simpa using hb)
  have hk1lt := (h1.lt k1 hv1).2
  have hk1ve : ve.ownBlock ≠ some k1 := fun e => by have := (hvelt _ e).2; omega
  have hk1v' : ve'.ownBlock ≠ some k1 := by
    rcases hb with e | e
    · rw [e]; exact hk1ve
    · rw [e]; simp; omega
  have hk1vo : vo.ownBlock ≠ some k1 := fun e => by have := (a1.lt _ e).2; omega
  have hvv : ∀ {v : Value} {b : Nat}, v.ownBlock = some b → b < w.heap.size → b ≠ g → ve.ownBlock ≠ some b → (w4.setCell ⟨g, 1, none⟩ ve').heap[b]? = w.heap[b]? := fun _ hlt hne hnv => (hset _ hne).trans ((hold _ (by omega) hnv).trans (hg1 _ hlt))
  have hF : Kp F (fun b => F b ∨ v1.ownBlock = some b) w (w4.setCell ⟨g, 1, none⟩ ve') := fun b hb =>
    have h5 := h.fz b hb
    ⟨Or.inl hb, (hset _ h5.2.2.1).trans ((hold _ (by omega) h5.2.2.2.2).trans (hg1 _ h5.2.1))⟩
  have hvove : ∀ b, vo.ownBlock = some b → ve.ownBlock ≠ some b := fun b e e2 => by
    rcases own_apart a1 hys (by decide) with e3 | e3
    · rw [e3] at e; simp at e
    · exact e3 (by rw [e, e2])
  refine ⟨h.hB, ?_, ⟨xs, own_keep a1 (fun b e => hvv (v := vo) e (a1.lt _ e).2 (fun e2 => h.ne (by rw [e, e2])) (hvove b e)), a2.kept hF⟩, ⟨ys ++ [v1], ?_, ElC.snoc (row_own (B := B) (e := 9) (size := 1) ?_ (fun b e => Or.inr e)) (hyc.kept hF)⟩, h.ne, fun b hb2 => ?_⟩
  · have h4 : w4.heap[g]? = some (.cells #[str tg, ve] 112 (0, 0)) := (hold g (by omega) hgve).trans ((hg1 g hglt).trans h.hg)
    have := set_heap h4 1 ve'
    simpa using this
  · rw [List.length_append]
    refine own_keep h2 (fun b e => hset b (fun e2 => ?_))
    subst e2
    rcases hb with e3 | e3
    · exact hgve (by rw [← e3, e])
    · rw [e3] at e; simp at e; omega
  · exact own_keep h1 (fun b e => by
      rw [hv1] at e; simp only [Option.some.injEq] at e; subst e
      exact (hset _ (by omega)).trans (hold _ hk1lt hk1ve))
  · have hs5 : (w4.setCell ⟨g, 1, none⟩ ve').heap.size = w4.heap.size := by simp [World.setCell]
    have hnve : ∀ b, b < w2.heap.size → ve.ownBlock ≠ some b → ve'.ownBlock ≠ some b := fun b hlt hne => by
      rcases hb with e | e
      · rw [e]; exact hne
      · rw [e]; simp; omega
    rcases hb2 with hb2 | hb2
    · have h5 := h.fz b hb2
      exact ⟨h5.1, by rw [hs5]; omega, h5.2.2.1, h5.2.2.2.1, hnve b (by omega) h5.2.2.2.2⟩
    · rw [hv1] at hb2; simp only [Option.some.injEq] at hb2; subst hb2
      exact ⟨(h1.lt k1 hv1).1, by rw [hs5]; omega, by omega, hk1vo, hk1v'⟩
/-- a segment more -/
theorem OwI.seg {B g : Nat} {F : Nat → Prop} {l0 : List Sg} {tg : Tx} {es : List (List Tx)} {vo ve : Value} {w : World} (h : OwI B g F l0 tg es vo ve w) {vo' : Value} {w1 : World} {xs : List Value}
    (hxs : w.ownsRow B 112 2 vo l0.length xs) (hxc : SgC w F l0 xs) (h2 : w1.ownsRow B 112 2 vo' (l0.length + 1) (xs ++ [str tg, ve])) (hg2 : (w.alloc (.cells #[str tg, ve] 112)).grownBy w1 vo.ownBlock) (hb : vo'.ownBlock = vo.ownBlock ∨ vo'.ownBlock = some (w.alloc (.cells #[str tg, ve] 112)).heap.size) :
    OwO B (fun b => F b ∨ ve.ownBlock = some b) (l0 ++ [⟨tg, es⟩]) vo' w1 := by
  obtain ⟨ys, b1, b2⟩ := h.els
  have hsz : w.heap.size + 1 ≤ w1.heap.size := by have := hg2.size; simpa using this
  have hold : ∀ b, b < w.heap.size → vo.ownBlock ≠ some b → w1.heap[b]? = w.heap[b]? := fun b hb hne =>
    (hg2.block b (by simp; omega) (Ne.symm hne)).trans (Below.heap_alloc _ _ _ hb)
  have hF : Kp F (fun b => F b ∨ ve.ownBlock = some b) w w1 := fun b hb =>
    have h5 := h.fz b hb
    ⟨Or.inl hb, hold _ h5.2.1 h5.2.2.2.1⟩
  have hvove : ∀ b, ve.ownBlock = some b → vo.ownBlock ≠ some b := fun b e e2 => by
    rcases own_apart hxs b1 (by decide) with e3 | e3
    · rw [e3] at e2; simp at e2
    · exact e3 (by rw [e, e2])
  have hel : w1.ownsRow B 129 1 ve es.length ys := own_keep b1 (fun b e => hold b (b1.lt _ e).2 (hvove b e))
  refine ⟨⟨xs ++ [str tg, ve], by rw [List.length_append]; exact h2, SgC.snoc (s := ⟨tg, es⟩) ⟨ys, row_own hel (fun b e => Or.inr e), b2.kept hF⟩ (hxc.kept hF)⟩, fun b hb2 => ?_⟩
  have hnve : ∀ b, b < w.heap.size → vo.ownBlock ≠ some b → vo'.ownBlock ≠ some b := fun b hlt hne => by
    rcases hb with e | e
    · rw [e]; exact hne
    · rw [e]; simp; omega
  rcases hb2 with hb2 | hb2
  · have h5 := h.fz b hb2
    exact ⟨h5.1, by omega, hnve b h5.2.1 h5.2.2.2.1⟩
  · have h5 := b1.lt b hb2
    exact ⟨h5.1, by omega, hnve b h5.2 (hvove b hb2)⟩
theorem OwO.begin0 (B : Nat) (w : World) : OwO B (fun _ => False) [] (.slice none 0 0) w := ⟨⟨[], World.ownsRow_nil _ _ _ _, True.intro⟩, fun _ h => h.elim⟩
theorem OwO.segs {B : Nat} {F : Nat → Prop} {l0 : List Sg} {vo : Value} {w : World} (h : OwO B F l0 vo w) : SegsF w (· < w.heap.size) vo l0 := by
  obtain ⟨xs, a1, a2⟩ := h.out
  exact ⟨xs, row_own a1 (fun b e => (a1.lt b e).2), a2.kept (fun b hb => ⟨(h.fz b hb).2.1, rfl⟩)⟩
/-- what own answers -/
def OwA (l : List Sg) (B : Nat) (e : Ending) (w' : World) : Prop := ∃ v F, e = .returned v ∧ OwO B F l v w'
theorem OwO.later {B : Nat} {F : Nat → Prop} {l0 : List Sg} {vo : Value} {w w' : World} (h : OwO B F l0 vo w) (hb : Below w.heap.size w w') : OwO B F l0 vo w' := by
  obtain ⟨xs, a1, a2⟩ := h.out
  exact ⟨⟨xs, own_keep a1 (fun b e => hb.block b (a1.lt b e).2), a2.kept (fun b hF => ⟨hF, hb.block b (h.fz b hF).2.1⟩)⟩, fun b hF => ⟨(h.fz b hF).1, by have := (h.fz b hF).2.1; have := hb.size; omega, (h.fz b hF).2.2⟩⟩
theorem OwI.cells {B g : Nat} {F : Nat → Prop} {l0 : List Sg} {tg : Tx} {es : List (List Tx)} {vo ve : Value} {w : World} (h : OwI B g F l0 tg es vo ve w) :
    w.cell? ⟨g, 0, none⟩ = some (str tg) ∧ w.cell? ⟨g, 1, none⟩ = some ve ∧ w.frozen? ⟨g, 1, none⟩ = false ∧ g < w.heap.size :=
  ⟨by simp [World.cell?, h.hg], by simp [World.cell?, h.hg], by simp [World.frozen?, h.hg], lt_of_heap h.hg⟩
theorem k1_of {p1 : Option Addr} {n c s S : Nat} (h : (Value.slice p1 n c).ownBlock = (Value.slice (some ⟨s, 0, none⟩) 0 0).ownBlock ∨ (Value.slice p1 n c).ownBlock = some S) (hS : s ≤ S) : ∃ k1, (Value.slice p1 n c).ownBlock = some k1 ∧ s ≤ k1 := by
  rcases h with e | e
  · exact ⟨s, e, Nat.le_refl _⟩
  · exact ⟨S, e, hS⟩
theorem step_elem {B g : Nat} {F : Nat → Prop} {l0 : List Sg} {tg : Tx} {es els : List (List Tx)} {vo ve : Value} {w wr w2 w4 : World} {j : Nat} {z : List Tx} {p1 p2 : Option Addr} {cap1 cap2 : Nat} {ys : List Value} (HI : OwI B g F l0 tg es vo ve wr) (hj : es.length = j) (hels : els = es ++ [z]) (hyc : ElC wr F es ys) (hys : wr.ownsRow B 129 1 ve j ys)
    (hk : (Value.slice p1 z.length cap1).ownBlock = (Value.slice (some ⟨wr.heap.size, 0, none⟩) 0 0).ownBlock ∨ (Value.slice p1 z.length cap1).ownBlock = some (wr.alloc (.cells #[] 9)).drew.heap.size) (h1 : w2.ownsRow B 9 1 (.slice p1 z.length cap1) z.length (z.map str)) (hg1 : (wr.alloc (.cells #[] 9)).drew.grownBy w2 (Value.slice (some ⟨wr.heap.size, 0, none⟩) 0 0).ownBlock)
    (h2 : w4.ownsRow B 129 1 (.slice p2 (j + 1) cap2) (j + 1) (ys ++ [.slice p1 z.length cap1])) (hg2 : (w2.alloc (.cells #[.slice p1 z.length cap1] 129)).grownBy w4 ve.ownBlock) (hk2 : (Value.slice p2 (j + 1) cap2).ownBlock = ve.ownBlock ∨ (Value.slice p2 (j + 1) cap2).ownBlock = some (w2.alloc (.cells #[.slice p1 z.length cap1] 129)).heap.size) (hB : Below B w wr) (hBs : B ≤ wr.heap.size) :
    (∃ F', OwI B g F' l0 tg els vo (.slice p2 (j + 1) cap2) (w4.setCell ⟨g, 1, none⟩ (.slice p2 (j + 1) cap2))) ∧ Below B w (w4.setCell ⟨g, 1, none⟩ (.slice p2 (j + 1) cap2)) := by
  subst hj hels
  have hs0 : (wr.alloc (.cells #[] 9)).drew.heap.size = wr.heap.size + 1 := by show (wr.alloc _).heap.size = _; simp
  obtain ⟨k1, e1, hk1⟩ := k1_of hk (by rw [hs0]; omega)
  have hold : ∀ b, b < wr.heap.size → w2.heap[b]? = wr.heap[b]? := fun b hb => (hg1.block b (by rw [hs0]; omega) (fun e => by simp only [Value.ownBlock, Option.some.injEq] at e; omega)).trans (Below.heap_alloc _ _ _ hb)
  have hsz : wr.heap.size + 1 ≤ w2.heap.size := by have := hg1.size; rw [hs0] at this; exact this
  refine ⟨⟨_, HI.elem hys hyc e1 hk1 h1 hold (by omega) h2 hg2 hk2⟩, ?_⟩
  have hb2 : Below B w w2 := ((hB.alloc hBs _).drew).grown hg1 (by rw [hs0]; omega) (fun k hk => by simp only [Value.ownBlock, Option.some.injEq] at hk; omega)
  have hb4 : Below B w w4 := (hb2.alloc (by omega) _).grown hg2 (by simp; omega) (fun k hk => (hys.lt k hk).1)
  exact hb4.setCell HI.hB _
end Go.Proofs.YtgaoeljdlpemnaaGreatDoor
