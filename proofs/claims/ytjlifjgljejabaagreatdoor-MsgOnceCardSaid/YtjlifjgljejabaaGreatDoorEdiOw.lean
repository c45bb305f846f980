/- Contract of the statements' own: segments in memory of their own. -/
import Derived.Test.YtjlifjgljejabaaGreatDoorEdiApF
import Derived.Test.YtjlifjgljejabaaGreatDoorEdiLt
import Derived.Test.YtjlifjgljejabaaGreatDoorEdiR2
namespace Go.Proofs.YtjlifjgljejabaaGreatDoor
open Go.RowKit Go.Edi

def small (l : List Sg) : Prop := l.length ≤ 1000 ∧ ∀ s ∈ l, s.els.length ≤ 1000 ∧ ∀ e ∈ s.els, e.length ≤ 1000
theorem light.small {l : List Sg} (h : light l) : small l :=
  ⟨by have := h.1; omega, fun s hs => ⟨by have := (h.2 s hs).2.1; omega, fun e he => by have := ((h.2 s hs).2.2 e he).1; omega⟩⟩
/-- segments of one's own, so far -/
structure OwO (B : Nat) (F : Nat → Prop) (l0 : List Sg) (vo : Value) (w : World) : Prop where
  out : ∃ xs, w.ownsRow B 59 2 vo l0.length xs ∧ SgC w F l0 xs
  fz : ∀ b, F b → B ≤ b ∧ b < w.heap.size ∧ vo.ownBlock ≠ some b
/-- and the one that is being made, in block g -/
structure OwI (B g : Nat) (F : Nat → Prop) (l0 : List Sg) (tg : Tx) (es : List (List Tx)) (vo ve : Value) (w : World) : Prop where
  hB : B ≤ g
  hg : w.heap[g]? = some (.cells #[str tg, ve] 59 (0, 0))
  out : ∃ xs, w.ownsRow B 59 2 vo l0.length xs ∧ SgC w F l0 xs
  els : ∃ ys, w.ownsRow B 62 1 ve es.length ys ∧ ElC w F es ys
  ne : vo.ownBlock ≠ some g
  fz : ∀ b, F b → B ≤ b ∧ b < w.heap.size ∧ b ≠ g ∧ vo.ownBlock ≠ some b ∧ ve.ownBlock ≠ some b
theorem OwI.drew {B g : Nat} {F : Nat → Prop} {l0 : List Sg} {tg : Tx} {es : List (List Tx)} {vo ve : Value} {w : World} (h : OwI B g F l0 tg es vo ve w) : OwI B g F l0 tg es vo ve w.drew := by
  obtain ⟨xs, a1, a2⟩ := h.out
  obtain ⟨ys, b1, b2⟩ := h.els
  exact ⟨h.hB, h.hg, ⟨xs, own_keep a1 (fun _ _ => rfl), SgC.kept (w := w) (w' := w.drew) (fun _ hb => ⟨hb, rfl⟩) a2⟩, ⟨ys, own_keep b1 (fun _ _ => rfl), ElC.kept (w := w) (w' := w.drew) (fun _ hb => ⟨hb, rfl⟩) b2⟩, h.ne, h.fz⟩
theorem OwO.begin {B : Nat} {F : Nat → Prop} {l0 : List Sg} {vo : Value} {w : World} (h : OwO B F l0 vo w) (hB : B ≤ w.heap.size) (tg : Tx) : OwI B w.heap.size F l0 tg [] vo (.slice none 0 0) (w.alloc (.cells #[str tg, .slice none 0 0] 59)) := by
  obtain ⟨xs, a1, a2⟩ := h.out
  have hlt := a1.lt
  exact ⟨hB, at_last _ _, ⟨xs, a1.alloc _, a2.kept (fun b hb => ⟨hb, Below.heap_alloc _ _ _ (h.fz b hb).2.1⟩)⟩, ⟨[], World.ownsRow_nil _ _ _ _, True.intro⟩, fun e => by have := (hlt _ e).2; omega, fun b hb => ⟨(h.fz b hb).1, by have := (h.fz b hb).2.1; simp; omega, by have := (h.fz b hb).2.1; omega, (h.fz b hb).2.2, by simp [Value.ownBlock]⟩⟩
/-- an element more -/
theorem OwI.elem {B g : Nat} {F : Nat → Prop} {l0 : List Sg} {tg : Tx} {es : List (List Tx)} {vo ve : Value} {w : World} (h : OwI B g F l0 tg es vo ve w) {e : List Tx} {v1 ve' : Value} {w2 w4 : World} {k1 : Nat} {ys : List Value}
    (hys : w.ownsRow B 62 1 ve es.length ys) (hyc : ElC w F es ys) (hv1 : v1.ownBlock = some k1) (hk1 : w.heap.size ≤ k1) (h1 : w2.ownsRow B 9 1 v1 e.length (e.map str)) (hg1 : ∀ b, b < w.heap.size → w2.heap[b]? = w.heap[b]?) (hsz : w.heap.size ≤ w2.heap.size)
    (h2 : w4.ownsRow B 62 1 ve' (es.length + 1) (ys ++ [v1])) (hg2 : (w2.alloc (.cells #[v1] 62)).grownBy w4 ve.ownBlock) (hb : ve'.ownBlock = ve.ownBlock ∨ ve'.ownBlock = some (w2.alloc (.cells #[v1] 62)).heap.size) :
    OwI B g (fun b => F b ∨ v1.ownBlock = some b) l0 tg (es ++ [e]) vo ve' (w4.setCell ⟨g, 1, none⟩ ve') := by
  obtain ⟨xs, a1, a2⟩ := h.out
  have hglt : g < w.heap.size := lt_of_heap h.hg
  have hvelt := hys.lt
  have hsz4 : w2.heap.size + 1 ≤ w4.heap.size := by have := hg2.size; simpa using this
  have hgve : ve.ownBlock ≠ some g := (own_not hys h.hg (by decide)).symm
  have hold : ∀ b, b < w2.heap.size → ve.ownBlock ≠ some b → w4.heap[b]? = w2.heap[b]? := fun b hb hne =>
    (hg2.block b (by simp; omega) (Ne.symm hne)).trans (Below.heap_alloc _ _ _ hb)
  have hset : ∀ b, b ≠ g → (w4.setCell ⟨g, 1, none⟩ ve').heap[b]? = w4.heap[b]? := fun b hb => Below.heap_setCell _ _ _ _ (by simpa using hb)
  have hk1lt := (h1.lt k1 hv1).2
  have hk1ve : ve.ownBlock ≠ some k1 := fun e => by have := (hvelt _ e).2; omega
  have hk1v' : ve'.ownBlock ≠ some k1 := by
    rcases hb with e | e
    · rw [e]; exact hk1ve
    · rw [e]; simp; omega
  have hk1vo : vo.ownBlock ≠ some k1 := fun e => by have := (a1.lt _ e).2; omega
  have hvv : ∀ {v : Value} {b : Nat}, v.ownBlock = some b → b < w.heap.size → b ≠ g → ve.ownBlock ≠ some b → (w4.setCell ⟨g, 1, none⟩ ve').heap[b]? = w.heap[b]? := fun _ hlt hne hnv => (hset _ hne).trans ((hold _ (by omega) hnv).trans (hg1 _ hlt))
  have hF : Kp F (fun b => F b ∨ v1.ownBlock = some b) w (w4.setCell ⟨g, 1, none⟩ ve') := fun b hb =>
    have h5 := h.fz b hb
    ⟨Or.inl hb, (hset _ h5.2.2.1).trans ((hold _ (by omega) h5.2.2.2.2).trans (hg1 _ h5.2.1))⟩
  have hvove : ∀ b, vo.ownBlock = some b → ve.ownBlock ≠ some b := fun b e e2 => by
    rcases own_apart a1 hys (by decide) with e3 | e3
    · rw [e3] at e; simp at e
    · exact e3 (by rw [e, e2])
  refine ⟨h.hB, ?_, ⟨xs, own_keep a1 (fun b e => hvv (v := vo) e (a1.lt _ e).2 (fun e2 => h.ne (by rw [e, e2])) (hvove b e)), a2.kept hF⟩, ⟨ys ++ [v1], ?_, ElC.snoc (row_own (B := B) (e := 9) (size := 1) ?_ (fun b e => Or.inr e)) (hyc.kept hF)⟩, h.ne, fun b hb2 => ?_⟩
  · have h4 : w4.heap[g]? = some (.cells #[str tg, ve] 59 (0, 0)) := (hold g (by omega) hgve).trans ((hg1 g hglt).trans h.hg)
    have := set_heap h4 1 ve'
    simpa using this
  · rw [List.length_append]
    refine own_keep h2 (fun b e => hset b (fun e2 => ?_))
    subst e2
    rcases hb with e3 | e3
    · exact hgve (by rw [← e3, e])
    · rw [e3] at e; simp at e; omega
  · exact own_keep h1 (fun b e => by
      rw [hv1] at e; simp only [Option.some.injEq] at e; subst e
      exact (hset _ (by omega)).trans (hold _ hk1lt hk1ve))
  · have hs5 : (w4.setCell ⟨g, 1, none⟩ ve').heap.size = w4.heap.size := by simp [World.setCell]
    have hnve : ∀ b, b < w2.heap.size → ve.ownBlock ≠ some b → ve'.ownBlock ≠ some b := fun b hlt hne => by
      rcases hb with e | e
      · rw [e]; exact hne
      · rw [e]; simp; omega
    rcases hb2 with hb2 | hb2
    · have h5 := h.fz b hb2
      exact ⟨h5.1, by rw [hs5]; omega, h5.2.2.1, h5.2.2.2.1, hnve b (by omega) h5.2.2.2.2⟩
    · rw [hv1] at hb2; simp only [Option.some.injEq] at hb2; subst hb2
      exact ⟨(h1.lt k1 hv1).1, by rw [hs5]; omega, by omega, hk1vo, hk1v'⟩
/-- a segment more -/
theorem OwI.seg {B g : Nat} {F : Nat → Prop} {l0 : List Sg} {tg : Tx} {es : List (List Tx)} {vo ve : Value} {w : World} (h : OwI B g F l0 tg es vo ve w) {vo' : Value} {w1 : World} {xs : List Value}
    (hxs : w.ownsRow B 59 2 vo l0.length xs) (hxc : SgC w F l0 xs) (h2 : w1.ownsRow B 59 2 vo' (l0.length + 1) (xs ++ [str tg, ve])) (hg2 : (w.alloc (.cells #[str tg, ve] 59)).grownBy w1 vo.ownBlock) (hb : vo'.ownBlock = vo.ownBlock ∨ vo'.ownBlock = some (w.alloc (.cells #[str tg, ve] 59)).heap.size) :
    OwO B (fun b => F b ∨ ve.ownBlock = some b) (l0 ++ [⟨tg, es⟩]) vo' w1 := by
  obtain ⟨ys, b1, b2⟩ := h.els
  have hsz : w.heap.size + 1 ≤ w1.heap.size := by have := hg2.size; simpa using this
  have hold : ∀ b, b < w.heap.size → vo.ownBlock ≠ some b → w1.heap[b]? = w.heap[b]? := fun b hb hne =>
    (hg2.block b (by simp; omega) (Ne.symm hne)).trans (Below.heap_alloc _ _ _ hb)
  have hF : Kp F (fun b => F b ∨ ve.ownBlock = some b) w w1 := fun b hb =>
    have h5 := h.fz b hb
    ⟨Or.inl hb, hold _ h5.2.1 h5.2.2.2.1⟩
  have hvove : ∀ b, ve.ownBlock = some b → vo.ownBlock ≠ some b := fun b e e2 => by
    rcases own_apart hxs b1 (by decide) with e3 | e3
    · rw [e3] at e2; simp at e2
    · exact e3 (by rw [e, e2])
  have hel : w1.ownsRow B 62 1 ve es.length ys := own_keep b1 (fun b e => hold b (b1.lt _ e).2 (hvove b e))
  refine ⟨⟨xs ++ [str tg, ve], by rw [List.length_append]; exact h2, SgC.snoc (s := ⟨tg, es⟩) ⟨ys, row_own hel (fun b e => Or.inr e), b2.kept hF⟩ (hxc.kept hF)⟩, fun b hb2 => ?_⟩
  have hnve : ∀ b, b < w.heap.size → vo.ownBlock ≠ some b → vo'.ownBlock ≠ some b := fun b hlt hne => by
    rcases hb with e | e
    · rw [e]; exact hne
    · rw [e]; simp; omega
  rcases hb2 with hb2 | hb2
  · have h5 := h.fz b hb2
    exact ⟨h5.1, by omega, hnve b h5.2.1 h5.2.2.2.1⟩
  · have h5 := b1.lt b hb2
    exact ⟨h5.1, by omega, hnve b h5.2 (hvove b hb2)⟩
theorem OwO.begin0 (B : Nat) (w : World) : OwO B (fun _ => False) [] (.slice none 0 0) w := ⟨⟨[], World.ownsRow_nil _ _ _ _, True.intro⟩, fun _ h => h.elim⟩
theorem OwO.segs {B : Nat} {F : Nat → Prop} {l0 : List Sg} {vo : Value} {w : World} (h : OwO B F l0 vo w) : SegsF w (· < w.heap.size) vo l0 := by
  obtain ⟨xs, a1, a2⟩ := h.out
  exact ⟨xs, row_own a1 (fun b e => (a1.lt b e).2), a2.kept (fun b hb => ⟨(h.fz b hb).2.1, rfl⟩)⟩
/-- what own answers -/
def OwA (l : List Sg) (B : Nat) (e : Ending) (w' : World) : Prop := ∃ v F, e = .returned v ∧ OwO B F l v w'
theorem OwO.later {B : Nat} {F : Nat → Prop} {l0 : List Sg} {vo : Value} {w w' : World} (h : OwO B F l0 vo w) (hb : Below w.heap.size w w') : OwO B F l0 vo w' := by
  obtain ⟨xs, a1, a2⟩ := h.out
  exact ⟨⟨xs, own_keep a1 (fun b e => hb.block b (a1.lt b e).2), a2.kept (fun b hF => ⟨hF, hb.block b (h.fz b hF).2.1⟩)⟩, fun b hF => ⟨(h.fz b hF).1, by have := (h.fz b hF).2.1; have := hb.size; omega, (h.fz b hF).2.2⟩⟩
theorem OwI.cells {B g : Nat} {F : Nat → Prop} {l0 : List Sg} {tg : Tx} {es : List (List Tx)} {vo ve : Value} {w : World} (h : OwI B g F l0 tg es vo ve w) :
    w.cell? ⟨g, 0, none⟩ = some (str tg) ∧ w.cell? ⟨g, 1, none⟩ = some ve ∧ w.frozen? ⟨g, 1, none⟩ = false ∧ g < w.heap.size :=
  ⟨by simp [World.cell?, h.hg], by simp [World.cell?, h.hg], by simp [World.frozen?, h.hg], lt_of_heap h.hg⟩
theorem k1_of {p1 : Option Addr} {n c s S : Nat} (h : (Value.slice p1 n c).ownBlock = (Value.slice (some ⟨s, 0, none⟩) 0 0).ownBlock ∨ (Value.slice p1 n c).ownBlock = some S) (hS : s ≤ S) : ∃ k1, (Value.slice p1 n c).ownBlock = some k1 ∧ s ≤ k1 := by
  rcases h with e | e
  · exact ⟨s, e, Nat.le_refl _⟩
  · exact ⟨S, e, hS⟩
theorem step_elem {B g : Nat} {F : Nat → Prop} {l0 : List Sg} {tg : Tx} {es els : List (List Tx)} {vo ve : Value} {w wr w2 w4 : World} {j : Nat} {z : List Tx} {p1 p2 : Option Addr} {cap1 cap2 : Nat} {ys : List Value} (HI : OwI B g F l0 tg es vo ve wr) (hj : es.length = j) (hels : els = es ++ [z]) (hyc : ElC wr F es ys) (hys : wr.ownsRow B 62 1 ve j ys)
    (hk : (Value.slice p1 z.length cap1).ownBlock = (Value.slice (some ⟨wr.heap.size, 0, none⟩) 0 0).ownBlock ∨ (Value.slice p1 z.length cap1).ownBlock = some (wr.alloc (.cells #[] 9)).drew.heap.size) (h1 : w2.ownsRow B 9 1 (.slice p1 z.length cap1) z.length (z.map str)) (hg1 : (wr.alloc (.cells #[] 9)).drew.grownBy w2 (Value.slice (some ⟨wr.heap.size, 0, none⟩) 0 0).ownBlock)
    (h2 : w4.ownsRow B 62 1 (.slice p2 (j + 1) cap2) (j + 1) (ys ++ [.slice p1 z.length cap1])) (hg2 : (w2.alloc (.cells #[.slice p1 z.length cap1] 62)).grownBy w4 ve.ownBlock) (hk2 : (Value.slice p2 (j + 1) cap2).ownBlock = ve.ownBlock ∨ (Value.slice p2 (j + 1) cap2).ownBlock = some (w2.alloc (.cells #[.slice p1 z.length cap1] 62)).heap.size) (hB : Below B w wr) (hBs : B ≤ wr.heap.size) :
    (∃ F', OwI B g F' l0 tg els vo (.slice p2 (j + 1) cap2) (w4.setCell ⟨g, 1, none⟩ (.slice p2 (j + 1) cap2))) ∧ Below B w (w4.setCell ⟨g, 1, none⟩ (.slice p2 (j + 1) cap2)) := by
  subst hj hels
  have hs0 : (wr.alloc (.cells #[] 9)).drew.heap.size = wr.heap.size + 1 := by show (wr.alloc _).heap.size = _; simp
  obtain ⟨k1, e1, hk1⟩ := k1_of hk (by rw [hs0]; omega)
  have hold : ∀ b, b < wr.heap.size → w2.heap[b]? = wr.heap[b]? := fun b hb => (hg1.block b (by rw [hs0]; omega) (fun e => by simp only [Value.ownBlock, Option.some.injEq] at e; omega)).trans (Below.heap_alloc _ _ _ hb)
  have hsz : wr.heap.size + 1 ≤ w2.heap.size := by have := hg1.size; rw [hs0] at this; exact this
  refine ⟨⟨_, HI.elem hys hyc e1 hk1 h1 hold (by omega) h2 hg2 hk2⟩, ?_⟩
  have hb2 : Below B w w2 := ((hB.alloc hBs _).drew).grown hg1 (by rw [hs0]; omega) (fun k hk => by simp only [Value.ownBlock, Option.some.injEq] at hk; omega)
  have hb4 : Below B w w4 := (hb2.alloc (by omega) _).grown hg2 (by simp; omega) (fun k hk => (hys.lt k hk).1)
  exact hb4.setCell HI.hB _
end Go.Proofs.YtjlifjgljejabaaGreatDoor
