/- What a walk over fields keeps in memory. -/
import Derived.Test.YtjdfdihopgceoaaCdK
import Derived.Test.YtjdfdihopgceoaaCdPure
namespace Go.Proofs.Ytjdfdihopgceoaa.Cd
open Go.RowKit Go.Shelf Go.Dk Go.Jn Go.Cod

/-- what is kept: all below B, and all cells that are no bytes, but some blocks -/
structure Fr (B : Nat) (K : Nat → Prop) (w w' : World) : Prop where
  os : w'.os = w.os
  tape : w'.tape = w.tape
  output : w'.output = w.output
  size : w.heap.size ≤ w'.heap.size
  low : ∀ k, k < B → w'.heap[k]? = w.heap[k]?
  keep : ∀ k cs t fr, w.heap[k]? = some (.cells cs t fr) → t ≠ 5 → ¬ K k → w'.heap[k]? = some (.cells cs t fr)
theorem Fr.refl (B : Nat) (K : Nat → Prop) (w : World) : Fr B K w w := ⟨rfl, rfl, rfl, Nat.le_refl _, fun _ _ => rfl, fun _ _ _ _ h _ _ => h⟩
theorem Fr.trans {B : Nat} {K : Nat → Prop} {a b c : World} (h : Fr B K a b) (k : Fr B K b c) : Fr B K a c :=
  ⟨k.os.trans h.os, k.tape.trans h.tape, k.output.trans h.output, Nat.le_trans h.size k.size, fun i hi => (k.low i hi).trans (h.low i hi), fun i cs t fr hi ht hk => k.keep i cs t fr (h.keep i cs t fr hi ht hk) ht hk⟩
/-- behind which a further block is written to, that is new -/
theorem Fr.trans' {B : Nat} {K K' : Nat → Prop} {a b c : World} (h : Fr B K a b) (k : Fr B K' b c) (hk : ∀ i, i < a.heap.size → K' i → K i) : Fr B K a c :=
  ⟨k.os.trans h.os, k.tape.trans h.tape, k.output.trans h.output, Nat.le_trans h.size k.size, fun i hi => (k.low i hi).trans (h.low i hi), fun i cs t fr hi ht hn => k.keep i cs t fr (h.keep i cs t fr hi ht hn) ht (fun e => hn (hk i (lt_of_heap hi) e))⟩
theorem Fr.mono {B : Nat} {K K' : Nat → Prop} {a b : World} (h : Fr B K a b) (hk : ∀ i, i < a.heap.size → K i → K' i) : Fr B K' a b :=
  ⟨h.os, h.tape, h.output, h.size, h.low, fun i cs t fr hi ht hn => h.keep i cs t fr hi ht (fun e => hn (hk i (lt_of_heap hi) e))⟩
theorem Fr.drew {B : Nat} {K : Nat → Prop} {a b : World} (h : Fr B K a b) : Fr B K a b.drew := ⟨h.os, h.tape, h.output, h.size, h.low, h.keep⟩
theorem Fr.below {B : Nat} {K : Nat → Prop} {a b : World} (h : Fr B K a b) (hB : B ≤ a.heap.size) : Below B a b := ⟨h.os, h.tape, h.output, h.size, fun k hk => h.low k hk⟩
theorem Fr.ofBelow {B : Nat} {K : Nat → Prop} {a b : World} (h : Below a.heap.size a b) (hB : B ≤ a.heap.size) : Fr B K a b :=
  ⟨h.os, h.tape, h.output, h.size, fun k hk => h.block k (Nat.lt_of_lt_of_le hk hB), fun k cs t fr hk _ _ => (h.block k (lt_of_heap hk)).trans hk⟩
theorem Fr.alloc {B : Nat} {K : Nat → Prop} {a b : World} (h : Fr B K a b) (hB : B ≤ a.heap.size) (o : Obj) : Fr B K a (b.alloc o) :=
  h.trans (Fr.ofBelow ((Below.refl _ _).alloc (Nat.le_refl _) _) (Nat.le_trans hB h.size))
/-- a cell of a block that may be written to -/
theorem Fr.setK {B : Nat} {K : Nat → Prop} {a b : World} (h : Fr B K a b) {p : Addr} (hp : K p.block) (hB : B ≤ p.block) (u : Value) : Fr B K a (b.setCell p u) :=
  h.trans ⟨rfl, rfl, rfl, by simp, fun k hk => Below.heap_setCell b p u k (by omega), fun k cs t fr hk _ hn => (Below.heap_setCell b p u k (fun e => hn (e ▸ hp))).trans hk⟩
/-- a cell of bytes -/
theorem Fr.set8 {B : Nat} {K : Nat → Prop} {a b : World} (h : Fr B K a b) {p : Addr} {cs : Array Value} {fr : Nat × Nat} (hp : b.heap[p.block]? = some (.cells cs 5 fr)) (hB : B ≤ p.block) (u : Value) : Fr B K a (b.setCell p u) :=
  h.trans ⟨rfl, rfl, rfl, by simp, fun k hk => Below.heap_setCell b p u k (by omega), fun k cs' t fr' hk ht _ => (Below.heap_setCell b p u k (fun e => by
    subst e; rw [hp] at hk; cases hk; exact ht rfl)).trans hk⟩
theorem Fr.row8 {B : Nat} {K : Nat → Prop} {a b : World} (h : Fr B K a b) {g : Nat} {cs cs' : Array Value} {fr : Nat × Nat} (hp : b.heap[g]? = some (.cells cs 5 fr)) (hB : B ≤ g) : Fr B K a (b.setRow g cs') :=
  h.trans ⟨rfl, rfl, rfl, by simp, fun k hk => setRow_other b g k cs' (by omega), fun k cs'' t fr' hk ht _ => (setRow_other b g k cs' (fun e => by
    subst e; rw [hp] at hk; cases hk; exact ht rfl)).trans hk⟩
/-- what an append to one's own bytes writes -/
theorem Fr.grown8 {B : Nat} {K : Nat → Prop} {a b c : World} {v : Value} {l : By} (h : Fr B K a b) (hB : B ≤ a.heap.size) (ho : OwnB b B v l) (hg : b.grownBy c v.ownBlock) : Fr B K a c :=
  h.trans ⟨hg.os, hg.tape, hg.output, hg.size, fun k hk => hg.block k (Nat.lt_of_lt_of_le hk (Nat.le_trans hB h.size)) (fun e => by have := (own_lt ho e.symm).1; omega), fun k cs t fr hk ht _ => (hg.block k (lt_of_heap hk) (fun e => by
    obtain ⟨cs', h'⟩ := own_cells ho e.symm
    rw [h'] at hk; cases hk; exact ht rfl)).trans hk⟩
abbrev pt (b : Nat) : Value := .pointer (some ⟨b, 0, none⟩)
/-- the step that lays, or reads -/
abbrev stepV (m : Bool) (rb : Nat) : Value := .func (.func (if m then 22 else 26)) #[pt rb] #[]
/-- the row of a walk: bytes of its own, or bytes that came in -/
def RowM (m : Bool) (B rb : Nat) (X : Nat → Prop) (L : By) (w : World) : Prop :=
  ∃ p cap, w.heap[rb]? = some (.cells #[.slice p L.length cap] 62 (0, 0)) ∧
    if m then OwnB w B (.slice p L.length cap) L ∧ (∀ g, (Value.slice p L.length cap).ownBlock = some g → ¬ X g) else BysF w (· < B) (.slice p L.length cap) L
structure Wk (m : Bool) (B wb rb : Nat) (X : Nat → Prop) (n : Nat) (s : St) (w : World) : Prop where
  walk : w.heap[wb]? = some (.cells #[stepV m rb, .bool s.ok] 78 (0, 0))
  row : RowM m B rb X s.L w
  lw : B ≤ wb
  lr : B ≤ rb
  len : s.L.length ≤ n
def NoX (_ : Nat) : Prop := False
def vI : Value → Int | .int _ q => q | _ => 0
theorem RowM.le {m : Bool} {B rb : Nat} {X : Nat → Prop} {L : By} {w : World} (h : RowM m B rb X L w) : RowM m B rb NoX L w := by
  obtain ⟨p, cap, h1, h2⟩ := h
  refine ⟨p, cap, h1, ?_⟩
  cases m
  · exact h2
  · exact ⟨h2.1, fun _ _ e => e⟩
/-- all but one block is kept -/
theorem RowM.other {m : Bool} {B rb T : Nat} {X : Nat → Prop} {L : By} {w w' : World} (h : RowM m B rb X L w) (hT : B ≤ T) (hs : ∀ k, k < w.heap.size ∨ k < B → k ≠ T → w'.heap[k]? = w.heap[k]?)
    (hn : w.heap.size ≤ T ∨ ∃ cs t fr, w.heap[T]? = some (.cells cs t fr) ∧ t ≠ 62 ∧ (t = 5 → X T)) : RowM m B rb X L w' := by
  obtain ⟨p, cap, h1, h2⟩ := h
  refine ⟨p, cap, (hs rb (.inl (lt_of_heap h1)) (fun e => ?_)).trans h1, ?_⟩
  · subst e
    rcases hn with hn | ⟨cs, t, fr, h3, h4, _⟩
    · have := lt_of_heap h1; omega
    · rw [h1] at h3; cases h3; exact h4 rfl
  · cases m
    · exact h2.kept (fun b hb => ⟨hb, hs b (.inr hb) (by omega)⟩)
    · refine ⟨own_keep h2.1 (fun g cs e hg => (hs g (.inl (lt_of_heap hg)) (fun e2 => ?_)).trans hg), h2.2⟩
      subst e2
      rcases hn with hn | ⟨cs', t, fr, h3, _, h5⟩
      · have := lt_of_heap hg; omega
      · rw [hg] at h3; cases h3; exact h2.2 _ e (h5 rfl)
theorem Wk.other {m : Bool} {B wb rb n T : Nat} {X : Nat → Prop} {s : St} {w w' : World} (h : Wk m B wb rb X n s w) (hT : B ≤ T) (hs : ∀ k, k < w.heap.size ∨ k < B → k ≠ T → w'.heap[k]? = w.heap[k]?)
    (hn : w.heap.size ≤ T ∨ ∃ cs t fr, w.heap[T]? = some (.cells cs t fr) ∧ (t ≠ 62 ∧ t ≠ 78) ∧ (t = 5 → X T)) : Wk m B wb rb X n s w' := by
  refine ⟨(hs wb (.inl (lt_of_heap h.walk)) (fun e => ?_)).trans h.walk, h.row.other hT hs (hn.imp id fun ⟨cs, t, fr, h1, h2, h3⟩ => ⟨cs, t, fr, h1, h2.1, h3⟩), h.lw, h.lr, h.len⟩
  subst e
  rcases hn with hn | ⟨cs, t, fr, h3, h4, _⟩
  · have := lt_of_heap h.walk; omega
  · have := h.walk; rw [h3] at this; cases this; exact h4.2 rfl
/-- a cell of a block that is neither -/
theorem Wk.set {m : Bool} {B wb rb n : Nat} {X : Nat → Prop} {s : St} {w : World} (h : Wk m B wb rb X n s w) {p : Addr} (hT : B ≤ p.block) (u : Value) {cs : Array Value} {t : TypeId} {fr : Nat × Nat} (h3 : w.heap[p.block]? = some (.cells cs t fr)) (h4 : t ≠ 62 ∧ t ≠ 78) (h5 : t = 5 → X p.block) : Wk m B wb rb X n s (w.setCell p u) :=
  h.other hT (fun k _ hk => Below.heap_setCell w p u k hk) (.inr ⟨cs, t, fr, h3, h4, h5⟩)
theorem Wk.later {m : Bool} {B wb rb n : Nat} {X : Nat → Prop} {s : St} {w w' : World} (h : Wk m B wb rb X n s w) (hB : B ≤ w.heap.size) (hb : Below w.heap.size w w') : Wk m B wb rb (fun k => X k ∨ w.heap.size ≤ k) n s w' := by
  have hs : ∀ k, k < w.heap.size ∨ k < B → w'.heap[k]? = w.heap[k]? := fun k hk => hb.block k (by omega)
  refine ⟨(hs wb (.inl (lt_of_heap h.walk))).trans h.walk, ?_, h.lw, h.lr, h.len⟩
  obtain ⟨p, cap, h1, h2⟩ := h.row
  refine ⟨p, cap, (hs rb (.inl (lt_of_heap h1))).trans h1, ?_⟩
  cases m
  · exact h2.kept (fun b hb => ⟨hb, hs b (.inr hb)⟩)
  · exact ⟨own_keep h2.1 (fun g cs e hg => (hs g (.inl (lt_of_heap hg))).trans hg), fun g e hx => hx.elim (h2.2 g e) (fun hx => by have := (own_lt h2.1 e).2; omega)⟩
theorem Wk.le {m : Bool} {B wb rb n n' : Nat} {X X' : Nat → Prop} {s : St} {w : World} (h : Wk m B wb rb X n s w) (hn : n ≤ n') (hX : ∀ k, X' k → X k) : Wk m B wb rb X' n' s w := by
  refine ⟨h.walk, ?_, h.lw, h.lr, Nat.le_trans h.len hn⟩
  obtain ⟨p, cap, h1, h2⟩ := h.row
  refine ⟨p, cap, h1, ?_⟩
  cases m
  · exact h2
  · exact ⟨h2.1, fun g e hx => h2.2 g e (hX g hx)⟩
theorem Wk.ne {m : Bool} {B wb rb n : Nat} {X : Nat → Prop} {s : St} {w : World} (h : Wk m B wb rb X n s w) : rb ≠ wb := fun e => by
  obtain ⟨p, c, h1, _⟩ := h.row
  rw [e, h.walk] at h1
  simp only [Option.some.injEq, Obj.cells.injEq] at h1
  exact absurd h1.2.1 (by decide)
/-- whether all could be done -/
theorem Wk.setOk {m : Bool} {B wb rb n : Nat} {X : Nat → Prop} {s : St} {w : World} (h : Wk m B wb rb X n s w) (ok : Bool) : Wk m B wb rb X n ⟨ok, s.L⟩ (w.setCell ⟨wb, 1, none⟩ (.bool ok)) := by
  have hs : ∀ k, k ≠ wb → (w.setCell ⟨wb, 1, none⟩ (.bool ok)).heap[k]? = w.heap[k]? := fun k hk => Below.heap_setCell _ _ _ _ hk
  refine ⟨by rw [set_heap h.walk]; rfl, ?_, h.lw, h.lr, h.len⟩
  obtain ⟨p, cap, h1, h2⟩ := h.row
  refine ⟨p, cap, (hs rb h.ne).trans h1, ?_⟩
  have hl := h.lw
  cases m
  · exact h2.kept (fun b hb => ⟨hb, hs b (fun e => by subst e; omega)⟩)
  · refine ⟨own_keep h2.1 (fun g cs e hg => (hs g (fun e2 => ?_)).trans hg), h2.2⟩
    subst e2
    rw [h.walk] at hg
    simp only [Option.some.injEq, Obj.cells.injEq] at hg
    exact absurd hg.2.1 (by decide)
theorem Wk.neT {m : Bool} {B wb rb n T : Nat} {X : Nat → Prop} {s : St} {w : World} (h : Wk m B wb rb X n s w) {cs : Array Value} {t : TypeId} {fr : Nat × Nat} (hT : w.heap[T]? = some (.cells cs t fr)) (ht : t ≠ 62 ∧ t ≠ 78) : ¬ (T = wb ∨ T = rb) := by
  rintro (rfl | rfl)
  · rw [h.walk] at hT
    simp only [Option.some.injEq, Obj.cells.injEq] at hT
    exact ht.2 hT.2.1.symm
  · obtain ⟨p, c, h1, _⟩ := h.row
    rw [h1] at hT
    simp only [Option.some.injEq, Obj.cells.injEq] at hT
    exact ht.1 hT.2.1.symm
end Go.Proofs.Ytjdfdihopgceoaa.Cd
