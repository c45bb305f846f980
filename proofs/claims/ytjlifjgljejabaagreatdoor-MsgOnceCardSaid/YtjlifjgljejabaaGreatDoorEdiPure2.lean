/- What follows for the plain model of edi: there and back, cuts, one text behind the other. -/
import Derived.Test.YtjlifjgljejabaaGreatDoorEdiPure
namespace Go.Edi

theorem mkd_app (x y : Tx) : mkd (x ++ y) = mkd x ++ mkd y := by
  induction x with
  | nil => rfl
  | cons c x ih =>
    simp only [List.cons_append, mkd]
    split <;> simp [ih]
theorem jnT_app (x : Tx) (a b : List Tx) : jnT x (a ++ b) = jnT x a ++ jnT x b := by
  induction a with
  | nil => rfl
  | cons y a ih => simp [jnT, ih]
theorem elT_last (el : List Tx) (a b : Tx) : elT (el ++ [a ++ b]) = elT (el ++ [a]) ++ mkd b := by
  unfold elT
  match el with
  | [] => simp [jn, jnT, mkd_app]
  | y :: r => simp [jn, jnT_app, jnT, mkd_app]
theorem elT_more (el : List Tx) (a : Tx) : elT (el ++ [a] ++ [[]]) = elT (el ++ [a]) ++ [58] := by
  unfold elT
  match el with
  | [] => simp [jn, jnT, mkd]
  | y :: r => simp [jn, jnT_app, jnT, mkd]
theorem txT_app (a b : List Sg) : txT (a ++ b) = txT a ++ txT b := by
  induction a with
  | nil => rfl
  | cons s a ih => simp [txT, ih]
def okE (e : List Tx) : Prop := 0 < e.length ∧ shortE e = true ∧ e.all (fun c => c.all pln) = true
def okS (s : Sg) : Prop := wholeS s = true ∧ plainS s = true ∧ shortS s = true
/-- what holds of every state that a text leads to -/
structure Cm (s : RS) : Prop where
  wi : s.wi = true
  tg : isTag s.tg = true
  els : ∀ e ∈ s.els, okE e
  elsl : s.els.length ≤ 15
  ell : s.el.length ≤ 7
  el : ∀ c ∈ s.el, c.length ≤ 256 ∧ c.all pln = true
  wdl : s.wd.length ≤ 256
  wd : s.wd.all pln = true
  sl : s.segs.length < 64
def good (s : RS) : Prop := (∀ g ∈ s.segs, okS g) ∧ s.segs.length ≤ 64 ∧ (match s.md with
  | .out => s = rest s.segs
  | .tag => s.wi = true ∧ s.tg = [] ∧ s.els = [] ∧ s.el = [] ∧ s.wd.length < 3 ∧ s.wd.all tgc = true ∧ s.segs.length < 64
  | .beh => s.wi = true ∧ isTag s.tg = true ∧ s.els = [] ∧ s.el = [] ∧ s.wd = [] ∧ s.segs.length < 64
  | .cmp => Cm s
  | .mrk => Cm s)
def opn (s : RS) : Tx := s.tg ++ (jnT [43] (s.els.map elT) ++ 43 :: elT (s.el ++ [s.wd]))
def txOf (s : RS) : Tx := txT s.segs ++ (match s.md with
  | .out => []
  | .tag => s.wd
  | .beh => s.tg
  | .cmp => opn s
  | .mrk => opn s ++ [63])
def nt (c : UInt8) : Tx := if c = 10 then [] else [c]
theorem nt_of {c : UInt8} (h : ¬ c = 10) : nt c = [c] := if_neg h
theorem tgc10 {c : UInt8} (h : tgc c = true) : ¬ c = 10 := by rintro rfl; exact absurd h (by decide)
theorem pln10 {c : UInt8} (h : pln c = true) : ¬ c = 10 := by rintro rfl; exact absurd h (by decide)
theorem okE_snoc {s : RS} (h : Cm s) : okE (s.el ++ [s.wd]) := by
  refine ⟨by simp, ?_, ?_⟩
  · simp only [shortE, Bool.and_eq_true, decide_eq_true_eq, List.all_eq_true, List.length_append, List.length_cons, List.length_nil, List.mem_append, List.mem_singleton]
    refine ⟨by have := h.ell; omega, ?_⟩
    rintro c (hc | rfl)
    · exact (h.el c hc).1
    · exact h.wdl
  · rw [List.all_eq_true]
    intro c hc
    rw [List.mem_append, List.mem_singleton] at hc
    rcases hc with hc | rfl
    · exact (h.el c hc).2
    · exact h.wd
theorem okS_of (t : Tx) (els : List (List Tx)) (ht : isTag t = true) (he : ∀ e ∈ els, okE e) (hl : els.length ≤ 16) : okS ⟨t, els⟩ := by
  refine ⟨?_, ?_, ?_⟩
  · simp only [wholeS, ht, Bool.true_and, List.all_eq_true, decide_eq_true_eq]; exact fun e h => (he e h).1
  · simp only [plainS, List.all_eq_true]
    intro e h; have := (he e h).2.2; simpa [List.all_eq_true] using this
  · simp only [shortS, Bool.and_eq_true, decide_eq_true_eq, List.all_eq_true]; exact ⟨hl, fun e h => (he e h).2.1⟩
theorem add_inv {s s' : RS} {c : UInt8} (hs : ∀ g ∈ s.segs, okS g) (h : Cm s) (hmd : s.md = .cmp) (he : add s c = (0, s')) : good s' ∧ s'.segs = s.segs ∧ s'.md = .cmp ∧ opn s' = opn s ++ mkd [c] ∧ ¬ c = 10 := by
  unfold add at he
  split at he
  · simp at he
  · rename_i h256
    split at he
    · rename_i hp
      simp only [Prod.mk.injEq, true_and] at he
      subst he
      refine ⟨⟨hs, Nat.le_of_lt h.sl, ?_⟩, rfl, hmd, ?_, pln10 hp⟩
      · simp only [hmd]
        have hwl := h.wdl
        exact ⟨h.wi, h.tg, h.els, h.elsl, h.ell, h.el, by simp only [List.length_append, List.length_cons, List.length_nil]; omega, by rw [List.all_append, h.wd]; simp [hp], h.sl⟩
      · simp only [opn, elT_last, List.append_assoc, List.cons_append]
    · simp at he
theorem seg_inv {s : RS} (hs : ∀ g ∈ s.segs, okS g) (ht : isTag s.tg = true) (he : ∀ e ∈ s.els, okE e) (hl : s.els.length ≤ 16) (hl2 : s.segs.length < 64) (h1 : s.el = []) (h2 : s.wd = []) :
    good (endSeg s) ∧ txOf (endSeg s) = txT s.segs ++ (sgT ⟨s.tg, s.els⟩ ++ [39]) := by
  refine ⟨⟨?_, ?_, ?_⟩, ?_⟩
  · intro g hg
    simp only [endSeg, List.mem_append, List.mem_singleton] at hg
    rcases hg with hg | rfl
    · exact hs g hg
    · exact okS_of _ _ ht he hl
  · simp [endSeg]; omega
  · simp [endSeg, rest, h1, h2]
  · simp [endSeg, txOf, txT_app, txT]
theorem inTag_inv {s s' : RS} {c : UInt8} (hs : ∀ g ∈ s.segs, okS g) (h : s.wi = true ∧ s.tg = [] ∧ s.els = [] ∧ s.el = [] ∧ s.wd.length < 3 ∧ s.wd.all tgc = true ∧ s.segs.length < 64) (hmd : s.md = .tag)
    (he : inTag s c = (0, s')) : good s' ∧ txOf s' = txT s.segs ++ s.wd ++ [c] ∧ ¬ c = 10 := by
  unfold inTag at he
  obtain ⟨md, segs, tg, els, el, wd, wi⟩ := s
  simp only at h hmd hs
  obtain ⟨rfl, rfl, rfl, rfl, h5, h6, h7⟩ := h
  subst hmd
  split at he
  · rename_i ht
    refine ⟨?_, ?_, tgc10 ht⟩
    all_goals
      simp only at he
      split at he
      · rename_i h3
        simp only [Prod.mk.injEq, true_and] at he
        subst he
        first
        | refine ⟨hs, Nat.le_of_lt h7, rfl, ?_, rfl, rfl, rfl, h7⟩
          match wd, h3 with
          | [a, b], _ =>
            simp at h6
            simp [isTag, h6.1, h6.2, ht]
        | simp [txOf]
      · rename_i h3
        simp only [Prod.mk.injEq, true_and] at he
        subst he
        first
        | exact ⟨hs, Nat.le_of_lt h7, rfl, rfl, rfl, rfl, by simp only [List.length_append, List.length_cons, List.length_nil]; omega, by rw [List.all_append, h6]; simp [ht], h7⟩
        | simp [txOf]
  · simp at he
theorem begin_inv {s s' : RS} (hs : ∀ g ∈ s.segs, okS g) (hw : s.wi = true) (ht : isTag s.tg = true) (hels : ∀ e ∈ s.els, okE e) (hl : s.els.length ≤ 16) (hl2 : s.segs.length < 64) (h1 : s.el = []) (h2 : s.wd = [])
    (he : beginElem s = (0, s')) : good s' ∧ txOf s' = txT s.segs ++ (s.tg ++ jnT [43] (s.els.map elT)) ++ [43] := by
  unfold beginElem at he
  split at he
  · simp at he
  · simp only [Prod.mk.injEq, true_and] at he
    subst he
    refine ⟨⟨hs, Nat.le_of_lt hl2, hw, ht, hels, by simp only; omega, by simp [h1], by simp [h1], by simp [h2], by simp [h2], hl2⟩, ?_⟩
    simp [txOf, opn, h1, h2, elT, jn, jnT, mkd]
theorem opn_end (s : RS) : s.tg ++ jnT [43] ((s.els ++ [s.el ++ [s.wd]]).map elT) = opn s := by
  simp [opn, jnT_app, jnT]
theorem step_inv {s s' : RS} {c : UInt8} (h : good s) (he : step s c = (0, s')) : good s' ∧ txOf s' = txOf s ++ nt c := by
  obtain ⟨hs, hl, hm⟩ := h
  unfold step at he
  cases hmd : s.md with
  | out =>
    rw [hmd] at hm he
    simp only at hm he
    unfold outS at he
    split at he
    · rename_i hc
      simp only [Prod.mk.injEq, true_and] at he
      subst he
      exact ⟨⟨hs, hl, by rw [hmd]; exact hm⟩, by rw [hc.1]; simp [nt]⟩
    · split at he
      · simp at he
      · rename_i h64
        rw [hm] at he
        have := inTag_inv (s := { rest s.segs with wi := true, md := .tag }) hs ⟨rfl, rfl, rfl, rfl, by simp [rest], by simp [rest], by simp [rest]; omega⟩ rfl he
        refine ⟨this.1, ?_⟩
        rw [this.2.1, nt_of this.2.2]
        simp [rest, txOf, hmd]
  | tag =>
    rw [hmd] at hm he
    have := inTag_inv hs hm hmd he
    refine ⟨this.1, ?_⟩
    rw [this.2.1, nt_of this.2.2]
    simp [txOf, hmd]
  | beh =>
    rw [hmd] at hm he
    simp only at hm he
    unfold behTag at he
    split at he
    · rename_i hc
      have := begin_inv hs hm.1 hm.2.1 (by rw [hm.2.2.1]; simp) (by rw [hm.2.2.1]; simp) hm.2.2.2.2.2 hm.2.2.2.1 hm.2.2.2.2.1 he
      refine ⟨this.1, ?_⟩
      rw [this.2, hc]
      simp [txOf, hmd, hm.2.2.1, jnT, nt]
    · split at he
      · rename_i hc
        simp only [Prod.mk.injEq, true_and] at he
        subst he
        have := seg_inv hs hm.2.1 (by rw [hm.2.2.1]; simp) (by rw [hm.2.2.1]; simp) hm.2.2.2.2.2 hm.2.2.2.1 hm.2.2.2.2.1
        refine ⟨this.1, ?_⟩
        rw [this.2, hc]
        simp [txOf, hmd, hm.2.2.1, sgT, jn, jnT, nt]
      · simp at he
  | cmp =>
    rw [hmd] at hm he
    simp only at hm he
    have hok := okE_snoc hm
    have hels : ∀ e ∈ s.els ++ [s.el ++ [s.wd]], okE e := by
      intro e h
      rw [List.mem_append, List.mem_singleton] at h
      rcases h with h | rfl
      · exact hm.els e h
      · exact hok
    have hlen : (s.els ++ [s.el ++ [s.wd]]).length ≤ 16 := by have := hm.elsl; simp only [List.length_append, List.length_cons, List.length_nil]; omega
    unfold inComp at he
    split at he
    · rename_i hc
      have := begin_inv (s := endElem s) hs hm.wi hm.tg hels hlen hm.sl rfl rfl he
      refine ⟨this.1, ?_⟩
      rw [this.2, hc]
      have e : (endElem s).tg ++ jnT [43] ((endElem s).els.map elT) = opn s := opn_end s
      rw [e]
      simp [txOf, hmd, nt, endElem]
    · split at he
      · rename_i hc
        unfold nextComp at he
        split at he
        · simp at he
        · rename_i h8
          simp only [Prod.mk.injEq, true_and] at he
          subst he
          have h7 := hm.ell
          refine ⟨⟨hs, hl, ?_⟩, ?_⟩
          · simp only [endComp, hmd]
            refine ⟨hm.wi, hm.tg, hm.els, hm.elsl, by simp only [List.length_append, List.length_cons, List.length_nil]; omega, ?_, by simp, by simp, hm.sl⟩
            intro c hc
            simp only [List.mem_append, List.mem_singleton] at hc
            rcases hc with hc | rfl
            · exact hm.el c hc
            · exact ⟨hm.wdl, hm.wd⟩
          · have e := elT_more s.el s.wd
            simp only [txOf, endComp, hmd, opn, e, hc, nt]
            simp
      · split at he
        · rename_i hc
          simp only [Prod.mk.injEq, true_and] at he
          subst he
          have := seg_inv (s := endElem s) hs hm.tg hels hlen hm.sl rfl rfl
          refine ⟨this.1, ?_⟩
          rw [this.2, hc]
          have e : (endElem s).tg ++ jnT [43] ((endElem s).els.map elT) = opn s := opn_end s
          simp only [sgT, jn, e]
          simp [txOf, hmd, nt, endElem]
        · split at he
          · rename_i hc
            simp only [Prod.mk.injEq, true_and] at he
            subst he
            refine ⟨⟨hs, hl, ⟨hm.wi, hm.tg, hm.els, hm.elsl, hm.ell, hm.el, hm.wdl, hm.wd, hm.sl⟩⟩, ?_⟩
            simp [txOf, hmd, nt, opn, hc]
          · rename_i h1 h2 h3 h4
            have := add_inv hs hm hmd he
            refine ⟨this.1, ?_⟩
            have hns : sgn c = false := by simp [sgn, h1, h2, h3, h4]
            rw [nt_of this.2.2.2.2]
            simp only [txOf, this.2.1, this.2.2.1, this.2.2.2.1, hmd, mkd, hns]
            simp
  | mrk =>
    rw [hmd] at hm he
    simp only at hm he
    unfold behMark at he
    split at he
    · rename_i hc
      have := add_inv (s := { s with md := .cmp }) hs ⟨hm.wi, hm.tg, hm.els, hm.elsl, hm.ell, hm.el, hm.wdl, hm.wd, hm.sl⟩ rfl he
      refine ⟨this.1, ?_⟩
      rw [nt_of this.2.2.2.2]
      have e : opn { s with md := .cmp } = opn s := rfl
      simp only [txOf, this.2.1, this.2.2.1, this.2.2.2.1, hmd, mkd, hc, e, if_true]
      simp
    · simp at he
theorem run_inv (t : Tx) : ∀ (s : RS) (i : Nat), good s → (runL s i t).2.1 = 0 → good (runL s i t).2.2 ∧ txOf (runL s i t).2.2 = txOf s ++ t.filter (fun c => decide (¬ c = 10)) := by
  induction t with
  | nil => intro s i h _; exact ⟨h, by simp [runL]⟩
  | cons c t ih =>
    intro s i h he
    simp only [runL] at he ⊢
    split
    · rename_i h1
      rw [if_pos h1] at he
      have h2 := step_inv h (show step s c = (0, (step s c).2) by rw [← h1])
      have h3 := ih _ _ h2.1 he
      refine ⟨h3.1, ?_⟩
      rw [h3.2, h2.2]
      unfold nt
      by_cases hc : c = 10
      · simp [hc]
      · simp [hc]
    · rename_i h1
      rw [if_neg h1] at he
      exact absurd he h1
theorem good_s0 : good s0 := ⟨by simp [s0], by simp [s0], rfl⟩
theorem good_out {s : RS} (h : good s) (hw : s.wi = false) : s = rest s.segs := by
  obtain ⟨_, _, h⟩ := h
  cases hmd : s.md <;> rw [hmd] at h
  · exact h
  · rw [hw] at h; exact absurd h.1 (by simp)
  · rw [hw] at h; exact absurd h.1 (by simp)
  · have := h.wi; rw [hw] at this; simp at this
  · have := h.wi; rw [hw] at this; simp at this
/-- a text that is one -/
theorem parse_ok {t : Tx} (h : (parseL t).2.2 = 0) : t.length ≤ 65536 ∧ runL s0 0 t = (t.length, 0, rest (parseL t).1) ∧ parseL t = ((parseL t).1, 0, 0) := by
  unfold parseL at h ⊢
  split at h
  · simp at h
  · rename_i h1
    split at h
    · rename_i h2
      split at h
      · simp at h
      · rename_i h3
        rw [if_neg h1, if_pos h2, if_neg h3]
        refine ⟨by omega, ?_, rfl⟩
        have hi := run_inv t s0 0 good_s0 h2
        have := good_out hi.1 (by simpa using h3)
        have h4 := runL_ok_at s0 0 t h2
        rw [Nat.zero_add] at h4
        generalize hr : runL s0 0 t = r at *
        obtain ⟨a, b, c⟩ := r
        simp only at h2 h4 this ⊢
        rw [h2, h4, ← this]
    · rename_i h2; exact absurd h h2
/-- what is parsed is printed as the text, without its bytes 10 -/
theorem back2 {t : Tx} (h : (parseL t).2.2 = 0) : printL (parseL t).1 = (t.filter (fun c => decide (¬ c = 10)), 0) := by
  obtain ⟨h1, h2, h3⟩ := parse_ok h
  have hi := run_inv t s0 0 good_s0 (by rw [h2])
  rw [h2] at hi
  have hl : (t.filter (fun c => decide (¬ c = 10))).length ≤ t.length := List.length_filter_le _ _
  have htx : txT (parseL t).1 = t.filter (fun c => decide (¬ c = 10)) := by
    have := hi.2
    simpa [txOf, rest, s0, txT] using this
  obtain ⟨hs, hc, _⟩ := hi.1
  simp only [rest] at hs hc
  unfold printL
  rw [if_pos (by rw [List.all_eq_true]; exact fun g hg => (hs g hg).1), if_pos (by rw [List.all_eq_true]; exact fun g hg => (hs g hg).2.1), if_pos (by
    rw [Bool.and_eq_true, List.all_eq_true]; exact ⟨by simpa using hc, fun g hg => (hs g hg).2.2⟩), htx, if_neg (by omega)]
theorem parse_bad {t : Tx} (h : (parseL t).2.2 ≠ 0) : (parseL t).1 = [] := by
  unfold parseL at h ⊢
  split
  · rfl
  · rename_i h1
    rw [if_neg h1] at h
    split
    · rename_i h2
      rw [if_pos h2] at h
      split
      · rfl
      · rename_i h3; rw [if_neg h3] at h; exact absurd rfl h
    · rfl
theorem step_codes (s : RS) (c : UInt8) : (step s c).1 = 0 ∨ (step s c).1 = 2 ∨ (step s c).1 = 30 := by
  unfold step
  cases s.md <;> simp only [outS, inTag, behTag, inComp, behMark, beginElem, nextComp, add] <;> (repeat' split) <;> simp
theorem run_err (t : Tx) : ∀ (s : RS) (i : Nat), (runL s i t).2.1 ≠ 0 → ∃ k, (runL s i t).1 = i + k ∧ k < t.length ∧ (runL s i (t.take k)).2.1 = 0 ∧ (runL s i t).2.1 ≠ 31 := by
  induction t with
  | nil => intro s i h; exact absurd rfl h
  | cons c t ih =>
    intro s i h
    simp only [runL] at h ⊢
    split
    · rename_i h1
      rw [if_pos h1] at h
      obtain ⟨k, h2, h3, h4, h5⟩ := ih _ _ h
      refine ⟨k + 1, by rw [h2]; omega, by simp; omega, ?_, h5⟩
      simp only [List.take_succ_cons, runL, if_pos h1]
      exact h4
    · rename_i h1
      refine ⟨0, rfl, by simp, rfl, ?_⟩
      rcases step_codes s c with h2 | h2 | h2
      · exact absurd h2 h1
      · simp [h2]
      · simp [h2]
/-- up to the place of an error a text may go on -/
theorem cut {t : Tx} (hl : t.length ≤ 65536) (h : (parseL t).2.2 ≠ 0) : (parseL t).2.1 ≤ t.length ∧ ((parseL t).2.2 = 31 ↔ (parseL t).2.1 = t.length) ∧
    ((parseL (t.take (parseL t).2.1)).2.2 = 0 ∨ ((parseL (t.take (parseL t).2.1)).2.2 = 31 ∧ (parseL (t.take (parseL t).2.1)).2.1 = (parseL t).2.1)) := by
  have key : ∀ k, k ≤ t.length → (runL s0 0 (t.take k)).2.1 = 0 → ((parseL (t.take k)).2.2 = 0 ∨ ((parseL (t.take k)).2.2 = 31 ∧ (parseL (t.take k)).2.1 = k)) := by
    intro k hk hr
    have hlt : (t.take k).length = k := by rw [List.length_take]; omega
    unfold parseL
    rw [if_neg (by omega), if_pos hr]
    split
    · right; exact ⟨rfl, hlt⟩
    · left; rfl
  by_cases h2 : (runL s0 0 t).2.1 = 0
  · have hp : parseL t = ([], t.length, 31) := by
      unfold parseL at h ⊢
      rw [if_neg (by omega), if_pos h2] at h ⊢
      split
      · rfl
      · rename_i h3; rw [if_neg h3] at h; exact absurd rfl h
    rw [hp]
    refine ⟨Nat.le_refl _, by simp, key _ (Nat.le_refl _) (by rw [List.take_length]; exact h2)⟩
  · obtain ⟨k, h3, h4, h5, h6⟩ := run_err t s0 0 h2
    have hp : parseL t = ([], k, (runL s0 0 t).2.1) := by
      unfold parseL
      rw [if_neg (by omega), if_neg h2, h3]; simp
    rw [hp]
    refine ⟨by simp only; omega, ⟨fun e => absurd e h6, fun e => by simp only at e; omega⟩, key k (by omega) h5⟩
/-- a reader that has read segments before -/
def shf (l : List Sg) (s : RS) : RS := { s with segs := l ++ s.segs }
theorem inTag_shf (l : List Sg) (s : RS) (c : UInt8) : inTag (shf l s) c = ((inTag s c).1, shf l (inTag s c).2) := by
  unfold inTag shf; (repeat' split) <;> simp_all
theorem step_shf (l : List Sg) (s : RS) (c : UInt8) (h : s.md = .out → (s.segs.length = 0 → ¬ c = 10) ∧ (c = 10 ∨ l.length + s.segs.length < 64)) (h0 : (step s c).1 = 0) : step (shf l s) c = (0, shf l (step s c).2) := by
  unfold step at h0 ⊢
  cases hmd : s.md with
  | out =>
    have h' := h hmd
    simp only [show (shf l s).md = .out from hmd]
    rw [hmd] at h0
    simp only at h0 ⊢
    unfold outS at h0 ⊢
    by_cases h1 : c = 10 ∧ 0 < s.segs.length
    · rw [if_pos h1, if_pos ⟨h1.1, by simp [shf]; omega⟩]
    · have hc : ¬ c = 10 := fun e => by
        by_cases hz : s.segs.length = 0
        · exact h'.1 hz e
        · exact h1 ⟨e, by omega⟩
      rw [if_neg h1] at h0 ⊢
      rw [if_neg (fun e => hc e.1)]
      have hlt := h'.2.resolve_left hc
      have h64 : ¬ s.segs.length = 64 := by omega
      have h64' : ¬ (shf l s).segs.length = 64 := by simp only [shf, List.length_append]; omega
      rw [if_neg h64] at h0 ⊢
      rw [if_neg h64']
      have := inTag_shf l { s with wi := true, md := .tag } c
      rw [h0] at this
      exact this
  | tag =>
    simp only [show (shf l s).md = .tag from hmd]
    rw [hmd] at h0
    simp only at h0
    rw [inTag_shf, h0]
  | beh =>
    simp only [show (shf l s).md = .beh from hmd]
    rw [hmd] at h0
    revert h0
    simp only [behTag, beginElem, endSeg, shf]
    (repeat' split) <;> simp_all
  | cmp =>
    simp only [show (shf l s).md = .cmp from hmd]
    rw [hmd] at h0
    revert h0
    simp only [inComp, beginElem, nextComp, endComp, endSeg, endElem, add, shf]
    by_cases h16 : s.els.length = 15 <;> (repeat' split) <;> simp_all
  | mrk =>
    simp only [show (shf l s).md = .mrk from hmd]
    rw [hmd] at h0
    revert h0
    simp only [behMark, add, shf]
    (repeat' split) <;> simp_all
theorem step_len (s : RS) (c : UInt8) : s.segs.length ≤ (step s c).2.segs.length ∧ ((step s c).2.md = .out → s.md ≠ .out → s.segs.length + 1 ≤ (step s c).2.segs.length) := by
  unfold step
  by_cases h16 : s.els.length = 15 <;> cases hmd : s.md <;> simp only [outS, inTag, behTag, inComp, behMark, beginElem, nextComp, add, endSeg, endElem, endComp] <;> (repeat' split) <;> simp_all
theorem run_len (t : Tx) : ∀ (s : RS) (i : Nat), (runL s i t).2.1 = 0 → s.segs.length ≤ (runL s i t).2.2.segs.length ∧ ((runL s i t).2.2.md = .out → s.md ≠ .out → s.segs.length + 1 ≤ (runL s i t).2.2.segs.length) := by
  induction t with
  | nil => intro s i _; exact ⟨Nat.le_refl _, fun h1 h2 => absurd h1 h2⟩
  | cons c t ih =>
    intro s i he
    simp only [runL] at he ⊢
    split
    · rename_i h1
      rw [if_pos h1] at he
      have h2 := ih _ _ he
      have h3 := step_len s c
      refine ⟨by omega, fun h4 h5 => ?_⟩
      by_cases h6 : (step s c).2.md = .out
      · have := h3.2 h6 h5; omega
      · have := h2.2 h4 h6; omega
    · rename_i h1
      rw [if_neg h1] at he
      exact absurd he h1
theorem out_step (s : RS) (c : UInt8) (hmd : s.md = .out) (h0 : (step s c).1 = 0) : (c = 10 ∧ 0 < s.segs.length ∧ (step s c).2 = s) ∨ ((step s c).2.md ≠ .out ∧ ¬ c = 10) := by
  unfold step at h0 ⊢
  rw [hmd] at h0 ⊢
  simp only [outS] at h0 ⊢
  split
  · rename_i h; left; exact ⟨h.1, h.2, rfl⟩
  · rename_i h
    rw [if_neg h] at h0
    split
    · rename_i h1; rw [if_pos h1] at h0; simp at h0
    · rename_i h1
      rw [if_neg h1] at h0
      right
      unfold inTag at h0 ⊢
      split
      · rename_i ht
        refine ⟨?_, tgc10 ht⟩
        split <;> simp
      · rename_i ht; simp [ht] at h0
theorem run_shf (l : List Sg) (t : Tx) : ∀ (s : RS) (i : Nat), (runL s i t).2.1 = 0 → (runL s i t).2.2.md = .out → l.length + (runL s i t).2.2.segs.length ≤ 64 →
    (runL (shf l s) i t) = ((runL s i t).1, 0, shf l (runL s i t).2.2) := by
  induction t with
  | nil => intro s i _ _ _; rfl
  | cons c t ih =>
    intro s i he ho hl
    simp only [runL] at he ho hl ⊢
    by_cases h1 : (step s c).1 = 0
    · rw [if_pos h1] at he ho hl
      rw [if_pos h1]
      have h2 := ih _ (i + 1) he ho hl
      have h3 := run_len t (step s c).2 (i + 1) he
      have h4 := step_shf l s c (fun hmd => by
        rcases out_step s c hmd h1 with ⟨e1, e2, _⟩ | ⟨e1, e2⟩
        · exact ⟨fun e => absurd e (by omega), Or.inl e1⟩
        · have h5 := h3.2 ho e1
          have h6 := (step_len s c).1
          exact ⟨fun _ => e2, Or.inr (by omega)⟩) h1
      rw [h4]
      simpa using h2
    · rw [if_neg h1] at he; exact absurd he h1
/-- two texts one behind the other -/
theorem parse_app {a b : Tx} (ha : (parseL a).2.2 = 0) (hb : (parseL b).2.2 = 0) (hl : (parseL a).1.length + (parseL b).1.length ≤ 64) (hab : a.length + b.length ≤ 65536) :
    parseL (a ++ b) = ((parseL a).1 ++ (parseL b).1, 0, 0) := by
  obtain ⟨a1, a2, a3⟩ := parse_ok ha
  obtain ⟨b1, b2, b3⟩ := parse_ok hb
  have hi : ∀ (t : Tx) (s : RS) (i j : Nat), (runL s i t).2 = (runL s j t).2 := by
    intro t
    induction t with
    | nil => intro s i j; rfl
    | cons c t ih => intro s i j; simp only [runL]; split
                     · exact ih _ _ _
                     · rfl
  have hr : (runL s0 0 (a ++ b)).2 = (0, rest ((parseL a).1 ++ (parseL b).1)) := by
    rw [runL_app, a2]
    simp only [if_true]
    have h1 := run_shf (parseL a).1 b s0 (0 + a.length) (by rw [hi b s0 _ 0, b2]) (by rw [hi b s0 _ 0, b2]; rfl) (by rw [hi b s0 _ 0, b2]; exact hl)
    have e : shf (parseL a).1 s0 = rest (parseL a).1 := by simp [shf, s0, rest]
    rw [e] at h1
    rw [h1, hi b s0 _ 0, b2]
    simp [shf, rest]
  unfold parseL
  rw [if_neg (by simp; omega), hr]
  simp only [if_true, rest]
  simp [parseL, rest] at *
end Go.Edi
