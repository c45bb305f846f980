/- The plain model of the layer edi: a text's reader, step by step, and the text of segments. -/
namespace Go.Edi

abbrev Tx := List UInt8
structure Sg where
  tag : Tx
  els : List (List Tx)
def sgn (c : UInt8) : Bool := c == 43 || c == 58 || c == 39 || c == 63
def tgc (c : UInt8) : Bool := (decide (65 ≤ c) && decide (c ≤ 90)) || (decide (48 ≤ c) && decide (c ≤ 57))
def pln (c : UInt8) : Bool := decide (32 ≤ c) && decide (c ≤ 126)
inductive Md
  | out | tag | beh | cmp | mrk
structure RS where
  md : Md
  segs : List Sg
  tg : Tx
  els : List (List Tx)
  el : List Tx
  wd : Tx
  wi : Bool
def s0 : RS := ⟨.out, [], [], [], [], [], false⟩
def add (s : RS) (c : UInt8) : Nat × RS := if s.wd.length = 256 then (2, s) else if pln c then (0, { s with wd := s.wd ++ [c] }) else (30, s)
def endComp (s : RS) : RS := { s with el := s.el ++ [s.wd], wd := [] }
def endElem (s : RS) : RS := { s with els := s.els ++ [s.el ++ [s.wd]], el := [], wd := [] }
def endSeg (s : RS) : RS := { s with segs := s.segs ++ [⟨s.tg, s.els⟩], tg := [], els := [], wi := false, md := .out }
def beginElem (s : RS) : Nat × RS := if s.els.length = 16 then (2, s) else (0, { s with md := .cmp })
def nextComp (s : RS) : Nat × RS := if s.el.length + 1 = 8 then (2, endComp s) else (0, endComp s)
def inTag (s : RS) (c : UInt8) : Nat × RS :=
  if tgc c then (if s.wd.length + 1 = 3 then (0, { s with tg := s.wd ++ [c], wd := [], md := .beh }) else (0, { s with wd := s.wd ++ [c] })) else (30, s)
def behTag (s : RS) (c : UInt8) : Nat × RS := if c = 43 then beginElem s else if c = 39 then (0, endSeg s) else (30, s)
def inComp (s : RS) (c : UInt8) : Nat × RS :=
  if c = 43 then beginElem (endElem s) else if c = 58 then nextComp s else if c = 39 then (0, endSeg (endElem s)) else if c = 63 then (0, { s with md := .mrk }) else add s c
def behMark (s : RS) (c : UInt8) : Nat × RS := if sgn c then add { s with md := .cmp } c else (30, s)
def outS (s : RS) (c : UInt8) : Nat × RS :=
  if c = 10 ∧ 0 < s.segs.length then (0, s) else if s.segs.length = 64 then (2, s) else inTag { s with wi := true, md := .tag } c
def step (s : RS) (c : UInt8) : Nat × RS :=
  match s.md with
  | .out => outS s c
  | .tag => inTag s c
  | .beh => behTag s c
  | .cmp => inComp s c
  | .mrk => behMark s c
/-- place, error, state -/
def runL : RS → Nat → Tx → Nat × Nat × RS
  | s, i, [] => (i, 0, s)
  | s, i, c :: t => if (step s c).1 = 0 then runL (step s c).2 (i + 1) t else (i, step s c)
def parseL (t : Tx) : List Sg × Nat × Nat :=
  if 65536 < t.length then ([], 0, 2) else
  if (runL s0 0 t).2.1 = 0 then (if (runL s0 0 t).2.2.wi then ([], t.length, 31) else ((runL s0 0 t).2.2.segs, 0, 0)) else ([], (runL s0 0 t).1, (runL s0 0 t).2.1)

def mkd : Tx → Tx
  | [] => []
  | c :: t => if sgn c then 63 :: c :: mkd t else c :: mkd t
/-- texts put behind a first one, the same ahead of each -/
def jnT (x : Tx) : List Tx → Tx
  | [] => []
  | y :: t => x ++ (y ++ jnT x t)
def jn (x : Tx) : List Tx → Tx
  | [] => []
  | y :: t => y ++ jnT x t
def elT (e : List Tx) : Tx := jn [58] (e.map mkd)
def sgT (s : Sg) : Tx := jn [43] (s.tag :: s.els.map elT)
def txT : List Sg → Tx
  | [] => []
  | s :: t => sgT s ++ (39 :: txT t)
def isTag (t : Tx) : Bool := match t with
  | [a, b, c] => tgc a && tgc b && tgc c
  | _ => false
def wholeS (s : Sg) : Bool := isTag s.tag && s.els.all (fun e => decide (0 < e.length))
def plainS (s : Sg) : Bool := s.els.all (fun e => e.all (fun c => c.all pln))
def shortE (e : List Tx) : Bool := decide (e.length ≤ 8) && e.all (fun c => decide (c.length ≤ 256))
def shortS (s : Sg) : Bool := decide (s.els.length ≤ 16) && s.els.all shortE
def printL (l : List Sg) : Tx × Nat :=
  if l.all wholeS then (if l.all plainS then (if decide (l.length ≤ 64) && l.all shortS then (if 65536 < (txT l).length then ([], 2) else (txT l, 0)) else ([], 2)) else ([], 30)) else ([], 1)

theorem runL_app (s : RS) (i : Nat) (t u : Tx) : runL s i (t ++ u) = if (runL s i t).2.1 = 0 then runL (runL s i t).2.2 (i + t.length) u else runL s i t := by
  induction t generalizing s i with
  | nil => simp [runL]
  | cons c t ih =>
    simp only [List.cons_append, runL]
    split
    · rw [ih]; simp only [List.length_cons, show i + 1 + t.length = i + (t.length + 1) by omega]
    · rename_i h; simp
theorem runL_ok_at (s : RS) (i : Nat) (t : Tx) (h : (runL s i t).2.1 = 0) : (runL s i t).1 = i + t.length := by
  induction t generalizing s i with
  | nil => simp [runL]
  | cons c t ih =>
    simp only [runL] at h ⊢
    split
    · rename_i h1; rw [if_pos h1] at h; rw [ih _ _ h]; simp; omega
    · rename_i h1; rw [if_neg h1] at h; exact absurd h h1
theorem runL_to (s : RS) (i : Nat) (t u : Tx) (s' : RS) (h : runL s i t = (i + t.length, 0, s')) : runL s i (t ++ u) = runL s' (i + t.length) u := by
  rw [runL_app, h]; simp
/-- an element's last component stands still open -/
def pend (sg : List Sg) (tg : Tx) (els : List (List Tx)) (el : List Tx) (wd : Tx) : RS := ⟨.cmp, sg, tg, els, el, wd, true⟩
theorem sgn_pln {c : UInt8} (h : sgn c = true) : pln c = true := by
  simp [sgn, pln] at *
  rcases h with ((h | h) | h) | h <;> subst h <;> decide
theorem run_mkd (sg : List Sg) (tg : Tx) (els : List (List Tx)) (el : List Tx) (x : Tx) : ∀ (wd : Tx) (i : Nat) (u : Tx), wd.length + x.length ≤ 256 → x.all pln = true →
    runL (pend sg tg els el wd) i (mkd x ++ u) = runL (pend sg tg els el (wd ++ x)) (i + (mkd x).length) u := by
  induction x with
  | nil => intro wd i u _ _; simp [mkd]
  | cons c x ih =>
    intro wd i u hl hp
    simp only [List.all_cons, Bool.and_eq_true] at hp
    simp only [List.length_cons] at hl
    have hne : ¬ wd.length = 256 := by omega
    have hnx := ih (wd ++ [c])
    simp only [List.length_append, List.length_cons, List.length_nil, List.append_assoc, List.singleton_append] at hnx
    by_cases hs : sgn c = true
    · simp only [mkd, hs, if_true, List.cons_append, runL, step, pend, inComp, behMark, add, hne, hp.1, if_false, List.length_cons]
      have := hnx (i + 1 + 1) u (by omega) hp.2
      simp only [pend] at this
      simp only [show ((63 : UInt8) = 43) = False from by decide, show ((63 : UInt8) = 58) = False from by decide, show ((63 : UInt8) = 39) = False from by decide, hne, if_false, if_true]
      rw [this]; congr 1; omega
    · have hs' := hs
      simp only [sgn, Bool.or_eq_true, beq_iff_eq, not_or] at hs'
      simp only [mkd, hs, pend]
      have := hnx (i + 1) u (by omega) hp.2
      simp only [pend] at this
      simp only [Bool.false_eq_true, if_false, List.cons_append, runL, step, inComp, add, hne, hp.1, if_true, hs'.1.1.1, hs'.1.1.2, hs'.1.2, hs'.2, List.length_cons]
      rw [this]; congr 1; omega
theorem run_comps (sg : List Sg) (tg : Tx) (els : List (List Tx)) (r : List Tx) : ∀ (el : List Tx) (wd : Tx) (i : Nat) (u : Tx), el.length + 1 + r.length ≤ 8 → (∀ x ∈ r, x.length ≤ 256 ∧ x.all pln = true) →
    ∃ el' wd', el' ++ [wd'] = el ++ [wd] ++ r ∧ runL (pend sg tg els el wd) i (jnT [58] (r.map mkd) ++ u) = runL (pend sg tg els el' wd') (i + (jnT [58] (r.map mkd)).length) u := by
  induction r with
  | nil => intro el wd i u _ _; exact ⟨el, wd, by simp, by simp [jnT]⟩
  | cons x r ih =>
    intro el wd i u hl hx
    simp only [List.length_cons] at hl
    obtain ⟨el', wd', h1, h2⟩ := ih (el ++ [wd]) x (i + 1 + (mkd x).length) u (by simp; omega) (fun y hy => hx y (List.mem_cons_of_mem _ hy))
    refine ⟨el', wd', by rw [h1]; simp, ?_⟩
    have hx1 := hx x (List.mem_cons_self ..)
    have hm := run_mkd sg tg els (el ++ [wd]) x [] (i + 1) (jnT [58] (r.map mkd) ++ u) (by simpa using hx1.1) hx1.2
    simp only [List.nil_append] at hm
    have h8 : ¬ (el.length + 1 = 8) := by omega
    simp only [List.map_cons, jnT, List.cons_append, List.nil_append, List.append_assoc, runL, step, pend, inComp, nextComp, endComp, h8, if_false, if_true]
    simp only [show ((58 : UInt8) = 43) = False from by decide, if_false, if_true]
    simp only [pend] at hm h2
    rw [hm, h2]
    congr 1
    simp only [List.length_cons, List.length_append]; omega
/-- an element from its + on -/
theorem run_elem (sg : List Sg) (tg : Tx) (els : List (List Tx)) (e : List Tx) (s : RS) (i : Nat) (u : Tx) (he : 0 < e.length) (hsh : shortE e = true) (hp : e.all (fun c => c.all pln) = true)
    (hs : step s 43 = (0, pend sg tg els [] [])) : ∃ el' wd', el' ++ [wd'] = e ∧ runL s i (43 :: (elT e ++ u)) = runL (pend sg tg els el' wd') (i + (43 :: elT e).length) u := by
  match e, he with
  | x :: r, _ =>
    simp only [shortE, Bool.and_eq_true, decide_eq_true_eq, List.length_cons, List.all_cons, List.all_eq_true] at hsh hp
    obtain ⟨el', wd', h1, h2⟩ := run_comps sg tg els r [] x (i + 1 + (mkd x).length) u (by simp; omega) (fun y hy => ⟨hsh.2.2 y hy, by simpa [List.all_eq_true] using hp.2 y hy⟩)
    refine ⟨el', wd', by simpa using h1, ?_⟩
    have hm := run_mkd sg tg els [] x [] (i + 1) (jnT [58] (r.map mkd) ++ u) (by simpa using hsh.2.1) (by simpa [List.all_eq_true] using hp.1)
    simp only [List.nil_append] at hm
    have e1 : runL s i (43 :: (elT (x :: r) ++ u)) = runL (pend sg tg els [] []) (i + 1) (elT (x :: r) ++ u) := by
      show (if (step s 43).1 = 0 then _ else _) = _
      rw [hs]; simp
    rw [e1]
    simp only [elT, List.map_cons, jn, List.append_assoc]
    rw [hm, h2]
    congr 1
    simp only [List.length_cons, List.length_append]; omega
theorem run_elems (sg : List Sg) (tg : Tx) (r : List (List Tx)) : ∀ (els : List (List Tx)) (el : List Tx) (wd : Tx) (i : Nat) (u : Tx), els.length + 1 + r.length ≤ 16 → (∀ e ∈ r, 0 < e.length ∧ shortE e = true ∧ e.all (fun c => c.all pln) = true) →
    ∃ els' el' wd', els' ++ [el' ++ [wd']] = els ++ [el ++ [wd]] ++ r ∧ runL (pend sg tg els el wd) i (jnT [43] (r.map elT) ++ u) = runL (pend sg tg els' el' wd') (i + (jnT [43] (r.map elT)).length) u := by
  induction r with
  | nil => intro els el wd i u _ _; exact ⟨els, el, wd, by simp, by simp [jnT]⟩
  | cons e r ih =>
    intro els el wd i u hl hx
    simp only [List.length_cons] at hl
    have he := hx e (List.mem_cons_self ..)
    have h16 : ¬ ((els ++ [el ++ [wd]]).length = 16) := by simp; omega
    obtain ⟨el1, wd1, h1, h2⟩ := run_elem sg tg (els ++ [el ++ [wd]]) e (pend sg tg els el wd) i (jnT [43] (r.map elT) ++ u) he.1 he.2.1 he.2.2 (by
      simp only [step, pend, inComp, beginElem, endElem, h16, if_true, if_false])
    obtain ⟨els', el', wd', h3, h4⟩ := ih (els ++ [el ++ [wd]]) el1 wd1 (i + (43 :: elT e).length) u (by simp; omega) (fun y hy => hx y (List.mem_cons_of_mem _ hy))
    refine ⟨els', el', wd', by rw [h3, h1]; simp, ?_⟩
    simp only [List.map_cons, jnT, List.cons_append, List.nil_append, List.append_assoc]
    rw [h2, h4]
    congr 1
    simp only [List.length_cons, List.length_append]; omega
/-- the reader between two segments -/
def rest (sg : List Sg) : RS := ⟨.out, sg, [], [], [], [], false⟩
theorem run_tag (sg : List Sg) (t : Tx) (i : Nat) (u : Tx) (ht : isTag t = true) (hl : sg.length < 64) : runL (rest sg) i (t ++ u) = runL ⟨.beh, sg, t, [], [], [], true⟩ (i + t.length) u := by
  match t, ht with
  | [a, b, c], ht =>
    simp only [isTag, Bool.and_eq_true] at ht
    have h10 : ¬ (a = 10) := by rintro rfl; exact absurd ht.1.1 (by decide)
    have h64 : ¬ (sg.length = 64) := by omega
    simp [runL, step, rest, outS, inTag, h10, h64, ht.1.1, ht.1.2, ht.2]
theorem run_seg (sg : List Sg) (s : Sg) (i : Nat) (u : Tx) (hw : wholeS s = true) (hp : plainS s = true) (hs : shortS s = true) (hl : sg.length < 64) :
    runL (rest sg) i (sgT s ++ (39 :: u)) = runL (rest (sg ++ [s])) (i + (sgT s).length + 1) u := by
  obtain ⟨t, els⟩ := s
  simp only [wholeS, plainS, shortS, Bool.and_eq_true, List.all_eq_true, decide_eq_true_eq] at hw hp hs
  simp only [sgT, jn, List.append_assoc]
  rw [run_tag sg t i _ hw.1 hl]
  match els with
  | [] =>
    simp [jnT, runL, step, behTag, endSeg, rest]
  | e :: r =>
    have hall : ∀ x ∈ e :: r, 0 < x.length ∧ shortE x = true ∧ x.all (fun c => c.all pln) = true := fun x hx => ⟨hw.2 x hx, hs.2 x hx, by simpa [List.all_eq_true] using hp x hx⟩
    have he := hall e (List.mem_cons_self ..)
    obtain ⟨el1, wd1, h1, h2⟩ := run_elem sg t [] e ⟨.beh, sg, t, [], [], [], true⟩ (i + t.length) (jnT [43] (r.map elT) ++ 39 :: u) he.1 he.2.1 he.2.2 (by simp [step, behTag, beginElem, pend])
    obtain ⟨els', el', wd', h3, h4⟩ := run_elems sg t r [] el1 wd1 (i + t.length + (43 :: elT e).length) (39 :: u) (by have := hs.1; simp at this ⊢; omega) (fun y hy => hall y (List.mem_cons_of_mem _ hy))
    simp only [List.map_cons, jnT, List.cons_append, List.nil_append, List.append_assoc]
    rw [h2, h4]
    have hels : els' ++ [el' ++ [wd']] = e :: r := by rw [h3, h1]; simp
    simp only [runL, step, pend, inComp, endSeg, endElem, hels, rest]
    simp only [show ((39 : UInt8) = 43) = False from by decide, show ((39 : UInt8) = 58) = False from by decide, if_false, if_true]
    congr 1
    simp only [List.length_cons, List.length_append]; omega
theorem run_segs (l : List Sg) : ∀ (sg : List Sg) (i : Nat) (u : Tx), (∀ s ∈ l, wholeS s = true ∧ plainS s = true ∧ shortS s = true) → sg.length + l.length ≤ 64 →
    runL (rest sg) i (txT l ++ u) = runL (rest (sg ++ l)) (i + (txT l).length) u := by
  induction l with
  | nil => intro sg i u _ _; simp [txT]
  | cons s l ih =>
    intro sg i u h hl
    have hs := h s (List.mem_cons_self ..)
    simp only [List.length_cons] at hl
    have := run_seg sg s i (txT l ++ u) hs.1 hs.2.1 hs.2.2 (by omega)
    simp only [txT, List.append_assoc, List.cons_append]
    rw [this, ih _ _ _ (fun y hy => h y (List.mem_cons_of_mem _ hy)) (by simp; omega)]
    simp only [List.append_assoc, List.singleton_append, List.length_append, List.length_cons]
    congr 1; omega
/-- what is printed is parsed as it was -/
theorem back (l : List Sg) (s : Tx) (h : printL l = (s, 0)) : parseL s = (l, 0, 0) := by
  unfold printL at h
  split at h
  · split at h
    · split at h
      · split at h
        · simp at h
        · rename_i h1 h2 h3 h4
          simp only [Prod.mk.injEq, and_true] at h
          subst h
          simp only [List.all_eq_true, Bool.and_eq_true, decide_eq_true_eq] at h1 h2 h3
          have := run_segs l [] 0 [] (fun s hs => ⟨h1 s hs, h2 s hs, h3.2 s hs⟩) (by simpa using h3.1)
          simp only [List.append_nil, List.nil_append, Nat.zero_add, runL] at this
          have hr : runL s0 0 (txT l) = ((txT l).length, 0, rest l) := this
          unfold parseL
          rw [if_neg h4, hr]
          simp [rest]
      · simp at h
    · simp at h
  · simp at h
theorem printL_ok (l : List Sg) (h : (printL l).2 = 0) : printL l = (txT l, 0) := by
  unfold printL at h ⊢
  split at h
  · rename_i h1; rw [if_pos h1]
    split at h
    · rename_i h2; rw [if_pos h2]
      split at h
      · rename_i h3; rw [if_pos h3]
        split at h
        · simp at h
        · rename_i h4; rw [if_neg h4]
      · simp at h
    · simp at h
  · simp at h
theorem printL_bad (l : List Sg) (h : (printL l).2 ≠ 0) : (printL l).1 = [] := by
  unfold printL at h ⊢
  split
  · rename_i h1; rw [if_pos h1] at h
    split
    · rename_i h2; rw [if_pos h2] at h
      split
      · rename_i h3; rw [if_pos h3] at h
        split
        · rfl
        · rename_i h4; rw [if_neg h4] at h; exact absurd rfl h
      · rfl
    · rfl
  · rfl
end Go.Edi
