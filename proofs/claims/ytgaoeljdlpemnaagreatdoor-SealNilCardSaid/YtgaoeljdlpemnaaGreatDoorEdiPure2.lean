/- What follows for the plain model of edi: there and back, cuts, one text behind the other. -/
import Derived.Shelf.Strconv.Itoa0
import Derived.Shelf.Strconv.Itoa1
import Derived.Shelf.LaysM
import Derived.Shelf.Strconv.Itoa2
import Derived.Test.YtgaoeljdlpemnaaGreatDoorProg
/- The library's own functions that print a number, by the contracts that the library has: at this program's numbers (made first by lay-shelf.mjs and lay-plain.mjs). -/
namespace Go.Proofs
open Go.Shelf
def Tryz.lays283_ren : Go.Shelf.Ren := ⟨fun | 283 => 127 | n => n, fun | 3 => 3 | 9 => 9 | 4 => 4 | n => n, fun | n => n⟩
theorem Tryz.lays283 : Go.Proofs.Lays.n283 Tryz.prog Tryz.lays283_ren := {
  mixed := by kernel_rfl
  f283 := Tryz.func127.trans (congrArg some (by kernel_rfl))
  t3 := Tryz.underlying3
  a3 := Tryz.isAgg3
  z3 := Tryz.sizeOf3
  v3 := Tryz.zeroValue3
  t4 := Tryz.underlying4
  a4 := Tryz.isAgg4
  z4 := Tryz.sizeOf4
  v4 := Tryz.zeroValue4
  t9 := Tryz.underlying9
  a9 := Tryz.isAgg9
  z9 := Tryz.sizeOf9
  v9 := Tryz.zeroValue9 }
open Go.Lib in
/-- internal/strconv.small: "small returns the string for an i with 0 <= i < nSmalls.": i's decimal numeral. The world is as it was. (LAID: no walk: one application.) -/
theorem Tryz.internal_strconv_small (i : Nat) (h : i < 100) (w : World) :
    Calls Tryz.prog 127 #[.int .i64 i] w fun e w' => e = .returned (.string ⟨(Lib.decDigits i).toArray⟩) ∧ w' = w := Any.internal_strconv_small Tryz.lays283 i h w
def Tryz.laysM284_ren : Go.Shelf.Ren := ⟨fun | 284 => 128 | 129 => 146 | 317 => 145 | 318 => 147 | n => n, fun | 53 => 22 | 3 => 3 | 212 => 235 | 0 => 0 | 4 => 4 | 46 => 166 | 5 => 5 | 9 => 9 | n => n, fun | 17 => 2 | n => n⟩
theorem Tryz.laysM284 : Go.Proofs.LaysM.n284 Tryz.prog Tryz.laysM284_ren := {
  mixed := by kernel_rfl
  f129 := Tryz.func146.trans (congrArg some (by kernel_rfl))
  f284 := Tryz.func128.trans (congrArg some (by kernel_rfl))
  f317 := Tryz.func145.trans (congrArg some (by kernel_rfl))
  f318 := Tryz.func147.trans (congrArg some (by kernel_rfl))
  t0 := Tryz.underlying0
  a0 := Tryz.isAgg0
  z0 := Tryz.sizeOf0
  v0 := Tryz.zeroValue0
  t3 := Tryz.underlying3
  a3 := Tryz.isAgg3
  z3 := Tryz.sizeOf3
  v3 := Tryz.zeroValue3
  t4 := Tryz.underlying4
  a4 := Tryz.isAgg4
  z4 := Tryz.sizeOf4
  v4 := Tryz.zeroValue4
  t5 := Tryz.underlying5
  a5 := Tryz.isAgg5
  z5 := Tryz.sizeOf5
  v5 := Tryz.zeroValue5
  t9 := Tryz.underlying9
  a9 := Tryz.isAgg9
  z9 := Tryz.sizeOf9
  v9 := Tryz.zeroValue9
  t46 := Tryz.underlying166
  a46 := Tryz.isAgg166
  z46 := Tryz.sizeOf166
  v46 := Tryz.zeroValue166
  t53 := Tryz.underlying22
  a53 := Tryz.isAgg22
  z53 := Tryz.sizeOf22
  v53 := Tryz.zeroValue22
  t212 := Tryz.underlying235
  a212 := Tryz.isAgg235
  z212 := Tryz.sizeOf235
  v212 := Tryz.zeroValue235
  g17 := by kernel_rfl
  i0 := by kernel_rfl
  i3 := by kernel_rfl
  i4 := by kernel_rfl
  i5 := by kernel_rfl
  i9 := by kernel_rfl
  i46 := by kernel_rfl
  i53 := by kernel_rfl
  i212 := by kernel_rfl
  m17 := by kernel_rfl }
open Go.Lib in
/-- internal/strconv.numDigits, at a d that is not 0: THE NUMBER OF d's DECIMAL DIGITS. The world is as it was. (LAID: no walk: one application.) -/
theorem Tryz.internal_strconv_numDigits (u : Nat) (h1 : 1 ≤ u) (h2 : u < 18446744073709551616) (w : World) (htab : Lib.TabIs Tryz.prog w "internal/strconv.uint64pow10" .u64 Lib.pow10Tab) :
    Calls Tryz.prog 128 #[.int .u64 u] w fun e w' => e = .returned (.int .i64 (Lib.nDigits u)) ∧ w' = w := Any.internal_strconv_numDigits Tryz.laysM284 u h1 h2 w htab
def Tryz.lays285_ren : Go.Shelf.Ren := ⟨fun | 285 => 129 | n => n, fun | 37 => 39 | 53 => 22 | 3 => 3 | 4 => 4 | 51 => 28 | 9 => 9 | 5 => 5 | 0 => 0 | n => n, fun | n => n⟩
theorem Tryz.lays285 : Go.Proofs.Lays.n285 Tryz.prog Tryz.lays285_ren := {
  mixed := by kernel_rfl
  f285 := Tryz.func129.trans (congrArg some (by kernel_rfl))
  t0 := Tryz.underlying0
  a0 := Tryz.isAgg0
  z0 := Tryz.sizeOf0
  v0 := Tryz.zeroValue0
  t3 := Tryz.underlying3
  a3 := Tryz.isAgg3
  z3 := Tryz.sizeOf3
  v3 := Tryz.zeroValue3
  t4 := Tryz.underlying4
  a4 := Tryz.isAgg4
  z4 := Tryz.sizeOf4
  v4 := Tryz.zeroValue4
  t5 := Tryz.underlying5
  a5 := Tryz.isAgg5
  z5 := Tryz.sizeOf5
  v5 := Tryz.zeroValue5
  t9 := Tryz.underlying9
  a9 := Tryz.isAgg9
  z9 := Tryz.sizeOf9
  v9 := Tryz.zeroValue9
  t37 := Tryz.underlying39
  a37 := Tryz.isAgg39
  z37 := Tryz.sizeOf39
  v37 := Tryz.zeroValue39
  t51 := Tryz.underlying28
  a51 := Tryz.isAgg28
  z51 := Tryz.sizeOf28
  v51 := Tryz.zeroValue28
  t53 := Tryz.underlying22
  a53 := Tryz.isAgg22
  z53 := Tryz.sizeOf22
  v53 := Tryz.zeroValue22 }
open Go.RowKit Go.Sort Go.Lib in
/-- internal/strconv.formatBase10: "formatBase10 formats the decimal representation of u into a. The caller is responsible for ensuring that a is big enough to hold u. If a is too big, leading zeros will be filled in as needed.": THE ROW HOLDS u's DIGITS ('FmtInv .. 0 ..': every place t holds 'dg u (len - 1 - t)'); all else is as it was but for the count of draws. (LAID: no walk: one application.) -/
theorem Tryz.internal_strconv_formatBase10 (blk off cap : Nat) (u : Nat) (d : Array UInt8) (w : World) (hH : Holds (fun (b : UInt8) => Value.int .u8 (b.toNat : Int)) w blk off d) (hu : u < 10 ^ d.size) (hu64 : u < 18446744073709551616) (hsz : d.size < 4611686018427387904) :
    Calls Tryz.prog 129 #[.slice (some ⟨blk, off, none⟩) d.size cap, .int .u64 u] w fun e w' =>
      e = .returned (.tuple #[]) ∧ ∃ (n v' : Nat) (dk : Array UInt8), w' = (putRow (fun (b : UInt8) => Value.int .u8 (b.toNat : Int)) w blk off dk).drewN n ∧ FmtInv d.size u 0 v' dk := Any.internal_strconv_formatBase10 Tryz.lays285 blk off cap u d w hH hu hu64 hsz
end Go.Proofs
/- The plain model of the layer edi: a text's reader, step by step, and the text of segments. -/
namespace Go.Edi

abbrev Tx := List UInt8
structure Sg where
  tag : Tx
  els : List (List Tx)
def sgn (c : UInt8) : Bool := c == 43 || c == 58 || c == 39 || c == 63
def tgc (c : UInt8) : Bool := (decide (65 ≤ c) && decide (c ≤ 90)) || (decide (48 ≤ c) && decide (c ≤ 57))
def pln (c : UInt8) : Bool := decide (32 ≤ c) && decide (c ≤ 126)
inductive Md
  | out | tag | beh | cmp | mrk
structure RS where
  md : Md
  segs : List Sg
  tg : Tx
  els : List (List Tx)
  el : List Tx
  wd : Tx
  wi : Bool
def s0 : RS := ⟨.out, [], [], [], [], [], false⟩
def add (s : RS) (c : UInt8) : Nat × RS := if s.wd.length = 256 then (2, s) else if pln c then (0, { s with wd := s.wd ++ [c] }) else (30, s)
def endComp (s : RS) : RS := { s with el := s.el ++ [s.wd], wd := [] }
def endElem (s : RS) : RS := { s with els := s.els ++ [s.el ++ [s.wd]], el := [], wd := [] }
def endSeg (s : RS) : RS := { s with segs := s.segs ++ [⟨s.tg, s.els⟩], tg := [], els := [], wi := false, md := .out }
def beginElem (s : RS) : Nat × RS := if s.els.length = 16 then (2, s) else (0, { s with md := .cmp })
def nextComp (s : RS) : Nat × RS := if s.el.length + 1 = 8 then (2, endComp s) else (0, endComp s)
def inTag (s : RS) (c : UInt8) : Nat × RS :=
  if tgc c then (if s.wd.length + 1 = 3 then (0, { s with tg := s.wd ++ [c], wd := [], md := .beh }) else (0, { s with wd := s.wd ++ [c] })) else (30, s)
def behTag (s : RS) (c : UInt8) : Nat × RS := if c = 43 then beginElem s else if c = 39 then (0, endSeg s) else (30, s)
def inComp (s : RS) (c : UInt8) : Nat × RS :=
  if c = 43 then beginElem (endElem s) else if c = 58 then nextComp s else if c = 39 then (0, endSeg (endElem s)) else if c = 63 then (0, { s with md := .mrk }) else add s c
def behMark (s : RS) (c : UInt8) : Nat × RS := if sgn c then add { s with md := .cmp } c else (30, s)
def outS (s : RS) (c : UInt8) : Nat × RS :=
  if c = 10 ∧ 0 < s.segs.length then (0, s) else if s.segs.length = 64 then (2, s) else inTag { s with wi := true, md := .tag } c
def step (s : RS) (c : UInt8) : Nat × RS :=
  match s.md with
  | .out => outS s c
  | .tag => inTag s c
  | .beh => behTag s c
  | .cmp => inComp s c
  | .mrk => behMark s c
/-- place, error, state -/
def runL : RS → Nat → Tx → Nat × Nat × RS
  | s, i, [] => (i, 0, s)
  | s, i, c :: t => if (step s c).1 = 0 then runL (step s c).2 (i + 1) t else (i, step s c)
def parseL (t : Tx) : List Sg × Nat × Nat :=
  if 65536 < t.length then ([], 0, 2) else
  if (runL s0 0 t).2.1 = 0 then (if (runL s0 0 t).2.2.wi then ([], t.length, 31) else ((runL s0 0 t).2.2.segs, 0, 0)) else ([], (runL s0 0 t).1, (runL s0 0 t).2.1)

def mkd : Tx → Tx
  | [] => []
  | c :: t => if sgn c then 63 :: c :: mkd t else c :: mkd t
/-- texts put behind a first one, the same ahead of each -/
def jnT (x : Tx) : List Tx → Tx
  | [] => []
  | y :: t => x ++ (y ++ jnT x t)
def jn (x : Tx) : List Tx → Tx
  | [] => []
  | y :: t => y ++ jnT x t
def elT (e : List Tx) : Tx := jn [58] (e.map mkd)
def sgT (s : Sg) : Tx := jn [43] (s.tag :: s.els.map elT)
def txT : List Sg → Tx
  | [] => []
  | s :: t => sgT s ++ (39 :: txT t)
def isTag (t : Tx) : Bool := match t with
  | [a, b, c] => tgc a && tgc b && tgc c
  | _ => false
def wholeS (s : Sg) : Bool := isTag s.tag && s.els.all (fun e => decide (0 < e.length))
def plainS (s : Sg) : Bool := s.els.all (fun e => e.all (fun c => c.all pln))
def shortE (e : List Tx) : Bool := decide (e.length ≤ 8) && e.all (fun c => decide (c.length ≤ 256))
def shortS (s : Sg) : Bool := decide (s.els.length ≤ 16) && s.els.all shortE
def printL (l : List Sg) : Tx × Nat :=
  if l.all wholeS then (if l.all plainS then (if decide (l.length ≤ 64) && l.all shortS then (if 65536 < (txT l).length then ([], 2) else (txT l, 0)) else ([], 2)) else ([], 30)) else ([], 1)

theorem runL_app (s : RS) (i : Nat) (t u : Tx) : runL s i (t ++ u) = if (runL s i t).2.1 = 0 then runL (runL s i t).2.2 (i + t.length) u else runL s i t := by
  induction t generalizing s i with
  | nil => simp [runL]
  | cons c t ih =>
    simp only [List.cons_append, runL]
    split
    · rw [ih]; simp only [List.length_cons, show i + 1 + t.length = i + (t.length + 1) by omega]
    · rename_i h; simp
theorem runL_ok_at (s : RS) (i : Nat) (t : Tx) (h : (runL s i t).2.1 = 0) : (runL s i t).1 = i + t.length := by
  induction t generalizing s i with
  | nil => simp [runL]
  | cons c t ih =>
    simp only [runL] at h ⊢
    split
    · rename_i h1; rw [if_pos h1] at h; rw [ih _ _ h]; simp; omega
    · rename_i h1; rw [if_neg h1] at h; exact absurd h h1
theorem runL_to (s : RS) (i : Nat) (t u : Tx) (s' : RS) (h : runL s i t = (i + t.length, 0, s')) : runL s i (t ++ u) = runL s' (i + t.length) u := by
  rw [runL_app, h]; simp
/-- an element's last component stands still open -/
def pend (sg : List Sg) (tg : Tx) (els : List (List Tx)) (el : List Tx) (wd : Tx) : RS := ⟨.cmp, sg, tg, els, el, wd, true⟩
theorem sgn_pln {c : UInt8} (h : sgn c = true) : pln c = true := by
  simp [sgn, pln] at *
  rcases h with ((h | h) | h) | h <;> subst h <;> decide
theorem run_mkd (sg : List Sg) (tg : Tx) (els : List (List Tx)) (el : List Tx) (x : Tx) : ∀ (wd : Tx) (i : Nat) (u : Tx), wd.length + x.length ≤ 256 → x.all pln = true →
    runL (pend sg tg els el wd) i (mkd x ++ u) = runL (pend sg tg els el (wd ++ x)) (i + (mkd x).length) u := by
  induction x with
  | nil => intro wd i u _ _; simp [mkd]
  | cons c x ih =>
    intro wd i u hl hp
    simp only [List.all_cons, Bool.and_eq_true] at hp
    simp only [List.length_cons] at hl
    have hne : ¬ wd.length = 256 := by omega
    have hnx := ih (wd ++ [c])
    simp only [List.length_append, List.length_cons, List.length_nil, List.append_assoc, List.singleton_append] at hnx
    by_cases hs : sgn c = true
    · simp only [mkd, hs, if_true, List.cons_append, runL, step, pend, inComp, behMark, add, hne, hp.1, if_false, List.length_cons]
      have := hnx (i + 1 + 1) u (by omega) hp.2
      simp only [pend] at this
      simp only [show ((63 : UInt8) = 43) = False from by decide, show ((63 : UInt8) = 58) = False from by decide, show ((63 : UInt8) = 39) = False from by decide, hne, if_false, if_true]
      rw [this]; congr 1; omega
    · have hs' := hs
      simp only [sgn, Bool.or_eq_true, beq_iff_eq, not_or] at hs'
      simp only [mkd, hs, pend]
      have := hnx (i + 1) u (by omega) hp.2
      simp only [pend] at this
      simp only [Bool.false_eq_true, if_false, List.cons_append, runL, step, inComp, add, hne, hp.1, if_true, hs'.1.1.1, hs'.1.1.2, hs'.1.2, hs'.2, List.length_cons]
      rw [this]; congr 1; omega
theorem run_comps (sg : List Sg) (tg : Tx) (els : List (List Tx)) (r : List Tx) : ∀ (el : List Tx) (wd : Tx) (i : Nat) (u : Tx), el.length + 1 + r.length ≤ 8 → (∀ x ∈ r, x.length ≤ 256 ∧ x.all pln = true) →
    ∃ el' wd', el' ++ [wd'] = el ++ [wd] ++ r ∧ runL (pend sg tg els el wd) i (jnT [58] (r.map mkd) ++ u) = runL (pend sg tg els el' wd') (i + (jnT [58] (r.map mkd)).length) u := by
  induction r with
  | nil => intro el wd i u _ _; exact ⟨el, wd, by simp, by simp [jnT]⟩
  | cons x r ih =>
    intro el wd i u hl hx
    simp only [List.length_cons] at hl
    obtain ⟨el', wd', h1, h2⟩ := ih (el ++ [wd]) x (i + 1 + (mkd x).length) u (by simp; omega) (fun y hy => hx y (List.mem_cons_of_mem _ hy))
    refine ⟨el', wd', by rw [h1]; simp, ?_⟩
    have hx1 := hx x (List.mem_cons_self ..)
    have hm := run_mkd sg tg els (el ++ [wd]) x [] (i + 1) (jnT [58] (r.map mkd) ++ u) (by simpa using hx1.1) hx1.2
    simp only [List.nil_append] at hm
    have h8 : ¬ (el.length + 1 = 8) := by omega
    simp only [List.map_cons, jnT, List.cons_append, List.nil_append, List.append_assoc, runL, step, pend, inComp, nextComp, endComp, h8, if_false, if_true]
    simp only [show ((58 : UInt8) = 43) = False from by decide, if_false, if_true]
    simp only [pend] at hm h2
    rw [hm, h2]
    congr 1
    simp only [List.length_cons, List.length_append]; omega
/-- an element from its + on -/
theorem run_elem (sg : List Sg) (tg : Tx) (els : List (List Tx)) (e : List Tx) (s : RS) (i : Nat) (u : Tx) (he : 0 < e.length) (hsh : shortE e = true) (hp : e.all (fun c => c.all pln) = true)
    (hs : step s 43 = (0, pend sg tg els [] [])) : ∃ el' wd', el' ++ [wd'] = e ∧ runL s i (43 :: (elT e ++ u)) = runL (pend sg tg els el' wd') (i + (43 :: elT e).length) u := by
  match e, he with
  | x :: r, _ =>
    simp only [shortE, Bool.and_eq_true, decide_eq_true_eq, List.length_cons, List.all_cons, List.all_eq_true] at hsh hp
    obtain ⟨el', wd', h1, h2⟩ := run_comps sg tg els r [] x (i + 1 + (mkd x).length) u (by simp; omega) (fun y hy => ⟨hsh.2.2 y hy, by simpa [List.all_eq_true] using hp.2 y hy⟩)
    refine ⟨el', wd', by simpa using h1, ?_⟩
    have hm := run_mkd sg tg els [] x [] (i + 1) (jnT [58] (r.map mkd) ++ u) (by simpa using hsh.2.1) (by simpa [List.all_eq_true] using hp.1)
    simp only [List.nil_append] at hm
    have e1 : runL s i (43 :: (elT (x :: r) ++ u)) = runL (pend sg tg els [] []) (i + 1) (elT (x :: r) ++ u) := by
      show (if (step s 43).1 = 0 then _ else _) = _
      rw [hs]; simp
    rw [e1]
    simp only [elT, List.map_cons, jn, List.append_assoc]
    rw [hm, h2]
    congr 1
    simp only [List.length_cons, List.length_append]; omega
theorem run_elems (sg : List Sg) (tg : Tx) (r : List (List Tx)) : ∀ (els : List (List Tx)) (el : List Tx) (wd : Tx) (i : Nat) (u : Tx), els.length + 1 + r.length ≤ 16 → (∀ e ∈ r, 0 < e.length ∧ shortE e = true ∧ e.all (fun c => c.all pln) = true) →
    ∃ els' el' wd', els' ++ [el' ++ [wd']] = els ++ [el ++ [wd]] ++ r ∧ runL (pend sg tg els el wd) i (jnT [43] (r.map elT) ++ u) = runL (pend sg tg els' el' wd') (i + (jnT [43] (r.map elT)).length) u := by
  induction r with
  | nil => intro els el wd i u _ _; exact ⟨els, el, wd, by simp, by simp [jnT]⟩
  | cons e r ih =>
    intro els el wd i u hl hx
    simp only [List.length_cons] at hl
    have he := hx e (List.mem_cons_self ..)
    have h16 : ¬ ((els ++ [el ++ [wd]]).length = 16) := by simp; omega
    obtain ⟨el1, wd1, h1, h2⟩ := run_elem sg tg (els ++ [el ++ [wd]]) e (pend sg tg els el wd) i (jnT [43] (r.map elT) ++ u) he.1 he.2.1 he.2.2 (by
      simp only [step, pend, inComp, beginElem, endElem, h16, if_true, if_false])
    obtain ⟨els', el', wd', h3, h4⟩ := ih (els ++ [el ++ [wd]]) el1 wd1 (i + (43 :: elT e).length) u (by simp; omega) (fun y hy => hx y (List.mem_cons_of_mem _ hy))
    refine ⟨els', el', wd', by rw [h3, h1]; simp, ?_⟩
    simp only [List.map_cons, jnT, List.cons_append, List.nil_append, List.append_assoc]
    rw [h2, h4]
    congr 1
    simp only [List.length_cons, List.length_append]; omega
/-- the reader between two segments -/
def rest (sg : List Sg) : RS := ⟨.out, sg, [], [], [], [], false⟩
theorem run_tag (sg : List Sg) (t : Tx) (i : Nat) (u : Tx) (ht : isTag t = true) (hl : sg.length < 64) : runL (rest sg) i (t ++ u) = runL ⟨.beh, sg, t, [], [], [], true⟩ (i + t.length) u := by
  match t, ht with
  | [a, b, c], ht =>
    simp only [isTag, Bool.and_eq_true] at ht
    have h10 : ¬ (a = 10) := by rintro rfl; exact absurd ht.1.1 (by decide)
    have h64 : ¬ (sg.length = 64) := by omega
    simp [runL, step, rest, outS, inTag, h10, h64, ht.1.1, ht.1.2, ht.2]
theorem run_seg (sg : List Sg) (s : Sg) (i : Nat) (u : Tx) (hw : wholeS s = true) (hp : plainS s = true) (hs : shortS s = true) (hl : sg.length < 64) :
    runL (rest sg) i (sgT s ++ (39 :: u)) = runL (rest (sg ++ [s])) (i + (sgT s).length + 1) u := by
  obtain ⟨t, els⟩ := s
  simp only [wholeS, plainS, shortS, Bool.and_eq_true, List.all_eq_true, decide_eq_true_eq] at hw hp hs
  simp only [sgT, jn, List.append_assoc]
  rw [run_tag sg t i _ hw.1 hl]
  match els with
  | [] =>
    simp [jnT, runL, step, behTag, endSeg, rest]
  | e :: r =>
    have hall : ∀ x ∈ e :: r, 0 < x.length ∧ shortE x = true ∧ x.all (fun c => c.all pln) = true := fun x hx => ⟨hw.2 x hx, hs.2 x hx, by simpa [List.all_eq_true] using hp x hx⟩
    have he := hall e (List.mem_cons_self ..)
    obtain ⟨el1, wd1, h1, h2⟩ := run_elem sg t [] e ⟨.beh, sg, t, [], [], [], true⟩ (i + t.length) (jnT [43] (r.map elT) ++ 39 :: u) he.1 he.2.1 he.2.2 (by simp [step, behTag, beginElem, pend])
    obtain ⟨els', el', wd', h3, h4⟩ := run_elems sg t r [] el1 wd1 (i + t.length + (43 :: elT e).length) (39 :: u) (by have := hs.1; simp at this ⊢; omega) (fun y hy => hall y (List.mem_cons_of_mem _ hy))
    simp only [List.map_cons, jnT, List.cons_append, List.nil_append, List.append_assoc]
    rw [h2, h4]
    have hels : els' ++ [el' ++ [wd']] = e :: r := by rw [h3, h1]; simp
    simp only [runL, step, pend, inComp, endSeg, endElem, hels, rest]
    simp only [show ((39 : UInt8) = 43) = False from by decide, show ((39 : UInt8) = 58) = False from by decide, if_false, if_true]
    congr 1
    simp only [List.length_cons, List.length_append]; omega
theorem run_segs (l : List Sg) : ∀ (sg : List Sg) (i : Nat) (u : Tx), (∀ s ∈ l, wholeS s = true ∧ plainS s = true ∧ shortS s = true) → sg.length + l.length ≤ 64 →
    runL (rest sg) i (txT l ++ u) = runL (rest (sg ++ l)) (i + (txT l).length) u := by
  induction l with
  | nil => intro sg i u _ _; simp [txT]
  | cons s l ih =>
    intro sg i u h hl
    have hs := h s (List.mem_cons_self ..)
    simp only [List.length_cons] at hl
    have := run_seg sg s i (txT l ++ u) hs.1 hs.2.1 hs.2.2 (by omega)
    simp only [txT, List.append_assoc, List.cons_append]
    rw [this, ih _ _ _ (fun y hy => h y (List.mem_cons_of_mem _ hy)) (by simp; omega)]
    simp only [List.append_assoc, List.singleton_append, List.length_append, List.length_cons]
    congr 1; omega
/-- what is printed is parsed as it was -/
theorem back (l : List Sg) (s : Tx) (h : printL l = (s, 0)) : parseL s = (l, 0, 0) := by
  unfold printL at h
  split at h
  · split at h
    · split at h
      · split at h
        · simp at h
        · rename_i h1 h2 h3 h4
          simp only [Prod.mk.injEq, and_true] at h
          subst h
          simp only [List.all_eq_true, Bool.and_eq_true, decide_eq_true_eq] at h1 h2 h3
          have := run_segs l [] 0 [] (fun s hs => ⟨h1 s hs, h2 s hs, h3.2 s hs⟩) (by simpa using h3.1)
          simp only [List.append_nil, List.nil_append, Nat.zero_add, runL] at this
          have hr : runL s0 0 (txT l) = ((txT l).length, 0, rest l) := this
          unfold parseL
          rw [if_neg h4, hr]
          simp [rest]
      · simp at h
    · simp at h
  · simp at h
theorem printL_ok (l : List Sg) (h : (printL l).2 = 0) : printL l = (txT l, 0) := by
  unfold printL at h ⊢
  split at h
  · rename_i h1; rw [if_pos h1]
    split at h
    · rename_i h2; rw [if_pos h2]
      split at h
      · rename_i h3; rw [if_pos h3]
        split at h
        · simp at h
        · rename_i h4; rw [if_neg h4]
      · simp at h
    · simp at h
  · simp at h
theorem printL_bad (l : List Sg) (h : (printL l).2 ≠ 0) : (printL l).1 = [] := by
  unfold printL at h ⊢
  split
  · rename_i h1; rw [if_pos h1] at h
    split
    · rename_i h2; rw [if_pos h2] at h
      split
      · rename_i h3; rw [if_pos h3] at h
        split
        · rfl
        · rename_i h4; rw [if_neg h4] at h; exact absurd rfl h
      · rfl
    · rfl
  · rfl
end Go.Edi
namespace Go.Edi

theorem mkd_app (x y : Tx) : mkd (x ++ y) = mkd x ++ mkd y := by
  induction x with
  | nil => rfl
  | cons c x ih =>
    simp only [List.cons_append, mkd]
    split <;> simp [ih]
theorem jnT_app (x : Tx) (a b : List Tx) : jnT x (a ++ b) = jnT x a ++ jnT x b := by
  induction a with
  | nil => rfl
  | cons y a ih => simp [jnT, ih]
theorem elT_last (el : List Tx) (a b : Tx) : elT (el ++ [a ++ b]) = elT (el ++ [a]) ++ mkd b := by
  unfold elT
  match el with
  | [] => simp [jn, jnT, mkd_app]
  | y :: r => simp [jn, jnT_app, jnT, mkd_app]
theorem elT_more (el : List Tx) (a : Tx) : elT (el ++ [a] ++ [[]]) = elT (el ++ [a]) ++ [58] := by
  unfold elT
  match el with
  | [] => simp [jn, jnT, mkd]
  | y :: r => simp [jn, jnT_app, jnT, mkd]
theorem txT_app (a b : List Sg) : txT (a ++ b) = txT a ++ txT b := by
  induction a with
  | nil => rfl
  | cons s a ih => simp [txT, ih]
def okE (e : List Tx) : Prop := 0 < e.length ∧ shortE e = true ∧ e.all (fun c => c.all pln) = true
def okS (s : Sg) : Prop := wholeS s = true ∧ plainS s = true ∧ shortS s = true
/-- what holds of every state that a text leads to -/
structure Cm (s : RS) : Prop where
  wi : s.wi = true
  tg : isTag s.tg = true
  els : ∀ e ∈ s.els, okE e
  elsl : s.els.length ≤ 15
  ell : s.el.length ≤ 7
  el : ∀ c ∈ s.el, c.length ≤ 256 ∧ c.all pln = true
  wdl : s.wd.length ≤ 256
  wd : s.wd.all pln = true
  sl : s.segs.length < 64
def good (s : RS) : Prop := (∀ g ∈ s.segs, okS g) ∧ s.segs.length ≤ 64 ∧ (match s.md with
  | .out => s = rest s.segs
  | .tag => s.wi = true ∧ s.tg = [] ∧ s.els = [] ∧ s.el = [] ∧ s.wd.length < 3 ∧ s.wd.all tgc = true ∧ s.segs.length < 64
  | .beh => s.wi = true ∧ isTag s.tg = true ∧ s.els = [] ∧ s.el = [] ∧ s.wd = [] ∧ s.segs.length < 64
  | .cmp => Cm s
  | .mrk => Cm s)
def opn (s : RS) : Tx := s.tg ++ (jnT [43] (s.els.map elT) ++ 43 :: elT (s.el ++ [s.wd]))
def txOf (s : RS) : Tx := txT s.segs ++ (match s.md with
  | .out => []
  | .tag => s.wd
  | .beh => s.tg
  | .cmp => opn s
  | .mrk => opn s ++ [63])
def nt (c : UInt8) : Tx := if c = 10 then [] else [c]
theorem nt_of {c : UInt8} (h : ¬ c = 10) : nt c = [c] := if_neg h
theorem tgc10 {c : UInt8} (h : tgc c = true) : ¬ c = 10 := by rintro rfl; exact absurd h (by decide)
theorem pln10 {c : UInt8} (h : pln c = true) : ¬ c = 10 := by rintro rfl; exact absurd h (by decide)
theorem okE_snoc {s : RS} (h : Cm s) : okE (s.el ++ [s.wd]) := by
  refine ⟨by simp, ?_, ?_⟩
  · simp only [shortE, Bool.and_eq_true, decide_eq_true_eq, List.all_eq_true, List.length_append, List.length_cons, List.length_nil, List.mem_append, List.mem_singleton]
    refine ⟨by have := h.ell; omega, ?_⟩
    rintro c (hc | rfl)
    · exact (h.el c hc).1
    · exact h.wdl
  · rw [List.all_eq_true]
    intro c hc
    rw [List.mem_append, List.mem_singleton] at hc
    rcases hc with hc | rfl
    · exact (h.el c hc).2
    · exact h.wd
theorem okS_of (t : Tx) (els : List (List Tx)) (ht : isTag t = true) (he : ∀ e ∈ els, okE e) (hl : els.length ≤ 16) : okS ⟨t, els⟩ := by
  refine ⟨?_, ?_, ?_⟩
  · simp only [wholeS, ht, Bool.true_and, List.all_eq_true, decide_eq_true_eq]; exact fun e h => (he e h).1
  · simp only [plainS, List.all_eq_true]
    intro e h; have := (he e h).2.2; simpa [List.all_eq_true] using this
  · simp only [shortS, Bool.and_eq_true, decide_eq_true_eq, List.all_eq_true]; exact ⟨hl, fun e h => (he e h).2.1⟩
theorem add_inv {s s' : RS} {c : UInt8} (hs : ∀ g ∈ s.segs, okS g) (h : Cm s) (hmd : s.md = .cmp) (he : add s c = (0, s')) : good s' ∧ s'.segs = s.segs ∧ s'.md = .cmp ∧ opn s' = opn s ++ mkd [c] ∧ ¬ c = 10 := by
  unfold add at he
  split at he
  · simp at he
  · rename_i h256
    split at he
    · rename_i hp
      simp only [Prod.mk.injEq, true_and] at he
      subst he
      refine ⟨⟨hs, Nat.le_of_lt h.sl, ?_⟩, rfl, hmd, ?_, pln10 hp⟩
      · simp only [hmd]
        have hwl := h.wdl
        exact ⟨h.wi, h.tg, h.els, h.elsl, h.ell, h.el, by simp only [List.length_append, List.length_cons, List.length_nil]; omega, by rw [List.all_append, h.wd]; simp [hp], h.sl⟩
      · simp only [opn, elT_last, List.append_assoc, List.cons_append]
    · simp at he
theorem seg_inv {s : RS} (hs : ∀ g ∈ s.segs, okS g) (ht : isTag s.tg = true) (he : ∀ e ∈ s.els, okE e) (hl : s.els.length ≤ 16) (hl2 : s.segs.length < 64) (h1 : s.el = []) (h2 : s.wd = []) :
    good (endSeg s) ∧ txOf (endSeg s) = txT s.segs ++ (sgT ⟨s.tg, s.els⟩ ++ [39]) := by
  refine ⟨⟨?_, ?_, ?_⟩, ?_⟩
  · intro g hg
    simp only [endSeg, List.mem_append, List.mem_singleton] at hg
    rcases hg with hg | rfl
    · exact hs g hg
    · exact okS_of _ _ ht he hl
  · simp [endSeg]; omega
  · simp [endSeg, rest, h1, h2]
  · simp [endSeg, txOf, txT_app, txT]
theorem inTag_inv {s s' : RS} {c : UInt8} (hs : ∀ g ∈ s.segs, okS g) (h : s.wi = true ∧ s.tg = [] ∧ s.els = [] ∧ s.el = [] ∧ s.wd.length < 3 ∧ s.wd.all tgc = true ∧ s.segs.length < 64) (hmd : s.md = .tag)
    (he : inTag s c = (0, s')) : good s' ∧ txOf s' = txT s.segs ++ s.wd ++ [c] ∧ ¬ c = 10 := by
  unfold inTag at he
  obtain ⟨md, segs, tg, els, el, wd, wi⟩ := s
  simp only at h hmd hs
  obtain ⟨rfl, rfl, rfl, rfl, h5, h6, h7⟩ := h
  subst hmd
  split at he
  · rename_i ht
    refine ⟨?_, ?_, tgc10 ht⟩
    all_goals
      simp only at he
      split at he
      · rename_i h3
        simp only [Prod.mk.injEq, true_and] at he
        subst he
        first
        | refine ⟨hs, Nat.le_of_lt h7, rfl, ?_, rfl, rfl, rfl, h7⟩
          match wd, h3 with
          | [a, b], _ =>
            simp at h6
            simp [isTag, h6.1, h6.2, ht]
        | simp [txOf]
      · rename_i h3
        simp only [Prod.mk.injEq, true_and] at he
        subst he
        first
        | exact ⟨hs, Nat.le_of_lt h7, rfl, rfl, rfl, rfl, by simp only [List.length_append, List.length_cons, List.length_nil]; omega, by rw [List.all_append, h6]; simp [ht], h7⟩
        | simp [txOf]
  · simp at he
theorem begin_inv {s s' : RS} (hs : ∀ g ∈ s.segs, okS g) (hw : s.wi = true) (ht : isTag s.tg = true) (hels : ∀ e ∈ s.els, okE e) (hl : s.els.length ≤ 16) (hl2 : s.segs.length < 64) (h1 : s.el = []) (h2 : s.wd = [])
    (he : beginElem s = (0, s')) : good s' ∧ txOf s' = txT s.segs ++ (s.tg ++ jnT [43] (s.els.map elT)) ++ [43] := by
  unfold beginElem at he
  split at he
  · simp at he
  · simp only [Prod.mk.injEq, true_and] at he
    subst he
    refine ⟨⟨hs, Nat.le_of_lt hl2, hw, ht, hels, by simp only; omega, by simp [h1], by simp [h1], by simp [h2], by simp [h2], hl2⟩, ?_⟩
    simp [txOf, opn, h1, h2, elT, jn, jnT, mkd]
theorem opn_end (s : RS) : s.tg ++ jnT [43] ((s.els ++ [s.el ++ [s.wd]]).map elT) = opn s := by
  simp [opn, jnT_app, jnT]
theorem step_inv {s s' : RS} {c : UInt8} (h : good s) (he : step s c = (0, s')) : good s' ∧ txOf s' = txOf s ++ nt c := by
  obtain ⟨hs, hl, hm⟩ := h
  unfold step at he
  cases hmd : s.md with
  | out =>
    rw [hmd] at hm he
    simp only at hm he
    unfold outS at he
    split at he
    · rename_i hc
      simp only [Prod.mk.injEq, true_and] at he
      subst he
      exact ⟨⟨hs, hl, by rw [hmd]; exact hm⟩, by rw [hc.1]; simp [nt]⟩
    · split at he
      · simp at he
      · rename_i h64
        rw [hm] at he
        have := inTag_inv (s := { rest s.segs with wi := true, md := .tag }) hs ⟨rfl, rfl, rfl, rfl, by simp [rest], by simp [rest], by simp [rest]; omega⟩ rfl he
        refine ⟨this.1, ?_⟩
        rw [this.2.1, nt_of this.2.2]
        simp [rest, txOf, hmd]
  | tag =>
    rw [hmd] at hm he
    have := inTag_inv hs hm hmd he
    refine ⟨this.1, ?_⟩
    rw [this.2.1, nt_of this.2.2]
    simp [txOf, hmd]
  | beh =>
    rw [hmd] at hm he
    simp only at hm he
    unfold behTag at he
    split at he
    · rename_i hc
      have := begin_inv hs hm.1 hm.2.1 (by rw [hm.2.2.1]; simp) (by rw [hm.2.2.1]; simp) hm.2.2.2.2.2 hm.2.2.2.1 hm.2.2.2.2.1 he
      refine ⟨this.1, ?_⟩
      rw [this.2, hc]
      simp [txOf, hmd, hm.2.2.1, jnT, nt]
    · split at he
      · rename_i hc
        simp only [Prod.mk.injEq, true_and] at he
        subst he
        have := seg_inv hs hm.2.1 (by rw [hm.2.2.1]; simp) (by rw [hm.2.2.1]; simp) hm.2.2.2.2.2 hm.2.2.2.1 hm.2.2.2.2.1
        refine ⟨this.1, ?_⟩
        rw [this.2, hc]
        simp [txOf, hmd, hm.2.2.1, sgT, jn, jnT, nt]
      · simp at he
  | cmp =>
    rw [hmd] at hm he
    simp only at hm he
    have hok := okE_snoc hm
    have hels : ∀ e ∈ s.els ++ [s.el ++ [s.wd]], okE e := by
      intro e h
      rw [List.mem_append, List.mem_singleton] at h
      rcases h with h | rfl
      · exact hm.els e h
      · exact hok
    have hlen : (s.els ++ [s.el ++ [s.wd]]).length ≤ 16 := by have := hm.elsl; simp only [List.length_append, List.length_cons, List.length_nil]; omega
    unfold inComp at he
    split at he
    · rename_i hc
      have := begin_inv (s := endElem s) hs hm.wi hm.tg hels hlen hm.sl rfl rfl he
      refine ⟨this.1, ?_⟩
      rw [this.2, hc]
      have e : (endElem s).tg ++ jnT [43] ((endElem s).els.map elT) = opn s := opn_end s
      rw [e]
      simp [txOf, hmd, nt, endElem]
    · split at he
      · rename_i hc
        unfold nextComp at he
        split at he
        · simp at he
        · rename_i h8
          simp only [Prod.mk.injEq, true_and] at he
          subst he
          have h7 := hm.ell
          refine ⟨⟨hs, hl, ?_⟩, ?_⟩
          · simp only [endComp, hmd]
            refine ⟨hm.wi, hm.tg, hm.els, hm.elsl, by simp only [List.length_append, List.length_cons, List.length_nil]; omega, ?_, by simp, by simp, hm.sl⟩
            intro c hc
            simp only [List.mem_append, List.mem_singleton] at hc
            rcases hc with hc | rfl
            · exact hm.el c hc
            · exact ⟨hm.wdl, hm.wd⟩
          · have e := elT_more s.el s.wd
            simp only [txOf, endComp, hmd, opn, e, hc, nt]
            simp
      · split at he
        · rename_i hc
          simp only [Prod.mk.injEq, true_and] at he
          subst he
          have := seg_inv (s := endElem s) hs hm.tg hels hlen hm.sl rfl rfl
          refine ⟨this.1, ?_⟩
          rw [this.2, hc]
          have e : (endElem s).tg ++ jnT [43] ((endElem s).els.map elT) = opn s := opn_end s
          simp only [sgT, jn, e]
          simp [txOf, hmd, nt, endElem]
        · split at he
          · rename_i hc
            simp only [Prod.mk.injEq, true_and] at he
            subst he
            refine ⟨⟨hs, hl, ⟨hm.wi, hm.tg, hm.els, hm.elsl, hm.ell, hm.el, hm.wdl, hm.wd, hm.sl⟩⟩, ?_⟩
            simp [txOf, hmd, nt, opn, hc]
          · rename_i h1 h2 h3 h4
            have := add_inv hs hm hmd he
            refine ⟨this.1, ?_⟩
            have hns : sgn c = false := by simp [sgn, h1, h2, h3, h4]
            rw [nt_of this.2.2.2.2]
            simp only [txOf, this.2.1, this.2.2.1, this.2.2.2.1, hmd, mkd, hns]
            simp
  | mrk =>
    rw [hmd] at hm he
    simp only at hm he
    unfold behMark at he
    split at he
    · rename_i hc
      have := add_inv (s := { s with md := .cmp }) hs ⟨hm.wi, hm.tg, hm.els, hm.elsl, hm.ell, hm.el, hm.wdl, hm.wd, hm.sl⟩ rfl he
      refine ⟨this.1, ?_⟩
      rw [nt_of this.2.2.2.2]
      have e : opn { s with md := .cmp } = opn s := rfl
      simp only [txOf, this.2.1, this.2.2.1, this.2.2.2.1, hmd, mkd, hc, e, if_true]
      simp
    · simp at he
theorem run_inv (t : Tx) : ∀ (s : RS) (i : Nat), good s → (runL s i t).2.1 = 0 → good (runL s i t).2.2 ∧ txOf (runL s i t).2.2 = txOf s ++ t.filter (fun c => decide (¬ c = 10)) := by
  induction t with
  | nil => intro s i h _; exact ⟨h, by simp [runL]⟩
  | cons c t ih =>
    intro s i h he
    simp only [runL] at he ⊢
    split
    · rename_i h1
      rw [if_pos h1] at he
      have h2 := step_inv h (show step s c = (0, (step s c).2) by rw [← h1])
      have h3 := ih _ _ h2.1 he
      refine ⟨h3.1, ?_⟩
      rw [h3.2, h2.2]
      unfold nt
      by_cases hc : c = 10
      · simp [hc]
      · simp [hc]
    · rename_i h1
      rw [if_neg h1] at he
      exact absurd he h1
theorem good_s0 : good s0 := ⟨by simp [s0], by simp [s0], rfl⟩
theorem good_out {s : RS} (h : good s) (hw : s.wi = false) : s = rest s.segs := by
  obtain ⟨_, _, h⟩ := h
  cases hmd : s.md <;> rw [hmd] at h
  · exact h
  · rw [hw] at h; exact absurd h.1 (by simp)
  · rw [hw] at h; exact absurd h.1 (by simp)
  · have := h.wi; rw [hw] at this; simp at this
  · have := h.wi; rw [hw] at this; simp at this
/-- a text that is one -/
theorem parse_ok {t : Tx} (h : (parseL t).2.2 = 0) : t.length ≤ 65536 ∧ runL s0 0 t = (t.length, 0, rest (parseL t).1) ∧ parseL t = ((parseL t).1, 0, 0) := by
  unfold parseL at h ⊢
  split at h
  · simp at h
  · rename_i h1
    split at h
    · rename_i h2
      split at h
      · simp at h
      · rename_i h3
        rw [if_neg h1, if_pos h2, if_neg h3]
        refine ⟨by omega, ?_, rfl⟩
        have hi := run_inv t s0 0 good_s0 h2
        have := good_out hi.1 (by simpa using h3)
        have h4 := runL_ok_at s0 0 t h2
        rw [Nat.zero_add] at h4
        generalize hr : runL s0 0 t = r at *
        obtain ⟨a, b, c⟩ := r
        simp only at h2 h4 this ⊢
        rw [h2, h4, ← this]
    · rename_i h2; exact absurd h h2
/-- what is parsed is printed as the text, without its bytes 10 -/
theorem back2 {t : Tx} (h : (parseL t).2.2 = 0) : printL (parseL t).1 = (t.filter (fun c => decide (¬ c = 10)), 0) := by
  obtain ⟨h1, h2, h3⟩ := parse_ok h
  have hi := run_inv t s0 0 good_s0 (by rw [h2])
  rw [h2] at hi
  have hl : (t.filter (fun c => decide (¬ c = 10))).length ≤ t.length := List.length_filter_le _ _
  have htx : txT (parseL t).1 = t.filter (fun c => decide (¬ c = 10)) := by
    have := hi.2
    simpa [txOf, rest, s0, txT] using this
  obtain ⟨hs, hc, _⟩ := hi.1
  simp only [rest] at hs hc
  unfold printL
  rw [if_pos (by rw [List.all_eq_true]; exact fun g hg => (hs g hg).1), if_pos (by rw [List.all_eq_true]; exact fun g hg => (hs g hg).2.1), if_pos (by
    rw [Bool.and_eq_true, List.all_eq_true]; exact ⟨by simpa using hc, fun g hg => (hs g hg).2.2⟩), htx, if_neg (by omega)]
theorem parse_bad {t : Tx} (h : (parseL t).2.2 ≠ 0) : (parseL t).1 = [] := by
  unfold parseL at h ⊢
  split
  · rfl
  · rename_i h1
    rw [if_neg h1] at h
    split
    · rename_i h2
      rw [if_pos h2] at h
      split
      · rfl
      · rename_i h3; rw [if_neg h3] at h; exact absurd rfl h
    · rfl
theorem step_codes (s : RS) (c : UInt8) : (step s c).1 = 0 ∨ (step s c).1 = 2 ∨ (step s c).1 = 30 := by
  unfold step
  cases s.md <;> simp only [outS, inTag, behTag, inComp, behMark, beginElem, nextComp, add] <;> (repeat' split) <;> simp
theorem run_err (t : Tx) : ∀ (s : RS) (i : Nat), (runL s i t).2.1 ≠ 0 → ∃ k, (runL s i t).1 = i + k ∧ k < t.length ∧ (runL s i (t.take k)).2.1 = 0 ∧ (runL s i t).2.1 ≠ 31 := by
  induction t with
  | nil => intro s i h; exact absurd rfl h
  | cons c t ih =>
    intro s i h
    simp only [runL] at h ⊢
    split
    · rename_i h1
      rw [if_pos h1] at h
      obtain ⟨k, h2, h3, h4, h5⟩ := ih _ _ h
      refine ⟨k + 1, by rw [h2]; omega, by simp; omega, ?_, h5⟩
      simp only [List.take_succ_cons, runL, if_pos h1]
      exact h4
    · rename_i h1
      refine ⟨0, rfl, by simp, rfl, ?_⟩
      rcases step_codes s c with h2 | h2 | h2
      · exact absurd h2 h1
      · simp [h2]
      · simp [h2]
/-- up to the place of an error a text may go on -/
theorem cut {t : Tx} (hl : t.length ≤ 65536) (h : (parseL t).2.2 ≠ 0) : (parseL t).2.1 ≤ t.length ∧ ((parseL t).2.2 = 31 ↔ (parseL t).2.1 = t.length) ∧
    ((parseL (t.take (parseL t).2.1)).2.2 = 0 ∨ ((parseL (t.take (parseL t).2.1)).2.2 = 31 ∧ (parseL (t.take (parseL t).2.1)).2.1 = (parseL t).2.1)) := by
  have key : ∀ k, k ≤ t.length → (runL s0 0 (t.take k)).2.1 = 0 → ((parseL (t.take k)).2.2 = 0 ∨ ((parseL (t.take k)).2.2 = 31 ∧ (parseL (t.take k)).2.1 = k)) := by
    intro k hk hr
    have hlt : (t.take k).length = k := by rw [List.length_take]; omega
    unfold parseL
    rw [if_neg (by omega), if_pos hr]
    split
    · right; exact ⟨rfl, hlt⟩
    · left; rfl
  by_cases h2 : (runL s0 0 t).2.1 = 0
  · have hp : parseL t = ([], t.length, 31) := by
      unfold parseL at h ⊢
      rw [if_neg (by omega), if_pos h2] at h ⊢
      split
      · rfl
      · rename_i h3; rw [if_neg h3] at h; exact absurd rfl h
    rw [hp]
    refine ⟨Nat.le_refl _, by simp, key _ (Nat.le_refl _) (by rw [List.take_length]; exact h2)⟩
  · obtain ⟨k, h3, h4, h5, h6⟩ := run_err t s0 0 h2
    have hp : parseL t = ([], k, (runL s0 0 t).2.1) := by
      unfold parseL
      rw [if_neg (by omega), if_neg h2, h3]; simp
    rw [hp]
    refine ⟨by simp only; omega, ⟨fun e => absurd e h6, fun e => by simp only at e; omega⟩, key k (by omega) h5⟩
/-- a reader that has read segments before -/
def shf (l : List Sg) (s : RS) : RS := { s with segs := l ++ s.segs }
theorem inTag_shf (l : List Sg) (s : RS) (c : UInt8) : inTag (shf l s) c = ((inTag s c).1, shf l (inTag s c).2) := by
  unfold inTag shf; (repeat' split) <;> simp_all
theorem step_shf (l : List Sg) (s : RS) (c : UInt8) (h : s.md = .out → (s.segs.length = 0 → ¬ c = 10) ∧ (c = 10 ∨ l.length + s.segs.length < 64)) (h0 : (step s c).1 = 0) : step (shf l s) c = (0, shf l (step s c).2) := by
  unfold step at h0 ⊢
  cases hmd : s.md with
  | out =>
    have h' := h hmd
    simp only [show (shf l s).md = .out from hmd]
    rw [hmd] at h0
    simp only at h0 ⊢
    unfold outS at h0 ⊢
    by_cases h1 : c = 10 ∧ 0 < s.segs.length
    · rw [if_pos h1, if_pos ⟨h1.1, by simp [shf]; omega⟩]
    · have hc : ¬ c = 10 := fun e => by
        by_cases hz : s.segs.length = 0
        · exact h'.1 hz e
        · exact h1 ⟨e, by omega⟩
      rw [if_neg h1] at h0 ⊢
      rw [if_neg (fun e => hc e.1)]
      have hlt := h'.2.resolve_left hc
      have h64 : ¬ s.segs.length = 64 := by omega
      have h64' : ¬ (shf l s).segs.length = 64 := by simp only [shf, List.length_append]; omega
      rw [if_neg h64] at h0 ⊢
      rw [if_neg h64']
      have := inTag_shf l { s with wi := true, md := .tag } c
      rw [h0] at this
      exact this
  | tag =>
    simp only [show (shf l s).md = .tag from hmd]
    rw [hmd] at h0
    simp only at h0
    rw [inTag_shf, h0]
  | beh =>
    simp only [show (shf l s).md = .beh from hmd]
    rw [hmd] at h0
    revert h0
    simp only [behTag, beginElem, endSeg, shf]
    (repeat' split) <;> simp_all
  | cmp =>
    simp only [show (shf l s).md = .cmp from hmd]
    rw [hmd] at h0
    revert h0
    simp only [inComp, beginElem, nextComp, endComp, endSeg, endElem, add, shf]
    by_cases h16 : s.els.length = 15 <;> (repeat' split) <;> simp_all
  | mrk =>
    simp only [show (shf l s).md = .mrk from hmd]
    rw [hmd] at h0
    revert h0
    simp only [behMark, add, shf]
    (repeat' split) <;> simp_all
theorem step_len (s : RS) (c : UInt8) : s.segs.length ≤ (step s c).2.segs.length ∧ ((step s c).2.md = .out → s.md ≠ .out → s.segs.length + 1 ≤ (step s c).2.segs.length) := by
  unfold step
  by_cases h16 : s.els.length = 15 <;> cases hmd : s.md <;> simp only [outS, inTag, behTag, inComp, behMark, beginElem, nextComp, add, endSeg, endElem, endComp] <;> (repeat' split) <;> simp_all
theorem run_len (t : Tx) : ∀ (s : RS) (i : Nat), (runL s i t).2.1 = 0 → s.segs.length ≤ (runL s i t).2.2.segs.length ∧ ((runL s i t).2.2.md = .out → s.md ≠ .out → s.segs.length + 1 ≤ (runL s i t).2.2.segs.length) := by
  induction t with
  | nil => intro s i _; exact ⟨Nat.le_refl _, fun h1 h2 => absurd h1 h2⟩
  | cons c t ih =>
    intro s i he
    simp only [runL] at he ⊢
    split
    · rename_i h1
      rw [if_pos h1] at he
      have h2 := ih _ _ he
      have h3 := step_len s c
      refine ⟨by omega, fun h4 h5 => ?_⟩
      by_cases h6 : (step s c).2.md = .out
      · have := h3.2 h6 h5; omega
      · have := h2.2 h4 h6; omega
    · rename_i h1
      rw [if_neg h1] at he
      exact absurd he h1
theorem out_step (s : RS) (c : UInt8) (hmd : s.md = .out) (h0 : (step s c).1 = 0) : (c = 10 ∧ 0 < s.segs.length ∧ (step s c).2 = s) ∨ ((step s c).2.md ≠ .out ∧ ¬ c = 10) := by
  unfold step at h0 ⊢
  rw [hmd] at h0 ⊢
  simp only [outS] at h0 ⊢
  split
  · rename_i h; left; exact ⟨h.1, h.2, rfl⟩
  · rename_i h
    rw [if_neg h] at h0
    split
    · rename_i h1; rw [if_pos h1] at h0; simp at h0
    · rename_i h1
      rw [if_neg h1] at h0
      right
      unfold inTag at h0 ⊢
      split
      · rename_i ht
        refine ⟨?_, tgc10 ht⟩
        split <;> simp
      · rename_i ht; simp [ht] at h0
theorem run_shf (l : List Sg) (t : Tx) : ∀ (s : RS) (i : Nat), (runL s i t).2.1 = 0 → (runL s i t).2.2.md = .out → l.length + (runL s i t).2.2.segs.length ≤ 64 →
    (runL (shf l s) i t) = ((runL s i t).1, 0, shf l (runL s i t).2.2) := by
  induction t with
  | nil => intro s i _ _ _; rfl
  | cons c t ih =>
    intro s i he ho hl
    simp only [runL] at he ho hl ⊢
    by_cases h1 : (step s c).1 = 0
    · rw [if_pos h1] at he ho hl
      rw [if_pos h1]
      have h2 := ih _ (i + 1) he ho hl
      have h3 := run_len t (step s c).2 (i + 1) he
      have h4 := step_shf l s c (fun hmd => by
        rcases out_step s c hmd h1 with ⟨e1, e2, _⟩ | ⟨e1, e2⟩
        · exact ⟨fun e => absurd e (by omega), Or.inl e1⟩
        · have h5 := h3.2 ho e1
          have h6 := (step_len s c).1
          exact ⟨fun _ => e2, Or.inr (by omega)⟩) h1
      rw [h4]
      simpa using h2
    · rw [if_neg h1] at he; exact absurd he h1
/-- two texts one behind the other -/
theorem parse_app {a b : Tx} (ha : (parseL a).2.2 = 0) (hb : (parseL b).2.2 = 0) (hl : (parseL a).1.length + (parseL b).1.length ≤ 64) (hab : a.length + b.length ≤ 65536) :
    parseL (a ++ b) = ((parseL a).1 ++ (parseL b).1, 0, 0) := by
  obtain ⟨a1, a2, a3⟩ := parse_ok ha
  obtain ⟨b1, b2, b3⟩ := parse_ok hb
  have hi : ∀ (t : Tx) (s : RS) (i j : Nat), (runL s i t).2 = (runL s j t).2 := by
    intro t
    induction t with
    | nil => intro s i j; rfl
    | cons c t ih => intro s i j; simp only [runL]; split
                     · exact ih _ _ _
                     · rfl
  have hr : (runL s0 0 (a ++ b)).2 = (0, rest ((parseL a).1 ++ (parseL b).1)) := by
    rw [runL_app, a2]
    simp only [if_true]
    have h1 := run_shf (parseL a).1 b s0 (0 + a.length) (by rw [hi b s0 _ 0, b2]) (by rw [hi b s0 _ 0, b2]; rfl) (by rw [hi b s0 _ 0, b2]; exact hl)
    have e : shf (parseL a).1 s0 = rest (parseL a).1 := by simp [shf, s0, rest]
    rw [e] at h1
    rw [h1, hi b s0 _ 0, b2]
    simp [shf, rest]
  unfold parseL
  rw [if_neg (by simp; omega), hr]
  simp only [if_true, rest]
  simp [parseL, rest] at *
end Go.Edi
