/- strconv.FormatInt and ParseInt off the kit's shelf, laid at this seat. -/
import Derived.Test.YtgaoeljdlpemnaaGreatDoorNuPure
import Derived.Lib.ParseIntBTie
import Derived.Lib.ParseIntBCases
import Derived.Lib.ItoaMem
import Derived.Shelf.LaysM
import Derived.Shelf.LaysC
import Derived.Shelf.Strconv.Itoa4
import Derived.Shelf.Strconv.ErrVarParseInt
import Derived.Test.YtgaoeljdlpemnaaGreatDoorProg
/- The plain model of msg: messages, the fields that a kind has, numbers with a sign, what segments tell and what is read of them. -/
namespace Go.Proofs.YtgaoeljdlpemnaaGreatDoor
open Go.RowKit Go.Edi Go.Wrap

structure Ms where
  kind : Nat
  car : Nat
  ser : Nat
  at_ : Nat
  lc : Nat
  lf : Nat
  lw : Nat
  val : Int
  st : Nat
  non : Nat
  am : Int
  code : Int
structure Ms.Ty (m : Ms) : Prop where
  kind : m.kind < 256
  car : m.car < 256
  ser : m.ser < 18446744073709551616
  at_ : m.at_ < 256
  lc : m.lc < 256
  lf : m.lf < 65536
  lw : m.lw < 4294967296
  val : -9223372036854775808 ≤ m.val ∧ m.val ≤ 9223372036854775807
  st : m.st < 256
  non : m.non < 4294967296
  am : -9223372036854775808 ≤ m.am ∧ m.am ≤ 9223372036854775807
  code : -9223372036854775808 ≤ m.code ∧ m.code ≤ 9223372036854775807
def Ms.zero : Ms := ⟨0, 0, 0, 0, 0, 0, 0, 0, 0, 0, 0, 0⟩
instance : DecidableEq Ms := fun a b =>
  if h : a.kind = b.kind ∧ a.car = b.car ∧ a.ser = b.ser ∧ a.at_ = b.at_ ∧ a.lc = b.lc ∧ a.lf = b.lf ∧ a.lw = b.lw ∧ a.val = b.val ∧ a.st = b.st ∧ a.non = b.non ∧ a.am = b.am ∧ a.code = b.code then
    .isTrue (by
      obtain ⟨a1, a2, a3, a4, a5, a6, a7, a8, a9, a10, a11, a12⟩ := a
      obtain ⟨b1, b2, b3, b4, b5, b6, b7, b8, b9, b10, b11, b12⟩ := b
      simp only at h
      obtain ⟨rfl, rfl, rfl, rfl, rfl, rfl, rfl, rfl, rfl, rfl, rfl, rfl⟩ := h
      rfl)
  else .isFalse (fun e => h (by subst e; exact ⟨rfl, rfl, rfl, rfl, rfl, rfl, rfl, rfl, rfl, rfl, rfl, rfl⟩))
/-- what messages of some kinds have -/
inductive Fd
  | cpn | amt | cod
def fdsL : Nat → Option (List Fd)
  | 1 => some []
  | 2 => some [.cpn]
  | 3 => some [.cod]
  | 4 => some []
  | 5 => some [.cpn]
  | 6 => some [.amt]
  | 7 => some [.amt]
  | 8 => some [.amt, .cod]
  | _ => none
def tagL : Fd → Tx
  | .cpn => [67, 80, 78]
  | .amt => [65, 77, 84]
  | .cod => [67, 79, 68]
def tellL (m : Ms) : Fd → List Int
  | .cpn => [m.lc, m.lf, m.lw, m.val, m.st, m.non]
  | .amt => [m.am]
  | .cod => [m.code]
def inB (n lo hi : Int) : Bool := decide (lo ≤ n) && decide (n ≤ hi)
def cpnB (a b c d e f : Int) : Bool := inB a 0 7 && inB b 0 65535 && inB c 0 4294967295 && inB d (-1125899906842624) 1125899906842624 && inB e 1 7 && inB f 0 4294967295
def takeL (m : Ms) : Fd → List Int → Option Ms
  | .cpn, [a, b, c, d, e, f] => if cpnB a b c d e f then some { m with lc := a.toNat, lf := b.toNat, lw := c.toNat, val := d, st := e.toNat, non := f.toNat } else none
  | .amt, [a] => if inB a (-1125899906842624) 1125899906842624 then some { m with am := a } else none
  | .cod, [a] => if inB a 0 999 then some { m with code := a } else none
  | _, _ => none
/-- a number's text, a - ahead of one below 0 -/
abbrev sdig (n : Int) : Tx := Lib.itoa n
/-- the number that a text tells -/
def valL (t : Tx) : Option Int := match Lib.parseIntB 64 t with | .ok v => if sdig v = t then some v else none | _ => none
def valsL : List Tx → Option (List Int)
  | [] => some []
  | t :: r => match valL t, valsL r with | some n, some l => some (n :: l) | _, _ => none
def onesL : List (List Tx) → Option (List Tx)
  | [] => some []
  | [t] :: r => (onesL r).map (t :: ·)
  | _ :: _ => none
def elsOf (s : Sg) (tag : Tx) : Option (List Tx) := if s.tag = tag then onesL s.els else none
def numsOf (s : Sg) (tag : Tx) : Option (List Int) := (elsOf s tag).bind valsL
def ackT : Tx := [65, 67, 75]
def kindT : Tx := [77, 83, 71]
def keyT : Tx := [75, 69, 89]
def sgL (tag : Tx) (els : List Tx) : Sg := ⟨tag, els.map fun x => [x]⟩
/-- put together again of its fields alone -/
def rebL (m : Ms) : Ms → List Fd → Option Ms
  | a, [] => some a
  | a, f :: r => match takeL a f (tellL m f) with | some b => rebL m b r | none => none
def bareL (m : Ms) : Ms := ⟨m.kind, m.car, m.ser, m.at_, 0, 0, 0, 0, 0, 0, 0, 0⟩
def mayL (m : Ms) (fds : List Fd) : Bool := decide (m.at_ < 4) && (match rebL m (bareL m) fds with | some a => decide (a = m) | none => false)
def fldS (m : Ms) (f : Fd) : Sg := sgL (tagL f) ((tellL m f).map sdig)
def toldMs (m : Ms) : List Sg × Nat :=
  match fdsL m.kind with
  | none => ([], 100)
  | some fds =>
    if (Number.textL m.car m.ser).2 = 0 then
      (if mayL m fds then (sgL kindT [sdig m.kind] :: sgL keyT [(Number.textL m.car m.ser).1, sdig m.at_] :: fds.map (fldS m), 0) else ([], 101))
    else ([], (Number.textL m.car m.ser).2)
structure Pk where
  from_ : Nat
  to_ : Nat
  num : Nat
  ack : Bool
  m : Ms
structure Pk.Ty (p : Pk) : Prop where
  from_ : p.from_ < 256
  to_ : p.to_ < 256
  num : p.num < 18446744073709551616
  m : p.m.Ty
def Pk.zero : Pk := ⟨0, 0, 0, false, .zero⟩
def toldL (p : Pk) : List Sg × Nat := if p.ack then (if p.m = .zero then ([sgL ackT []], 0) else ([], 101)) else toldMs p.m
def mwrapL (p : Pk) : Wr × Nat :=
  if 8 ≤ p.from_ ∨ 8 ≤ p.to_ then (.nil, 1) else
  if (toldL p).2 = 0 then (⟨p.from_, p.to_, p.num, (toldL p).1⟩, 0) else (.nil, (toldL p).2)
/-- the kind that a segment tells, and its fields -/
def kindOf (s : Sg) : Option (Nat × List Fd) :=
  match numsOf s kindT with
  | some [n] => if inB n 0 255 then (fdsL n.toNat).map fun f => (n.toNat, f) else none
  | _ => none
def keyOf' (m : Ms) (s : Sg) : Option Ms × Nat :=
  match elsOf s keyT with
  | some [a, b] =>
    if (Number.parseL a).2.2 = 0 then
      (match valL b with
       | some n => if inB n 0 3 then (some { m with car := (Number.parseL a).1, ser := (Number.parseL a).2.1, at_ := n.toNat }, 0) else (none, 101)
       | none => (none, 101))
    else (none, (Number.parseL a).2.2)
  | _ => (none, 101)
def arRead (m : Ms) : List Fd → List Sg → Option Ms
  | [], [] => some m
  | f :: r, s :: t => (match numsOf s (tagL f) with
    | some l => (match takeL m f l with | some b => arRead b r t | none => none)
    | none => none)
  | _, _ => none
def readMs (m : Ms) (s : Sg) (behind : List Sg) : Option Ms × Nat :=
  match kindOf s with
  | none => (none, 100)
  | some (k, fds) => (match behind with
    | [] => (none, 101)
    | y :: r => (match keyOf' { m with kind := k } y with
      | (some a, _) => (match arRead a fds r with | some b => (some b, 0) | none => (none, 101))
      | (none, e) => (none, e)))
def packL (x : Wr) : Pk × Nat :=
  if 8 ≤ x.from_ ∨ 8 ≤ x.to_ then (.zero, 1) else
  match x.segs with
  | [] => (.zero, 100)
  | s :: r =>
    if s.tag = ackT then (if s.els = [] then (match r with | [] => (⟨x.from_, x.to_, x.ref, true, .zero⟩, 0) | _ :: _ => (.zero, 101)) else (.zero, 100))
    else match readMs .zero s r with
      | (some m, _) => (⟨x.from_, x.to_, x.ref, false, m⟩, 0)
      | (none, e) => (.zero, e)
def mtextL (p : Pk) : Tx × Nat := if (mwrapL p).2 = 0 then wprintL (mwrapL p).1 else ([], (mwrapL p).2)
def mparseL (t : Tx) : Pk × Nat := if (wparseL t).2 = 0 then packL (wparseL t).1 else (.zero, (wparseL t).2)
end Go.Proofs.YtgaoeljdlpemnaaGreatDoor
/- Numbers with a sign and their texts are each other's; what is told is read, what is read is told. -/
namespace Go.Proofs.YtgaoeljdlpemnaaGreatDoor
open Go.RowKit Go.Edi Go.Wrap

theorem pum_snoc (M : Nat) (t : Tx) (c : UInt8) : ∀ n, Lib.parseUintM M n (t ++ [c]) = match Lib.parseUintM M n t with | .ok m => Lib.parseUintM M m [c] | Lib.NumEnd.syntax => Lib.NumEnd.syntax | .range => .range := by
  induction t with
  | nil => intro n; rfl
  | cons a t ih =>
    intro n
    simp only [List.cons_append]
    unfold Lib.parseUintM
    split
    · split
      · rfl
      · split
        · rfl
        · rw [ih]; rfl
    · rfl
theorem pum_digs (M : Nat) (hM : M ≤ 18446744073709551615) (u : Nat) (hu : u ≤ M) : Lib.parseUintM M 0 (digs u) = .ok u := by
  induction u using Nat.strongRecOn with
  | _ u ih =>
    by_cases h : u < 10
    · rw [digs_small h]
      unfold Lib.parseUintM
      rw [nat_d u h, if_pos (by omega), if_neg (by omega), if_neg (by omega)]
      unfold Lib.parseUintM
      congr 1; omega
    · rw [digs_big h, pum_snoc, ih (u / 10) (by omega) (by omega)]
      show Lib.parseUintM M (u / 10) [UInt8.ofNat (48 + u % 10)] = _
      unfold Lib.parseUintM
      rw [nat_d (u % 10) (by omega), if_pos (by omega), if_neg (by omega), if_neg (by omega)]
      unfold Lib.parseUintM
      congr 1; omega
theorem pub_digs (u : Nat) (hu : u ≤ 18446744073709551615) : Lib.parseUintB 64 (digs u) = .ok u := by
  unfold Lib.parseUintB
  obtain ⟨c, t, h, _⟩ := digs_head u
  rw [if_neg (by rw [h]; simp)]
  exact pum_digs _ (by decide) u (by have e : 2 ^ 64 - 1 = 18446744073709551615 := rfl; omega)
def i64B (n : Int) : Prop := -9223372036854775808 ≤ n ∧ n ≤ 9223372036854775807
theorem pib_itoa {n : Int} (h : i64B n) : Lib.parseIntB 64 (sdig n) = .ok n := by
  by_cases hn : n < 0
  · have e : sdig n = 45 :: digs n.natAbs := by show Lib.itoa n = _; unfold Lib.itoa; rw [if_pos hn]
    rw [e, Lib.parseIntB_minus, pub_digs _ (by have := h.1; omega)]
    show (if 9223372036854775808 < n.natAbs then Lib.NumEnd.range else .ok (-(n.natAbs : Int))) = _
    rw [if_neg (by have := h.1; omega)]
    congr 1; omega
  · have e : sdig n = digs n.toNat := by show Lib.itoa n = _; unfold Lib.itoa; rw [if_neg hn]
    rw [e]
    obtain ⟨c, t, ht, _⟩ := digs_head n.toNat
    have hr := rd_digs 18446744073709551615 n.toNat
    have hc : dgt c = true := by
      rw [ht] at hr
      unfold rdN at hr
      by_cases hd : dgt c = true
      · exact hd
      · rw [if_neg hd, if_pos (by have := h.2; omega)] at hr; cases hr
    have hcn : 48 ≤ c.toNat ∧ c.toNat ≤ 57 := by
      unfold dgt at hc
      simp only [Bool.and_eq_true, decide_eq_true_eq, UInt8.le_iff_toNat_le] at hc
      exact hc
    have hp := pub_digs n.toNat (by have := h.2; omega)
    rw [ht] at hp ⊢
    rw [Lib.parseIntB_plain 64 c t (by omega) (by omega), hp]
    show (if 9223372036854775808 ≤ n.toNat then Lib.NumEnd.range else .ok (n.toNat : Int)) = _
    rw [if_neg (by have := h.2; omega)]
    congr 1; omega
theorem valL_itoa {n : Int} (h : i64B n) : valL (sdig n) = some n := by unfold valL; rw [pib_itoa h]; simp
theorem valL_some {t : Tx} {n : Int} (h : valL t = some n) : t = sdig n ∧ i64B n := by
  unfold valL at h
  split at h
  · rename_i v hv
    split at h
    · rename_i he
      cases h
      have hb := Lib.parseIntB_bounds hv
      have e : ((2 ^ (64 - 1) : Nat) : Int) = 9223372036854775808 := rfl
      rw [e] at hb
      exact ⟨he.symm, by unfold i64B; omega⟩
    · cases h
  · cases h
theorem valsL_some : ∀ {l : List Tx} {ns : List Int}, valsL l = some ns → l = ns.map sdig ∧ ∀ n ∈ ns, i64B n
  | [], ns, h => by cases h; exact ⟨rfl, fun n hn => by cases hn⟩
  | t :: r, ns, h => by
    have e : valsL (t :: r) = (match valL t, valsL r with | some n, some l => some (n :: l) | _, _ => none) := rfl
    rw [e] at h
    clear e
    split at h
    · rename_i n l h1 h2
      cases h
      obtain ⟨e1, e2⟩ := valL_some h1
      obtain ⟨e3, e4⟩ := valsL_some h2
      exact ⟨by rw [e1, e3]; rfl, fun x hx => (List.mem_cons.1 hx).elim (fun e => e ▸ e2) (fun h => e4 _ h)⟩
    · cases h
theorem valsL_map : ∀ {ns : List Int}, (∀ n ∈ ns, i64B n) → valsL (ns.map sdig) = some ns
  | [], _ => rfl
  | n :: r, h => by
    show valsL (sdig n :: r.map sdig) = _
    unfold valsL
    rw [valL_itoa (h n (by simp)), valsL_map (fun x hx => h x (by simp [hx]))]
theorem onesL_map : ∀ (l : List Tx), onesL (l.map fun x => [x]) = some l
  | [] => rfl
  | t :: r => by
    show onesL ([t] :: r.map fun x => [x]) = _
    unfold onesL
    rw [onesL_map r]; rfl
theorem onesL_some : ∀ {l : List (List Tx)} {ts : List Tx}, onesL l = some ts → l = ts.map fun x => [x]
  | [], ts, h => by cases h; rfl
  | [] :: r, ts, h => by cases h
  | [t] :: r, ts, h => by
    unfold onesL at h
    cases h1 : onesL r with
    | none => rw [h1] at h; cases h
    | some l => rw [h1] at h; cases h; rw [onesL_some h1]; rfl
  | (_ :: _ :: _) :: r, ts, h => by cases h
theorem elsOf_sg (tag : Tx) (l : List Tx) : elsOf (sgL tag l) tag = some l := by unfold elsOf sgL; rw [if_pos rfl, onesL_map]
theorem elsOf_some {s : Sg} {tag : Tx} {l : List Tx} (h : elsOf s tag = some l) : s = sgL tag l := by
  unfold elsOf at h
  split at h
  · rename_i he
    obtain ⟨t, e⟩ := s
    simp only at he h
    rw [onesL_some h, he]; rfl
  · cases h
theorem numsOf_sg (tag : Tx) {ns : List Int} (h : ∀ n ∈ ns, i64B n) : numsOf (sgL tag (ns.map sdig)) tag = some ns := by unfold numsOf; rw [elsOf_sg]; exact valsL_map h
theorem numsOf_some {s : Sg} {tag : Tx} {ns : List Int} (h : numsOf s tag = some ns) : s = sgL tag (ns.map sdig) ∧ ∀ n ∈ ns, i64B n := by
  unfold numsOf at h
  cases h1 : elsOf s tag with
  | none => rw [h1] at h; cases h
  | some l =>
    rw [h1] at h
    obtain ⟨h2, h3⟩ := valsL_some h
    exact ⟨by rw [elsOf_some h1, h2], h3⟩
theorem inB_iff (n lo hi : Int) : inB n lo hi = true ↔ lo ≤ n ∧ n ≤ hi := by unfold inB; simp
theorem cpnB_iff (a b c d e f : Int) : cpnB a b c d e f = true ↔ (0 ≤ a ∧ a ≤ 7) ∧ (0 ≤ b ∧ b ≤ 65535) ∧ (0 ≤ c ∧ c ≤ 4294967295) ∧ (-1125899906842624 ≤ d ∧ d ≤ 1125899906842624) ∧ (1 ≤ e ∧ e ≤ 7) ∧ 0 ≤ f ∧ f ≤ 4294967295 := by
  unfold cpnB; simp only [Bool.and_eq_true, inB_iff, and_assoc]
theorem tell_b {m : Ms} (h : m.Ty) (f : Fd) : ∀ n ∈ tellL m f, i64B n := by
  intro n hn
  have := h.lc; have := h.lf; have := h.lw; have := h.val; have := h.st; have := h.non; have := h.am; have := h.code
  cases f <;> simp only [tellL, List.mem_cons, List.not_mem_nil, or_false] at hn <;> unfold i64B <;> omega
theorem take_cpn (m : Ms) (a b c d e f : Int) : takeL m .cpn [a, b, c, d, e, f] = if cpnB a b c d e f then some { m with lc := a.toNat, lf := b.toNat, lw := c.toNat, val := d, st := e.toNat, non := f.toNat } else none := rfl
theorem take_amt (m : Ms) (a : Int) : takeL m .amt [a] = if inB a (-1125899906842624) 1125899906842624 then some { m with am := a } else none := rfl
theorem take_cod (m : Ms) (a : Int) : takeL m .cod [a] = if inB a 0 999 then some { m with code := a } else none := rfl
/-- how many numbers a field has -/
def cnt : Fd → Nat
  | .cpn => 6
  | _ => 1
theorem list6 (l : List Int) (h : l.length = 6) : ∃ a b c d e f, l = [a, b, c, d, e, f] := by
  match l, h with
  | [a, b, c, d, e, f], _ => exact ⟨a, b, c, d, e, f, rfl⟩
theorem list1 (l : List Int) (h : l.length = 1) : ∃ a, l = [a] := by
  match l, h with
  | [a], _ => exact ⟨a, rfl⟩
theorem take_cnt {a : Ms} {f : Fd} {l : List Int} (h : l.length ≠ cnt f) : takeL a f l = none := by
  match f, l, h with
  | .cpn, [], _ => rfl
  | .cpn, [_], _ => rfl
  | .cpn, [_, _], _ => rfl
  | .cpn, [_, _, _], _ => rfl
  | .cpn, [_, _, _, _], _ => rfl
  | .cpn, [_, _, _, _, _], _ => rfl
  | .cpn, [_, _, _, _, _, _], h => exact absurd rfl h
  | .cpn, _ :: _ :: _ :: _ :: _ :: _ :: _ :: _, _ => rfl
  | .amt, [], _ => rfl
  | .amt, [_], h => exact absurd rfl h
  | .amt, _ :: _ :: _, _ => rfl
  | .cod, [], _ => rfl
  | .cod, [_], h => exact absurd rfl h
  | .cod, _ :: _ :: _, _ => rfl
/-- a field, and its numbers, one by one -/
theorem take_cases {a b : Ms} {f : Fd} {l : List Int} (h : takeL a f l = some b) :
    (∃ x1 x2 x3 x4 x5 x6, f = .cpn ∧ l = [x1, x2, x3, x4, x5, x6] ∧ cpnB x1 x2 x3 x4 x5 x6 = true ∧ b = { a with lc := x1.toNat, lf := x2.toNat, lw := x3.toNat, val := x4, st := x5.toNat, non := x6.toNat }) ∨
    (∃ x, f = .amt ∧ l = [x] ∧ inB x (-1125899906842624) 1125899906842624 = true ∧ b = { a with am := x }) ∨
    (∃ x, f = .cod ∧ l = [x] ∧ inB x 0 999 = true ∧ b = { a with code := x }) := by
  by_cases hl : l.length = cnt f
  · cases f with
    | cpn =>
      obtain ⟨x1, x2, x3, x4, x5, x6, rfl⟩ := list6 l hl
      rw [take_cpn] at h
      by_cases hb : cpnB x1 x2 x3 x4 x5 x6 = true
      · rw [if_pos hb] at h
        exact .inl ⟨x1, x2, x3, x4, x5, x6, rfl, rfl, hb, (Option.some.inj h).symm⟩
      · rw [if_neg hb] at h; cases h
    | amt =>
      obtain ⟨x, rfl⟩ := list1 l hl
      rw [take_amt] at h
      by_cases hb : inB x (-1125899906842624) 1125899906842624 = true
      · rw [if_pos hb] at h
        exact .inr (.inl ⟨x, rfl, rfl, hb, (Option.some.inj h).symm⟩)
      · rw [if_neg hb] at h; cases h
    | cod =>
      obtain ⟨x, rfl⟩ := list1 l hl
      rw [take_cod] at h
      by_cases hb : inB x 0 999 = true
      · rw [if_pos hb] at h
        exact .inr (.inr ⟨x, rfl, rfl, hb, (Option.some.inj h).symm⟩)
      · rw [if_neg hb] at h; cases h
  · rw [take_cnt hl] at h; cases h
theorem take_tell {a b : Ms} {f : Fd} {l : List Int} (h : takeL a f l = some b) : tellL b f = l := by
  rcases take_cases h with ⟨x1, x2, x3, x4, x5, x6, rfl, rfl, hb, rfl⟩ | ⟨x, rfl, rfl, hb, rfl⟩ | ⟨x, rfl, rfl, hb, rfl⟩
  · rw [cpnB_iff] at hb
    simp only [tellL]
    rw [Int.toNat_of_nonneg (by omega), Int.toNat_of_nonneg (by omega), Int.toNat_of_nonneg (by omega), Int.toNat_of_nonneg (by omega), Int.toNat_of_nonneg (by omega)]
  · rfl
  · rfl
theorem take_ty {a b : Ms} {f : Fd} {l : List Int} (ha : a.Ty) (h : takeL a f l = some b) : b.Ty := by
  obtain ⟨h1, h2, h3, h4, h5, h6, h7, h8, h9, h10, h11, h12⟩ := ha
  rcases take_cases h with ⟨x1, x2, x3, x4, x5, x6, rfl, rfl, hb, rfl⟩ | ⟨x, rfl, rfl, hb, rfl⟩ | ⟨x, rfl, rfl, hb, rfl⟩
  · rw [cpnB_iff] at hb
    exact ⟨h1, h2, h3, h4, by simp only; omega, by simp only; omega, by simp only; omega, by simp only; omega, by simp only; omega, by simp only; omega, h11, h12⟩
  · rw [inB_iff] at hb
    exact ⟨h1, h2, h3, h4, h5, h6, h7, h8, h9, h10, by simp only; omega, h12⟩
  · rw [inB_iff] at hb
    exact ⟨h1, h2, h3, h4, h5, h6, h7, h8, h9, h10, h11, by simp only; omega⟩
/-- reading the fields' segments is putting together again -/
theorem ar_reb {m : Ms} (hm : m.Ty) : ∀ (fds : List Fd) (a : Ms), arRead a fds (fds.map (fldS m)) = rebL m a fds
  | [], a => rfl
  | f :: r, a => by
    show arRead a (f :: r) (fldS m f :: r.map (fldS m)) = rebL m a (f :: r)
    have e1 : arRead a (f :: r) (fldS m f :: r.map (fldS m)) = (match numsOf (fldS m f) (tagL f) with
      | some l => (match takeL a f l with | some b => arRead b r (r.map (fldS m)) | none => none)
      | none => none) := rfl
    have e2 : rebL m a (f :: r) = match takeL a f (tellL m f) with | some b => rebL m b r | none => none := rfl
    have e3 : numsOf (fldS m f) (tagL f) = some (tellL m f) := numsOf_sg _ (tell_b hm f)
    rw [e1, e2, e3]
    simp only
    cases takeL a f (tellL m f) with
    | none => rfl
    | some b => exact ar_reb hm r b
theorem read_told {m : Ms} {l : List Sg} (hm : m.Ty) (h : toldMs m = (l, 0)) : ∃ s r, l = s :: r ∧ s.tag = kindT ∧ readMs .zero s r = (some m, 0) := by
  unfold toldMs at h
  split at h
  · cases h
  · rename_i fds hf
    split at h
    · rename_i ht
      split at h
      · rename_i hmay
        cases h
        refine ⟨_, _, rfl, rfl, ?_⟩
        have hk : kindOf (sgL kindT [sdig m.kind]) = some (m.kind, fds) := by
          unfold kindOf
          have e : numsOf (sgL kindT [sdig m.kind]) kindT = some [(m.kind : Int)] := numsOf_sg (ns := [(m.kind : Int)]) kindT (fun n hn => by
            simp only [List.mem_singleton] at hn
            have := hm.kind
            unfold i64B; omega)
          rw [e]
          simp only
          rw [if_pos ((inB_iff _ _ _).2 (by have := hm.kind; omega)), Int.toNat_natCast, hf]
          rfl
        unfold mayL at hmay
        simp only [Bool.and_eq_true, decide_eq_true_eq] at hmay
        obtain ⟨hat, hre⟩ := hmay
        have hmy : Number.may m.car m.ser := by
          rw [Number.text_ok] at ht
          by_cases hq : Number.may m.car m.ser
          · exact hq
          · rw [if_neg hq] at ht; cases ht
        have hke : keyOf' { Ms.zero with kind := m.kind } (sgL keyT [(Number.textL m.car m.ser).1, sdig m.at_]) = (some (bareL m), 0) := by
          unfold keyOf'
          rw [elsOf_sg]
          simp only
          rw [Number.text_in hmy, Number.parse_full hmy]
          simp only [if_true]
          rw [valL_itoa (show i64B (m.at_ : Int) by unfold i64B; omega)]
          simp only
          rw [if_pos ((inB_iff _ _ _).2 (by omega)), Int.toNat_natCast]
          rfl
        unfold readMs
        rw [hk]
        simp only
        rw [hke]
        simp only
        rw [ar_reb hm]
        split at hre
        · rename_i a ha
          rw [of_decide_eq_true hre]
        · cases hre
      · cases h
    · rename_i ht
      exact absurd (Prod.mk.inj h).2 ht
theorem fds_cases {k : Nat} {fds : List Fd} (h : fdsL k = some fds) : fds = [] ∨ fds = [.cpn] ∨ fds = [.cod] ∨ fds = [.amt] ∨ fds = [.amt, .cod] := by
  unfold fdsL at h
  split at h <;> cases h <;> simp
theorem ar_step (a : Ms) (f : Fd) (r : List Fd) (s : Sg) (t : List Sg) : arRead a (f :: r) (s :: t) = (match numsOf s (tagL f) with
    | some l => (match takeL a f l with | some b => arRead b r t | none => none)
    | none => none) := rfl
theorem ar_short (a : Ms) (f : Fd) (r : List Fd) : arRead a (f :: r) [] = none := rfl
theorem ar_long (a : Ms) (s : Sg) (t : List Sg) : arRead a [] (s :: t) = none := rfl
theorem ar_done (a : Ms) : arRead a [] [] = some a := rfl
theorem ar_len {fds : List Fd} : ∀ {segs : List Sg} {a b : Ms}, arRead a fds segs = some b → segs.length = fds.length := by
  induction fds with
  | nil =>
    intro segs a b h
    cases segs with
    | nil => rfl
    | cons s t => rw [ar_long] at h; cases h
  | cons f r ih =>
    intro segs a b h
    cases segs with
    | nil => rw [ar_short] at h; cases h
    | cons s t =>
      rw [ar_step] at h
      split at h
      · split at h
        · rw [List.length_cons, List.length_cons, ih h]
        · cases h
      · cases h
theorem ar_head {a b : Ms} {f : Fd} {r : List Fd} {segs : List Sg} (h : arRead a (f :: r) segs = some b) : ∃ s t c, segs = s :: t ∧ takeL a f (tellL c f) = some c ∧ s = fldS c f ∧ arRead c r t = some b := by
  cases segs with
  | nil => rw [ar_short] at h; cases h
  | cons s t =>
    rw [ar_step] at h
    split at h
    · rename_i l hl
      split at h
      · rename_i c hc
        have ht := take_tell hc
        exact ⟨s, t, c, rfl, by rw [ht]; exact hc, by rw [(numsOf_some hl).1, fldS, ht], h⟩
      · cases h
    · cases h
theorem ar_nil {a b : Ms} {segs : List Sg} (h : arRead a [] segs = some b) : segs = [] ∧ b = a := by
  cases segs with
  | nil => rw [ar_done] at h; exact ⟨rfl, (Option.some.inj h).symm⟩
  | cons s t => rw [ar_long] at h; cases h
theorem ar_one {a b : Ms} {f : Fd} {segs : List Sg} (h : arRead a [f] segs = some b) : segs = [fldS b f] ∧ takeL a f (tellL b f) = some b := by
  obtain ⟨s, t, c, rfl, h1, rfl, h2⟩ := ar_head h
  obtain ⟨rfl, rfl⟩ := ar_nil h2
  exact ⟨rfl, h1⟩
theorem ar_two {a b : Ms} {segs : List Sg} (h : arRead a [.amt, .cod] segs = some b) : segs = [fldS b .amt, fldS b .cod] ∧ ∃ c, takeL a .amt (tellL b .amt) = some c ∧ takeL c .cod (tellL b .cod) = some b := by
  obtain ⟨s, t, c, rfl, h1, rfl, h2⟩ := ar_head h
  obtain ⟨rfl, h3⟩ := ar_one h2
  have e : tellL b .amt = tellL c .amt := by
    rcases take_cases h3 with ⟨_, _, _, _, _, _, he, _⟩ | ⟨_, he, _⟩ | ⟨x, _, _, _, rfl⟩
    · cases he
    · cases he
    · rfl
  exact ⟨by unfold fldS; rw [e], c, by rw [e]; exact h1, h3⟩
theorem Ms.ext' {a b : Ms} (h1 : a.kind = b.kind) (h2 : a.car = b.car) (h3 : a.ser = b.ser) (h4 : a.at_ = b.at_) (h5 : a.lc = b.lc) (h6 : a.lf = b.lf) (h7 : a.lw = b.lw) (h8 : a.val = b.val) (h9 : a.st = b.st) (h10 : a.non = b.non) (h11 : a.am = b.am) (h12 : a.code = b.code) : a = b := by
  obtain ⟨a1, a2, a3, a4, a5, a6, a7, a8, a9, a10, a11, a12⟩ := a
  obtain ⟨b1, b2, b3, b4, b5, b6, b7, b8, b9, b10, b11, b12⟩ := b
  simp only at *
  subst h1 h2 h3 h4 h5 h6 h7 h8 h9 h10 h11 h12
  rfl
theorem take_bare {a b : Ms} {f : Fd} {l : List Int} (h : takeL a f l = some b) : bareL b = bareL a := by
  rcases take_cases h with ⟨x1, x2, x3, x4, x5, x6, rfl, rfl, hb, rfl⟩ | ⟨x, rfl, rfl, hb, rfl⟩ | ⟨x, rfl, rfl, hb, rfl⟩ <;> rfl
theorem reb_step (m a : Ms) (f : Fd) (r : List Fd) : rebL m a (f :: r) = match takeL a f (tellL m f) with | some b => rebL m b r | none => none := rfl
theorem reb_nil (m a : Ms) : rebL m a [] = some a := rfl
theorem told_read {s : Sg} {r : List Sg} {m : Ms} (h : readMs .zero s r = (some m, 0)) : m.Ty ∧ toldMs m = (s :: r, 0) ∧ s.tag = kindT := by
  unfold readMs at h
  split at h
  · cases h
  · rename_i k fds hk
    have hk0 := hk
    unfold kindOf at hk
    split at hk
    · rename_i n hn
      split at hk
      · rename_i hin
        rw [inB_iff] at hin
        obtain ⟨hs, _⟩ := numsOf_some hn
        cases hf : fdsL n.toNat with
        | none => rw [hf] at hk; cases hk
        | some g =>
          rw [hf] at hk
          obtain ⟨rfl, rfl⟩ : n.toNat = k ∧ g = fds := by simpa using hk
          split at h
          · cases h
          · rename_i y t
            split at h
            · rename_i a u hke
              split at h
              · rename_i b hb
                obtain rfl : b = m := by simpa using h
                unfold keyOf' at hke
                split at hke
                · rename_i x z hel
                  split at hke
                  · rename_i hp
                    split at hke
                    · rename_i v hv
                      split at hke
                      · rename_i hvi
                        rw [inB_iff] at hvi
                        obtain ⟨ev, _⟩ := valL_some hv
                        have ha : { Ms.zero with kind := n.toNat, car := (Number.parseL x).1, ser := (Number.parseL x).2.1, at_ := v.toNat } = a := by
                          have := Option.some.inj (Prod.mk.inj hke).1
                          exact this
                        clear hke
                        obtain ⟨hmy, hfl⟩ := Number.full_parse (l := x) (c := (Number.parseL x).1) (s := (Number.parseL x).2.1) (by
                          have : Number.parseL x = ((Number.parseL x).1, (Number.parseL x).2.1, (Number.parseL x).2.2) := rfl
                          rw [this, hp])
                        have hmy' := hmy
                        unfold Number.may at hmy'
                        have hta : a.Ty := by
                          rw [← ha]
                          exact ⟨by show n.toNat < 256; omega, by simp only; omega, by simp only; omega, by show v.toNat < 256; omega, (show 0 < 256 by decide), (show 0 < 65536 by decide), (show 0 < 4294967296 by decide), (show -9223372036854775808 ≤ (0 : Int) ∧ (0 : Int) ≤ 9223372036854775807 by decide), (show 0 < 256 by decide), (show 0 < 4294967296 by decide), (show -9223372036854775808 ≤ (0 : Int) ∧ (0 : Int) ≤ 9223372036854775807 by decide), (show -9223372036854775808 ≤ (0 : Int) ∧ (0 : Int) ≤ 9223372036854775807 by decide)⟩
                        have hab : bareL a = a := by rw [← ha]; rfl
                        have hkey : y = sgL keyT [(Number.textL a.car a.ser).1, sdig a.at_] := by
                          rw [elsOf_some hel, ← ha, Number.text_in hmy]
                          simp only
                          rw [hfl, ev, Int.toNat_of_nonneg hvi.1]
                        have hkd : s = sgL kindT [sdig a.kind] := by
                          rw [hs, ← ha]
                          simp only [List.map_cons, List.map_nil]
                          rw [Int.toNat_of_nonneg hin.1]
                        have hcar : (Number.textL a.car a.ser).2 = 0 := by rw [← ha, Number.text_in hmy]
                        have hat4 : a.at_ < 4 := by rw [← ha]; simp only; omega
                        have hfa : fdsL a.kind = some g := by rw [← ha]; exact hf
                        have key : t = g.map (fldS b) ∧ rebL b (bareL b) g = some b ∧ bareL b = a ∧ b.Ty := by
                          rcases fds_cases hf with rfl | rfl | rfl | rfl | rfl
                          · obtain ⟨rfl, rfl⟩ := ar_nil hb
                            exact ⟨rfl, by rw [hab]; rfl, hab, hta⟩
                          · obtain ⟨h1, h2⟩ := ar_one hb
                            have h3 := take_bare h2
                            rw [hab] at h3
                            exact ⟨h1, by rw [h3, reb_step, h2]; rfl, h3, take_ty hta h2⟩
                          · obtain ⟨h1, h2⟩ := ar_one hb
                            have h3 := take_bare h2
                            rw [hab] at h3
                            exact ⟨h1, by rw [h3, reb_step, h2]; rfl, h3, take_ty hta h2⟩
                          · obtain ⟨h1, h2⟩ := ar_one hb
                            have h3 := take_bare h2
                            rw [hab] at h3
                            exact ⟨h1, by rw [h3, reb_step, h2]; rfl, h3, take_ty hta h2⟩
                          · obtain ⟨h1, c, h2, h4⟩ := ar_two hb
                            have h3 := (take_bare h4).trans (take_bare h2)
                            rw [hab] at h3
                            exact ⟨h1, by rw [h3, reb_step, h2]; simp only; rw [reb_step, h4]; rfl, h3, take_ty (take_ty hta h2) h4⟩
                        obtain ⟨k1, k2, k3, k4⟩ := key
                        have f1 : b.kind = a.kind := by rw [← k3]; rfl
                        have f2 : b.car = a.car := by rw [← k3]; rfl
                        have f3 : b.ser = a.ser := by rw [← k3]; rfl
                        have f4 : b.at_ = a.at_ := by rw [← k3]; rfl
                        refine ⟨k4, ?_, by rw [hkd]; rfl⟩
                        unfold toldMs
                        rw [f1, hfa]
                        simp only
                        rw [f2, f3, if_pos hcar, if_pos (by unfold mayL; rw [f4, k2]; simp [hat4]), f4, hkd, hkey, k1]
                      · cases hke
                    · cases hke
                  · cases hke
                · cases hke
              · cases h
            · rename_i hke
              cases h
      · cases hk
    · cases hk
end Go.Proofs.YtgaoeljdlpemnaaGreatDoor
namespace Go.Proofs
open Go.Shelf
def Tryz.laysM173_ren : Go.Shelf.Ren := ⟨fun | 173 => 97 | 246 => 124 | 283 => 127 | 284 => 128 | 285 => 129 | 286 => 130 | 129 => 146 | 317 => 145 | 318 => 147 | 319 => 148 | 320 => 149 | 337 => 159 | 338 => 160 | n => n, fun | 2 => 2 | 3 => 3 | 9 => 9 | 4 => 4 | 171 => 219 | 0 => 0 | 53 => 22 | 37 => 39 | 5 => 5 | 173 => 222 | 212 => 235 | 51 => 28 | 20 => 20 | 213 => 236 | 46 => 166 | 232 => 61 | 233 => 94 | n => n, fun | 17 => 2 | 18 => 3 | 19 => 4 | n => n⟩
theorem Tryz.laysM173 : Go.Proofs.LaysM.n173 Tryz.prog Tryz.laysM173_ren := {
  mixed := by kernel_rfl
  f129 := Tryz.func146.trans (congrArg some (by kernel_rfl))
  f173 := Tryz.func97.trans (congrArg some (by kernel_rfl))
  f246 := Tryz.func124.trans (congrArg some (by kernel_rfl))
  f283 := Tryz.func127.trans (congrArg some (by kernel_rfl))
  f284 := Tryz.func128.trans (congrArg some (by kernel_rfl))
  f285 := Tryz.func129.trans (congrArg some (by kernel_rfl))
  f286 := Tryz.func130.trans (congrArg some (by kernel_rfl))
  f317 := Tryz.func145.trans (congrArg some (by kernel_rfl))
  f318 := Tryz.func147.trans (congrArg some (by kernel_rfl))
  f319 := Tryz.func148.trans (congrArg some (by kernel_rfl))
  f320 := Tryz.func149.trans (congrArg some (by kernel_rfl))
  f337 := Tryz.func159.trans (congrArg some (by kernel_rfl))
  f338 := Tryz.func160.trans (congrArg some (by kernel_rfl))
  t0 := Tryz.underlying0
  a0 := Tryz.isAgg0
  z0 := Tryz.sizeOf0
  v0 := Tryz.zeroValue0
  t2 := Tryz.underlying2
  a2 := Tryz.isAgg2
  z2 := Tryz.sizeOf2
  v2 := Tryz.zeroValue2
  t3 := Tryz.underlying3
  a3 := Tryz.isAgg3
  z3 := Tryz.sizeOf3
  v3 := Tryz.zeroValue3
  t4 := Tryz.underlying4
  a4 := Tryz.isAgg4
  z4 := Tryz.sizeOf4
  v4 := Tryz.zeroValue4
  t5 := Tryz.underlying5
  a5 := Tryz.isAgg5
  z5 := Tryz.sizeOf5
  v5 := Tryz.zeroValue5
  t9 := Tryz.underlying9
  a9 := Tryz.isAgg9
  z9 := Tryz.sizeOf9
  v9 := Tryz.zeroValue9
  t20 := Tryz.underlying20
  a20 := Tryz.isAgg20
  z20 := Tryz.sizeOf20
  v20 := Tryz.zeroValue20
  t37 := Tryz.underlying39
  a37 := Tryz.isAgg39
  z37 := Tryz.sizeOf39
  v37 := Tryz.zeroValue39
  t46 := Tryz.underlying166
  a46 := Tryz.isAgg166
  z46 := Tryz.sizeOf166
  v46 := Tryz.zeroValue166
  t51 := Tryz.underlying28
  a51 := Tryz.isAgg28
  z51 := Tryz.sizeOf28
  v51 := Tryz.zeroValue28
  t53 := Tryz.underlying22
  a53 := Tryz.isAgg22
  z53 := Tryz.sizeOf22
  v53 := Tryz.zeroValue22
  t171 := Tryz.underlying219
  a171 := Tryz.isAgg219
  z171 := Tryz.sizeOf219
  v171 := Tryz.zeroValue219
  t173 := Tryz.underlying222
  a173 := Tryz.isAgg222
  z173 := Tryz.sizeOf222
  v173 := Tryz.zeroValue222
  t212 := Tryz.underlying235
  a212 := Tryz.isAgg235
  z212 := Tryz.sizeOf235
  v212 := Tryz.zeroValue235
  t213 := Tryz.underlying236
  a213 := Tryz.isAgg236
  z213 := Tryz.sizeOf236
  t232 := Tryz.underlying61
  a232 := Tryz.isAgg61
  z232 := Tryz.sizeOf61
  v232 := Tryz.zeroValue61
  t233 := Tryz.underlying94
  a233 := Tryz.isAgg94
  z233 := Tryz.sizeOf94
  v233 := Tryz.zeroValue94
  g17 := by kernel_rfl
  g18 := by kernel_rfl
  g19 := by kernel_rfl
  i0 := by kernel_rfl
  i2 := by kernel_rfl
  i3 := by kernel_rfl
  i4 := by kernel_rfl
  i5 := by kernel_rfl
  i9 := by kernel_rfl
  i20 := by kernel_rfl
  i37 := by kernel_rfl
  i46 := by kernel_rfl
  i51 := by kernel_rfl
  i53 := by kernel_rfl
  i171 := by kernel_rfl
  i173 := by kernel_rfl
  i212 := by kernel_rfl
  i232 := by kernel_rfl
  i233 := by kernel_rfl
  m17 := by kernel_rfl
  m18 := by kernel_rfl
  m19 := by kernel_rfl }
open Go.RowKit Go.Sort Go.Lib in
theorem Tryz.strconv_FormatInt_10 (n : Int) (h0 : -9223372036854775808 ≤ n) (h1 : n ≤ 9223372036854775807) (w : World) (htab : Lib.TabIs Tryz.prog w "internal/strconv.uint64pow10" .u64 Lib.pow10Tab) :
    Calls Tryz.prog 97 #[.int .i64 n, .int .i64 10] w fun e w' => e = .returned (.string ⟨(Lib.itoa n).toArray⟩) ∧ ∃ k os, w' = grow (w.drewN k) os := Any.strconv_FormatInt_10 Tryz.laysM173 n h0 h1 w htab
def Tryz.laysC174_ren : Go.Shelf.Ren := ⟨fun | 174 => 135 | 247 => 152 | 245 => 153 | 287 => 162 | 279 => 163 | 280 => 164 | 281 => 165 | 282 => 166 | 321 => 173 | 322 => 174 | 316 => 175 | 171 => 177 | 205 => 176 | 243 => 180 | 246 => 124 | 283 => 127 | 284 => 128 | 285 => 129 | 286 => 130 | 129 => 146 | 317 => 145 | 318 => 147 | 319 => 148 | 320 => 149 | 337 => 159 | 338 => 160 | n => n, fun | 9 => 9 | 3 => 3 | 2 => 2 | 75 => 187 | 85 => 224 | 4 => 4 | 167 => 247 | 5 => 5 | 53 => 22 | 175 => 248 | 46 => 166 | 168 => 250 | 37 => 39 | 0 => 0 | 210 => 256 | 21 => 21 | 127 => 137 | 145 => 260 | 143 => 258 | 171 => 219 | 173 => 222 | 212 => 235 | 51 => 28 | 20 => 20 | 213 => 236 | 232 => 61 | 233 => 94 | 80 => 190 | n => n, fun | 15 => 5 | 16 => 6 | 17 => 2 | 18 => 3 | 19 => 4 | n => n⟩
theorem Tryz.laysC174 : Go.Proofs.LaysC.n174 Tryz.prog Tryz.laysC174_ren := {
  mixed := by kernel_rfl
  f129 := Tryz.func146.trans (congrArg some (by kernel_rfl))
  f171 := Tryz.func177.trans (congrArg some (by kernel_rfl))
  f174 := Tryz.func135.trans (congrArg some (by kernel_rfl))
  f205 := Tryz.func176.trans (congrArg some (by kernel_rfl))
  f243 := Tryz.func180.trans (congrArg some (by kernel_rfl))
  f245 := Tryz.func153.trans (congrArg some (by kernel_rfl))
  f246 := Tryz.func124.trans (congrArg some (by kernel_rfl))
  f247 := Tryz.func152.trans (congrArg some (by kernel_rfl))
  f279 := Tryz.func163.trans (congrArg some (by kernel_rfl))
  f280 := Tryz.func164.trans (congrArg some (by kernel_rfl))
  f281 := Tryz.func165.trans (congrArg some (by kernel_rfl))
  f282 := Tryz.func166.trans (congrArg some (by kernel_rfl))
  f283 := Tryz.func127.trans (congrArg some (by kernel_rfl))
  f284 := Tryz.func128.trans (congrArg some (by kernel_rfl))
  f285 := Tryz.func129.trans (congrArg some (by kernel_rfl))
  f286 := Tryz.func130.trans (congrArg some (by kernel_rfl))
  f287 := Tryz.func162.trans (congrArg some (by kernel_rfl))
  f316 := Tryz.func175.trans (congrArg some (by kernel_rfl))
  f317 := Tryz.func145.trans (congrArg some (by kernel_rfl))
  f318 := Tryz.func147.trans (congrArg some (by kernel_rfl))
  f319 := Tryz.func148.trans (congrArg some (by kernel_rfl))
  f320 := Tryz.func149.trans (congrArg some (by kernel_rfl))
  f321 := Tryz.func173.trans (congrArg some (by kernel_rfl))
  f322 := Tryz.func174.trans (congrArg some (by kernel_rfl))
  f337 := Tryz.func159.trans (congrArg some (by kernel_rfl))
  f338 := Tryz.func160.trans (congrArg some (by kernel_rfl))
  t0 := Tryz.underlying0
  a0 := Tryz.isAgg0
  z0 := Tryz.sizeOf0
  v0 := Tryz.zeroValue0
  t2 := Tryz.underlying2
  a2 := Tryz.isAgg2
  z2 := Tryz.sizeOf2
  v2 := Tryz.zeroValue2
  t3 := Tryz.underlying3
  a3 := Tryz.isAgg3
  z3 := Tryz.sizeOf3
  v3 := Tryz.zeroValue3
  t4 := Tryz.underlying4
  a4 := Tryz.isAgg4
  z4 := Tryz.sizeOf4
  v4 := Tryz.zeroValue4
  t5 := Tryz.underlying5
  a5 := Tryz.isAgg5
  z5 := Tryz.sizeOf5
  v5 := Tryz.zeroValue5
  t9 := Tryz.underlying9
  a9 := Tryz.isAgg9
  z9 := Tryz.sizeOf9
  v9 := Tryz.zeroValue9
  t20 := Tryz.underlying20
  a20 := Tryz.isAgg20
  z20 := Tryz.sizeOf20
  v20 := Tryz.zeroValue20
  t21 := Tryz.underlying21
  a21 := Tryz.isAgg21
  z21 := Tryz.sizeOf21
  v21 := Tryz.zeroValue21
  t37 := Tryz.underlying39
  a37 := Tryz.isAgg39
  z37 := Tryz.sizeOf39
  v37 := Tryz.zeroValue39
  t46 := Tryz.underlying166
  a46 := Tryz.isAgg166
  z46 := Tryz.sizeOf166
  v46 := Tryz.zeroValue166
  t51 := Tryz.underlying28
  a51 := Tryz.isAgg28
  z51 := Tryz.sizeOf28
  v51 := Tryz.zeroValue28
  t53 := Tryz.underlying22
  a53 := Tryz.isAgg22
  z53 := Tryz.sizeOf22
  v53 := Tryz.zeroValue22
  t75 := Tryz.underlying187
  a75 := Tryz.isAgg187
  z75 := Tryz.sizeOf187
  v75 := Tryz.zeroValue187
  t85 := Tryz.underlying224
  a85 := Tryz.isAgg224
  z85 := Tryz.sizeOf224
  v85 := Tryz.zeroValue224
  t127 := Tryz.underlying137
  a127 := Tryz.isAgg137
  z127 := Tryz.sizeOf137
  v127 := Tryz.zeroValue137
  t143 := Tryz.underlying258
  a143 := Tryz.isAgg258
  z143 := Tryz.sizeOf258
  v143 := Tryz.zeroValue258
  t145 := Tryz.underlying260
  a145 := Tryz.isAgg260
  z145 := Tryz.sizeOf260
  v145 := Tryz.zeroValue260
  t167 := Tryz.underlying247
  a167 := Tryz.isAgg247
  z167 := Tryz.sizeOf247
  v167 := Tryz.zeroValue247
  t168 := Tryz.underlying250
  a168 := Tryz.isAgg250
  z168 := Tryz.sizeOf250
  v168 := Tryz.zeroValue250
  t171 := Tryz.underlying219
  a171 := Tryz.isAgg219
  z171 := Tryz.sizeOf219
  v171 := Tryz.zeroValue219
  t173 := Tryz.underlying222
  a173 := Tryz.isAgg222
  z173 := Tryz.sizeOf222
  v173 := Tryz.zeroValue222
  t175 := Tryz.underlying248
  a175 := Tryz.isAgg248
  z175 := Tryz.sizeOf248
  v175 := Tryz.zeroValue248
  t210 := Tryz.underlying256
  a210 := Tryz.isAgg256
  z210 := Tryz.sizeOf256
  v210 := Tryz.zeroValue256
  t212 := Tryz.underlying235
  a212 := Tryz.isAgg235
  z212 := Tryz.sizeOf235
  v212 := Tryz.zeroValue235
  t213 := Tryz.underlying236
  a213 := Tryz.isAgg236
  z213 := Tryz.sizeOf236
  t232 := Tryz.underlying61
  a232 := Tryz.isAgg61
  z232 := Tryz.sizeOf61
  v232 := Tryz.zeroValue61
  t233 := Tryz.underlying94
  a233 := Tryz.isAgg94
  z233 := Tryz.sizeOf94
  v233 := Tryz.zeroValue94
  g15 := by kernel_rfl
  g16 := by kernel_rfl
  g17 := by kernel_rfl
  g18 := by kernel_rfl
  g19 := by kernel_rfl
  t80 := Tryz.underlying190
  a80 := Tryz.isAgg190
  z80 := Tryz.sizeOf190
  v80 := Tryz.zeroValue190
  i0 := by kernel_rfl
  i2 := by kernel_rfl
  i3 := by kernel_rfl
  i4 := by kernel_rfl
  i5 := by kernel_rfl
  i9 := by kernel_rfl
  i20 := by kernel_rfl
  i21 := by kernel_rfl
  i37 := by kernel_rfl
  i46 := by kernel_rfl
  i51 := by kernel_rfl
  i53 := by kernel_rfl
  i75 := by kernel_rfl
  i80 := by kernel_rfl
  i85 := by kernel_rfl
  i127 := by kernel_rfl
  i143 := by kernel_rfl
  i145 := by kernel_rfl
  i167 := by kernel_rfl
  i168 := by kernel_rfl
  i171 := by kernel_rfl
  i173 := by kernel_rfl
  i175 := by kernel_rfl
  i210 := by kernel_rfl
  i212 := by kernel_rfl
  i232 := by kernel_rfl
  i233 := by kernel_rfl
  m15 := by kernel_rfl
  m16 := by kernel_rfl
  m17 := by kernel_rfl
  m18 := by kernel_rfl
  m19 := by kernel_rfl
  c0 := by kernel_rfl
  c2 := by kernel_rfl
  c3 := by kernel_rfl
  c4 := by kernel_rfl
  c5 := by kernel_rfl
  c9 := by kernel_rfl
  c20 := by kernel_rfl
  c21 := by kernel_rfl
  c37 := by kernel_rfl
  c46 := by kernel_rfl
  c51 := by kernel_rfl
  c53 := by kernel_rfl
  c75 := by kernel_rfl
  c80 := by kernel_rfl
  c85 := by kernel_rfl
  c127 := by kernel_rfl
  c143 := by kernel_rfl
  c145 := by kernel_rfl
  c167 := by kernel_rfl
  c168 := by kernel_rfl
  c171 := by kernel_rfl
  c173 := by kernel_rfl
  c175 := by kernel_rfl
  c210 := by kernel_rfl
  c212 := by kernel_rfl
  c213 := by kernel_rfl
  c232 := by kernel_rfl
  c233 := by kernel_rfl }
open Go.RowKit in
theorem Tryz.strconv_ParseInt_10_at64_ok (s : ByteArray) (hmax : s.size ≤ 9223372036854775806) (v : Int) (h : Lib.parseIntB 64 s.data.toList = .ok v) (w : World) :
    Calls Tryz.prog 135 #[.string s, .int .i64 10, .int .i64 64] w fun e w' => e = .returned (.tuple #[.int .i64 v, .nilIface]) ∧ (w' = w ∨ ∃ t, w' = Lib.bytesWorld w 5 t) := Any.strconv_ParseInt_10_at64_ok Tryz.laysC174 s hmax v h w
open Go.RowKit in
theorem Tryz.strconv_ParseInt_10_at64_syntax_var (s : ByteArray) (hlim : s.size ≤ 281474976710656) (h : Lib.parseIntB 64 s.data.toList = Lib.NumEnd.syntax) (tp : TypeId) (p : Value) (w : World) (hvar : w.var? Tryz.prog "strconv.ErrSyntax" = some #[.iface tp p]) :
    Calls Tryz.prog 135 #[.string s, .int .i64 10, .int .i64 64] w fun e w' => ∃ N, e = .returned (.tuple #[.int .i64 (0), .iface 250 (.pointer (some ⟨N, 0, none⟩))]) ∧ w.heap.size ≤ N ∧ w'.heap[N]? = some (.cells #[.string ⟨#[80, 97, 114, 115, 101, 73, 110, 116]⟩, .string s, .iface tp p] 256 (0, 0)) ∧ Below w.heap.size w w' := Any.strconv_ParseInt_10_at64_syntax_var Tryz.laysC174 s hlim h tp p w hvar
open Go.RowKit in
theorem Tryz.strconv_ParseInt_10_at64_range_var (s : ByteArray) (hlim : s.size ≤ 281474976710656) (h : Lib.parseIntB 64 s.data.toList = .range) (tp : TypeId) (p : Value) (w : World) (hvar : w.var? Tryz.prog "strconv.ErrRange" = some #[.iface tp p]) :
    Calls Tryz.prog 135 #[.string s, .int .i64 10, .int .i64 64] w fun e w' => ∃ N, e = .returned (.tuple #[.int .i64 (Lib.intSat 64 s.data.toList), .iface 250 (.pointer (some ⟨N, 0, none⟩))]) ∧ w.heap.size ≤ N ∧ w'.heap[N]? = some (.cells #[.string ⟨#[80, 97, 114, 115, 101, 73, 110, 116]⟩, .string s, .iface tp p] 256 (0, 0)) ∧ Below w.heap.size w w' := Any.strconv_ParseInt_10_at64_range_var Tryz.laysC174 s hlim h tp p w hvar
end Go.Proofs
