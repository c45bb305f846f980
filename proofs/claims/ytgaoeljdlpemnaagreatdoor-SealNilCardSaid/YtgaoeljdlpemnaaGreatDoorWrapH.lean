/- What must be of an interchange's head and tail: the two closures that read. -/
import Derived.Test.YtgaoeljdlpemnaaGreatDoorWrapC
import Derived.Test.YtgaoeljdlpemnaaGreatDoorEdiLt
/- isRead's contract, for whatever readers: the caller says what holds when so many have read. -/
namespace Go.Proofs.YtgaoeljdlpemnaaGreatDoor
open Go.RowKit Go.Edi Go.Wrap

structure Rdr where
  big : Bool
  p : Nat
  a : Addr
def Rdr.most (r : Rdr) : Nat := if r.big then 18446744073709551615 else 7
def Rdr.fn (r : Rdr) : Nat := if r.big then 85 else 83
def Rdr.kd (r : Rdr) : IntKind := if r.big then .u64 else .u8
def Rdr.val (r : Rdr) : Value := .func (.func r.fn) #[] #[.pointer (some ⟨r.p, 0, none⟩)]
def oneN (most : Nat) : List Tx → Bool
  | [t] => (numL most t).isSome
  | _ => false
def goodAt (rs : List Rdr) (els : List (List Tx)) (i : Nat) : Bool := match rs[i]?, els[i]? with
  | some r, some e => oneN r.most e
  | _, _ => false
theorem rd_any (r : Rdr) (t : Tx) (old : Value) (w : World) (hl : t.length ≤ 1000000000000) (hp : w.cell? ⟨r.p, 0, none⟩ = some (.pointer (some r.a))) (ha : w.cell? r.a = some old) (hf : w.frozen? r.a = false) :
    Calls Tryz.prog r.fn #[str t, .pointer (some ⟨r.p, 0, none⟩)] w fun e w' => e = .returned (.bool (numL r.most t).isSome) ∧ w' = (w.setCell r.a (.int r.kd (((numL r.most t).getD 0 : Nat) : Int))).drew := by
  obtain ⟨big, p, a⟩ := r
  cases big
  · exact carrier1_any t p a old w hl hp ha hf
  · exact whole1_any t p a old w hl hp ha hf
theorem rd_enter (r : Rdr) : ∀ args w, (callFunc r.fn args).run Tryz.prog w = .ok (.enter r.fn args) w := by
  obtain ⟨big, p, a⟩ := r
  cases big
  · exact enters_of Tryz.func83 (by kernel_rfl) rfl
  · exact enters_of Tryz.func85 (by kernel_rfl) rfl
def AllGood (rs : List Rdr) (tag want : Tx) (els : List (List Tx)) : Prop := tag = want ∧ els.length = rs.length ∧ ∀ i < rs.length, goodAt rs els i = true
theorem tx_inj {a b : Tx} (h : (tx a).toList = (tx b).toList) : a = b := by simpa [tx, ByteArray.toList_eq] using h
set_option maxRecDepth 100000 in
set_option maxHeartbeats 1600000 in
theorem isRead_any (rs : List Rdr) (tag want : Tx) (v : Value) (els : List (List Tx)) (w : World) (F : Nat → Prop) (q : Nat) (Inv : Nat → World → Prop) (Out : World → Prop)
    (hn : rs.length ≤ 1000) (hen : els.length ≤ 1000000000000) (hlen : ∀ e ∈ els, ∀ t ∈ e, t.length ≤ 1000000000000)
    (hv : ElsF w F v els)
    (hbase : ∀ k W, Inv k W → ElsF W F v els ∧ (∀ i r, rs[i]? = some r → W.cell? ⟨q, i, none⟩ = some r.val) ∧ W.cell? ⟨w.heap.size, 1, none⟩ = some v ∧ Out W)
    (h0 : Inv 0 (w.alloc (.cells #[str tag, v] 112 (0, 0))))
    (hstep : ∀ k r t W, rs[k]? = some r → els[k]? = some [t] → Inv k W → W.cell? ⟨r.p, 0, none⟩ = some (.pointer (some r.a)) ∧ (∃ old, W.cell? r.a = some old) ∧ W.frozen? r.a = false ∧
      (∀ m, numL r.most t = some m → Inv (k + 1) (W.setCell r.a (.int r.kd (m : Int))).drew) ∧ Out (W.setCell r.a (.int r.kd 0)).drew) :
    Calls Tryz.prog 60 #[.agg #[str tag, v], str want, .slice (some ⟨q, 0, none⟩) rs.length rs.length] w fun e w' =>
      ∃ ok, e = .returned (.bool ok) ∧ (ok = true → AllGood rs tag want els ∧ Inv rs.length w') ∧ (ok = false → ¬ AllGood rs tag want els) ∧ Out w' := by
  obtain ⟨ys, ⟨pv, cap, rfl, hnc, _⟩, _⟩ := hv
  have HB := Lib.hid hbase
  have HS := Lib.hid hstep
  have H0 := Lib.hid h0
  have HO := Lib.hid (hbase _ _ h0).2.2.2
  have HL := Lib.hid hlen
  have hnI : (rs.length : Int) ≤ 1000 := by omega
  have henI : (els.length : Int) ≤ 1000000000000 := by omega
  clear hbase hstep h0 hlen hn hen
  by_cases htg : (tx tag).toList = (tx want).toList
  rotate_left
  · go_enter Tryz.func60, Tryz.ntmps60
    go_wp2
    go_ret
    refine ⟨false, ?_, nofun, fun _ hg => ?_, HO.out⟩
    · rw [beq_eq_false_iff_ne.2 htg]; rfl
    · exact htg (by rw [hg.1])
  have HT := Lib.hid (tx_inj htg)
  by_cases hle : (els.length : Int) = (rs.length : Int)
  rotate_left
  · go_enter Tryz.func60, Tryz.ntmps60
    go_wp2
    go_ret
    exact ⟨false, rfl, nofun, fun _ hg => hle (by rw [hg.2.1]), HO.out⟩
  have HLE := Lib.hid (show els.length = rs.length by omega)
  go_enter Tryz.func60, Tryz.ntmps60
  go_wp2
  go_loopw [23] (fun i wr => ∃ k : Nat, i = .int .i64 k ∧ k ≤ rs.length ∧ (∀ j < k, goodAt rs els j = true) ∧ Inv k wr) (fun i _ => rs.length - (intOf i).toNat)
  case atStart => exact ⟨0, rfl, Nat.zero_le _, fun j hj => absurd hj (Nat.not_lt_zero j), H0.out⟩
  case round =>
    obtain ⟨k, rfl, hk, hgd, hinv⟩ := hrel
    have HG := Lib.hid hgd
    have HI := Lib.hid hinv
    obtain ⟨hve, hfn, hc1, hout⟩ := HB.out k wr hinv
    have HOU := Lib.hid hout
    clear hgd hinv hout
    by_cases hlt : (k : Int) < (rs.length : Int)
    · have hkl : k < rs.length := by omega
      have hke : k < els.length := by have := HLE.out; omega
      have hkeI : (k : Int) < (els.length : Int) := by omega
      have hk0 : (0 : Int) ≤ (k : Int) := Int.natCast_nonneg _
      obtain ⟨r, hr⟩ : ∃ r, rs[k]? = some r := ⟨rs[k], List.getElem?_eq_getElem hkl⟩
      have hcf := hfn k r hr
      obtain ⟨ys2, ⟨pv2, cap2, he2, _, hrow⟩, hel⟩ := hve
      simp only [Value.slice.injEq, true_and] at he2
      obtain ⟨rfl, rfl⟩ := he2
      obtain ⟨b, o, rfl, _, hcc⟩ := hrow (by omega)
      obtain ⟨y, hy1, hy2⟩ := ElC.get hel k hke
      have hcy := hcc k y hy1
      obtain ⟨ps, cs, rfl, _, hps⟩ := hy2
      have hge : els[k]? = some els[k] := List.getElem?_eq_getElem hke
      have hga : goodAt rs els k = oneN r.most els[k] := by simp only [goodAt, hr, hge]
      have hlx := fun t ht => HL.out _ (List.getElem_mem hke) t ht
      have HR := Lib.hid hr
      have hst := fun t (e : els[k] = [t]) => HS.out k r t wr hr (by rw [hge, e]) HI.out
      clear hfn hrow hel hcc hy1 hr hge
      generalize els[k] = e at *
      by_cases h1 : (e.length : Int) = 1
      · obtain ⟨t, rfl⟩ := List.length_eq_one_iff.1 (show e.length = 1 by omega)
        obtain ⟨b2, o2, rfl, _, hc2⟩ := hps (by simp)
        have hct := hc2 0 (str t) rfl
        simp only [Nat.add_zero] at hct
        obtain ⟨hp1, ⟨old, hp2⟩, hp3, hp4, hp5⟩ := hst t rfl
        have hrd := rd_any r t old wr (hlx t (List.mem_singleton_self _)) hp1 hp2 hp3
        have hfe := rd_enter r
        have HP4 := Lib.hid hp4
        have HP5 := Lib.hid hp5
        have HGA := Lib.hid hga
        have HRD := Lib.hid hrd
        clear hst hc2 hps hp1 hp2 hp3 hp4 hp5 hga hlx hrd
        simp only [Rdr.val] at hcf
        cases hnum : numL r.most t with
        | none =>
          simp only [oneN, hnum] at HRD HGA
          go_wp2_with (go_simp; refine (HRD.out).mono ?_; rintro e w' ⟨rfl, rfl⟩)
          go_ret
          exact ⟨false, rfl, nofun, fun _ hg => absurd (hg.2.2 k hkl) (by rw [HGA.out]; nofun), HP5.out⟩
        | some m =>
          simp only [oneN, hnum] at HRD HGA
          go_wp2_with (go_simp; refine (HRD.out).mono ?_; rintro e w' ⟨rfl, rfl⟩)
          go_roundw
          case rel =>
            refine ⟨k + 1, by go_num, by omega, fun j hj => ?_, HP4.out m hnum⟩
            rcases Nat.lt_succ_iff_lt_or_eq.1 hj with h | rfl
            · exact HG.out j h
            · exact HGA.out
          case measure => simp [intOf]; omega
      · have HGA := Lib.hid (show goodAt rs els k = false by
          rw [hga]
          match e, h1 with
          | [], _ => rfl
          | [t], h1 => exact absurd rfl h1
          | _ :: _ :: _, _ => rfl)
        clear hst hps hga hlx
        go_wp2
        go_ret
        exact ⟨false, rfl, nofun, fun _ hg => absurd (hg.2.2 k hkl) (by rw [HGA.out]; nofun), HOU.out⟩
    · obtain rfl : k = rs.length := by omega
      go_wp2
      go_ret
      exact Or.inr ⟨rfl, ⟨⟨HT.out, HLE.out, HG.out⟩, HI.out⟩, HOU.out⟩
end Go.Proofs.YtgaoeljdlpemnaaGreatDoor
/- The plain model of interchanges: head, tail, and what is between. -/
namespace Go.Wrap
open Go.Edi
def headV (s : Sg) : Option (Nat × Nat × Nat) :=
  if s.tag = [85, 78, 66] then (match s.els with
    | [[a], [b], [c]] => (match numL 7 a, numL 7 b, numL 18446744073709551615 c with
      | some x, some y, some z => some (x, y, z)
      | _, _, _ => none)
    | _ => none) else none
def tailV (s : Sg) : Option (Nat × Nat) :=
  if s.tag = [85, 78, 90] then (match s.els with
    | [[a], [b]] => (match numL 18446744073709551615 a, numL 18446744073709551615 b with
      | some x, some y => some (x, y)
      | _, _ => none)
    | _ => none) else none
/-- an interchange: from, to, ref, the segments between -/
structure Wr where
  from_ : Nat
  to_ : Nat
  ref : Nat
  segs : List Sg
def Wr.nil : Wr := ⟨0, 0, 0, []⟩
def openL (l : List Sg) : Wr × Nat :=
  if l.length < 2 then (.nil, 40) else
  match headV (l.getD 0 ⟨[], []⟩), tailV (l.getD (l.length - 1) ⟨[], []⟩) with
  | some (f, t, r), some (c, a) => if c = l.length - 2 then (if a = r then (⟨f, t, r, (l.take (l.length - 1)).drop 1⟩, 0) else (.nil, 42)) else (.nil, 41)
  | _, _ => (.nil, 40)
def wparseL (t : Tx) : Wr × Nat := if (parseL t).2.2 = 0 then openL (parseL t).1 else (.nil, (parseL t).2.2)
end Go.Wrap
namespace Go.Proofs.YtgaoeljdlpemnaaGreatDoor
open Go.RowKit Go.Edi Go.Wrap

/-- all but some blocks is kept -/
structure Frq (G : Nat → Prop) (w w' : World) : Prop where
  os : w'.os = w.os
  tape : w'.tape = w.tape
  output : w'.output = w.output
  size : w.heap.size ≤ w'.heap.size
  block : ∀ k, k < w.heap.size → ¬ G k → w'.heap[k]? = w.heap[k]?
theorem Frq.refl (G : Nat → Prop) (w : World) : Frq G w w := ⟨rfl, rfl, rfl, Nat.le_refl _, fun _ _ _ => rfl⟩
theorem Frq.trans {G : Nat → Prop} {a b c : World} (h : Frq G a b) (k : Frq G b c) : Frq G a c :=
  ⟨k.os.trans h.os, k.tape.trans h.tape, k.output.trans h.output, Nat.le_trans h.size k.size, fun i hi hg => (k.block i (Nat.lt_of_lt_of_le hi h.size) hg).trans (h.block i hi hg)⟩
theorem Frq.mono {G G' : Nat → Prop} {a b : World} (h : Frq G a b) (hG : ∀ k, G k → G' k) : Frq G' a b := ⟨h.os, h.tape, h.output, h.size, fun k hk hg => h.block k hk fun e => hg (hG k e)⟩
theorem Frq.drew {G : Nat → Prop} {a b : World} (h : Frq G a b) : Frq G a b.drew := ⟨h.os, h.tape, h.output, h.size, h.block⟩
theorem Frq.alloc {G : Nat → Prop} {a b : World} (h : Frq G a b) (o : Obj) : Frq G a (b.alloc o) :=
  ⟨h.os, h.tape, h.output, Nat.le_trans h.size (by simp), fun k hk hg => (Below.heap_alloc b o k (Nat.lt_of_lt_of_le hk h.size)).trans (h.block k hk hg)⟩
theorem Frq.setCell {G : Nat → Prop} {a b : World} (h : Frq G a b) {p : Addr} (hp : G p.block) (u : Value) : Frq G a (b.setCell p u) :=
  ⟨h.os, h.tape, h.output, Nat.le_trans h.size (by simp), fun k hk hg => (Below.heap_setCell b p u k fun e => hg (e ▸ hp)).trans (h.block k hk hg)⟩
theorem Frq.below {G : Nat → Prop} {B : Nat} {a b : World} (h : Frq G a b) (hB : B ≤ a.heap.size) (hG : ∀ k, G k → B ≤ k) : Below B a b :=
  ⟨h.os, h.tape, h.output, h.size, fun k hk => h.block k (by omega) fun e => by have := hG k e; omega⟩
theorem Frq.ofBelow {G : Nat → Prop} {a b : World} (h : Below a.heap.size a b) : Frq G a b := ⟨h.os, h.tape, h.output, h.size, fun k hk _ => h.block k hk⟩
def Stp (p : Prop) : Prop := p
theorem calls_stp {P : Program} {f : Nat} {a : Array Value} {w : World} {Q : Ending → World → Prop} (h : Stp (Calls P f a w Q)) : Calls P f a w Q := h
theorem stp {p : Prop} (h : Stp p) : p := h
set_option maxRecDepth 100000 in
theorem carrier_any (a : Addr) (w : World) : Calls Tryz.prog 61 #[.pointer (some a)] w fun e w' => e = .returned (.func (.func 83) #[] #[.pointer (some ⟨w.heap.size, 0, none⟩)]) ∧ w' = w.alloc (.cells #[.pointer (some a)] 137) := by
  go_enter Tryz.func61, Tryz.ntmps61
  go_wp2
  go_ret
  exact ⟨rfl, rfl⟩
set_option maxRecDepth 100000 in
theorem whole_any (a : Addr) (w : World) : Calls Tryz.prog 62 #[.pointer (some a)] w fun e w' => e = .returned (.func (.func 85) #[] #[.pointer (some ⟨w.heap.size, 0, none⟩)]) ∧ w' = w.alloc (.cells #[.pointer (some a)] 139) := by
  go_enter Tryz.func62, Tryz.ntmps62
  go_wp2
  go_ret
  exact ⟨rfl, rfl⟩
/-- the number that an element tells -/
def vl (most : Nat) (e : List Tx) : Nat := match e with
  | [t] => (numL most t).getD 0
  | _ => 0
def headRs (n g : Nat) : List Rdr := [⟨false, n, ⟨g, 0, none⟩⟩, ⟨false, n + 1, ⟨g, 1, none⟩⟩, ⟨true, n + 1 + 1, ⟨g, 2, none⟩⟩]
theorem oneN_vl {most : Nat} {e : List Tx} (h : oneN most e = true) : ∃ t, e = [t] ∧ numL most t = some (vl most e) := by
  match e, h with
  | [t], h =>
    obtain ⟨m, hm⟩ := Option.isSome_iff_exists.1 (show (numL most t).isSome = true from h)
    exact ⟨t, rfl, by simp only [vl, hm]; rfl⟩
theorem head_good {n g : Nat} {tag : Tx} {els : List (List Tx)} (h : AllGood (headRs n g) tag [85, 78, 66] els) : headV ⟨tag, els⟩ = some (vl 7 (els.getD 0 []), vl 7 (els.getD 1 []), vl 18446744073709551615 (els.getD 2 [])) := by
  obtain ⟨rfl, h2, h3⟩ := h
  match els, h2 with
  | [a, b, c], _ =>
    obtain ⟨x, rfl, hx⟩ := oneN_vl (show oneN 7 a = true from h3 0 (by simp [headRs]))
    obtain ⟨y, rfl, hy⟩ := oneN_vl (show oneN 7 b = true from h3 1 (by simp [headRs]))
    obtain ⟨z, rfl, hz⟩ := oneN_vl (show oneN 18446744073709551615 c = true from h3 2 (by simp [headRs]))
    show headV ⟨[85, 78, 66], [[x], [y], [z]]⟩ = _
    simp only [headV, if_true]
    rw [hx, hy, hz]
    rfl
theorem head_bad {n g : Nat} {tag : Tx} {els : List (List Tx)} (h : ¬ AllGood (headRs n g) tag [85, 78, 66] els) : headV ⟨tag, els⟩ = none := by
  apply Option.eq_none_iff_forall_ne_some.2
  rintro ⟨x, y, z⟩ hh
  apply h
  simp only [headV] at hh
  split at hh
  · rename_i ht
    split at hh
    · rename_i a b c
      split at hh
      · rename_i p q r h1 h2 h3
        refine ⟨ht, rfl, fun i hi => ?_⟩
        match i, hi with
        | 0, _ => show (numL 7 a).isSome = true; rw [h1]; rfl
        | 1, _ => show (numL 7 b).isSome = true; rw [h2]; rfl
        | 2, _ => show (numL 18446744073709551615 c).isSome = true; rw [h3]; rfl
      · cases hh
    · cases hh
  · cases hh
/-- an interchange in memory, as far as it is read -/
def HdAns (s : Sg) (g : Nat) (vg : Value) (W : World) (e : Ending) (w' : World) : Prop :=
  ∃ ok, e = .returned (.bool ok) ∧ ok = (headV s).isSome ∧ (∀ f t r, headV s = some (f, t, r) → w'.heap[g]? = some (.cells #[.int .u8 (f : Int), .int .u8 (t : Int), .int .u64 (r : Int), vg] 74 (0, 0))) ∧ Frq (· = g) W w'
theorem cell_of_arr {W : World} {g : Nat} {A : Array Value} {ty : TypeId} (h : W.heap[g]? = some (.cells A ty (0, 0))) (i : Nat) : W.cell? ⟨g, i, none⟩ = A[i]? := by simp [World.cell?, h]
theorem frozen_of_arr {W : World} {g : Nat} {A : Array Value} {ty : TypeId} (h : W.heap[g]? = some (.cells A ty (0, 0))) (i : Nat) : W.frozen? ⟨g, i, none⟩ = false := by simp [World.frozen?, h]
theorem set_arr {W : World} {g : Nat} {A : Array Value} {ty : TypeId} (h : W.heap[g]? = some (.cells A ty (0, 0))) (i : Nat) (u : Value) : ((W.setCell ⟨g, i, none⟩ u).drew).heap[g]? = some (.cells (A.setIfInBounds i u) ty (0, 0)) := by
  show (W.setCell ⟨g, i, none⟩ u).heap[g]? = _
  simp [World.setCell, Array.getElem?_modify, h]
theorem getD_one {els : List (List Tx)} {k : Nat} {t : Tx} (h : els[k]? = some [t]) : els.getD k [] = [t] := by simp [List.getD, h]
theorem cell_set_other {W : World} {a b : Addr} {u v : Value} (h : W.cell? a = some v) (hne : a.block ≠ b.block) : ((W.setCell b u).drew).cell? a = some v := by
  rw [World.cell?_drew]
  exact (World.cell?_of_block (Below.heap_setCell W b u a.block hne)).trans h
set_option maxHeartbeats 1600000 in
theorem headRead_any (tag : Tx) (els : List (List Tx)) (ve : Value) (n q g : Nat) (x0 x1 x2 vg : Value) (F : Nat → Prop) (W : World)
    (hve : ElsF W F ve els) (hF : ∀ b, F b → b < W.heap.size ∧ b ≠ g) (hen : els.length ≤ 1000000000000) (hlen : ∀ e ∈ els, ∀ t ∈ e, t.length ≤ 1000000000000)
    (hg : W.heap[g]? = some (.cells #[x0, x1, x2, vg] 74 (0, 0)))
    (hq : ∀ (i : Nat) (r : Rdr), (headRs n g)[i]? = some r → W.cell? ⟨q, i, none⟩ = some r.val) (hqg : q < W.heap.size ∧ q ≠ g)
    (hp : ∀ (i : Nat) (r : Rdr), (headRs n g)[i]? = some r → W.cell? ⟨r.p, 0, none⟩ = some (.pointer (some r.a)) ∧ r.p < W.heap.size ∧ r.p ≠ g) :
    Calls Tryz.prog 60 #[.agg #[str tag, ve], str [85, 78, 66], .slice (some ⟨q, 0, none⟩) 3 3] W (HdAns ⟨tag, els⟩ g vg W) := by
  let Inv : Nat → World → Prop := fun k w' => w'.heap[g]? = some (.cells #[if 0 < k then .int .u8 ((vl 7 (els.getD 0 []) : Nat) : Int) else x0, if 1 < k then .int .u8 ((vl 7 (els.getD 1 []) : Nat) : Int) else x1, if 2 < k then .int .u64 ((vl 18446744073709551615 (els.getD 2 []) : Nat) : Int) else x2, vg] 74 (0, 0)) ∧ Frq (· = g) W w' ∧ w'.cell? ⟨W.heap.size, 1, none⟩ = some ve
  have hga : g < W.heap.size := (Array.getElem?_eq_some_iff.1 hg).1
  have h := isRead_any (headRs n g) tag [85, 78, 66] ve els W F q Inv (fun w' => Frq (· = g) W w') (by simp [headRs]) hen hlen hve
    (fun k w' hi => ⟨hve.kept (fun b hb => ⟨hb, hi.2.1.block b (hF b hb).1 (hF b hb).2⟩), fun i r hr => (World.cell?_of_block (a := ⟨q, i, none⟩) (hi.2.1.block q hqg.1 hqg.2)).trans (hq i r hr), hi.2.2, hi.2.1⟩)
    ⟨(Below.heap_alloc _ _ _ hga).trans hg, (Frq.refl _ _).alloc _, by rw [World.cell?_alloc_new]; rfl⟩
    (fun k r t w' hr he hi => by
      have hpp := hp k r hr
      refine ⟨(World.cell?_of_block (a := ⟨r.p, 0, none⟩) (hi.2.1.block r.p hpp.2.1 hpp.2.2)).trans hpp.1, ?_⟩
      match k, hr with
      | 0, hr =>
        obtain rfl := Option.some.inj hr
        refine ⟨⟨_, cell_of_arr hi.1 0⟩, frozen_of_arr hi.1 0, fun m hm => ⟨?_, (hi.2.1.setCell rfl _).drew, ?_⟩, (hi.2.1.setCell rfl _).drew⟩
        · rw [show (⟨g, 0, none⟩ : Addr) = ⟨g, 0, none⟩ from rfl, set_arr hi.1 0, show vl 7 (els.getD 0 []) = m by rw [getD_one he]; simp only [vl]; rw [show numL 7 t = some m from hm]; rfl]
          rfl
        · exact (cell_set_other hi.2.2 (Nat.ne_of_gt hga))
      | 1, hr =>
        obtain rfl := Option.some.inj hr
        refine ⟨⟨_, cell_of_arr hi.1 1⟩, frozen_of_arr hi.1 1, fun m hm => ⟨?_, (hi.2.1.setCell rfl _).drew, ?_⟩, (hi.2.1.setCell rfl _).drew⟩
        · rw [set_arr hi.1 1, show vl 7 (els.getD 1 []) = m by rw [getD_one he]; simp only [vl]; rw [show numL 7 t = some m from hm]; rfl]
          rfl
        · exact (cell_set_other hi.2.2 (Nat.ne_of_gt hga))
      | 2, hr =>
        obtain rfl := Option.some.inj hr
        refine ⟨⟨_, cell_of_arr hi.1 2⟩, frozen_of_arr hi.1 2, fun m hm => ⟨?_, (hi.2.1.setCell rfl _).drew, ?_⟩, (hi.2.1.setCell rfl _).drew⟩
        · rw [set_arr hi.1 2, show vl 18446744073709551615 (els.getD 2 []) = m by rw [getD_one he]; simp only [vl]; rw [show numL 18446744073709551615 t = some m from hm]; rfl]
          rfl
        · exact (cell_set_other hi.2.2 (Nat.ne_of_gt hga))
      | k + 3, hr => cases hr)
  refine h.mono ?_
  rintro e w' ⟨ok, rfl, h1, h2, h3⟩
  cases ok with
  | true =>
    obtain ⟨g1, g2⟩ := h1 rfl
    have hh := head_good g1
    refine ⟨true, rfl, by rw [hh]; rfl, fun f t r hft => ?_, h3⟩
    rw [hh] at hft
    obtain ⟨rfl, rfl, rfl⟩ : _ = f ∧ _ = t ∧ _ = r := by simpa using hft
    exact g2.1
  | false =>
    have hh := head_bad (h2 rfl)
    exact ⟨false, rfl, by rw [hh]; rfl, fun f t r hft => (by rw [hh] at hft; cases hft), h3⟩
theorem allocs (w : World) (a b c : Value) (ta tb tc tq : TypeId) (Q : Array Value) (W : World) (hW : W = ((((w.alloc (.cells #[a] ta)).alloc (.cells #[b] tb)).alloc (.cells #[c] tc)).alloc (.cells Q tq)).drew) :
    W.cell? ⟨w.heap.size, 0, none⟩ = some a ∧ W.cell? ⟨w.heap.size + 1, 0, none⟩ = some b ∧ W.cell? ⟨w.heap.size + 1 + 1, 0, none⟩ = some c ∧ (∀ i, W.cell? ⟨w.heap.size + 1 + 1 + 1, i, none⟩ = Q[i]?) ∧ W.heap.size = w.heap.size + 1 + 1 + 1 + 1 ∧ Below w.heap.size w W := by
  subst hW
  refine ⟨?_, ?_, ?_, fun i => ?_, by simp, ((((Below.refl _ _).alloc (Nat.le_refl _) _).alloc (by simp) _).alloc (by simp <;> omega) _).alloc (by simp <;> omega) _ |>.drew⟩
  · rw [World.cell?_drew, World.cell?_alloc_past _ _ _ (by simp <;> omega), World.cell?_alloc_past _ _ _ (by simp <;> omega), World.cell?_alloc_past _ _ _ (by simp), World.cell?_alloc_at _ _ _ _ rfl]; rfl
  · rw [World.cell?_drew, World.cell?_alloc_past _ _ _ (by simp <;> omega), World.cell?_alloc_past _ _ _ (by simp), World.cell?_alloc_at _ _ _ _ (by simp)]; rfl
  · rw [World.cell?_drew, World.cell?_alloc_past _ _ _ (by simp), World.cell?_alloc_at _ _ _ _ (by simp)]; rfl
  · rw [World.cell?_drew, World.cell?_alloc_at _ _ _ _ (by simp)]
set_option maxRecDepth 100000 in
set_option maxHeartbeats 1600000 in
theorem head_any (l : List Sg) (v : Value) (w : World) (s g : Nat) (x0 x1 x2 vg : Value) (F : Nat → Prop) (hs : w.cell? ⟨s, 0, none⟩ = some v) (hv : SegsF w F v l) (hF : ∀ b, F b → b < w.heap.size ∧ b ≠ g) (hl : 0 < l.length) (hfit : sane l)
    (hg : w.heap[g]? = some (.cells #[x0, x1, x2, vg] 74 (0, 0))) :
    Calls Tryz.prog 59 #[.pointer (some ⟨s, 0, none⟩), .pointer (some ⟨g, 0, none⟩)] w (HdAns l[0] g vg w) := by
  obtain ⟨xs, ⟨pv, cap, rfl, hnc, hrow⟩, hel⟩ := hv
  obtain ⟨b, o, rfl, hFb, hcc⟩ := hrow hl
  obtain ⟨hx0, ve, hx1, hve⟩ := SgC.get hel 0 hl
  have c0 := hcc _ _ hx0
  have c1 := hcc _ _ hx1
  simp only [Nat.mul_zero, Nat.add_zero, Nat.zero_add] at c0 c1
  have hfit0 := hfit.2 _ (List.getElem_mem hl)
  have hs0 := block_lt_of_cell hs
  have hs1 : s < w.heap.size + 1 := Nat.lt_succ_of_lt hs0
  have hs2 : s < w.heap.size + 1 + 1 := Nat.lt_succ_of_lt hs1
  have hs3 : s < w.heap.size + 1 + 1 + 1 := Nat.lt_succ_of_lt hs2
  have hb0 := (hF b hFb).1
  have hb1 : b < w.heap.size + 1 := by omega
  have hb2 : b < w.heap.size + 1 + 1 := by omega
  have hb3 : b < w.heap.size + 1 + 1 + 1 := by omega
  have HFit := Lib.hid hfit0
  have HVE := Lib.hid hve
  have HFF := Lib.hid hF
  have HG := Lib.hid hg
  have HGL := Lib.hid (Array.getElem?_eq_some_iff.1 hg).1
  clear hfit hfit0 hve hF hg hrow hcc hel
  generalize l[0] = sg at *
  go_enter Tryz.func59, Tryz.ntmps59
  go_wp2
  go_region_law (first
    | (go_simp; refine (carrier_any _ _).mono ?_; rintro e w' ⟨rfl, rfl⟩)
    | (go_simp; refine (whole_any _ _).mono ?_; rintro e w' ⟨rfl, rfl⟩)
    | (go_simp
       generalize hW : ((((w.alloc (.cells #[.pointer (some ⟨g, 0, none⟩)] 137)).alloc (.cells #[.pointer (some ⟨g, 1, none⟩)] 137)).alloc (.cells #[.pointer (some ⟨g, 2, none⟩)] 139)).alloc _).drew = W
       have hA := allocs _ _ _ _ _ _ _ _ _ _ hW.symm
       have HA := Lib.hid hA
       clear hA hW
       refine (headRead_any sg.tag sg.els ve w.heap.size (w.heap.size + 1 + 1 + 1) g x0 x1 x2 vg F W ?_ ?_ ?_ ?_ ?_ ?_ ?_ ?_).mono ?_
       · exact HVE.out.kept fun b hb => ⟨hb, HA.out.2.2.2.2.2.block b (HFF.out b hb).1⟩
       · exact fun b hb => ⟨by rw [HA.out.2.2.2.2.1]; have := (HFF.out b hb).1; omega, (HFF.out b hb).2⟩
       · have := HFit.out.1; omega
       · exact fun e he t ht => by have := (HFit.out.2 e he).2 t ht; omega
       · exact (HA.out.2.2.2.2.2.block g HGL.out).trans HG.out
       · intro i r hr
         rw [HA.out.2.2.2.1 i]
         match i, hr with
         | 0, hr => obtain rfl := Option.some.inj hr; rfl
         | 1, hr => obtain rfl := Option.some.inj hr; rfl
         | 2, hr => obtain rfl := Option.some.inj hr; rfl
         | i + 3, hr => cases hr
       · exact ⟨by rw [HA.out.2.2.2.2.1]; omega, by have := HGL.out; omega⟩
       · intro i r hr
         rw [HA.out.2.2.2.2.1]
         have hgl := HGL.out
         match i, hr with
         | 0, hr => obtain rfl := Option.some.inj hr; exact ⟨HA.out.1, by show w.heap.size < _; omega, by show w.heap.size ≠ g; omega⟩
         | 1, hr => obtain rfl := Option.some.inj hr; exact ⟨HA.out.2.1, by show w.heap.size + 1 < _; omega, by show w.heap.size + 1 ≠ g; omega⟩
         | 2, hr => obtain rfl := Option.some.inj hr; exact ⟨HA.out.2.2.1, by show w.heap.size + 1 + 1 < _; omega, by show w.heap.size + 1 + 1 ≠ g; omega⟩
         | i + 3, hr => cases hr
       rintro e w' ⟨ok, rfl, h1, h2, h3⟩
       have H1 := Lib.hid h1
       have H2 := Lib.hid h2
       have H3 := Lib.hid h3
       clear h1 h2 h3))
  all_goals
    go_wp2
    go_ret
    exact ⟨ok, rfl, H1.out, H2.out, (Frq.ofBelow HA.out.2.2.2.2.2).trans H3.out⟩
end Go.Proofs.YtgaoeljdlpemnaaGreatDoor
