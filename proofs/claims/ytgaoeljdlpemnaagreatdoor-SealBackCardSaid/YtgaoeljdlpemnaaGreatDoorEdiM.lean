/- Segments in memory: rows of texts, of elements, of segments; what is kept; append of one thing. -/
import Derived.Shelf.Strings.Builder1
import Derived.Shelf.Small.Strs
import Derived.Shelf.Strings.Search1
import Derived.Test.YtgaoeljdlpemnaaGreatDoorProg
import Derived.Test.YtgaoeljdlpemnaaGreatDoorEdiPure2
import Derived.WalkKit
import Derived.Outline
import Derived.KernelRfl
import Derived.Deep.QuietTactic
import Derived.BigQuiet
import Derived.BigRegion
import Derived.RegionTactic
import Derived.StillTailTactics
import Derived.Laws.Rows
import Derived.Deep.MidRow
import Derived.Lib.Hide
import Derived.Deep.Light
import Derived.WalkSmall
import Derived.Laws.OwnMore
import Derived.Laws.BytesArg
import Derived.Laws.BytesString
import Derived.Maps.AppendAt
import Derived.Deep.RegionHeld
import Derived.Lib.UnsafeStr
import Derived.Laws.EntriesVeiled
/- The library's own functions that edi calls, by the contracts that the library has: at this program's numbers (made first by lay-shelf.mjs and lay-plain.mjs). -/
namespace Go.Proofs
open Go.Shelf
def Tryz.lays169_ren : Go.Shelf.Ren := ⟨fun | 169 => 102 | n => n, fun | 70 => 183 | 9 => 9 | 0 => 0 | 72 => 185 | 37 => 39 | 127 => 137 | 3 => 3 | 5 => 5 | n => n, fun | n => n⟩
theorem Tryz.lays169 : Go.Proofs.Lays.n169 Tryz.prog Tryz.lays169_ren := {
  mixed := by kernel_rfl
  f169 := Tryz.func102.trans (congrArg some (by kernel_rfl))
  t0 := Tryz.underlying0
  a0 := Tryz.isAgg0
  z0 := Tryz.sizeOf0
  v0 := Tryz.zeroValue0
  t3 := Tryz.underlying3
  a3 := Tryz.isAgg3
  z3 := Tryz.sizeOf3
  v3 := Tryz.zeroValue3
  t9 := Tryz.underlying9
  a9 := Tryz.isAgg9
  z9 := Tryz.sizeOf9
  v9 := Tryz.zeroValue9
  t37 := Tryz.underlying39
  a37 := Tryz.isAgg39
  z37 := Tryz.sizeOf39
  v37 := Tryz.zeroValue39
  t70 := Tryz.underlying183
  a70 := Tryz.isAgg183
  z70 := Tryz.sizeOf183
  v70 := Tryz.zeroValue183
  t72 := Tryz.underlying185
  a72 := Tryz.isAgg185
  z72 := Tryz.sizeOf185
  v72 := Tryz.zeroValue185
  t127 := Tryz.underlying137
  a127 := Tryz.isAgg137
  z127 := Tryz.sizeOf137
  v127 := Tryz.zeroValue137 }
theorem Tryz.Builder_Extra_169 : Builder.Extra Tryz.prog Tryz.lays169_ren := {
  sizeBuilder := by kernel_rfl
  liesBuilder := by kernel_rfl
  t5 := Tryz.underlying5
  a5 := Tryz.isAgg5
  z5 := Tryz.sizeOf5
  v5 := Tryz.zeroValue5
  infoByte := by kernel_rfl
  cellsByte := by kernel_rfl
  sizeByte := by kernel_rfl
  neB5 := by decide }
open Go.RowKit in
theorem Tryz.Builder_String_any (B b : Nat) (l : List UInt8) (w : World) (h : Lib.IsBuilder 185 5 B b (Lib.byteCells l) w) (hBw : B ≤ w.heap.size) :
    Calls Tryz.prog 102 #[.pointer (some ⟨b, 0, none⟩)] w fun e w' => e = .returned (.string ⟨l.toArray⟩) ∧ Below B w w' := Any.Builder_String_any Tryz.lays169 Tryz.Builder_Extra_169 B b l w h hBw
def Tryz.lays137_ren : Go.Shelf.Ren := ⟨fun | 137 => 158 | 217 => 168 | 266 => 178 | n => n, fun | 9 => 9 | 5 => 5 | 3 => 3 | n => n, fun | n => n⟩
theorem Tryz.lays137 : Go.Proofs.Lays.n137 Tryz.prog Tryz.lays137_ren := {
  mixed := by kernel_rfl
  f137 := Tryz.func158.trans (congrArg some (by kernel_rfl))
  f217 := Tryz.func168.trans (congrArg some (by kernel_rfl))
  f266 := Tryz.func178.trans (congrArg some (by kernel_rfl))
  t3 := Tryz.underlying3
  a3 := Tryz.isAgg3
  z3 := Tryz.sizeOf3
  v3 := Tryz.zeroValue3
  t5 := Tryz.underlying5
  a5 := Tryz.isAgg5
  z5 := Tryz.sizeOf5
  v5 := Tryz.zeroValue5
  t9 := Tryz.underlying9
  a9 := Tryz.isAgg9
  z9 := Tryz.sizeOf9
  v9 := Tryz.zeroValue9 }
open Go.RowKit in
theorem Tryz.strings_IndexByte (s : ByteArray) (c : Int) (w : World) :
    Calls Tryz.prog 158 #[.string s, .int .u8 c] w fun e w' => e = .returned (.int .i64 (Lib.indexByte s.data.toList c.toNat.toUInt8)) ∧ w' = w := Any.strings_IndexByte Tryz.lays137 s c w
end Go.Proofs
/- Contracts of edi's questions about one byte, over the translated program. -/
namespace Go.Proofs.YtgaoeljdlpemnaaGreatDoor
open Go.RowKit Go.Edi

theorem ret_bool {a b : Bool} (h : a = b) : Ending.returned (.bool a) = .returned (.bool b) := by rw [h]
/-- a byte as a value -/
abbrev by8 (c : UInt8) : Value := .int .u8 ((c.toNat : Nat) : Int)
theorem le8 (a c : UInt8) : (decide (a ≤ c)) = decide ((a.toNat : Int) ≤ (c.toNat : Int)) := by
  rw [decide_eq_decide, UInt8.le_iff_toNat_le]; omega
theorem eq8 (a c : UInt8) : (c == a) = decide ((c.toNat : Int) = (a.toNat : Int)) := by
  rw [Bool.eq_iff_iff, beq_iff_eq, decide_eq_true_eq, ← UInt8.toNat_inj]; omega
theorem eq8' (a c : UInt8) : (c = a) ↔ ((c.toNat : Int) = (a.toNat : Int)) := by
  rw [← UInt8.toNat_inj]; omega
theorem tgc_int (c : UInt8) : tgc c = ((decide (65 ≤ (c.toNat : Int)) && decide ((c.toNat : Int) ≤ 90)) || (decide (48 ≤ (c.toNat : Int)) && decide ((c.toNat : Int) ≤ 57))) := by
  unfold tgc; rw [le8, le8, le8, le8]; rfl
theorem pln_int (c : UInt8) : pln c = (decide (32 ≤ (c.toNat : Int)) && decide ((c.toNat : Int) ≤ 126)) := by
  unfold pln; rw [le8, le8]; rfl
theorem sgn_int (c : UInt8) : sgn c = (((decide ((c.toNat : Int) = 43) || decide ((c.toNat : Int) = 58)) || decide ((c.toNat : Int) = 39)) || decide ((c.toNat : Int) = 63)) := by
  unfold sgn; rw [eq8, eq8, eq8, eq8]; rfl
set_option maxRecDepth 100000 in
theorem isOfTag_any (c : UInt8) (w : World) : Calls Tryz.prog 98 #[by8 c] w fun e w' => e = .returned (.bool (tgc c)) ∧ w = w' := by
  rw [tgc_int, show by8 c = .int .u8 (c.toNat : Int) from rfl]
  generalize (c.toNat : Int) = x
  go_enter Tryz.func98, Tryz.ntmps98
  go_wp2
  all_goals go_ret
  all_goals exact ⟨ret_bool (by first | rfl | (simp [*]; done) | (simp [*]; omega) | (simp at *; omega)), rfl⟩
set_option maxRecDepth 100000 in
theorem isPlain_any (c : UInt8) (w : World) : Calls Tryz.prog 99 #[by8 c] w fun e w' => e = .returned (.bool (pln c)) ∧ w = w' := by
  rw [pln_int, show by8 c = .int .u8 (c.toNat : Int) from rfl]
  generalize (c.toNat : Int) = x
  go_enter Tryz.func99, Tryz.ntmps99
  go_wp2
  all_goals go_ret
  all_goals exact ⟨ret_bool (by first | rfl | (simp [*]; done) | (simp [*]; omega) | (simp at *; omega)), rfl⟩
set_option maxRecDepth 100000 in
theorem isSign_any (c : UInt8) (w : World) : Calls Tryz.prog 142 #[by8 c] w fun e w' => e = .returned (.bool (sgn c)) ∧ w = w' := by
  go_enter Tryz.func142, Tryz.ntmps142
  go_wp2_with (go_at_call 158; refine (Tryz.strings_IndexByte _ _ _).mono ?_; rintro e w' ⟨rfl, rfl⟩)
  go_ret
  refine ⟨ret_bool ?_, rfl⟩
  unfold sgn
  simp only [Lib.indexByte]
  by_cases h1 : c = 43
  · subst h1; decide
  by_cases h2 : c = 58
  · subst h2; decide
  by_cases h3 : c = 39
  · subst h3; decide
  by_cases h4 : c = 63
  · subst h4; decide
  have e1 : ((43 : UInt8) == c) = false := by simpa using fun e => h1 e.symm
  have e2 : ((58 : UInt8) == c) = false := by simpa using fun e => h2 e.symm
  have e3 : ((39 : UInt8) == c) = false := by simpa using fun e => h3 e.symm
  have e4 : ((63 : UInt8) == c) = false := by simpa using fun e => h4 e.symm
  simp [h1, h2, h3, h4, e1, e2, e3, e4]
end Go.Proofs.YtgaoeljdlpemnaaGreatDoor
namespace Go.Proofs.YtgaoeljdlpemnaaGreatDoor
open Go.RowKit Go.Edi

/-- a text as the model's string -/
def tx (t : Tx) : ByteArray := ⟨t.toArray⟩
abbrev str (t : Tx) : Value := .string (tx t)
def RowF (w : World) (F : Nat → Prop) (v : Value) (n : Nat) (xs : List Value) : Prop :=
  ∃ p cap, v = .slice p n cap ∧ n ≤ cap ∧ (0 < n → ∃ b o, p = some ⟨b, o, none⟩ ∧ F b ∧ ∀ j u, xs[j]? = some u → w.cell? ⟨b, o + j, none⟩ = some u)
def StrsF (w : World) (F : Nat → Prop) (v : Value) (l : List Tx) : Prop := RowF w F v l.length (l.map str)
def ElC (w : World) (F : Nat → Prop) : List (List Tx) → List Value → Prop
  | [], [] => True
  | e :: r, v :: t => StrsF w F v e ∧ ElC w F r t
  | _, _ => False
def ElsF (w : World) (F : Nat → Prop) (v : Value) (els : List (List Tx)) : Prop := ∃ ys, RowF w F v els.length ys ∧ ElC w F els ys
def SgC (w : World) (F : Nat → Prop) : List Sg → List Value → Prop
  | [], [] => True
  | s :: r, a :: v :: t => a = str s.tag ∧ ElsF w F v s.els ∧ SgC w F r t
  | _, _ => False
def SegsF (w : World) (F : Nat → Prop) (v : Value) (sl : List Sg) : Prop := ∃ xs, RowF w F v sl.length xs ∧ SgC w F sl xs
def Kp (F F' : Nat → Prop) (w w' : World) : Prop := ∀ b, F b → F' b ∧ w'.heap[b]? = w.heap[b]?
theorem RowF.kept {w w' : World} {F F' : Nat → Prop} {v : Value} {n : Nat} {xs : List Value} (h : RowF w F v n xs) (hk : Kp F F' w w') : RowF w' F' v n xs := by
  obtain ⟨p, cap, h1, h2, h3⟩ := h
  refine ⟨p, cap, h1, h2, fun h0 => ?_⟩
  obtain ⟨b, o, e1, e2, e3⟩ := h3 h0
  exact ⟨b, o, e1, (hk b e2).1, fun j u hu => (World.cell?_of_block (a := ⟨b, o + j, none⟩) (hk b e2).2).trans (e3 j u hu)⟩
theorem StrsF.kept {w w' : World} {F F' : Nat → Prop} {v : Value} {l : List Tx} (h : StrsF w F v l) (hk : Kp F F' w w') : StrsF w' F' v l := RowF.kept h hk
theorem ElC.kept {w w' : World} {F F' : Nat → Prop} (hk : Kp F F' w w') : ∀ {els : List (List Tx)} {ys : List Value}, ElC w F els ys → ElC w' F' els ys
  | [], [], _ => True.intro
  | _ :: _, _ :: _, h => ⟨h.1.kept hk, ElC.kept hk h.2⟩
  | [], _ :: _, h => h.elim
  | _ :: _, [], h => h.elim
theorem ElsF.kept {w w' : World} {F F' : Nat → Prop} {v : Value} {els : List (List Tx)} (h : ElsF w F v els) (hk : Kp F F' w w') : ElsF w' F' v els := by
  obtain ⟨ys, h1, h2⟩ := h
  exact ⟨ys, h1.kept hk, h2.kept hk⟩
theorem SgC.kept {w w' : World} {F F' : Nat → Prop} (hk : Kp F F' w w') : ∀ {sl : List Sg} {xs : List Value}, SgC w F sl xs → SgC w' F' sl xs
  | [], [], _ => True.intro
  | _ :: _, _ :: _ :: _, h => ⟨h.1, h.2.1.kept hk, SgC.kept hk h.2.2⟩
  | [], _ :: _, h => h.elim
  | _ :: _, [], h => h.elim
  | _ :: _, [_], h => h.elim
theorem SegsF.kept {w w' : World} {F F' : Nat → Prop} {v : Value} {sl : List Sg} (h : SegsF w F v sl) (hk : Kp F F' w w') : SegsF w' F' v sl := by
  obtain ⟨ys, h1, h2⟩ := h
  exact ⟨ys, h1.kept hk, h2.kept hk⟩
theorem ElC.len {w : World} {F : Nat → Prop} : ∀ {els : List (List Tx)} {ys : List Value}, ElC w F els ys → ys.length = els.length
  | [], [], _ => rfl
  | _ :: _, _ :: _, h => by simp [ElC.len h.2]
  | [], _ :: _, h => h.elim
  | _ :: _, [], h => h.elim
theorem SgC.len {w : World} {F : Nat → Prop} : ∀ {sl : List Sg} {xs : List Value}, SgC w F sl xs → xs.length = sl.length * 2
  | [], [], _ => rfl
  | _ :: _, _ :: _ :: _, h => by have := SgC.len h.2.2; simp; omega
  | [], _ :: _, h => h.elim
  | _ :: _, [], h => h.elim
  | _ :: _, [_], h => h.elim
theorem ElC.snoc {w : World} {F : Nat → Prop} {e : List Tx} {v : Value} (hv : StrsF w F v e) : ∀ {els : List (List Tx)} {ys : List Value}, ElC w F els ys → ElC w F (els ++ [e]) (ys ++ [v])
  | [], [], _ => ⟨hv, True.intro⟩
  | _ :: _, _ :: _, h => ⟨h.1, ElC.snoc hv h.2⟩
  | [], _ :: _, h => h.elim
  | _ :: _, [], h => h.elim
theorem SgC.snoc {w : World} {F : Nat → Prop} {s : Sg} {v : Value} (hv : ElsF w F v s.els) : ∀ {sl : List Sg} {xs : List Value}, SgC w F sl xs → SgC w F (sl ++ [s]) (xs ++ [str s.tag, v])
  | [], [], _ => ⟨rfl, hv, True.intro⟩
  | _ :: _, _ :: _ :: _, h => ⟨h.1, h.2.1, SgC.snoc hv h.2.2⟩
  | [], _ :: _, h => h.elim
  | _ :: _, [], h => h.elim
  | _ :: _, [_], h => h.elim
theorem ElC.get {w : World} {F : Nat → Prop} : ∀ {els : List (List Tx)} {ys : List Value}, ElC w F els ys → ∀ i (hi : i < els.length), ∃ v, ys[i]? = some v ∧ StrsF w F v els[i]
  | [], [], _, i, hi => by simp at hi
  | _ :: _, v :: _, h, 0, _ => ⟨v, rfl, h.1⟩
  | _ :: r, _ :: _, h, i + 1, hi => by
    obtain ⟨v, h1, h2⟩ := ElC.get h.2 i (by simpa using hi)
    exact ⟨v, by simpa using h1, h2⟩
  | [], _ :: _, h, _, _ => h.elim
  | _ :: _, [], h, _, _ => h.elim
theorem SgC.get {w : World} {F : Nat → Prop} : ∀ {sl : List Sg} {xs : List Value}, SgC w F sl xs → ∀ i (hi : i < sl.length), xs[2 * i]? = some (str sl[i].tag) ∧ ∃ v, xs[2 * i + 1]? = some v ∧ ElsF w F v sl[i].els
  | [], [], _, i, hi => by simp at hi
  | _ :: _, _ :: v :: _, h, 0, _ => ⟨by simp [h.1], v, rfl, h.2.1⟩
  | _ :: r, _ :: _ :: _, h, i + 1, hi => by
    obtain ⟨h0, v, h1, h2⟩ := SgC.get h.2.2 i (by simpa using hi)
    exact ⟨by simpa [Nat.mul_add] using h0, v, by simpa [Nat.mul_add] using h1, h2⟩
  | [], _ :: _, h, _, _ => h.elim
  | _ :: _, [], h, _, _ => h.elim
  | _ :: _, [_], h, _, _ => h.elim
theorem row_own {w : World} {B : Nat} {F : Nat → Prop} {e : TypeId} {size n : Nat} {v : Value} {xs : List Value} (h : w.ownsRow B e size v n xs) (hF : ∀ b, v.ownBlock = some b → F b) : RowF w F v n xs := by
  obtain ⟨h1, ⟨rfl, rfl⟩ | ⟨g, cap, cur, rfl, hb, hg, hn, hm, hs, ht⟩⟩ := h
  · exact ⟨none, 0, rfl, Nat.le_refl _, fun h => absurd h (by omega)⟩
  · refine ⟨some ⟨g, 0, none⟩, cap, rfl, hn, fun _ => ⟨g, 0, rfl, hF g rfl, fun j u hu => ?_⟩⟩
    have hw : w.ownsRow B e size (.slice (some ⟨g, 0, none⟩) n cap) n xs := ⟨h1, Or.inr ⟨g, cap, cur, rfl, hb, hg, hn, hm, hs, ht⟩⟩
    have := hw.cells (g := g) rfl j u hu
    rw [Addr.add_mid] at this; exact this
/-- what changed: a block, and a row -/
structure Chg (w w' : World) (g : Nat) (row : Option Nat) : Prop where
  size : w.heap.size ≤ w'.heap.size
  block : ∀ k, k < w.heap.size → k ≠ g → some k ≠ row → w'.heap[k]? = w.heap[k]?
theorem Chg.refl (w : World) (g : Nat) (row : Option Nat) : Chg w w g row := ⟨Nat.le_refl _, fun _ _ _ _ => rfl⟩
theorem Chg.set {w w' : World} {g : Nat} {row : Option Nat} (h : Chg w w' g row) (i : Nat) (v : Value) : Chg w (w'.setCell ⟨g, i, none⟩ v) g row :=
  ⟨by have := h.size; simpa [World.setCell] using this, fun k hk hg hr => (Below.heap_setCell _ _ _ _ hg).trans (h.block k hk hg hr)⟩
theorem Chg.alloc {w w' : World} {g : Nat} {row : Option Nat} (h : Chg w w' g row) (o : Obj) : Chg w (w'.alloc o) g row :=
  ⟨by have := h.size; simp; omega, fun k hk hg hr => (Below.heap_alloc _ _ _ (by have := h.size; omega)).trans (h.block k hk hg hr)⟩
theorem Chg.grown {w w1 w' : World} {g : Nat} {row : Option Nat} (h : Chg w w1 g row) (hg : w1.grownBy w' row) : Chg w w' g row :=
  ⟨by have := h.size; have := hg.size; omega, fun k hk hk2 hr => (hg.block k (by have := h.size; omega) hr).trans (h.block k hk hk2 hr)⟩
theorem own_chg {w w' : World} {B g : Nat} {row : Option Nat} {e T : TypeId} {size n : Nat} {v : Value} {xs : List Value} {cs : Array Value} {fr : Nat × Nat} (h : w.ownsRow B e size v n xs) (hg : w.heap[g]? = some (.cells cs T fr)) (hT : T ≠ e) (hc : Chg w w' g row)
    (hne : v.ownBlock = none ∨ v.ownBlock ≠ row) : w'.ownsRow B e size v n xs := by
  obtain ⟨h1, h2⟩ := h
  refine ⟨h1, h2.imp id ?_⟩
  rintro ⟨b, cap, cur, rfl, e2, e3, e4⟩
  refine ⟨b, cap, cur, rfl, e2, (hc.block b (Array.getElem?_eq_some_iff.1 e3).1 (fun e => ?_) (fun e => ?_)).trans e3, e4⟩
  · subst e; rw [e3] at hg; simp only [Option.some.injEq, Obj.cells.injEq] at hg; exact hT hg.2.1.symm
  · rcases hne with h | h
    · simp [Value.ownBlock] at h
    · exact h (by simp [Value.ownBlock, e])
theorem own_apart {w : World} {B B' : Nat} {e e' : TypeId} {size n size' n' : Nat} {v v' : Value} {xs xs' : List Value} (h : w.ownsRow B e size v n xs) (h' : w.ownsRow B' e' size' v' n' xs') (hne : e ≠ e') : v.ownBlock = none ∨ v.ownBlock ≠ v'.ownBlock := by
  rcases h.2 with ⟨rfl, _⟩ | ⟨b, cap, cur, rfl, _, h3, _⟩
  · left; rfl
  · right
    rcases h'.2 with ⟨rfl, _⟩ | ⟨b', cap', cur', rfl, _, h3', _⟩
    · simp [Value.ownBlock]
    · simp only [Value.ownBlock, ne_eq, Option.some.injEq]
      rintro rfl
      rw [h3] at h3'; simp only [Option.some.injEq, Obj.cells.injEq] at h3'; exact hne h3'.2.1
theorem own_not {w : World} {B g : Nat} {e T : TypeId} {size n : Nat} {v : Value} {xs : List Value} {cs : Array Value} {fr : Nat × Nat} (h : w.ownsRow B e size v n xs) (hg : w.heap[g]? = some (.cells cs T fr)) (hT : T ≠ e) : some g ≠ v.ownBlock := by
  rcases h.2 with ⟨rfl, _⟩ | ⟨b, cap, cur, rfl, _, h3, _⟩
  · simp [Value.ownBlock]
  · simp only [Value.ownBlock, ne_eq, Option.some.injEq]
    rintro rfl
    rw [h3] at hg; simp only [Option.some.injEq, Obj.cells.injEq] at hg; exact hT hg.2.1.symm
theorem own_slice {w : World} {B : Nat} {e : TypeId} {size n : Nat} {v : Value} {xs : List Value} (h : w.ownsRow B e size v n xs) : ∃ p cap, v = .slice p n cap := by
  rcases h.2 with ⟨rfl, rfl⟩ | ⟨g, cap, cur, rfl, _⟩
  · exact ⟨_, _, rfl⟩
  · exact ⟨_, _, rfl⟩
theorem set_heap {w : World} {g : Nat} {cs : Array Value} {T : TypeId} (h : w.heap[g]? = some (.cells cs T (0, 0))) (i : Nat) (v : Value) : (w.setCell ⟨g, i, none⟩ v).heap[g]? = some (.cells (cs.setIfInBounds i v) T (0, 0)) := by
  simp [World.setCell, Array.getElem?_modify, h]
theorem lt_of_heap {w : World} {g : Nat} {o : Obj} (h : w.heap[g]? = some o) : g < w.heap.size := (Array.getElem?_eq_some_iff.1 h).1
/-- one thing is appended to a row of one's own -/
theorem run_app1 (w : World) (t ty e : TypeId) (z : Value) (size bytes : Nat) (hpar : (Tryz.prog.info? e).map (fun i => (i.zero, i.size, i.bytes)) = some (some z, size, bytes)) (ht : Tryz.prog.underlying t = some (.slice e)) (hzs : z.cells.size = size) (hsz : 0 < size) (hby : bytes ≤ 100)
    (base : Nat) (v : Value) (n : Nat) (xs : List Value) (hown : w.ownsRow base e size v n xs) (g c : Nat) (news : List Value) (T : TypeId) (fr : Nat × Nat) (hl : news.length = size) (hg : w.heap[g]? = some (.cells news.toArray T fr)) (h1 : ∀ u ∈ news, u.oneCell' = true) (hn : n ≤ 1000000000) (hbase : base ≤ w.heap.size) :
    ∃ v' w', (Builtin.append_ #[t, t] ty #[v, .slice (some ⟨g, 0, none⟩) 1 c]).run Tryz.prog w = .ok v' w' ∧ w'.ownsRow base e size v' (n + 1) (xs ++ news) ∧ w.grownBy w' v.ownBlock ∧ (v'.ownBlock = v.ownBlock ∨ v'.ownBlock = some w.heap.size) := by
  obtain ⟨i0, hi0, hz0, hz1, hz2⟩ := info_parts hpar
  obtain ⟨v', w', a1, a2, a3, _, a5⟩ := run_append_own_at (P := Tryz.prog) w base t ty e i0 z size bytes ht hi0 hz0 hz1 hz2 hzs hsz v n xs hown ⟨g, 0, none⟩ 1 c news (by omega)
    (fun j u hu => by
      have : w.cell? ⟨g, j, none⟩ = news.toArray[j]? := by simp [World.cell?, hg]
      rw [Addr.add_mid, Nat.zero_add, this]; simpa using hu) h1 (by unfold maxLen; omega) (by
        have := Nat.mul_le_mul (show n + 1 ≤ 1000000001 by omega) hby
        omega) hbase
  exact ⟨v', w', a1, a2, a3, a5⟩
theorem st_app1 {a : Act} {w : World} {K : Act → World → Prop} {Q : Exit → Act → World → Prop} {dst : Tmp} {s x : Operand} {typ : TypeId} {pos : String} {after : Array Edge} {gd : Option (Nat × Bool)}
    (t e : TypeId) (z : Value) (size bytes : Nat) (hpar : (Tryz.prog.info? e).map (fun i => (i.zero, i.size, i.bytes)) = some (some z, size, bytes)) (ht : Tryz.prog.underlying t = some (.slice e)) (hzs : z.cells.size = size) (hsz : 0 < size) (hby : bytes ≤ 100)
    (base : Nat) (v : Value) (n : Nat) (xs : List Value) (hs : a.eval s = v) (hown : w.ownsRow base e size v n xs) (g c : Nat) (news : List Value) (T : TypeId) (fr : Nat × Nat) (hx : a.eval x = .slice (some ⟨g, 0, none⟩) 1 c) (hl : news.length = size) (hg : w.heap[g]? = some (.cells news.toArray T fr)) (h1 : ∀ u ∈ news, u.oneCell' = true) (hn : n ≤ 1000000000) (hbase : base ≤ w.heap.size)
    (h : ∀ v' w', w'.ownsRow base e size v' (n + 1) (xs ++ news) → w.grownBy w' v.ownBlock → (v'.ownBlock = v.ownBlock ∨ v'.ownBlock = some w.heap.size) → K (a.put (some dst) v') w') :
    Oper.wp Tryz.prog ⟨some dst, .call { callee := .builtin .append, args := #[s, x], argTypes := #[t, t] }, typ, pos, after, gd⟩ a w K Q := by
  obtain ⟨v', w', hr, h2, h3, h5⟩ := run_app1 w t typ e z size bytes hpar ht hzs hsz hby base v n xs hown g c news T fr hl hg h1 hn hbase
  unfold Oper.wp execOp
  simp only [resolve, invoke, builtin, Sem.run_bind, Sem.run_pure, Result.andThen_ok, List.map_toArray, List.map_cons, List.map_nil, hs, hx, hr]
  exact h v' w' h2 h3 h5
theorem wl_app1 {ops : Array Oper} {rest : List Oper} {a : Act} {w : World} {Q : Exit → Act → World → Prop} {dst : Tmp} {s x : Operand} {typ : TypeId} {pos : String} {after : Array Edge}
    (t e : TypeId) (z : Value) (size bytes : Nat) (hpar : (Tryz.prog.info? e).map (fun i => (i.zero, i.size, i.bytes)) = some (some z, size, bytes)) (ht : Tryz.prog.underlying t = some (.slice e)) (hzs : z.cells.size = size) (hsz : 0 < size) (hby : bytes ≤ 100)
    (base : Nat) (v : Value) (n : Nat) (xs : List Value) (hs : a.eval s = v) (hown : w.ownsRow base e size v n xs) (g c : Nat) (news : List Value) (T : TypeId) (fr : Nat × Nat) (hx : a.eval x = .slice (some ⟨g, 0, none⟩) 1 c) (hl : news.length = size) (hg : w.heap[g]? = some (.cells news.toArray T fr)) (h1 : ∀ u ∈ news, u.oneCell' = true) (hn : n ≤ 1000000000) (hbase : base ≤ w.heap.size)
    (h : ∀ v' w', w'.ownsRow base e size v' (n + 1) (xs ++ news) → w.grownBy w' v.ownBlock → (v'.ownBlock = v.ownBlock ∨ v'.ownBlock = some w.heap.size) → wpList Tryz.prog ops Q rest (a.put (some dst) v') w') :
    wpList Tryz.prog ops Q (⟨some dst, .call { callee := .builtin .append, args := #[s, x], argTypes := #[t, t] }, typ, pos, after, none⟩ :: rest) a w :=
  wpList_plain rfl fun _ hK => st_app1 t e z size bytes hpar ht hzs hsz hby base v n xs hs hown g c news T fr hx hl hg h1 hn hbase (fun v' w' h2 h3 h5 => hK _ _ (h v' w' h2 h3 h5))
theorem par_u8 : (Tryz.prog.info? 5).map (fun i => (i.zero, i.size, i.bytes)) = some (some (.int .u8 0), 1, 1) := by kernel_rfl
theorem par_str : (Tryz.prog.info? 9).map (fun i => (i.zero, i.size, i.bytes)) = some (some (.string ⟨#[]⟩), 1, 16) := by kernel_rfl
theorem par_strs : (Tryz.prog.info? 129).map (fun i => (i.zero, i.size, i.bytes)) = some (some (.slice none 0 0), 1, 24) := by kernel_rfl
theorem par_seg : (Tryz.prog.info? 112).map (fun i => (i.zero, i.size, i.bytes)) = some (some (.agg #[.string ⟨#[]⟩, .slice none 0 0]), 2, 40) := by kernel_rfl
/-- bytes of one's own as a text -/
theorem run_convW (w : World) (B : Nat) (v : Value) (l : Tx) (h : w.ownsRow B 5 1 v l.length (Lib.byteCells l)) : (convert 39 9 v).run Tryz.prog w = .ok (str l) w := by
  rcases h.2 with ⟨rfl, h0⟩ | ⟨g, cap, cur, rfl, hb, hg, hn, hm, hs, ht⟩
  · obtain rfl : l = [] := List.eq_nil_of_length_eq_zero h0
    rw [run_convert_bytes_string w 39 9 5 none 0 0 Tryz.underlying39 Tryz.underlying5 Tryz.underlying9]
    simp [Conv.bytesToString]; rfl
  · have hc : ∀ i, i < l.length → w.cell? ⟨g, 0 + i, none⟩ = some (.int .u8 ((l.map fun (c : UInt8) => ((c.toNat : Nat) : Int)).getD i 0)) := fun i hi => by
      have := h.cells (g := g) rfl i (.int .u8 (((l[i]).toNat : Nat) : Int)) (by simp [Lib.byteCells, hi])
      rw [List.getD_eq_getElem?_getD, List.getElem?_map, List.getElem?_eq_getElem hi]
      rw [Addr.add_mid] at this; rw [this]; rfl
    have := run_convert_bytes_arg (P := Tryz.prog) w 39 5 Tryz.underlying39 Tryz.underlying5 g 0 l.length cap (l.map fun (c : UInt8) => ((c.toNat : Nat) : Int)) (by simp) hc 9 Tryz.underlying9
    rw [this]
    have e : strOfNums (l.map fun (c : UInt8) => ((c.toNat : Nat) : Int)) = tx l := by simp [strOfNums, tx, Function.comp_def]
    rw [e]
end Go.Proofs.YtgaoeljdlpemnaaGreatDoor
