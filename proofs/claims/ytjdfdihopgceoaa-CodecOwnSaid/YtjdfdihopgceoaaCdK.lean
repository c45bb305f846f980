/- What the walks over codec lean on: frames, bytes in memory, append, conversion and copying of bytes. -/
import Derived.RangeFuncNested
import Derived.RangeFuncBound
import Derived.RangeFuncCalls
import Derived.RangeFuncLeaves
import Derived.Shelf.Abstract
import Derived.Shelf.RegionOpen
import Derived.WalkKit
import Derived.OwnWalkIn
import Derived.TacticsInMore
import Derived.LoopNIn
import Derived.LoopIn
import Derived.Laws.EntriesVeiled
import Derived.Laws.OwnMore
import Derived.Laws.CopyOwn
import Derived.Laws.MakeOwn
import Derived.Laws.BytesArg
import Derived.Laws.BytesString
import Derived.Maps.AppendAt
import Derived.Maps.OwnSet
import Derived.Maps.OwnIn
import Derived.Outline
import Derived.KernelRfl
import Derived.Deep.QuietTactic
import Derived.Deep.RegionHeld
import Derived.BigQuiet
import Derived.BigRegion
import Derived.RegionTactic
import Derived.StillTailTactics
import Derived.Laws.Rows
import Derived.Deep.MidRow
import Derived.Lib.Hide
import Derived.Deep.Light
import Derived.WalkSmall
import Derived.IntWalk
import Derived.Test.YtjdfdihopgceoaaDkPure
import Derived.Lib.AppendZerosOnto
import Derived.Deep.DeepAppendRoom
import Derived.Test.YtjdfdihopgceoaaJnPure
import Derived.Test.YtjdfdihopgceoaaChecked
namespace Go.Proofs.Ytjdfdihopgceoaa.Cd
open Go.RowKit Go.Shelf Go.Dk Go.Jn
open Go.Maps (Keyed)

def tx (t : By) : ByteArray := ⟨t.toArray⟩
abbrev str (t : By) : Value := .string (tx t)
/-- all but some blocks is kept -/
structure Frq (G : Nat → Prop) (w w' : World) : Prop where
  os : w'.os = w.os
  tape : w'.tape = w.tape
  output : w'.output = w.output
  size : w.heap.size ≤ w'.heap.size
  block : ∀ k, k < w.heap.size → ¬ G k → w'.heap[k]? = w.heap[k]?
theorem Frq.refl (G : Nat → Prop) (w : World) : Frq G w w := ⟨rfl, rfl, rfl, Nat.le_refl _, fun _ _ _ => rfl⟩
theorem Frq.trans {G : Nat → Prop} {a b c : World} (h : Frq G a b) (k : Frq G b c) : Frq G a c :=
  ⟨k.os.trans h.os, k.tape.trans h.tape, k.output.trans h.output, Nat.le_trans h.size k.size, fun i hi hg => (k.block i (Nat.lt_of_lt_of_le hi h.size) hg).trans (h.block i hi hg)⟩
theorem Frq.trans' {G : Nat → Prop} {n : Nat} {a b c : World} (h : Frq G a b) (k : Frq (fun x => G x ∨ n ≤ x) b c) (hn : a.heap.size ≤ n) : Frq G a c :=
  ⟨k.os.trans h.os, k.tape.trans h.tape, k.output.trans h.output, Nat.le_trans h.size k.size, fun i hi hg => (k.block i (Nat.lt_of_lt_of_le hi h.size) (fun e => e.elim hg (fun e => by omega))).trans (h.block i hi hg)⟩
theorem Frq.mono {G G' : Nat → Prop} {a b : World} (h : Frq G a b) (hG : ∀ k, G k → G' k) : Frq G' a b := ⟨h.os, h.tape, h.output, h.size, fun k hk hg => h.block k hk fun e => hg (hG k e)⟩
theorem Frq.drew {G : Nat → Prop} {a b : World} (h : Frq G a b) : Frq G a b.drew := ⟨h.os, h.tape, h.output, h.size, h.block⟩
theorem Frq.drewN {G : Nat → Prop} {a b : World} (h : Frq G a b) (n : Nat) : Frq G a (b.drewN n) := ⟨h.os, h.tape, h.output, h.size, h.block⟩
theorem Frq.grown {G : Nat → Prop} {a b c : World} {row : Option Nat} (h : Frq G a b) (hg : b.grownBy c row) (hr : ∀ k, row = some k → G k ∨ a.heap.size ≤ k) : Frq G a c :=
  ⟨hg.os.trans h.os, hg.tape.trans h.tape, hg.output.trans h.output, Nat.le_trans h.size hg.size, fun k hk hG => (hg.block k (Nat.lt_of_lt_of_le hk h.size) (fun e => by
    rcases hr k e.symm with h1 | h1
    · exact hG h1
    · omega)).trans (h.block k hk hG)⟩
theorem Frq.alloc {G : Nat → Prop} {a b : World} (h : Frq G a b) (o : Obj) : Frq G a (b.alloc o) := h.grown (World.grownBy_alloc b o none) (fun _ e => by cases e)
theorem Frq.setCell {G : Nat → Prop} {a b : World} (h : Frq G a b) {p : Addr} (hp : G p.block ∨ a.heap.size ≤ p.block) (u : Value) : Frq G a (b.setCell p u) :=
  ⟨h.os, h.tape, h.output, Nat.le_trans h.size (by simp), fun k hk hg => (Below.heap_setCell b p u k fun e => by
    subst e; exact hp.elim hg (fun e => by omega)).trans (h.block k hk hg)⟩
theorem Frq.setRow {G : Nat → Prop} {a b : World} (h : Frq G a b) {g : Nat} (hp : G g ∨ a.heap.size ≤ g) (cs : Array Value) : Frq G a (b.setRow g cs) :=
  ⟨h.os, h.tape, h.output, Nat.le_trans h.size (by simp), fun k hk hg => (setRow_other b g k cs (fun e => by
    subst e; exact hp.elim hg (fun e => by omega))).trans (h.block k hk hg)⟩
theorem Frq.below {G : Nat → Prop} {B : Nat} {a b : World} (h : Frq G a b) (hB : B ≤ a.heap.size) (hG : ∀ k, G k → B ≤ k) : Below B a b :=
  ⟨h.os, h.tape, h.output, h.size, fun k hk => h.block k (by omega) fun e => by have := hG k e; omega⟩
theorem Frq.ofBelow {G : Nat → Prop} {a b : World} (h : Below a.heap.size a b) : Frq G a b := ⟨h.os, h.tape, h.output, h.size, fun k hk _ => h.block k hk⟩
theorem frq_own {β : Type} {G : Nat → Prop} {B : Nat} {w0 : World} (hB : w0.heap.size ≤ B) : OwnFrom B (fun (_ : β) W => Frq G w0 W) :=
  fun _ _ _ _ hs hg hr => hs.grown hg (fun k e => .inr (Nat.le_trans hB (hr k e).1))
/-- what a round that goes on keeps: all but some blocks -/
def KpX (X : Nat → Prop) (n0 : Nat) (W W' : World) : Prop := W.heap.size ≤ W'.heap.size ∧ ∀ b o, ¬ X b → W.heap[b]? = some o → (o.isCells = true ∨ b < n0) → W'.heap[b]? = some o
theorem kpX_t {X : Nat → Prop} {n0 : Nat} {A B C : World} (h : KpX X n0 A B) (k : KpX X n0 B C) : KpX X n0 A C :=
  ⟨Nat.le_trans h.1 k.1, fun b o hx hb ho => k.2 b o hx (h.2 b o hx hb ho) ho⟩
theorem kpX_b {X : Nat → Prop} {w : World} {n0 : Nat} (hn : n0 ≤ w.heap.size) (W : World) (l : Nat) (o o' : Obj) (hl : w.heap.size ≤ l) (hW : W.heap[l]? = some o) (h1 : o.isCells = false) (_ : o.isWalk = false) : KpX X n0 W (W.putObj l o') :=
  ⟨by simp, fun b ob _ hb hc => by
    by_cases e : b = l
    · subst e; rw [hW] at hb; obtain rfl := Option.some.inj hb
      rcases hc with h | h
      · rw [h1] at h; cases h
      · omega
    · exact (World.putObj_heap_other e).trans hb⟩
theorem kpX_frq {X : Nat → Prop} {n0 : Nat} {W W' : World} (h : Frq X W W') : KpX X n0 W W' :=
  ⟨h.size, fun b o hx hb _ => (h.block b (Array.getElem?_eq_some_iff.1 hb).1 hx).trans hb⟩
theorem KpX.cells {X : Nat → Prop} {n0 : Nat} {W W' : World} (h : KpX X n0 W W') {b : Nat} {cs : Array Value} {t : TypeId} {fr : Nat × Nat} (hx : ¬ X b) (hb : W.heap[b]? = some (.cells cs t fr)) : W'.heap[b]? = some (.cells cs t fr) := h.2 b _ hx hb (.inl rfl)
theorem kpX_of {X : Nat → Prop} {n0 : Nat} {W W' : World} (hs : W.heap.size ≤ W'.heap.size) (h : ∀ b, ¬ X b → b < W.heap.size → W'.heap[b]? = W.heap[b]?) : KpX X n0 W W' :=
  ⟨hs, fun b o hx hb _ => (h b hx (Array.getElem?_eq_some_iff.1 hb).1).trans hb⟩
theorem lt_of_heap {w : World} {g : Nat} {o : Obj} (h : w.heap[g]? = some o) : g < w.heap.size := (Array.getElem?_eq_some_iff.1 h).1
theorem cell_of_arr {W : World} {g : Nat} {A : Array Value} {ty : TypeId} (h : W.heap[g]? = some (.cells A ty (0, 0))) (i : Nat) : W.cell? ⟨g, i, none⟩ = A[i]? := by simp [World.cell?, h]
theorem froz_of_arr {W : World} {g : Nat} {A : Array Value} {ty : TypeId} (h : W.heap[g]? = some (.cells A ty (0, 0))) (i : Nat) : W.frozen? ⟨g, i, none⟩ = false := by simp [World.frozen?, h]
theorem set_heap {w : World} {g : Nat} {cs : Array Value} {T : TypeId} (h : w.heap[g]? = some (.cells cs T (0, 0))) (i : Nat) (v : Value) : (w.setCell ⟨g, i, none⟩ v).heap[g]? = some (.cells (cs.setIfInBounds i v) T (0, 0)) := by
  simp [World.setCell, Array.getElem?_modify, h]
theorem cells_kept {W W' : World} {row : Option Nat} {B b : Nat} {cs : Array Value} {t : TypeId} {fr : Nat × Nat} (h : W.heap[b]? = some (.cells cs t fr)) (hg : W.grownBy W' row) (hr : ∀ r, row = some r → B ≤ r ∧ ∃ o : Obj, W.heap[r]? = some o ∧ o.isCells = false) : W'.heap[b]? = some (.cells cs t fr) :=
  (hg.block b (lt_of_heap h) (fun e => by obtain ⟨_, o, ho, hc⟩ := hr b e.symm; rw [h] at ho; cases ho; cases hc)).trans h
/-- a row in memory, in a block that meets F -/
def RowF (w : World) (F : Nat → Prop) (v : Value) (n : Nat) (xs : List Value) : Prop :=
  ∃ p cap, v = .slice p n cap ∧ n ≤ cap ∧ (0 < n → ∃ b o, p = some ⟨b, o, none⟩ ∧ F b ∧ ∀ j u, xs[j]? = some u → w.cell? ⟨b, o + j, none⟩ = some u)
def Kp (F F' : Nat → Prop) (w w' : World) : Prop := ∀ b, F b → F' b ∧ w'.heap[b]? = w.heap[b]?
theorem RowF.kept {w w' : World} {F F' : Nat → Prop} {v : Value} {n : Nat} {xs : List Value} (h : RowF w F v n xs) (hk : Kp F F' w w') : RowF w' F' v n xs := by
  obtain ⟨p, cap, h1, h2, h3⟩ := h
  refine ⟨p, cap, h1, h2, fun h0 => ?_⟩
  obtain ⟨b, o, e1, e2, e3⟩ := h3 h0
  exact ⟨b, o, e1, (hk b e2).1, fun j u hu => (World.cell?_of_block (a := ⟨b, o + j, none⟩) (hk b e2).2).trans (e3 j u hu)⟩
abbrev BysF (w : World) (F : Nat → Prop) (v : Value) (l : By) : Prop := RowF w F v l.length (Lib.byteCells l)
theorem row_own {w : World} {B : Nat} {F : Nat → Prop} {e : TypeId} {size n : Nat} {v : Value} {xs : List Value} (h : w.ownsRow B e size v n xs) (hF : ∀ b, v.ownBlock = some b → F b) : RowF w F v n xs := by
  obtain ⟨h1, ⟨rfl, rfl⟩ | ⟨g, cap, cur, rfl, hb, hg, hn, hm, hs, ht⟩⟩ := h
  · exact ⟨none, 0, rfl, Nat.le_refl _, fun h => absurd h (by omega)⟩
  · refine ⟨some ⟨g, 0, none⟩, cap, rfl, hn, fun _ => ⟨g, 0, rfl, hF g rfl, fun j u hu => ?_⟩⟩
    have hw : w.ownsRow B e size (.slice (some ⟨g, 0, none⟩) n cap) n xs := ⟨h1, Or.inr ⟨g, cap, cur, rfl, hb, hg, hn, hm, hs, ht⟩⟩
    have := hw.cells (g := g) rfl j u hu
    rw [Addr.add_mid] at this; exact this
theorem own_slice {w : World} {B : Nat} {e : TypeId} {size n : Nat} {v : Value} {xs : List Value} (h : w.ownsRow B e size v n xs) : ∃ p cap, v = .slice p n cap := by
  rcases h.2 with ⟨rfl, rfl⟩ | ⟨g, cap, cur, rfl, _⟩
  · exact ⟨_, _, rfl⟩
  · exact ⟨_, _, rfl⟩
theorem own_not {w : World} {B g : Nat} {e T : TypeId} {size n : Nat} {v : Value} {xs : List Value} {cs : Array Value} {fr : Nat × Nat} (h : w.ownsRow B e size v n xs) (hg : w.heap[g]? = some (.cells cs T fr)) (hT : T ≠ e) : some g ≠ v.ownBlock := by
  rcases h.2 with ⟨rfl, _⟩ | ⟨b, cap, cur, rfl, _, h3, _⟩
  · simp [Value.ownBlock]
  · simp only [Value.ownBlock, ne_eq, Option.some.injEq]
    rintro rfl
    rw [h3] at hg; simp only [Option.some.injEq, Obj.cells.injEq] at hg; exact hT hg.2.1.symm
theorem own_keep {w w' : World} {B : Nat} {e : TypeId} {size n : Nat} {v : Value} {xs : List Value} (h : w.ownsRow B e size v n xs) (hk : ∀ g cs, v.ownBlock = some g → w.heap[g]? = some (.cells cs e (0, 0)) → w'.heap[g]? = some (.cells cs e (0, 0))) : w'.ownsRow B e size v n xs := by
  obtain ⟨h1, h2⟩ := h
  refine ⟨h1, h2.imp id ?_⟩
  rintro ⟨b, cap, cur, rfl, e2, e3, e4⟩
  exact ⟨b, cap, cur, rfl, e2, hk b cur rfl e3, e4⟩
theorem own_cells {w : World} {B : Nat} {e : TypeId} {size n : Nat} {v : Value} {xs : List Value} (h : w.ownsRow B e size v n xs) {g : Nat} (hg : v.ownBlock = some g) : ∃ cs, w.heap[g]? = some (.cells cs e (0, 0)) := by
  rcases h.2 with ⟨rfl, _⟩ | ⟨b, cap, cur, rfl, h2, h3, _⟩
  · simp [Value.ownBlock] at hg
  · simp only [Value.ownBlock, Option.some.injEq] at hg; subst hg; exact ⟨cur, h3⟩
theorem own_lt {w : World} {B : Nat} {e : TypeId} {size n : Nat} {v : Value} {xs : List Value} (h : w.ownsRow B e size v n xs) {g : Nat} (hg : v.ownBlock = some g) : B ≤ g ∧ g < w.heap.size := by
  rcases h.2 with ⟨rfl, _⟩ | ⟨b, cap, cur, rfl, h2, h3, _⟩
  · simp [Value.ownBlock] at hg
  · simp only [Value.ownBlock, Option.some.injEq] at hg; subst hg; exact ⟨h2, lt_of_heap h3⟩
theorem par_u8 : (Try.prog.info? 5).map (fun i => (i.zero, i.size, i.bytes)) = some (some (.int .u8 0), 1, 1) := by kernel_rfl
theorem run_append_none (w : World) (base : Nat) (t ty e : TypeId) (i : TypeInfo) (size c : Nat) (ht : Try.prog.underlying t = some (.slice e)) (hi : Try.prog.info? e = some i)
    (v : Value) (n : Nat) (xs : List Value) (hown : w.ownsRow base e size v n xs) :
    (Builtin.append_ #[t, t] ty #[v, .slice none 0 c]).run Try.prog w = .ok v w := by
  rcases hown.2 with ⟨rfl, rfl⟩ | ⟨g, cap, cur, rfl, _, _, hnc, _⟩
  · simp [Builtin.append_, run_underlying ht, sizeOf, typeInfo, hi, Builtin.lenOf, Builtin.firstCells]
  · simp [Builtin.append_, run_underlying ht, sizeOf, typeInfo, hi, Builtin.lenOf, Builtin.firstCells, hnc, storeCells]
theorem run_appF (w : World) (t ty e : TypeId) (z : Value) (size bytes : Nat) (hpar : (Try.prog.info? e).map (fun i => (i.zero, i.size, i.bytes)) = some (some z, size, bytes)) (ht : Try.prog.underlying t = some (.slice e)) (hzs : z.cells.size = size) (hsz : 0 < size) (hby : bytes ≤ 100)
    (base : Nat) (v : Value) (n : Nat) (xs : List Value) (hown : w.ownsRow base e size v n xs) (u : Value) (F : Nat → Prop) (m : Nat) (news : List Value) (hsrc : RowF w F u m news) (hl : news.length = m * size) (h1 : ∀ u ∈ news, u.oneCell' = true) (hn : n + m ≤ 1000000000) (hbase : base ≤ w.heap.size) :
    ∃ v' w', (Builtin.append_ #[t, t] ty #[v, u]).run Try.prog w = .ok v' w' ∧ w'.ownsRow base e size v' (n + m) (xs ++ news) ∧ w.grownBy w' v.ownBlock ∧ (v'.ownBlock = v.ownBlock ∨ v'.ownBlock = some w.heap.size) := by
  obtain ⟨i0, hi0, hz0, hz1, hz2⟩ := info_parts hpar
  obtain ⟨p, cap, rfl, _, hp⟩ := hsrc
  have go : ∀ (ad : Addr), (∀ j u, news[j]? = some u → w.cell? (ad.add j) = some u) →
      ∃ v' w', (Builtin.append_ #[t, t] ty #[v, .slice (some ad) m cap]).run Try.prog w = .ok v' w' ∧ w'.ownsRow base e size v' (n + m) (xs ++ news) ∧ w.grownBy w' v.ownBlock ∧ (v'.ownBlock = v.ownBlock ∨ v'.ownBlock = some w.heap.size) := by
    intro ad h
    obtain ⟨v', w', hr, h2, h3, _, h5⟩ := run_append_own_at (P := Try.prog) w base t ty e i0 z size bytes ht hi0 hz0 hz1 hz2 hzs hsz v n xs hown ad m cap news hl h h1 (by unfold maxLen; omega) (by
      have := Nat.mul_le_mul hn hby
      omega) hbase
    exact ⟨v', w', hr, h2, h3, h5⟩
  by_cases h0 : 0 < m
  · obtain ⟨b, o, rfl, _, hc⟩ := hp h0
    exact go ⟨b, o, none⟩ (fun j u hu => by rw [Addr.add_mid]; exact hc j u hu)
  · obtain rfl : m = 0 := by omega
    obtain rfl : news = [] := List.eq_nil_of_length_eq_zero (by omega)
    cases p with
    | some ad => exact go ad (fun j u hu => by simp at hu)
    | none =>
      refine ⟨v, w, run_append_none w base t ty e i0 size cap ht hi0 v n xs hown, ?_, ⟨rfl, rfl, rfl, Nat.le_refl _, fun _ _ _ => rfl⟩, Or.inl rfl⟩
      rw [List.append_nil]; exact hown
/-- bytes in memory as a text -/
theorem bys_str {w : World} {F : Nat → Prop} {v : Value} {l : By} (h : BysF w F v l) : (convert 47 9 v).run Try.prog w = .ok (str l) w := by
  obtain ⟨p, cap, rfl, hc, hp⟩ := h
  by_cases h0 : 0 < l.length
  · obtain ⟨b, o, rfl, _, e3⟩ := hp h0
    have hcc : ∀ i, i < l.length → w.cell? ⟨b, o + i, none⟩ = some (.int .u8 ((l.map fun (c : UInt8) => ((c.toNat : Nat) : Int)).getD i 0)) := fun i hi => by
      rw [e3 i (.int .u8 (((l[i]).toNat : Nat) : Int)) (by simp [Lib.byteCells, hi]), List.getD_eq_getElem?_getD, List.getElem?_map, List.getElem?_eq_getElem hi]
      rfl
    have := run_convert_bytes_arg (P := Try.prog) w 47 5 Try.underlying47 Try.underlying5 b o l.length cap (l.map fun (c : UInt8) => ((c.toNat : Nat) : Int)) (by simp) hcc 9 Try.underlying9
    rw [this]
    have e : strOfNums (l.map fun (c : UInt8) => ((c.toNat : Nat) : Int)) = tx l := by simp [strOfNums, tx, Function.comp_def]
    rw [e]
  · obtain rfl : l = [] := List.eq_nil_of_length_eq_zero (by omega)
    show (convert 47 9 (.slice p 0 cap)).run Try.prog w = _
    rw [run_convert_bytes_string w 47 9 5 p 0 cap Try.underlying47 Try.underlying5 Try.underlying9]
    cases p <;> simp [Conv.bytesToString] <;> rfl
theorem heap_last (w : World) (o : Obj) (i : Nat) (h : i = w.heap.size) : (w.alloc o).heap[i]? = some o := by subst h; exact heap_alloc_new w o
theorem heap_prev (w : World) (o : Obj) (i : Nat) (h : i < w.heap.size) : (w.alloc o).heap[i]? = w.heap[i]? := Below.heap_alloc w o i h

/-- bytes of one's own -/
abbrev OwnB (w : World) (base : Nat) (v : Value) (l : By) : Prop := w.ownsRow base 5 1 v l.length (Lib.byteCells l)
/-- an empty row with room -/
theorem mk_room (n : Nat) (hn : n ≤ 1000000) (w : World) : (Instr.makeSlice 47 (.int .i64 0) (.int .i64 (n : Int))).run Try.prog w = .ok (.slice (some ⟨w.heap.size, 0, none⟩) 0 n) (w.alloc (.cells (madeCells #[.int .u8 0] n) 5)) := by
  obtain ⟨i, hi, h0, h1, h2⟩ := info_parts par_u8
  have := run_make (P := Try.prog) w 47 5 i (.int .u8 0) Try.underlying47 hi h0 .i64 .i64 0 (n : Int) (by omega) (by omega) (by rw [h2]; omega) (by omega)
  rw [h1, show ((n : Nat) : Int).toNat = n from rfl, Nat.mul_one] at this
  exact this
theorem own_room (n : Nat) (hn : n ≤ 1000000) (w : World) (B : Nat) (hB : B ≤ w.heap.size) : OwnB (w.alloc (.cells (madeCells #[.int .u8 0] n) 5)) B (.slice (some ⟨w.heap.size, 0, none⟩) 0 n) [] :=
  ⟨rfl, .inr ⟨w.heap.size, n, madeCells #[.int .u8 0] n, rfl, hB, heap_last _ _ _ rfl, Nat.zero_le _, by unfold maxLen; omega, by rw [size_madeCells]; omega, rfl⟩⟩
theorem madeB (n : Nat) : madeCells #[Value.int .u8 0] n = bc (List.replicate n 0) := by
  have hs : (madeCells #[Value.int .u8 0] n).size = n := by rw [size_madeCells]
  apply Array.ext_getElem?
  intro k
  by_cases hk : k < n
  · rw [bc_get]
    unfold Lib.byteCells
    rw [List.getElem?_map, List.getElem?_replicate, if_pos hk]
    unfold madeCells
    simp [hk, Nat.mod_one]
  · rw [Array.getElem?_eq_none (by omega), Array.getElem?_eq_none (by rw [bc_size]; simp; omega)]
theorem mkB (n : Nat) (hn : n ≤ 1000000) (w : World) : (Instr.makeSlice 47 (.int .i64 (n : Int)) (.int .i64 (n : Int))).run Try.prog w = .ok (.slice (some ⟨w.heap.size, 0, none⟩) n n) (w.alloc (.cells (bc (List.replicate n 0)) 5)) := by
  obtain ⟨i, hi, h0, h1, h2⟩ := info_parts par_u8
  have := run_make (P := Try.prog) w 47 5 i (.int .u8 0) Try.underlying47 hi h0 .i64 .i64 (n : Int) (n : Int) (by omega) (by omega) (by rw [h2]; omega) (by omega)
  rw [h1, show ((n : Nat) : Int).toNat = n from rfl, Nat.mul_one] at this
  rw [← madeB]
  exact this
/-- a byte of a row of one's own is another -/
theorem own_put {w : World} {base g n cap i : Nat} {l : By} {x : Value} (h : OwnB w base (.slice (some ⟨g, 0, none⟩) n cap) l) (hn : n = l.length) (hi : i < n) (c : UInt8) (hx : x = .int .u8 (c.toNat : Int)) : OwnB (w.setCell ⟨g, i, none⟩ x) base (.slice (some ⟨g, 0, none⟩) n cap) (l.set i c) := by
  subst hx hn
  show World.ownsRow _ _ _ _ _ (l.set i c).length _
  rw [List.length_set]
  obtain ⟨h1, ⟨e, _⟩ | ⟨g2, cap', cur, e, hb, hg, hn2, hm, hs, ht⟩⟩ := h
  · cases e
  · simp only [Value.slice.injEq, Option.some.injEq, Addr.mk.injEq, and_true, true_and] at e
    obtain ⟨rfl, rfl⟩ := e
    refine ⟨by rw [byl_len, List.length_set, Nat.mul_one], Or.inr ⟨g, cap, cur.setIfInBounds i (.int .u8 (c.toNat : Int)), rfl, hb, set_heap hg i _, hn2, hm, by rw [Array.size_setIfInBounds]; exact hs, ?_⟩⟩
    rw [Array.toList_setIfInBounds, List.take_set, ht]
    unfold Lib.byteCells
    rw [List.map_set]
theorem own_cell {w : World} {base g n cap i : Nat} {l : By} (h : OwnB w base (.slice (some ⟨g, 0, none⟩) n cap) l) (hi : i < l.length) : w.cell? ⟨g, i, none⟩ = some (.int .u8 ((l[i]).toNat : Int)) ∧ w.frozen? ⟨g, i, none⟩ = false := by
  constructor
  · have := World.ownsRow.cells h (g := g) rfl i (.int .u8 ((l[i]).toNat : Int)) (by unfold Lib.byteCells; rw [List.getElem?_map, List.getElem?_eq_getElem hi]; rfl)
    rw [Addr.add_mid, Nat.zero_add] at this
    exact this
  · obtain ⟨cs, hcs⟩ := own_cells h (g := g) rfl
    exact froz_of_arr hcs i
theorem own_ptr {w : World} {base n cap : Nat} {p : Option Addr} {l : By} (h : w.ownsRow base 5 1 (.slice p n cap) n (Lib.byteCells l)) (h0 : 0 < n) : ∃ g, p = some ⟨g, 0, none⟩ ∧ base ≤ g ∧ ∃ cur, w.heap[g]? = some (.cells cur 5 (0, 0)) ∧ ∀ (j : Nat) u, (Lib.byteCells l)[j]? = some u → cur[j]? = some u := by
  obtain ⟨h1, ⟨e, e2⟩ | ⟨g, cap', cur, e, hb, hg, hn, hm, hs, ht⟩⟩ := h
  · omega
  · simp only [Value.slice.injEq, true_and] at e
    obtain ⟨rfl, rfl⟩ := e
    refine ⟨g, rfl, hb, cur, hg, fun j u hu => ?_⟩
    rw [← ht, List.getElem?_take] at hu
    split at hu
    · simpa using hu
    · cases hu
theorem u64_in {x : Int} (h0 : 0 ≤ x) (h1 : x < 18446744073709551616) : IntKind.u64.wrap x = x := by
  have e : IntKind.u64.wrap x = x % 18446744073709551616 := rfl
  rw [e, Int.emod_eq_of_lt h0 h1]
theorem or_byte (m : Nat) (c : UInt8) (h : m < 72057594037927936) : bits .or .u64 (IntKind.u64.wrap ((m : Int) * 256)) (IntKind.u64.wrap (c.toNat : Int)) = ((m * 256 + c.toNat : Nat) : Int) := by
  have hc := c.toNat_lt
  rw [u64_in (by omega) (by omega), u64_in (by omega) (by omega), show (m : Int) * 256 = ((m * 256 : Nat) : Int) by omega, u64_or_nat _ _ (by omega) (by omega)]
  have := Nat.shiftLeft_add_eq_or_of_lt (i := 8) (b := c.toNat) (by omega) m
  rw [Nat.shiftLeft_eq] at this
  rw [show m * 256 = m * 2 ^ 8 by rfl, this]
theorem beL_cons : ∀ (m v : Nat), beL (m + 1) v = UInt8.ofNat (v / 256 ^ m % 256) :: beL m v
  | 0, v => by simp [beL]
  | m + 1, v => by
    rw [beL, beL_cons m (v / 256), beL, List.cons_append, Nat.div_div_eq_div_mul, Nat.pow_succ, Nat.mul_comm 256]
theorem rep_set (k m v : Nat) : (List.replicate (k + 1) (0 : UInt8) ++ beL m v).set k (UInt8.ofNat (v / 256 ^ m % 256)) = List.replicate k 0 ++ beL (m + 1) v := by
  rw [List.replicate_succ', List.append_assoc, List.set_append_right _ _ (by simp), List.length_replicate, Nat.sub_self, beL_cons]
  rfl
theorem own_zeros (n : Nat) (hn : n ≤ 1000000) (w : World) (base : Nat) (hb : base ≤ w.heap.size) : OwnB (w.alloc (.cells (bc (List.replicate n 0)) 5)) base (.slice (some ⟨w.heap.size, 0, none⟩) n n) (List.replicate n 0) := by
  show World.ownsRow _ _ _ _ _ (List.replicate n (0 : UInt8)).length _
  rw [List.length_replicate]
  exact ⟨by rw [byl_len, List.length_replicate, Nat.mul_one], Or.inr ⟨w.heap.size, n, bc (List.replicate n 0), rfl, hb, heap_last _ _ _ rfl, Nat.le_refl _, by unfold maxLen; omega, by rw [bc_size]; simp, by rw [bc_list, Nat.mul_one, List.take_of_length_le (by rw [byl_len]; simp)]⟩⟩
theorem zeroCells_u8 (k : Nat) : (Builtin.zeroCells (Value.int .u8 0).cells k).toList = Lib.byteCells (List.replicate k 0) := by
  apply List.ext_getElem?
  intro j
  unfold Lib.byteCells
  rw [List.getElem?_map, List.getElem?_replicate]
  unfold Builtin.zeroCells
  by_cases hj : j < k
  · simp [hj, Value.cells, Nat.mod_one]
  · simp [hj, Value.cells]
theorem app_zeros {w : World} {base g n cap : Nat} {l : By} (h : OwnB w base (.slice (some ⟨g, 0, none⟩) n cap) l) (hn : n = l.length) (k : Nat) (h0 : 0 < k) (hk : n + k ≤ 1000000) (hbase : base ≤ w.heap.size) (t : TypeId) :
    ∃ v' w', (Builtin.append_ #[47, 3] t #[.slice (some ⟨g, 0, none⟩) n cap, .int .i64 k]).run Try.prog w = .ok v' w' ∧ OwnB w' base v' (l ++ List.replicate k 0) ∧ w.grownBy w' (some g) := by
  subst hn
  obtain ⟨i, hi, z0, z1, z2⟩ := info_parts par_u8
  have hl2 : (l ++ List.replicate k (0 : UInt8)).length = l.length + k := by simp
  obtain ⟨h1, ⟨e, _⟩ | ⟨g2, cap', cur, e, hb, hg, hnc, hcm, hcs, htake⟩⟩ := id h
  · cases e
  simp only [Value.slice.injEq, Option.some.injEq, Addr.mk.injEq, and_true, true_and] at e
  obtain ⟨rfl, rfl⟩ := e
  have hw : IntKind.i64.wrap (k : Int) = k := by rw [IntKind.wrap_i64]; omega
  have hneg : ¬ ((k : Int) < 0) := by omega
  have hk0 : k ≠ 0 := by omega
  have h48i : ¬ (281474976710656 < (k : Int) * (i.bytes : Int)) := by rw [z2]; omega
  have hns : ¬ (k * i.size = 0) := by rw [z1]; omega
  by_cases hroom : l.length + k ≤ cap
  · have hst := run_storeCells_at (P := Try.prog) g (l.length * 1) 5 (Lib.byteCells (List.replicate k 0)) 0 cur w hg (by rw [byl_len, List.length_replicate, hcs]; omega) (fun v hv => by
      unfold Lib.byteCells at hv
      obtain ⟨c, _, rfl⟩ := List.mem_map.1 hv
      rfl)
    rw [Nat.mul_one] at hst hcs
    simp only [Nat.add_zero] at hst
    refine ⟨.slice (some ⟨g, 0, none⟩) (l.length + k) cap, w.setRow g (cur.toList.take l.length ++ Lib.byteCells (List.replicate k 0) ++ cur.toList.drop (l.length + (Lib.byteCells (List.replicate k 0)).length)).toArray, ?_, ?_, ?_⟩
    rotate_left
    · show World.ownsRow _ _ _ _ _ (l ++ List.replicate k (0 : UInt8)).length _
      rw [hl2]
      refine ⟨by rw [byl_len, hl2, Nat.mul_one], Or.inr ⟨g, cap, _, rfl, hb, setRow_heap w g cur _ 5 _ hg, hroom, hcm, ?_, ?_⟩⟩
      · simp only [List.size_toArray, List.length_append, List.length_take, List.length_drop, Array.length_toList, byl_len, List.length_replicate]
        omega
      · rw [Nat.mul_one] at htake
        rw [htake, ← byl_app, Nat.mul_one]
        exact List.take_left' (by rw [byl_len, hl2])
    · exact ⟨rfl, rfl, rfl, by simp, fun k _ hk => setRow_other w g k _ (fun e => hk (by rw [e]))⟩
    · simp [Builtin.append_, run_underlying Try.underlying47, run_underlying Try.underlying3, sizeOf, typeInfo, zeroValue, hi, z0, asInt, asIntOf, hw, hneg, h48i, hroom, z1, hns, hk0, zeroCells_u8, Addr.add_mid, hst]
  · have hold := run_firstCells_some (P := Try.prog) w.drew i.size l.length ⟨g, 0, none⟩ l.length cap (Lib.byteCells l) (by rw [byl_len, z1, Nat.mul_one]) (by
      intro j v hv
      exact h.cells (g := g) rfl j v hv)
    have hge := grownCap_ge w (l.length + k) cap 5
    have hcm := grownCap_le_maxLen w (l.length + k) cap 5 (by unfold maxLen; omega)
    have hr := Lib.run_append_grow_zeros (P := Try.prog) w 47 3 t 5 i (.int .u8 0) .i64 .i64 Try.underlying47 Try.underlying3 hi z0 (some ⟨g, 0, none⟩) l.length cap (Lib.byteCells l) hold k h0 (by rw [z1]; omega) (by omega) (by omega) (by rw [z2]; omega) (growslice_fits (by omega) (by rw [z2]; omega))
    refine ⟨_, _, hr, ?_, ⟨rfl, rfl, rfl, by simp, fun k hk _ => heap_alloc_old w.drew _ k hk⟩⟩
    show World.ownsRow _ _ _ _ _ (l ++ List.replicate k (0 : UInt8)).length _
    rw [hl2]
    refine ⟨by rw [byl_len, hl2, Nat.mul_one], Or.inr ⟨w.heap.size, _, _, rfl, hbase, heap_alloc_new w.drew _, hge, hcm, ?_, ?_⟩⟩
    · simp only [Array.size_append, List.size_toArray, size_zeroCells, byl_len, Value.cells]
      simp
      omega
    · simp only [Array.toList_append, List.append_assoc, zeroCells_u8]
      rw [← List.append_assoc, ← byl_app, Nat.mul_one]
      exact List.take_left' (by rw [byl_len, hl2])
/-- bytes behind one's own -/
theorem own_cat {w : World} {base : Nat} {v y : Value} {l m : By} {F : Nat → Prop} (h : OwnB w base v l) (hy : BysF w F y m) (hb : base ≤ w.heap.size) (hl : l.length + m.length ≤ 1000000) (t : TypeId) :
    ∃ v' w', (Builtin.append_ #[47, 47] t #[v, y]).run Try.prog w = .ok v' w' ∧ OwnB w' base v' (l ++ m) ∧ w.grownBy w' v.ownBlock ∧ (v'.ownBlock = v.ownBlock ∨ v'.ownBlock = some w.heap.size) := by
  obtain ⟨v', w', hr, ho, hg, hn⟩ := run_appF w 47 t 5 (.int .u8 0) 1 1 par_u8 Try.underlying47 rfl (by decide) (by decide) base v l.length (Lib.byteCells l) h y F m.length (Lib.byteCells m) hy (by rw [byl_len, Nat.mul_one]) (fun u hu => by
    unfold Lib.byteCells at hu
    obtain ⟨c, _, rfl⟩ := List.mem_map.1 hu
    rfl) (by omega) hb
  refine ⟨v', w', hr, ?_, hg, hn⟩
  unfold OwnB
  rw [List.length_append, byl_app]
  exact ho
theorem wl_appX {ops : Array Oper} {rest : List Oper} {a : Act} {w w' : World} {Q : Exit → Act → World → Prop} {dst : Tmp} {s x : Operand} {t t2 typ : TypeId} {pos : String} {after : Array Edge} (v u v' : Value)
    (hs : a.eval s = v) (hx : a.eval x = u) (hr : (Builtin.append_ #[t, t2] typ #[v, u]).run Try.prog w = .ok v' w') (hK : wpList Try.prog ops Q rest (a.put (some dst) v') w') :
    wpList Try.prog ops Q (⟨some dst, .call { callee := .builtin .append, args := #[s, x], argTypes := #[t, t2] }, typ, pos, after, none⟩ :: rest) a w := by
  refine wpList_plain rfl fun K hK' => ?_
  unfold Oper.wp execOp
  simp only [resolve, invoke, builtin, Sem.run_bind, Sem.run_pure, Result.andThen_ok, List.map_toArray, List.map_cons, List.map_nil, hs, hx, hr]
  exact hK' _ _ hK
theorem own_gr {w w' : World} {base : Nat} {v : Value} {l : By} (h : OwnB w base v l) {row : Option Nat} (hg : w.grownBy w' row) (hne : ∀ k, v.ownBlock = some k → row ≠ some k) : OwnB w' base v l :=
  own_keep h (fun g cs e hgg => (((Frq.refl (fun k => row = some k) w).grown hg (fun k e => .inl e)).block g (lt_of_heap hgg) (hne g e)).trans hgg)
end Go.Proofs.Ytjdfdihopgceoaa.Cd
