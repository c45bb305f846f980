/- What the walks over disks lean on: frames, bytes in memory, append and conversion of bytes. -/
import Derived.RangeFuncNested
import Derived.RangeFuncBound
import Derived.RangeFuncCalls
import Derived.RangeFuncLeaves
import Derived.Shelf.Abstract
import Derived.Shelf.RegionOpen
import Derived.WalkKit
import Derived.OwnWalkIn
import Derived.TacticsInMore
import Derived.LoopNIn
import Derived.LoopIn
import Derived.Laws.EntriesVeiled
import Derived.Laws.OwnMore
import Derived.Laws.CopyOwn
import Derived.Laws.MakeOwn
import Derived.Laws.BytesArg
import Derived.Laws.BytesString
import Derived.Maps.AppendAt
import Derived.Maps.OwnSet
import Derived.Maps.OwnIn
import Derived.Outline
import Derived.KernelRfl
import Derived.Deep.QuietTactic
import Derived.Deep.RegionHeld
import Derived.BigQuiet
import Derived.BigRegion
import Derived.RegionTactic
import Derived.StillTailTactics
import Derived.Laws.Rows
import Derived.Deep.MidRow
import Derived.Lib.Hide
import Derived.Deep.Light
import Derived.WalkSmall
import Derived.IntWalk
import Derived.Test.YtabahkeologbmaaShaLaws2
import Derived.Test.YtabahkeologbmaaDkPure
import Derived.Test.YtabahkeologbmaaDkShelf
namespace Go.Proofs.Ytabahkeologbmaa.Dk
open Go.RowKit Go.Shelf Go.Dk Go.Sha
open Go.Maps (Keyed)

def tx (t : By) : ByteArray := ⟨t.toArray⟩
abbrev str (t : By) : Value := .string (tx t)
/-- all but some blocks is kept -/
structure Frq (G : Nat → Prop) (w w' : World) : Prop where
  os : w'.os = w.os
  tape : w'.tape = w.tape
  output : w'.output = w.output
  size : w.heap.size ≤ w'.heap.size
  block : ∀ k, k < w.heap.size → ¬ G k → w'.heap[k]? = w.heap[k]?
theorem Frq.refl (G : Nat → Prop) (w : World) : Frq G w w := ⟨rfl, rfl, rfl, Nat.le_refl _, fun _ _ _ => rfl⟩
theorem Frq.trans {G : Nat → Prop} {a b c : World} (h : Frq G a b) (k : Frq G b c) : Frq G a c :=
  ⟨k.os.trans h.os, k.tape.trans h.tape, k.output.trans h.output, Nat.le_trans h.size k.size, fun i hi hg => (k.block i (Nat.lt_of_lt_of_le hi h.size) hg).trans (h.block i hi hg)⟩
theorem Frq.trans' {G : Nat → Prop} {n : Nat} {a b c : World} (h : Frq G a b) (k : Frq (fun x => G x ∨ n ≤ x) b c) (hn : a.heap.size ≤ n) : Frq G a c :=
  ⟨k.os.trans h.os, k.tape.trans h.tape, k.output.trans h.output, Nat.le_trans h.size k.size, fun i hi hg => (k.block i (Nat.lt_of_lt_of_le hi h.size) (fun e => e.elim hg (fun e => by omega))).trans (h.block i hi hg)⟩
theorem Frq.mono {G G' : Nat → Prop} {a b : World} (h : Frq G a b) (hG : ∀ k, G k → G' k) : Frq G' a b := ⟨h.os, h.tape, h.output, h.size, fun k hk hg => h.block k hk fun e => hg (hG k e)⟩
theorem Frq.drew {G : Nat → Prop} {a b : World} (h : Frq G a b) : Frq G a b.drew := ⟨h.os, h.tape, h.output, h.size, h.block⟩
theorem Frq.drewN {G : Nat → Prop} {a b : World} (h : Frq G a b) (n : Nat) : Frq G a (b.drewN n) := ⟨h.os, h.tape, h.output, h.size, h.block⟩
theorem Frq.grown {G : Nat → Prop} {a b c : World} {row : Option Nat} (h : Frq G a b) (hg : b.grownBy c row) (hr : ∀ k, row = some k → G k ∨ a.heap.size ≤ k) : Frq G a c :=
  ⟨hg.os.trans h.os, hg.tape.trans h.tape, hg.output.trans h.output, Nat.le_trans h.size hg.size, fun k hk hG => (hg.block k (Nat.lt_of_lt_of_le hk h.size) (fun e => by
    rcases hr k e.symm with h1 | h1
    · exact hG h1
    · omega)).trans (h.block k hk hG)⟩
theorem Frq.alloc {G : Nat → Prop} {a b : World} (h : Frq G a b) (o : Obj) : Frq G a (b.alloc o) := h.grown (World.grownBy_alloc b o none) (fun _ e => by cases e)
theorem Frq.setCell {G : Nat → Prop} {a b : World} (h : Frq G a b) {p : Addr} (hp : G p.block ∨ a.heap.size ≤ p.block) (u : Value) : Frq G a (b.setCell p u) :=
  ⟨h.os, h.tape, h.output, Nat.le_trans h.size (by simp), fun k hk hg => (Below.heap_setCell b p u k fun e => by
    subst e; exact hp.elim hg (fun e => by omega)).trans (h.block k hk hg)⟩
theorem Frq.setRow {G : Nat → Prop} {a b : World} (h : Frq G a b) {g : Nat} (hp : G g ∨ a.heap.size ≤ g) (cs : Array Value) : Frq G a (b.setRow g cs) :=
  ⟨h.os, h.tape, h.output, Nat.le_trans h.size (by simp), fun k hk hg => (setRow_other b g k cs (fun e => by
    subst e; exact hp.elim hg (fun e => by omega))).trans (h.block k hk hg)⟩
theorem Frq.below {G : Nat → Prop} {B : Nat} {a b : World} (h : Frq G a b) (hB : B ≤ a.heap.size) (hG : ∀ k, G k → B ≤ k) : Below B a b :=
  ⟨h.os, h.tape, h.output, h.size, fun k hk => h.block k (by omega) fun e => by have := hG k e; omega⟩
theorem Frq.ofBelow {G : Nat → Prop} {a b : World} (h : Below a.heap.size a b) : Frq G a b := ⟨h.os, h.tape, h.output, h.size, fun k hk _ => h.block k hk⟩
theorem frq_own {β : Type} {G : Nat → Prop} {B : Nat} {w0 : World} (hB : w0.heap.size ≤ B) : OwnFrom B (fun (_ : β) W => Frq G w0 W) :=
  fun _ _ _ _ hs hg hr => hs.grown hg (fun k e => .inr (Nat.le_trans hB (hr k e).1))
/-- what a round that goes on keeps: all but some blocks -/
def KpX (X : Nat → Prop) (n0 : Nat) (W W' : World) : Prop := W.heap.size ≤ W'.heap.size ∧ ∀ b o, ¬ X b → W.heap[b]? = some o → (o.isCells = true ∨ b < n0) → W'.heap[b]? = some o
theorem kpX_t {X : Nat → Prop} {n0 : Nat} {A B C : World} (h : KpX X n0 A B) (k : KpX X n0 B C) : KpX X n0 A C :=
  ⟨Nat.le_trans h.1 k.1, fun b o hx hb ho => k.2 b o hx (h.2 b o hx hb ho) ho⟩
theorem kpX_b {X : Nat → Prop} {w : World} {n0 : Nat} (hn : n0 ≤ w.heap.size) (W : World) (l : Nat) (o o' : Obj) (hl : w.heap.size ≤ l) (hW : W.heap[l]? = some o) (h1 : o.isCells = false) (_ : o.isWalk = false) : KpX X n0 W (W.putObj l o') :=
  ⟨by simp, fun b ob _ hb hc => by
    by_cases e : b = l
    · subst e; rw [hW] at hb; obtain rfl := Option.some.inj hb
      rcases hc with h | h
      · rw [h1] at h; cases h
      · omega
    · exact (World.putObj_heap_other e).trans hb⟩
theorem kpX_frq {X : Nat → Prop} {n0 : Nat} {W W' : World} (h : Frq X W W') : KpX X n0 W W' :=
  ⟨h.size, fun b o hx hb _ => (h.block b (Array.getElem?_eq_some_iff.1 hb).1 hx).trans hb⟩
theorem KpX.cells {X : Nat → Prop} {n0 : Nat} {W W' : World} (h : KpX X n0 W W') {b : Nat} {cs : Array Value} {t : TypeId} {fr : Nat × Nat} (hx : ¬ X b) (hb : W.heap[b]? = some (.cells cs t fr)) : W'.heap[b]? = some (.cells cs t fr) := h.2 b _ hx hb (.inl rfl)
theorem kpX_of {X : Nat → Prop} {n0 : Nat} {W W' : World} (hs : W.heap.size ≤ W'.heap.size) (h : ∀ b, ¬ X b → b < W.heap.size → W'.heap[b]? = W.heap[b]?) : KpX X n0 W W' :=
  ⟨hs, fun b o hx hb _ => (h b hx (Array.getElem?_eq_some_iff.1 hb).1).trans hb⟩
theorem lt_of_heap {w : World} {g : Nat} {o : Obj} (h : w.heap[g]? = some o) : g < w.heap.size := (Array.getElem?_eq_some_iff.1 h).1
theorem cell_of_arr {W : World} {g : Nat} {A : Array Value} {ty : TypeId} (h : W.heap[g]? = some (.cells A ty (0, 0))) (i : Nat) : W.cell? ⟨g, i, none⟩ = A[i]? := by simp [World.cell?, h]
theorem froz_of_arr {W : World} {g : Nat} {A : Array Value} {ty : TypeId} (h : W.heap[g]? = some (.cells A ty (0, 0))) (i : Nat) : W.frozen? ⟨g, i, none⟩ = false := by simp [World.frozen?, h]
theorem set_heap {w : World} {g : Nat} {cs : Array Value} {T : TypeId} (h : w.heap[g]? = some (.cells cs T (0, 0))) (i : Nat) (v : Value) : (w.setCell ⟨g, i, none⟩ v).heap[g]? = some (.cells (cs.setIfInBounds i v) T (0, 0)) := by
  simp [World.setCell, Array.getElem?_modify, h]
theorem cells_kept {W W' : World} {row : Option Nat} {B b : Nat} {cs : Array Value} {t : TypeId} {fr : Nat × Nat} (h : W.heap[b]? = some (.cells cs t fr)) (hg : W.grownBy W' row) (hr : ∀ r, row = some r → B ≤ r ∧ ∃ o : Obj, W.heap[r]? = some o ∧ o.isCells = false) : W'.heap[b]? = some (.cells cs t fr) :=
  (hg.block b (lt_of_heap h) (fun e => by obtain ⟨_, o, ho, hc⟩ := hr b e.symm; rw [h] at ho; cases ho; cases hc)).trans h
/-- a row in memory, in a block that meets F -/
def RowF (w : World) (F : Nat → Prop) (v : Value) (n : Nat) (xs : List Value) : Prop :=
  ∃ p cap, v = .slice p n cap ∧ n ≤ cap ∧ (0 < n → ∃ b o, p = some ⟨b, o, none⟩ ∧ F b ∧ ∀ j u, xs[j]? = some u → w.cell? ⟨b, o + j, none⟩ = some u)
def Kp (F F' : Nat → Prop) (w w' : World) : Prop := ∀ b, F b → F' b ∧ w'.heap[b]? = w.heap[b]?
theorem RowF.kept {w w' : World} {F F' : Nat → Prop} {v : Value} {n : Nat} {xs : List Value} (h : RowF w F v n xs) (hk : Kp F F' w w') : RowF w' F' v n xs := by
  obtain ⟨p, cap, h1, h2, h3⟩ := h
  refine ⟨p, cap, h1, h2, fun h0 => ?_⟩
  obtain ⟨b, o, e1, e2, e3⟩ := h3 h0
  exact ⟨b, o, e1, (hk b e2).1, fun j u hu => (World.cell?_of_block (a := ⟨b, o + j, none⟩) (hk b e2).2).trans (e3 j u hu)⟩
abbrev BysF (w : World) (F : Nat → Prop) (v : Value) (l : By) : Prop := RowF w F v l.length (Lib.byteCells l)
theorem row_own {w : World} {B : Nat} {F : Nat → Prop} {e : TypeId} {size n : Nat} {v : Value} {xs : List Value} (h : w.ownsRow B e size v n xs) (hF : ∀ b, v.ownBlock = some b → F b) : RowF w F v n xs := by
  obtain ⟨h1, ⟨rfl, rfl⟩ | ⟨g, cap, cur, rfl, hb, hg, hn, hm, hs, ht⟩⟩ := h
  · exact ⟨none, 0, rfl, Nat.le_refl _, fun h => absurd h (by omega)⟩
  · refine ⟨some ⟨g, 0, none⟩, cap, rfl, hn, fun _ => ⟨g, 0, rfl, hF g rfl, fun j u hu => ?_⟩⟩
    have hw : w.ownsRow B e size (.slice (some ⟨g, 0, none⟩) n cap) n xs := ⟨h1, Or.inr ⟨g, cap, cur, rfl, hb, hg, hn, hm, hs, ht⟩⟩
    have := hw.cells (g := g) rfl j u hu
    rw [Addr.add_mid] at this; exact this
theorem own_slice {w : World} {B : Nat} {e : TypeId} {size n : Nat} {v : Value} {xs : List Value} (h : w.ownsRow B e size v n xs) : ∃ p cap, v = .slice p n cap := by
  rcases h.2 with ⟨rfl, rfl⟩ | ⟨g, cap, cur, rfl, _⟩
  · exact ⟨_, _, rfl⟩
  · exact ⟨_, _, rfl⟩
theorem own_not {w : World} {B g : Nat} {e T : TypeId} {size n : Nat} {v : Value} {xs : List Value} {cs : Array Value} {fr : Nat × Nat} (h : w.ownsRow B e size v n xs) (hg : w.heap[g]? = some (.cells cs T fr)) (hT : T ≠ e) : some g ≠ v.ownBlock := by
  rcases h.2 with ⟨rfl, _⟩ | ⟨b, cap, cur, rfl, _, h3, _⟩
  · simp [Value.ownBlock]
  · simp only [Value.ownBlock, ne_eq, Option.some.injEq]
    rintro rfl
    rw [h3] at hg; simp only [Option.some.injEq, Obj.cells.injEq] at hg; exact hT hg.2.1.symm
theorem own_keep {w w' : World} {B : Nat} {e : TypeId} {size n : Nat} {v : Value} {xs : List Value} (h : w.ownsRow B e size v n xs) (hk : ∀ g cs, v.ownBlock = some g → w.heap[g]? = some (.cells cs e (0, 0)) → w'.heap[g]? = some (.cells cs e (0, 0))) : w'.ownsRow B e size v n xs := by
  obtain ⟨h1, h2⟩ := h
  refine ⟨h1, h2.imp id ?_⟩
  rintro ⟨b, cap, cur, rfl, e2, e3, e4⟩
  exact ⟨b, cap, cur, rfl, e2, hk b cur rfl e3, e4⟩
theorem own_cells {w : World} {B : Nat} {e : TypeId} {size n : Nat} {v : Value} {xs : List Value} (h : w.ownsRow B e size v n xs) {g : Nat} (hg : v.ownBlock = some g) : ∃ cs, w.heap[g]? = some (.cells cs e (0, 0)) := by
  rcases h.2 with ⟨rfl, _⟩ | ⟨b, cap, cur, rfl, h2, h3, _⟩
  · simp [Value.ownBlock] at hg
  · simp only [Value.ownBlock, Option.some.injEq] at hg; subst hg; exact ⟨cur, h3⟩
theorem own_lt {w : World} {B : Nat} {e : TypeId} {size n : Nat} {v : Value} {xs : List Value} (h : w.ownsRow B e size v n xs) {g : Nat} (hg : v.ownBlock = some g) : B ≤ g ∧ g < w.heap.size := by
  rcases h.2 with ⟨rfl, _⟩ | ⟨b, cap, cur, rfl, h2, h3, _⟩
  · simp [Value.ownBlock] at hg
  · simp only [Value.ownBlock, Option.some.injEq] at hg; subst hg; exact ⟨h2, lt_of_heap h3⟩
theorem par_u8 : (Try.prog.info? 5).map (fun i => (i.zero, i.size, i.bytes)) = some (some (.int .u8 0), 1, 1) := by kernel_rfl
theorem run_append_none (w : World) (base : Nat) (t ty e : TypeId) (i : TypeInfo) (size c : Nat) (ht : Try.prog.underlying t = some (.slice e)) (hi : Try.prog.info? e = some i)
    (v : Value) (n : Nat) (xs : List Value) (hown : w.ownsRow base e size v n xs) :
    (Builtin.append_ #[t, t] ty #[v, .slice none 0 c]).run Try.prog w = .ok v w := by
  rcases hown.2 with ⟨rfl, rfl⟩ | ⟨g, cap, cur, rfl, _, _, hnc, _⟩
  · simp [Builtin.append_, run_underlying ht, sizeOf, typeInfo, hi, Builtin.lenOf, Builtin.firstCells]
  · simp [Builtin.append_, run_underlying ht, sizeOf, typeInfo, hi, Builtin.lenOf, Builtin.firstCells, hnc, storeCells]
theorem run_appF (w : World) (t ty e : TypeId) (z : Value) (size bytes : Nat) (hpar : (Try.prog.info? e).map (fun i => (i.zero, i.size, i.bytes)) = some (some z, size, bytes)) (ht : Try.prog.underlying t = some (.slice e)) (hzs : z.cells.size = size) (hsz : 0 < size) (hby : bytes ≤ 100)
    (base : Nat) (v : Value) (n : Nat) (xs : List Value) (hown : w.ownsRow base e size v n xs) (u : Value) (F : Nat → Prop) (m : Nat) (news : List Value) (hsrc : RowF w F u m news) (hl : news.length = m * size) (h1 : ∀ u ∈ news, u.oneCell' = true) (hn : n + m ≤ 1000000000) (hbase : base ≤ w.heap.size) :
    ∃ v' w', (Builtin.append_ #[t, t] ty #[v, u]).run Try.prog w = .ok v' w' ∧ w'.ownsRow base e size v' (n + m) (xs ++ news) ∧ w.grownBy w' v.ownBlock ∧ (v'.ownBlock = v.ownBlock ∨ v'.ownBlock = some w.heap.size) := by
  obtain ⟨i0, hi0, hz0, hz1, hz2⟩ := info_parts hpar
  obtain ⟨p, cap, rfl, _, hp⟩ := hsrc
  have go : ∀ (ad : Addr), (∀ j u, news[j]? = some u → w.cell? (ad.add j) = some u) →
      ∃ v' w', (Builtin.append_ #[t, t] ty #[v, .slice (some ad) m cap]).run Try.prog w = .ok v' w' ∧ w'.ownsRow base e size v' (n + m) (xs ++ news) ∧ w.grownBy w' v.ownBlock ∧ (v'.ownBlock = v.ownBlock ∨ v'.ownBlock = some w.heap.size) := by
    intro ad h
    obtain ⟨v', w', hr, h2, h3, _, h5⟩ := run_append_own_at (P := Try.prog) w base t ty e i0 z size bytes ht hi0 hz0 hz1 hz2 hzs hsz v n xs hown ad m cap news hl h h1 (by unfold maxLen; omega) (by
      have := Nat.mul_le_mul hn hby
      omega) hbase
    exact ⟨v', w', hr, h2, h3, h5⟩
  by_cases h0 : 0 < m
  · obtain ⟨b, o, rfl, _, hc⟩ := hp h0
    exact go ⟨b, o, none⟩ (fun j u hu => by rw [Addr.add_mid]; exact hc j u hu)
  · obtain rfl : m = 0 := by omega
    obtain rfl : news = [] := List.eq_nil_of_length_eq_zero (by omega)
    cases p with
    | some ad => exact go ad (fun j u hu => by simp at hu)
    | none =>
      refine ⟨v, w, run_append_none w base t ty e i0 size cap ht hi0 v n xs hown, ?_, ⟨rfl, rfl, rfl, Nat.le_refl _, fun _ _ _ => rfl⟩, Or.inl rfl⟩
      rw [List.append_nil]; exact hown
/-- bytes in memory as a text -/
theorem bys_str {w : World} {F : Nat → Prop} {v : Value} {l : By} (h : BysF w F v l) : (convert 40 9 v).run Try.prog w = .ok (str l) w := by
  obtain ⟨p, cap, rfl, hc, hp⟩ := h
  by_cases h0 : 0 < l.length
  · obtain ⟨b, o, rfl, _, e3⟩ := hp h0
    have hcc : ∀ i, i < l.length → w.cell? ⟨b, o + i, none⟩ = some (.int .u8 ((l.map fun (c : UInt8) => ((c.toNat : Nat) : Int)).getD i 0)) := fun i hi => by
      rw [e3 i (.int .u8 (((l[i]).toNat : Nat) : Int)) (by simp [Lib.byteCells, hi]), List.getD_eq_getElem?_getD, List.getElem?_map, List.getElem?_eq_getElem hi]
      rfl
    have := run_convert_bytes_arg (P := Try.prog) w 40 5 Try.underlying40 Try.underlying5 b o l.length cap (l.map fun (c : UInt8) => ((c.toNat : Nat) : Int)) (by simp) hcc 9 Try.underlying9
    rw [this]
    have e : strOfNums (l.map fun (c : UInt8) => ((c.toNat : Nat) : Int)) = tx l := by simp [strOfNums, tx, Function.comp_def]
    rw [e]
  · obtain rfl : l = [] := List.eq_nil_of_length_eq_zero (by omega)
    show (convert 40 9 (.slice p 0 cap)).run Try.prog w = _
    rw [run_convert_bytes_string w 40 9 5 p 0 cap Try.underlying40 Try.underlying5 Try.underlying9]
    cases p <;> simp [Conv.bytesToString] <;> rfl
/-- where a walk is to stand still -/
def Stp (p : Prop) : Prop := p
theorem stp {p : Prop} (h : Stp p) : p := h
end Go.Proofs.Ytabahkeologbmaa.Dk
