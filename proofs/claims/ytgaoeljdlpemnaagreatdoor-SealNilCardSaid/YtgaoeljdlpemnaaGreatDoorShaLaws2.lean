/- More small laws of the walk, of whatever program: a copy into a row; 'nothing but one block has turned'. -/
import Derived.Test.YtgaoeljdlpemnaaGreatDoorShaPure2
import Derived.OwnWalk
import Derived.Deep.AppendLies
import Derived.Test.YtgaoeljdlpemnaaGreatDoorShaW1
import Derived.Laws.CopyOwn
import Derived.RegionTactic
import Derived.Laws.CopyRow
/- Contracts of (*sha.Hash).waiting, sha.digestOf, sha.New, over the translated program. -/
namespace Go.Proofs.YtgaoeljdlpemnaaGreatDoor.Hs
open Go.RowKit Go.Sha

@[local go_sem high, local simp high] theorem z25 (w : World) : (zeroValue 62).run Tryz.prog w = .ok (.agg (bv (zl 32))) w := by kernel_rfl
theorem info25 : (Tryz.prog.info? 62).map (·.size) = some 32 := by kernel_rfl

theorem waiting_any (g : Nat) (m r : List Nat) (c : Nat) (t : TypeId) (fr : Nat × Nat) (w : World) (hm : m.length = 8) (hr : r.length = 64) (hc : c < 1152921504606846976)
    (hg : w.heap[g]? = some (.cells (hv m r c) t fr)) :
    Calls Tryz.prog 53 #[.pointer (some ⟨g, 0, none⟩)] w fun e w' => e = .returned (.int .i64 ((c % 64 : Nat) : Int)) ∧ w = w' := by
  have c0 : w.cell? ⟨g, 72, none⟩ = some (.int .u64 (c : Int)) := (cell_of_row _ _ _ _ _ _ hg).trans (hv_count c hm hr)
  clear hg hm hr
  go_enter Tryz.func53, Tryz.ntmps53
  go_wp2
  go_ret
  exact ⟨ret_int (by simp), rfl⟩

set_option maxRecDepth 100000 in
set_option maxHeartbeats 800000 in
theorem digest_any (m : List Nat) (w : World) (hm : m.length = 8) (hm1 : Lt M m) :
    Calls Tryz.prog 56 #[.agg (wv m)] w fun e w' => e = .returned (.agg (bv (dig m))) ∧ Below w.heap.size w w' := by
  have HM := Lib.hid hm; clear hm
  have HM1 := Lib.hid hm1; clear hm1
  go_enter Tryz.func56, Tryz.ntmps56
  go_wp2
  go_loopw [4, 5] (fun _ i wr => ∃ k n : Nat, k ≤ 32 ∧ i = .int .i64 k ∧ wr = (((w.alloc (.cells (wv m) 121)).alloc (.cells (bv (zl 32)) 62)).alloc (.cells (bv (digTo m k)) 62)).drewN n) (fun _ i _ => 32 - (intOf i).toNat)
  case atStart => exact ⟨0, 0, Nat.zero_le _, rfl, by rw [digTo_zero]; rfl⟩
  case round =>
    obtain ⟨k, n, hk, rfl, rfl⟩ := hrel
    by_cases hlt : k < 32
    · have g0 := wv_get m (k / 4) (by rw [HM.out]; omega)
      have gk := bv_get (digTo m k) k (by rw [digTo_len]; omega)
      have h8 : 8 * (k % 4) ≤ 24 := by omega
      go_wp2
      go_roundw
      case rel =>
        go_light
        refine ⟨k + 1, n, by omega, by go_num, ?_⟩
        rw [setCell_drewN, World.setCell_alloc_at _ _ _ _ _ (by simp), dig_walk m k, bv_set, ← digTo_succ]
      case measure => simp [intOf]; omega
    · have HK := Lib.hid (show k = 32 by omega)
      go_wp2_with (first
        | ((with_reducible refine wl_load (dst := 21) (w.heap.size + 1 + 1) 62 (bv (digTo m k)) (0, 0) 32 5 Tryz.underlying62 ?_ ?_ ?_ ?_); (· rfl); (· exact heap_last _ _ _ (by simp)); (· rw [bv_size, digTo_len]; exact info25))
        | ((with_reducible refine wl_store (ty := 62) (w.heap.size + 1) 62 (bv (zl 32)) (bv (digTo m k)) ?_ ?_ ?_ ?_ ?_ ?_ ?_); (· rfl); (· rfl); (· exact (heap_prev _ _ _ (by simp)).trans (heap_last _ _ _ (by simp))); (· rw [bv_size, digTo_len]; exact info25); (· rw [bv_size, bv_size, digTo_len, zl_len]); (· exact bv_one _)))
      rw [setRow_drewN, setRow_alloc_past _ _ _ _ (by simp), setRow_alloc_at _ _ _ _ _ (by simp)]
      refine ret_row Tryz.results56 (w.heap.size + 1) 62 (bv (digTo m k)) (0, 0) 32 5 Tryz.underlying62 rfl ?_ ?_ rfl ⟨by rw [HK.out, dig], ?_⟩
      · exact (heap_prev _ _ _ (by simp)).trans (heap_last _ _ _ (by simp))
      · rw [bv_size, digTo_len]; exact info25
      · exact below_drewN ((((Below.refl _ _).alloc (Nat.le_refl _) _).alloc (by simp) _).alloc (by simp; omega) _) _

set_option maxRecDepth 100000 in
theorem new_any (w : World) (hG : Gl w) :
    Calls Tryz.prog 52 #[] w fun e w' => e = .returned (.pointer (some ⟨w.heap.size, 0, none⟩)) ∧ w' = w.alloc (.cells (hv BEG (zl 64) 0) 123) := by
  obtain ⟨⟨t, f, hb⟩, _⟩ := hG
  have HB := Lib.hid hb; clear hb
  go_enter Tryz.func52, Tryz.ntmps52
  go_wp2_with (first
    | ((with_reducible refine wl_load (dst := 1) 0 t (wv BEG) f 8 28 Tryz.underlying121 ?_ ?_ ?_ ?_); (· rfl); (· exact HB.out); (· rw [wv_size, BEG_len]; exact info42))
    | ((with_reducible refine wl_build (dst := 2) (hv BEG (zl 64) 0) ?_ ?_); (· kernel_rfl)))
  go_ret
  exact ⟨rfl, rfl⟩
end Go.Proofs.YtgaoeljdlpemnaaGreatDoor.Hs
/- Bytes written to a hash, one by one and in pieces; the cells of a hash. No program is spoken of here. -/
namespace Go.Sha
open Go.RowKit

/-- a hash -/
structure HS where
  m : List Nat
  r : List Nat
  c : Nat
def HS.cells (s : HS) : Array Value := hv s.m s.r s.c
structure HS.Ok (s : HS) : Prop where
  m8 : s.m.length = 8
  m1 : Lt M s.m
  r64 : s.r.length = 64
  r1 : Lt 256 s.r
def putB (s : HS) (x : Nat) : HS := ⟨if (s.c + 1) % 64 = 0 then mixL s.m (s.r.set (s.c % 64) x) else s.m, s.r.set (s.c % 64) x, s.c + 1⟩
theorem putB_ok {s : HS} (h : s.Ok) {x : Nat} (hx : x < 256) : (putB s x).Ok := by
  refine ⟨?_, ?_, by simp [putB, h.r64], h.r1.set _ _ hx⟩
  · unfold putB; dsimp only; split
    · exact mixL_len _ h.m8
    · exact h.m8
  · unfold putB; dsimp only; split
    · exact mixL_lt _ h.m1
    · exact h.m1
def putL (s : HS) (l : List Nat) : HS := l.foldl putB s
theorem putL_nil (s : HS) : putL s [] = s := rfl
theorem putL_append (s : HS) (l k : List Nat) : putL s (l ++ k) = putL (putL s l) k := by simp [putL, List.foldl_append]
theorem putL_ok {l : List Nat} : ∀ {s : HS}, s.Ok → Lt 256 l → (putL s l).Ok := by
  induction l with
  | nil => intro s h _; exact h
  | cons x l ih => intro s h hl; exact ih (putB_ok h (hl x (by simp))) (fun y hy => hl y (by simp [hy]))
theorem putL_c (l : List Nat) : ∀ s : HS, (putL s l).c = s.c + l.length := by
  induction l with
  | nil => intro s; rfl
  | cons x l ih => intro s; show (putL (putB s x) l).c = _; rw [ih]; simp [putB]; omega
/-- bytes laid over a row from a place on -/
def lay (r : List Nat) (q : Nat) (l : List Nat) : List Nat := r.take q ++ l ++ r.drop (q + l.length)
theorem lay_len {r l : List Nat} {q : Nat} (h : q + l.length ≤ r.length) : (lay r q l).length = r.length := by simp [lay]; omega
theorem lay_lt {r l : List Nat} {q n : Nat} (hr : Lt n r) (hl : Lt n l) : Lt n (lay r q l) := by
  intro x hx
  simp only [lay, List.mem_append] at hx
  rcases hx with (hx | hx) | hx
  · exact hr x (List.mem_of_mem_take hx)
  · exact hl x hx
  · exact hr x (List.mem_of_mem_drop hx)
theorem lay_cons {r : List Nat} {q x : Nat} {l : List Nat} (h : q + (l.length + 1) ≤ r.length) : lay (r.set q x) (q + 1) l = lay r q (x :: l) := by
  unfold lay
  apply List.ext_getElem?
  intro j
  simp only [List.getElem?_append, List.length_append, List.length_take, List.length_set, List.getElem?_take, List.getElem?_drop, List.getElem?_set, List.length_cons]
  have e1 : min (q + 1) r.length = q + 1 := by omega
  have e2 : min q r.length = q := by omega
  rw [e1, e2]
  by_cases h1 : j < q
  · simp [h1, show j < q + 1 by omega, show j < q + 1 + l.length by omega, show j < q + (l.length + 1) by omega, show ¬ q = j by omega]
  · by_cases h2 : j = q
    · subst h2
      simp [show j < r.length by omega]
      omega
    · have h3 : ¬ j < q + 1 := by omega
      by_cases h4 : j < q + 1 + l.length
      · simp [h1, h3, h4, show j < q + (l.length + 1) by omega, show j - q = (j - (q + 1)) + 1 by omega]
      · simp [h4, show ¬ j < q + (l.length + 1) by omega, show q + 1 + l.length + (j - (q + 1 + l.length)) = q + (l.length + 1) + (j - (q + (l.length + 1))) by omega, show ¬ q = q + (l.length + 1) + (j - (q + (l.length + 1))) by omega]
/-- A PIECE THAT FITS: bytes up to the row's end are laid over it; where it is full it is mixed in -/
theorem putL_piece (l : List Nat) : ∀ (s : HS), s.r.length = 64 → s.c % 64 + l.length ≤ 64 → 0 < l.length →
    putL s l = ⟨if (s.c + l.length) % 64 = 0 then mixL s.m (lay s.r (s.c % 64) l) else s.m, lay s.r (s.c % 64) l, s.c + l.length⟩ := by
  induction l with
  | nil => intro s _ _ h; simp at h
  | cons x l ih =>
    intro s hr hf _
    show putL (putB s x) l = _
    rcases Nat.eq_zero_or_pos l.length with h0 | h0
    · obtain rfl : l = [] := List.eq_nil_of_length_eq_zero h0
      have e : lay s.r (s.c % 64) [x] = s.r.set (s.c % 64) x := by
        rw [← lay_cons (by simp; omega)]; simp [lay]
      rw [e]; rfl
    · have hf' : s.c % 64 + (l.length + 1) ≤ 64 := hf
      have e1 : (s.c + 1) % 64 = s.c % 64 + 1 := by omega
      have hm : (putB s x).m = s.m := by unfold putB; dsimp only; rw [if_neg (by omega)]
      have hc : (putB s x).c = s.c + 1 := rfl
      have hrr : (putB s x).r = s.r.set (s.c % 64) x := rfl
      rw [ih (putB s x) (by rw [hrr]; simpa using hr) (by rw [hc]; omega) h0, hm, hc, hrr, e1, lay_cons (by omega)]
      have e2 : s.c + 1 + l.length = s.c + (x :: l).length := by simp; omega
      rw [e2]

/-! the cells of a hash -/
theorem hv_word {m r : List Nat} (c : Nat) (hm : m.length = 8) (i : Nat) (hi : i < 8) : (hv m r c)[i]? = some (.int .u32 (at0 m i : Nat)) := by
  rw [hv, Array.append_assoc, Array.getElem?_append_left (by rw [wv_size, hm]; exact hi), wv_get m i (by omega)]
theorem hv_byte {m r : List Nat} (c : Nat) (hm : m.length = 8) (hr : r.length = 64) (i : Nat) (hi : i < 64) : (hv m r c)[8 + i]? = some (.int .u8 (at0 r i : Nat)) := by
  rw [hv, Array.getElem?_append_left (by simp [wv_size, bv_size]; omega), Array.getElem?_append_right (by rw [wv_size]; omega), wv_size, hm, show 8 + i - 8 = i by omega, bv_get r i (by omega)]
theorem hv_setCount {m r : List Nat} (c x : Nat) (hm : m.length = 8) (hr : r.length = 64) : (hv m r c).setIfInBounds 72 (.int .u64 (x : Int)) = hv m r x := by
  apply Array.ext_getElem?
  intro j
  rw [Array.getElem?_setIfInBounds]
  by_cases h : 72 = j
  · subst h; rw [if_pos rfl, if_pos (by rw [hv_size c hm hr]; decide), hv_count x hm hr]
  · rw [if_neg h]
    unfold hv
    by_cases h2 : j < 72
    · rw [Array.getElem?_append_left (xs := wv m ++ bv r) (ys := #[Value.int .u64 (c : Int)]) (by simp [wv_size, bv_size]; omega), Array.getElem?_append_left (xs := wv m ++ bv r) (ys := #[Value.int .u64 (x : Int)]) (by simp [wv_size, bv_size]; omega)]
    · rw [Array.getElem?_eq_none (by simp [wv_size, bv_size]; omega), Array.getElem?_eq_none (by simp [wv_size, bv_size]; omega)]
/-- bytes as a list of cells -/
def bl (l : List Nat) : List Value := (bv l).toList
theorem bl_arr (l : List Nat) : (bl l).toArray = bv l := by simp [bl]
theorem bl_len (l : List Nat) : (bl l).length = l.length := by simp [bl, bv_size]
theorem bl_get (l : List Nat) (i : Nat) : (bl l)[i]? = (bv l)[i]? := by simp [bl]
theorem bl_lay (r l : List Nat) (q : Nat) : bl (lay r q l) = (bl r).take q ++ bl l ++ (bl r).drop (q + l.length) := by
  unfold bl bv lay; simp [List.map_take, List.map_drop]
theorem hv_lay {m r l : List Nat} (c q : Nat) (hm : m.length = 8) (hr : r.length = 64) (h : q + l.length ≤ 64) :
    ((hv m r c).toList.take (8 + q) ++ bl l ++ (hv m r c).toList.drop (8 + q + (bl l).length)).toArray = hv m (lay r q l) c := by
  have e : (hv m r c).toList = (wv m).toList ++ (bl r ++ [Value.int .u64 (c : Int)]) := by simp [hv, bl]
  have e2 : hv m (lay r q l) c = ((wv m).toList ++ (bl (lay r q l) ++ [Value.int .u64 (c : Int)])).toArray := by simp [hv, bl]
  have hw : (wv m).toList.length = 8 := by simp [wv_size, hm]
  rw [e, e2, bl_lay, bl_len, List.take_append, List.drop_append, hw, List.take_of_length_le (by omega), List.drop_of_length_le (by omega), show 8 + q - 8 = q by omega, show 8 + q + l.length - 8 = q + l.length by omega,
    List.take_append, List.drop_append, bl_len, hr, show q - 64 = 0 by omega, show q + l.length - 64 = 0 by omega]
  simp
theorem hv_words {m m' r : List Nat} (c : Nat) (hm : m.length = 8) (hm' : m'.length = 8) :
    ((hv m r c).toList.take 0 ++ (wv m').toList ++ (hv m r c).toList.drop (0 + (wv m').size)).toArray = hv m' r c := by
  have e : (hv m r c).toList = (wv m).toList ++ (bl r ++ [Value.int .u64 (c : Int)]) := by simp [hv, bl]
  have e2 : hv m' r c = ((wv m').toList ++ (bl r ++ [Value.int .u64 (c : Int)])).toArray := by simp [hv, bl]
  rw [e, e2, wv_size, hm', List.drop_append, List.drop_of_length_le (by simp [wv_size, hm])]
  simp [wv_size, hm]
theorem hv_wordsAt {m r : List Nat} (c : Nat) : ∀ j v, (wv m)[j]? = some v → (hv m r c)[0 + j]? = some v := by
  intro j v h
  have hj : j < (wv m).size := (Array.getElem?_eq_some_iff.1 h).1
  rw [Nat.zero_add, hv, Array.append_assoc, Array.getElem?_append_left hj, h]
theorem hv_bytesAt {m r : List Nat} (c : Nat) (hm : m.length = 8) : ∀ j v, (bv r)[j]? = some v → (hv m r c)[8 + j]? = some v := by
  intro j v h
  have hj : j < (bv r).size := (Array.getElem?_eq_some_iff.1 h).1
  rw [hv, Array.getElem?_append_left (by simp [wv_size, hm]; exact hj), Array.getElem?_append_right (by rw [wv_size]; omega), wv_size, hm, show 8 + j - 8 = j by omega, h]
attribute [irreducible] putL bl lay
end Go.Sha
namespace Go.Sha
open Go.RowKit
variable {P : Program}

theorem wl_copy {ops : Array Oper} {rest : List Oper} {a : Act} {w : World} {Q : Exit → Act → World → Prop} {dst : Tmp} {d s : Operand} {dT sT typ : TypeId} {pos : String} {after : Array Edge}
    (elem : TypeId) (hu : P.underlying dT = some (.slice elem)) (hsz : (P.info? elem).map (·.size) = some 1)
    (g off dLen dCap : Nat) (ad : Addr) (sLen sCap : Nat) (cur row : Array Value) (t : TypeId) (cs : List Value)
    (hd : a.eval d = .slice (some ⟨g, off, none⟩) dLen dCap) (hs : a.eval s = .slice (some ad) sLen sCap)
    (hg : w.heap[g]? = some (.cells cur t (0, 0))) (hn : cs.length = Nat.min sLen dLen)
    (hsrc : ∀ j v, cs[j]? = some v → w.cell? (ad.add j) = some v) (hfit : off + cs.length ≤ cur.size) (h1 : ∀ v ∈ cs, v.oneCell' = true)
    (hrow : (cur.toList.take off ++ cs ++ cur.toList.drop (off + cs.length)).toArray = row)
    (h : wpList P ops Q rest (a.put (some dst) (.int .i64 (cs.length : Int))) (w.setRow g row)) :
    wpList P ops Q (⟨some dst, .call { callee := .builtin .copy, args := #[d, s], argTypes := #[dT, sT] }, typ, pos, after, none⟩ :: rest) a w :=
  wpList_copy_own rfl d s dT sT rfl elem hu hsz g off dLen dCap ad sLen sCap hd hs cur t hg cs hn hsrc hfit h1 (by rw [← List.append_assoc, hrow]; exact h)

theorem grown_trans {a b c : World} {g : Nat} (h : a.grownBy b (some g)) (k : b.grownBy c (some g)) : a.grownBy c (some g) :=
  ⟨k.os.trans h.os, k.tape.trans h.tape, k.output.trans h.output, Nat.le_trans h.size k.size, fun i hi hne => (k.block i (Nat.lt_of_lt_of_le hi h.size) hne).trans (h.block i hi hne)⟩
theorem grown_drew {a b : World} {g : Option Nat} (h : a.grownBy b g) : a.grownBy b.drew g := ⟨h.os, h.tape, h.output, h.size, h.block⟩
theorem grown_drewN {a b : World} {g : Option Nat} (h : a.grownBy b g) (n : Nat) : a.grownBy (b.drewN n) g := ⟨h.os, h.tape, h.output, h.size, h.block⟩
theorem grown_setRow {a b : World} {g : Nat} (h : a.grownBy b (some g)) (cs : Array Value) : a.grownBy (b.setRow g cs) (some g) :=
  ⟨h.os, h.tape, h.output, by simpa using h.size, fun i hi hne => (setRow_other b g i cs (fun e => hne (by rw [e]))).trans (h.block i hi hne)⟩
theorem grown_setCell {a b : World} {g : Nat} (h : a.grownBy b (some g)) (o : Nat) (v : Value) : a.grownBy (b.setCell ⟨g, o, none⟩ v) (some g) :=
  ⟨h.os, h.tape, h.output, by simpa [World.setCell] using h.size, fun i hi hne => (heap_setCell_other b ⟨g, o, none⟩ i v (fun e => hne (by rw [e]))).trans (h.block i hi hne)⟩
theorem grown_below {a b c : World} {g : Nat} (h : a.grownBy b (some g)) (k : Below b.heap.size b c) : a.grownBy c (some g) :=
  ⟨k.os.trans h.os, k.tape.trans h.tape, k.output.trans h.output, Nat.le_trans h.size k.size, fun i hi hne => (k.block i (Nat.lt_of_lt_of_le hi h.size)).trans (h.block i hi hne)⟩

/-! one step of a region that draws its order: an array out of, and into, a part of a block that is known whole -/
theorem step_load {ops : Array Oper} {o : Oper} {a : Act} {w : World} {K : Act → World → Prop} {Q : Exit → Act → World → Prop} {E : Prop} (hgd : o.guard = none) (ty : TypeId) (x : Operand) (ho : o.op = .load ty x)
    (g off : Nat) (A cur : Array Value) (t : TypeId) (fr : Nat × Nat) (n : Nat) (el : TypeId) (hu : P.underlying ty = some (.array n el)) (hi : (P.info? ty).map (·.size) = some A.size)
    (hx : a.eval x = .pointer (some ⟨g, off, none⟩)) (hg : w.heap[g]? = some (.cells cur t fr)) (hA : ∀ j v, A[j]? = some v → cur[off + j]? = some v)
    (hK : K (a.put o.dst (.agg A)) w) : if Region.wanted o (yielded ops a.tmps) = true then Oper.wp P o a w K Q else E := by
  rw [if_pos (by simp [Region.wanted, hgd])]
  refine wp_load_mid ty x ho g off hx A.toList _ (fun j v hv => ?_) hu rfl (by simpa using hi) (by simpa using hK)
  rw [cell_of_row w g (off + j) cur t fr hg]
  exact hA j v (by simpa using hv)
theorem run_storeVar_part (w : World) (g off : Nat) (t ty : TypeId) (cur cells : Array Value) (hg : w.heap[g]? = some (.cells cur t (0, 0))) (hi : (P.info? ty).map (·.size) = some cells.size)
    (hf : off + cells.size ≤ cur.size) (h1 : cells.all (·.oneCell') = true) :
    (storeVar ty ⟨g, off, none⟩ (.agg cells)).run P w = .ok () (w.setRow g (cur.toList.take off ++ cells.toList ++ cur.toList.drop (off + cells.size)).toArray) := by
  have := run_storeCells_at P g off t cells.toList 0 cur w hg (by simpa using hf) (fun v hv => (Array.all_eq_true_iff_forall_mem.1 h1) v (by simpa using hv))
  cases hq : P.info? ty with
  | none => simp [hq] at hi
  | some i =>
    have hs : cells.size = i.size := by simp [hq] at hi; omega
    simp only [Nat.add_zero, Array.length_toList] at this
    simp [storeVar, sizeOf, typeInfo, hq, Value.cells, hs] at this ⊢
    simpa [hs] using this
theorem step_store {ops : Array Oper} {o : Oper} {a : Act} {w : World} {K : Act → World → Prop} {Q : Exit → Act → World → Prop} {E : Prop} (hgd : o.guard = none) (ty : TypeId) (x y : Operand) (ho : o.op = .store ty x y)
    (g off : Nat) (cells cur row : Array Value) (t : TypeId) (hi : (P.info? ty).map (·.size) = some cells.size)
    (hx : a.eval x = .pointer (some ⟨g, off, none⟩)) (hy : a.eval y = .agg cells) (hg : w.heap[g]? = some (.cells cur t (0, 0))) (hf : off + cells.size ≤ cur.size) (h1 : cells.all (·.oneCell') = true)
    (hrow : (cur.toList.take off ++ cells.toList ++ cur.toList.drop (off + cells.size)).toArray = row)
    (hK : K (a.put o.dst undef) (w.setRow g row)) : if Region.wanted o (yielded ops a.tmps) = true then Oper.wp P o a w K Q else E := by
  rw [if_pos (by simp [Region.wanted, hgd])]
  unfold Oper.wp execOp
  simp only [ho, hx, hy, Instr.storeAt, Instr.sureAddr, Sem.run_bind, Sem.run_pure, Result.andThen_ok, run_storeVar_part w g off t ty cur cells hg hi hf h1, hrow]
  exact hK

/-- a whole struct; an array that is a part of a block that is known whole -/
theorem wl_loadS {ops : Array Oper} {rest : List Oper} {a : Act} {w : World} {Q : Exit → Act → World → Prop} {dst : Tmp} {ty typ : TypeId} {x : Operand} {pos : String} {after : Array Edge}
    (g : Nat) (t : TypeId) (cs : Array Value) (fr : Nat × Nat) (fs : Array Field) (hu : P.underlying ty = some (.struct fs)) (hx : a.eval x = .pointer (some ⟨g, 0, none⟩)) (hg : w.heap[g]? = some (.cells cs t fr))
    (hi : (P.info? ty).map (·.size) = some cs.size)
    (h : wpList P ops Q rest (a.put (some dst) (.agg cs)) w) : wpList P ops Q (⟨some dst, .load ty x, typ, pos, after, none⟩ :: rest) a w :=
  wpList_load_row rfl ty x rfl g hx t cs fr _ hg hu rfl hi h
theorem wl_loadP {ops : Array Oper} {rest : List Oper} {a : Act} {w : World} {Q : Exit → Act → World → Prop} {dst : Tmp} {ty typ : TypeId} {x : Operand} {pos : String} {after : Array Edge}
    (g off : Nat) (t : TypeId) (A cur : Array Value) (fr : Nat × Nat) (n : Nat) (el : TypeId) (hu : P.underlying ty = some (.array n el)) (hx : a.eval x = .pointer (some ⟨g, off, none⟩)) (hg : w.heap[g]? = some (.cells cur t fr))
    (hA : ∀ j v, A[j]? = some v → cur[off + j]? = some v) (hi : (P.info? ty).map (·.size) = some A.size)
    (h : wpList P ops Q rest (a.put (some dst) (.agg A)) w) : wpList P ops Q (⟨some dst, .load ty x, typ, pos, after, none⟩ :: rest) a w := by
  refine wpList_load_mid rfl ty x rfl g off hx A.toList _ (fun j v hv => ?_) hu rfl (by simpa using hi) (by simpa using h)
  rw [cell_of_row w g (off + j) cur t fr hg]
  exact hA j v (by simpa using hv)
end Go.Sha
