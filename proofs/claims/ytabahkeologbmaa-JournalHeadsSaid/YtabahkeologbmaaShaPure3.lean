/- Bytes written to a hash, one by one and in pieces; the cells of a hash. No program is spoken of here. -/
import Derived.Test.YtabahkeologbmaaShaPure2
import Derived.OwnWalk
import Derived.Deep.AppendLies
namespace Go.Sha
open Go.RowKit

/-- a hash -/
structure HS where
  m : List Nat
  r : List Nat
  c : Nat
def HS.cells (s : HS) : Array Value := hv s.m s.r s.c
structure HS.Ok (s : HS) : Prop where
  m8 : s.m.length = 8
  m1 : Lt M s.m
  r64 : s.r.length = 64
  r1 : Lt 256 s.r
def putB (s : HS) (x : Nat) : HS := ⟨if (s.c + 1) % 64 = 0 then mixL s.m (s.r.set (s.c % 64) x) else s.m, s.r.set (s.c % 64) x, s.c + 1⟩
theorem putB_ok {s : HS} (h : s.Ok) {x : Nat} (hx : x < 256) : (putB s x).Ok := by
  refine ⟨?_, ?_, by simp [putB, h.r64], h.r1.set _ _ hx⟩
  · unfold putB; dsimp only; split
    · exact mixL_len _ h.m8
    · exact h.m8
  · unfold putB; dsimp only; split
    · exact mixL_lt _ h.m1
    · exact h.m1
def putL (s : HS) (l : List Nat) : HS := l.foldl putB s
theorem putL_nil (s : HS) : putL s [] = s := rfl
theorem putL_append (s : HS) (l k : List Nat) : putL s (l ++ k) = putL (putL s l) k := by simp [putL, List.foldl_append]
theorem putL_ok {l : List Nat} : ∀ {s : HS}, s.Ok → Lt 256 l → (putL s l).Ok := by
  induction l with
  | nil => intro s h _; exact h
  | cons x l ih => intro s h hl; exact ih (putB_ok h (hl x (by simp))) (fun y hy => hl y (by simp [hy]))
theorem putL_c (l : List Nat) : ∀ s : HS, (putL s l).c = s.c + l.length := by
  induction l with
  | nil => intro s; rfl
  | cons x l ih => intro s; show (putL (putB s x) l).c = _; rw [ih]; simp [putB]; omega
/-- bytes laid over a row from a place on -/
def lay (r : List Nat) (q : Nat) (l : List Nat) : List Nat := r.take q ++ l ++ r.drop (q + l.length)
theorem lay_len {r l : List Nat} {q : Nat} (h : q + l.length ≤ r.length) : (lay r q l).length = r.length := by simp [lay]; omega
theorem lay_lt {r l : List Nat} {q n : Nat} (hr : Lt n r) (hl : Lt n l) : Lt n (lay r q l) := by
  intro x hx
  simp only [lay, List.mem_append] at hx
  rcases hx with (hx | hx) | hx
  · exact hr x (List.mem_of_mem_take hx)
  · exact hl x hx
  · exact hr x (List.mem_of_mem_drop hx)
theorem lay_cons {r : List Nat} {q x : Nat} {l : List Nat} (h : q + (l.length + 1) ≤ r.length) : lay (r.set q x) (q + 1) l = lay r q (x :: l) := by
  unfold lay
  apply List.ext_getElem?
  intro j
  simp only [List.getElem?_append, List.length_append, List.length_take, List.length_set, List.getElem?_take, List.getElem?_drop, List.getElem?_set, List.length_cons]
  have e1 : min (q + 1) r.length = q + 1 := by omega
  have e2 : min q r.length = q := by omega
  rw [e1, e2]
  by_cases h1 : j < q
  · simp [h1, show j < q + 1 by omega, show j < q + 1 + l.length by omega, show j < q + (l.length + 1) by omega, show ¬ q = j by omega]
  · by_cases h2 : j = q
    · subst h2
      simp [show j < r.length by omega]
      omega
    · have h3 : ¬ j < q + 1 := by omega
      by_cases h4 : j < q + 1 + l.length
      · simp [h1, h3, h4, show j < q + (l.length + 1) by omega, show j - q = (j - (q + 1)) + 1 by omega]
      · simp [h4, show ¬ j < q + (l.length + 1) by omega, show q + 1 + l.length + (j - (q + 1 + l.length)) = q + (l.length + 1) + (j - (q + (l.length + 1))) by omega, show ¬ q = q + (l.length + 1) + (j - (q + (l.length + 1))) by omega]
/-- A PIECE THAT FITS: bytes up to the row's end are laid over it; where it is full it is mixed in -/
theorem putL_piece (l : List Nat) : ∀ (s : HS), s.r.length = 64 → s.c % 64 + l.length ≤ 64 → 0 < l.length →
    putL s l = ⟨if (s.c + l.length) % 64 = 0 then mixL s.m (lay s.r (s.c % 64) l) else s.m, lay s.r (s.c % 64) l, s.c + l.length⟩ := by
  induction l with
  | nil => intro s _ _ h; simp at h
  | cons x l ih =>
    intro s hr hf _
    show putL (putB s x) l = _
    rcases Nat.eq_zero_or_pos l.length with h0 | h0
    · obtain rfl : l = [] := List.eq_nil_of_length_eq_zero h0
      have e : lay s.r (s.c % 64) [x] = s.r.set (s.c % 64) x := by
        rw [← lay_cons (by simp; omega)]; simp [lay]
      rw [e]; rfl
    · have hf' : s.c % 64 + (l.length + 1) ≤ 64 := hf
      have e1 : (s.c + 1) % 64 = s.c % 64 + 1 := by omega
      have hm : (putB s x).m = s.m := by unfold putB; dsimp only; rw [if_neg (by omega)]
      have hc : (putB s x).c = s.c + 1 := rfl
      have hrr : (putB s x).r = s.r.set (s.c % 64) x := rfl
      rw [ih (putB s x) (by rw [hrr]; simpa using hr) (by rw [hc]; omega) h0, hm, hc, hrr, e1, lay_cons (by omega)]
      have e2 : s.c + 1 + l.length = s.c + (x :: l).length := by simp; omega
      rw [e2]

/-! the cells of a hash -/
theorem hv_word {m r : List Nat} (c : Nat) (hm : m.length = 8) (i : Nat) (hi : i < 8) : (hv m r c)[i]? = some (.int .u32 (at0 m i : Nat)) := by
  rw [hv, Array.append_assoc, Array.getElem?_append_left (by rw [wv_size, hm]; exact hi), wv_get m i (by omega)]
theorem hv_byte {m r : List Nat} (c : Nat) (hm : m.length = 8) (hr : r.length = 64) (i : Nat) (hi : i < 64) : (hv m r c)[8 + i]? = some (.int .u8 (at0 r i : Nat)) := by
  rw [hv, Array.getElem?_append_left (by simp [wv_size, bv_size]; omega), Array.getElem?_append_right (by rw [wv_size]; omega), wv_size, hm, show 8 + i - 8 = i by omega, bv_get r i (by omega)]
theorem hv_setCount {m r : List Nat} (c x : Nat) (hm : m.length = 8) (hr : r.length = 64) : (hv m r c).setIfInBounds 72 (.int .u64 (x : Int)) = hv m r x := by
  apply Array.ext_getElem?
  intro j
  rw [Array.getElem?_setIfInBounds]
  by_cases h : 72 = j
  · subst h; rw [if_pos rfl, if_pos (by rw [hv_size c hm hr]; decide), hv_count x hm hr]
  · rw [if_neg h]
    unfold hv
    by_cases h2 : j < 72
    · rw [Array.getElem?_append_left (xs := wv m ++ bv r) (ys := #[Value.int .u64 (c : Int)]) (by simp [wv_size, bv_size]; omega), Array.getElem?_append_left (xs := wv m ++ bv r) (ys := #[Value.int .u64 (x : Int)]) (by simp [wv_size, bv_size]; omega)]
    · rw [Array.getElem?_eq_none (by simp [wv_size, bv_size]; omega), Array.getElem?_eq_none (by simp [wv_size, bv_size]; omega)]
/-- bytes as a list of cells -/
def bl (l : List Nat) : List Value := (bv l).toList
theorem bl_arr (l : List Nat) : (bl l).toArray = bv l := by simp [bl]
theorem bl_len (l : List Nat) : (bl l).length = l.length := by simp [bl, bv_size]
theorem bl_get (l : List Nat) (i : Nat) : (bl l)[i]? = (bv l)[i]? := by simp [bl]
theorem bl_lay (r l : List Nat) (q : Nat) : bl (lay r q l) = (bl r).take q ++ bl l ++ (bl r).drop (q + l.length) := by
  unfold bl bv lay; simp [List.map_take, List.map_drop]
theorem hv_lay {m r l : List Nat} (c q : Nat) (hm : m.length = 8) (hr : r.length = 64) (h : q + l.length ≤ 64) :
    ((hv m r c).toList.take (8 + q) ++ bl l ++ (hv m r c).toList.drop (8 + q + (bl l).length)).toArray = hv m (lay r q l) c := by
  have e : (hv m r c).toList = (wv m).toList ++ (bl r ++ [Value.int .u64 (c : Int)]) := by simp [hv, bl]
  have e2 : hv m (lay r q l) c = ((wv m).toList ++ (bl (lay r q l) ++ [Value.int .u64 (c : Int)])).toArray := by simp [hv, bl]
  have hw : (wv m).toList.length = 8 := by simp [wv_size, hm]
  rw [e, e2, bl_lay, bl_len, List.take_append, List.drop_append, hw, List.take_of_length_le (by omega), List.drop_of_length_le (by omega), show 8 + q - 8 = q by omega, show 8 + q + l.length - 8 = q + l.length by omega,
    List.take_append, List.drop_append, bl_len, hr, show q - 64 = 0 by omega, show q + l.length - 64 = 0 by omega]
  simp
theorem hv_words {m m' r : List Nat} (c : Nat) (hm : m.length = 8) (hm' : m'.length = 8) :
    ((hv m r c).toList.take 0 ++ (wv m').toList ++ (hv m r c).toList.drop (0 + (wv m').size)).toArray = hv m' r c := by
  have e : (hv m r c).toList = (wv m).toList ++ (bl r ++ [Value.int .u64 (c : Int)]) := by simp [hv, bl]
  have e2 : hv m' r c = ((wv m').toList ++ (bl r ++ [Value.int .u64 (c : Int)])).toArray := by simp [hv, bl]
  rw [e, e2, wv_size, hm', List.drop_append, List.drop_of_length_le (by simp [wv_size, hm])]
  simp [wv_size, hm]
theorem hv_wordsAt {m r : List Nat} (c : Nat) : ∀ j v, (wv m)[j]? = some v → (hv m r c)[0 + j]? = some v := by
  intro j v h
  have hj : j < (wv m).size := (Array.getElem?_eq_some_iff.1 h).1
  rw [Nat.zero_add, hv, Array.append_assoc, Array.getElem?_append_left hj, h]
theorem hv_bytesAt {m r : List Nat} (c : Nat) (hm : m.length = 8) : ∀ j v, (bv r)[j]? = some v → (hv m r c)[8 + j]? = some v := by
  intro j v h
  have hj : j < (bv r).size := (Array.getElem?_eq_some_iff.1 h).1
  rw [hv, Array.getElem?_append_left (by simp [wv_size, hm]; exact hj), Array.getElem?_append_right (by rw [wv_size]; omega), wv_size, hm, show 8 + j - 8 = j by omega, h]
attribute [irreducible] putL bl lay
end Go.Sha
