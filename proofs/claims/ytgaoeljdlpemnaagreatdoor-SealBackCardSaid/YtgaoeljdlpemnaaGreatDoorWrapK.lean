/- closed: an interchange's segments with head and tail. -/
import Derived.Test.YtgaoeljdlpemnaaGreatDoorEdiLt
import Derived.Test.YtgaoeljdlpemnaaGreatDoorWrapD
import Derived.Lib.AppendZerosOnto
import Derived.Lib.SliceRun
import Derived.Lib.Walk
/- A text without its bytes 10; what was parsed, and what is short, is of bounded size. -/
namespace Go.Proofs.YtgaoeljdlpemnaaGreatDoor
open Go.RowKit Go.Edi

def flt (t : Tx) : Tx := t.filter (fun c => decide (¬ c = 10))
theorem flt_10 (t : Tx) (k : Nat) (h : k < t.length) (hc : t[k] = 10) : flt (t.take (k + 1)) = flt (t.take k) := by
  unfold flt; rw [← List.take_append_getElem h, List.filter_append]; simp [hc]
theorem flt_no (t : Tx) (k : Nat) (h : k < t.length) (hc : ¬ t[k] = 10) : flt (t.take (k + 1)) = flt (t.take k) ++ [t[k]] := by
  unfold flt; rw [← List.take_append_getElem h, List.filter_append]; simp [hc]
theorem segs_slice {w : World} {F : Nat → Prop} {v : Value} {l : List Sg} (h : SegsF w F v l) : ∃ p cap, v = .slice p l.length cap := by
  obtain ⟨xs, ⟨p, cap, e, _⟩, _⟩ := h
  exact ⟨p, cap, e⟩
theorem sane_short {l : List Sg} (h1 : l.length ≤ 64) (h2 : ∀ s ∈ l, shortS s = true) : sane l := by
  refine ⟨by omega, fun s hs => ?_⟩
  have := h2 s hs
  simp only [shortS, shortE, Bool.and_eq_true, decide_eq_true_eq, List.all_eq_true] at this
  exact ⟨by omega, fun e he => ⟨by have := (this.2 e he).1; omega, fun t ht => by have := (this.2 e he).2 t ht; omega⟩⟩
theorem sane_parse (t : Tx) : sane (parseL t).1 := by
  by_cases h : (parseL t).2.2 = 0
  · obtain ⟨_, h2, _⟩ := parse_ok h
    have hi := run_inv t s0 0 good_s0 (by rw [h2])
    rw [h2] at hi
    exact sane_short hi.1.2.1 (fun s hs => (hi.1.1 s hs).2.2)
  · rw [parse_bad h]; exact ⟨by simp, fun s hs => by simp at hs⟩
end Go.Proofs.YtgaoeljdlpemnaaGreatDoor
/- slices.Concat of segments (and slices.Grow beneath it): a new list of them all. -/
namespace Go.Proofs.YtgaoeljdlpemnaaGreatDoor
open Go.RowKit Go.Edi Go.Wrap Go.Lib

set_option maxRecDepth 100000 in
set_option maxHeartbeats 3200000 in
theorem grow_any (n : Nat) (hn : 0 < n) (hn2 : n ≤ 100000) (w : World) :
    Calls Tryz.prog 78 #[.slice none 0 0, .int .i64 (n : Int)] w fun e w' => ∃ p cap, e = .returned (.slice p 0 cap) ∧ w'.ownsRow w.heap.size 112 2 (.slice p 0 cap) 0 [] ∧ Below w.heap.size w w' := by
  obtain ⟨i0, hi0, hi1⟩ := Option.map_eq_some_iff.1 par_seg
  simp only [Prod.mk.injEq] at hi1
  obtain ⟨hz0, hs0, hb0⟩ := hi1
  have hold : (Builtin.firstCells i0.size 0 (.slice none 0 0)).run Tryz.prog w.drew = .ok ([] : List Value).toArray w.drew := run_firstCells_none w.drew i0.size 0 0 0
  have hG : (0 : Nat) + n ≤ grownCap w (0 + n) 0 112 := grownCap_ge w _ _ _
  have hGm : grownCap w (0 + n) 0 112 ≤ maxLen := grownCap_le_maxLen w _ _ _ (by unfold maxLen; omega)
  have hrz : ∀ ty, (Builtin.append_ #[72, 3] ty #[.slice none 0 0, .int .i64 (n : Int)]).run Tryz.prog w = _ := fun ty =>
    Lib.run_append_grow_zeros w 72 3 ty 112 i0 _ .i64 .i64 Tryz.underlying72 Tryz.underlying3 hi0 hz0 none 0 0 [] hold n hn (by omega) (by omega) (by omega) (by rw [hb0]; omega) (growslice_fits (by omega) (by rw [hb0]; omega))
  generalize grownCap w (0 + n) 0 112 = G at *
  have hG63 : (G : Int) ≤ 9223372036854775807 := by unfold maxLen at hGm; omega
  have hnI : (0 : Int) < (n : Int) := by omega
  have hnI2 : (n : Int) ≤ 100000 := by omega
  have HO := Lib.hid (World.ownsRow_made (base := w.heap.size) (e := 112) (size := 2) w (Builtin.zeroCells #[.string ⟨#[]⟩, .slice none 0 0] n ++ Builtin.zeroCells #[.string ⟨#[]⟩, .slice none 0 0] (G - n)) G (Nat.le_refl _) hGm (by
    rw [Array.size_append, size_zeroCells, size_zeroCells]
    simp
    omega))
  clear hold hz0 hs0 hb0 hi0 hGm
  go_enter Tryz.func78, Tryz.ntmps78
  go_wp2_with (at_builtin; refine Lib.wpList_append_run _ rfl _ _ _ _ rfl _ _ rfl rfl _ _ (hrz _) ?_)
  go_ret
  exact ⟨_, _, rfl, own_keep HO.out (fun _ _ => rfl), ((Below.refl _ _).alloc (Nat.le_refl _) _).drew⟩
theorem flat_succ (ls : List (List Sg)) (k : Nat) (h : k < ls.length) : (ls.take (k + 1)).flatten = (ls.take k).flatten ++ ls[k] := by
  rw [← List.take_append_getElem h, List.flatten_append]; simp
theorem flat_le (ls : List (List Sg)) (k : Nat) : (ls.take k).flatten.length ≤ ls.flatten.length := by
  have h : ls.flatten = (ls.take k).flatten ++ (ls.drop k).flatten := by rw [← List.flatten_append, List.take_append_drop]
  rw [h, List.length_append]; omega
/-- what Concat has put together, so far -/
structure CcI (w : World) (l : List Sg) (v : Value) (wr : World) : Prop where
  own : ∃ xs, wr.ownsRow w.heap.size 112 2 v l.length xs ∧ SgC wr (· < w.heap.size) l xs
  bl : Below w.heap.size w wr
theorem CcI.segs {w wr : World} {l : List Sg} {v : Value} (h : CcI w l v wr) : SegsF wr (· < wr.heap.size) v l := by
  obtain ⟨xs, h1, h2⟩ := h.own
  exact ⟨xs, row_own h1 (fun b e => (h1.lt b e).2), h2.kept (fun b hb => ⟨Nat.lt_of_lt_of_le hb h.bl.size, rfl⟩)⟩
set_option maxRecDepth 100000 in
set_option maxHeartbeats 6400000 in
theorem concat_any (ls : List (List Sg)) (vs : List Value) (q : Nat) (w : World) (hq : ∀ (i : Nat) (v : Value), vs[i]? = some v → w.cell? ⟨q, i, none⟩ = some v) (hqs : q < w.heap.size) (hvs : vs.length = ls.length)
    (hsg : ∀ (i : Nat) (v : Value) (l : List Sg), vs[i]? = some v → ls[i]? = some l → SegsF w (· < w.heap.size) v l) (hpos : 0 < ls.flatten.length) (hle : ls.flatten.length ≤ 100000) (hln : ls.length ≤ 1000) :
    Calls Tryz.prog 49 #[.slice (some ⟨q, 0, none⟩) ls.length ls.length] w fun e w' => ∃ v, e = .returned v ∧ SegsF w' (· < w'.heap.size) v ls.flatten ∧ Below w.heap.size w w' := by
  have hlI : (ls.length : Int) ≤ 1000 := by omega
  have HQ := Lib.hid hq
  have HQS := Lib.hid hqs
  have HVS := Lib.hid hvs
  have HSG := Lib.hid hsg
  have HP := Lib.hid hpos
  have HLE := Lib.hid hle
  clear hq hqs hvs hsg hpos hle hln
  go_enter Tryz.func49, Tryz.ntmps49
  go_wp2
  go_loopw [3, 11] (fun s i wr => ∃ (k n : Nat), s = .int .i64 n ∧ i = .int .i64 k ∧ k ≤ ls.length ∧ n = (ls.take k).flatten.length ∧ w = wr) (fun _ i _ => ls.length - (RowKit.intOf i).toNat)
  case atStart => exact ⟨0, 0, rfl, rfl, Nat.zero_le _, rfl, rfl⟩
  case round =>
    obtain ⟨k, n, rfl, rfl, hk, hn, rfl⟩ := hrel
    have HN := Lib.hid hn
    have hn1 : (n : Int) ≤ 100000 := by have := flat_le ls k; have := HLE.out; omega
    have hn0 : (0 : Int) ≤ (n : Int) := Int.natCast_nonneg _
    by_cases hlt : (k : Int) < (ls.length : Int)
    · have hkl : k < ls.length := by omega
      have hk0 : (0 : Int) ≤ (k : Int) := Int.natCast_nonneg _
      obtain ⟨v, hv⟩ : ∃ v, vs[k]? = some v := ⟨vs[k]'(by rw [HVS.out]; exact hkl), List.getElem?_eq_getElem _⟩
      have hck := HQ.out k v hv
      have hs := HSG.out k v _ hv (List.getElem?_eq_getElem hkl)
      have HFS := Lib.hid (flat_succ ls k hkl)
      have hfl := flat_le ls (k + 1)
      rw [HFS.out, List.length_append] at hfl
      generalize ls[k]'hkl = l at *
      obtain ⟨p, cap, rfl⟩ := segs_slice hs
      have hm1 : (n : Int) + (l.length : Int) ≤ 100000 := by have := HLE.out; omega
      have hm0 : (0 : Int) ≤ (l.length : Int) := Int.natCast_nonneg _
      clear hn hs hfl hv
      go_wp2
      go_roundw
      case rel => exact ⟨k + 1, n + l.length, by go_num, by go_num, by omega, by rw [HFS.out, List.length_append, HN.out], trivial⟩
      case measure => simp [RowKit.intOf]; omega
    · obtain rfl : k = ls.length := by omega
      rw [List.take_length] at HN
      have hg := grow_any n (by have := HN.out; have := HP.out; omega) (by omega) w
      have HG := Lib.hid hg
      clear hg hn
      go_wp2_with (go_at_call 78; refine (HG.out).mono ?_)
      first | rintro e w1 p cap rfl ho hb | rintro e w1 ⟨p, cap, rfl, ho, hb⟩
      have HO := Lib.hid ho
      have HB := Lib.hid hb
      clear ho hb
      go_wp2
      go_loopw [6, 27] (fun u i wr => ∃ (k : Nat) (p : Option Addr) (cap : Nat), u = .slice p (ls.take k).flatten.length cap ∧ i = .int .i64 k ∧ k ≤ ls.length ∧ CcI w (ls.take k).flatten (.slice p (ls.take k).flatten.length cap) wr) (fun _ i _ => ls.length - (RowKit.intOf i).toNat)
      case atStart => exact ⟨0, p, cap, rfl, rfl, Nat.zero_le _, ⟨⟨[], HO.out, True.intro⟩, HB.out⟩⟩
      case round =>
        obtain ⟨k, p, cap, rfl, rfl, hk, hci⟩ := hrel
        have HC := Lib.hid hci
        have hb := hci.bl
        by_cases hlt2 : (k : Int) < (ls.length : Int)
        · have hkl : k < ls.length := by omega
          have hk0 : (0 : Int) ≤ (k : Int) := Int.natCast_nonneg _
          obtain ⟨v, hv⟩ : ∃ v, vs[k]? = some v := ⟨vs[k]'(by rw [HVS.out]; exact hkl), List.getElem?_eq_getElem _⟩
          have hck : wr.cell? ⟨q, k, none⟩ = some v := (World.cell?_of_block (a := ⟨q, k, none⟩) (hb.block q HQS.out)).trans (HQ.out k v hv)
          have hs := HSG.out k v _ hv (List.getElem?_eq_getElem hkl)
          have HFS := Lib.hid (flat_succ ls k hkl)
          have hfl := flat_le ls (k + 1)
          rw [HFS.out, List.length_append] at hfl
          generalize ls[k]'hkl = l at *
          obtain ⟨p2, cap2, rfl⟩ := segs_slice hs
          have HS := Lib.hid (SegsF.kept hs (w' := wr) (F' := (· < w.heap.size)) (fun b hb2 => ⟨hb2, hb.block b hb2⟩))
          obtain ⟨xs, hrow, hsg⟩ := HS.out
          obtain ⟨ys, hown, hsc⟩ := HC.out.own
          have HFL := Lib.hid hfl
          have HROW := Lib.hid hrow
          have HSGC := Lib.hid hsg
          have HOWN := Lib.hid hown
          have HSC := Lib.hid hsc
          have HBL := Lib.hid hb
          generalize (ls.take k).flatten = a at *
          clear hci hs hfl hv hrow hsg hown hsc hb
          go_wp2_with (at_builtin; refine wl_appF 72 112 (.agg #[.string ⟨#[]⟩, .slice none 0 0]) 2 40 par_seg Tryz.underlying72 rfl (by decide) (by decide) w.heap.size (.slice p a.length cap) a.length ys rfl HOWN.out (.slice p2 l.length cap2) (· < w.heap.size) l.length xs rfl HROW.out HSGC.out.len (one_sgc HSGC.out) (by have := HFL.out; have := HLE.out; omega) HBL.out.size ?_)
          intro v' w3 ho hgr hbk
          obtain ⟨p3, cap3, rfl⟩ := own_slice ho
          have hb3 : Below w.heap.size w w3 := HBL.out.grown hgr HBL.out.size (fun k hk => (HOWN.out.lt k hk).1)
          have hkp : Kp (· < w.heap.size) (· < w.heap.size) wr w3 := fun b hb => ⟨hb, (hb3.block b hb).trans (HBL.out.block b hb).symm⟩
          have HCN := Lib.hid (show CcI w (a ++ l) (.slice p3 (a.length + l.length) cap3) w3 from ⟨⟨ys ++ xs, by rw [List.length_append]; exact ho, (HSGC.out.app HSC.out).kept hkp⟩, hb3⟩)
          clear ho hgr hbk hb3 hkp
          go_wp2
          go_roundw
          case rel => exact ⟨k + 1, p3, cap3, by rw [HFS.out, List.length_append], by go_num, by omega, by rw [HFS.out, List.length_append]; exact HCN.out⟩
          case measure => simp [RowKit.intOf]; omega
        · obtain rfl : k = ls.length := by omega
          rw [List.take_length] at *
          have hs := hci.segs
          rw [List.length_flatten] at hs
          have HS := Lib.hid hs
          have HB2 := Lib.hid hb
          clear hci hb hs
          go_wp2
          go_ret
          exact ⟨_, rfl, HS.out, HB2.out⟩
end Go.Proofs.YtgaoeljdlpemnaaGreatDoor
namespace Go.Proofs.YtgaoeljdlpemnaaGreatDoor
open Go.RowKit Go.Edi Go.Wrap

def headS (f t r : Nat) : Sg := ⟨[85, 78, 66], numsE [f, t, r]⟩
def tailS (n r : Nat) : Sg := ⟨[85, 78, 90], numsE [n, r]⟩
def closeL (f t r : Nat) (l : List Sg) : List Sg := headS f t r :: (l ++ [tailS l.length r])
theorem nums_at {w : World} {F : Nat → Prop} (b : Nat) (ns : List Nat) (A : Array Value) (hA : A = (ns.map fun (n : Nat) => Value.int .u64 (n : Int)).toArray) (hF : F b) (h : w.heap[b]? = some (.cells A 22 (0, 0))) : NumsF w F (.slice (some ⟨b, 0, none⟩) ns.length ns.length) ns :=
  ⟨_, _, rfl, Nat.le_refl _, fun _ => ⟨b, 0, rfl, hF, fun j u hu => by rw [Nat.zero_add, cell_of_arr h j, hA]; simpa using hu⟩⟩
theorem seg_one {w : World} {F : Nat → Prop} (b : Nat) (s : Sg) (ve : Value) (A : Array Value) (hA : A = #[str s.tag, ve]) (hF : F b) (h : w.heap[b]? = some (.cells A 112 (0, 0))) (he : ElsF w F ve s.els) : SegsF w F (.slice (some ⟨b, 0, none⟩) 1 1) [s] :=
  ⟨[str s.tag, ve], ⟨_, _, rfl, Nat.le_refl _, fun _ => ⟨b, 0, rfl, hF, fun j u hu => by rw [Nat.zero_add, cell_of_arr h j, hA]; simpa using hu⟩⟩, ⟨rfl, he, True.intro⟩⟩
/-- told, at numbers that lie in a block -/
theorem told_at (tag : Tx) (ns : List Nat) (b n : Nat) (B : Nat) (w : World) (A : Array Value) (hA : A = (ns.map fun (n : Nat) => Value.int .u64 (n : Int)).toArray) (hb : w.heap[b]? = some (.cells A 22 (0, 0))) (hn : ns.length = n) (hn2 : n ≤ 1000) (hlt : ∀ n ∈ ns, n < 18446744073709551616) (htab : Tab B w) (hB : B ≤ w.heap.size) :
    Calls Tryz.prog 48 #[str tag, .slice (some ⟨b, 0, none⟩) n n] w fun e w' => ∃ pe cape F, e = .returned (.agg #[str tag, .slice pe n cape]) ∧ ElsF w' F (.slice pe n cape) (numsE ns) ∧ (∀ b, F b → w.heap.size ≤ b ∧ b < w'.heap.size) ∧ Below w.heap.size w w' := by
  subst hn
  refine (told_any tag ns _ B w (nums_at b ns A hA (Array.getElem?_eq_some_iff.1 hb).1 hb) hn2 hlt htab hB).mono ?_
  rintro e w' ⟨ve, F, rfl, h1, h2, h3⟩
  obtain ⟨ys, ⟨pe, cape, rfl, h4⟩, h5⟩ := h1
  have e1 : (numsE ns).length = ns.length := by simp [numsE]
  exact ⟨pe, cape, F, by rw [e1], ⟨ys, ⟨pe, cape, by rw [e1], h4⟩, h5⟩, h2, h3⟩
set_option maxRecDepth 100000 in
set_option maxHeartbeats 6400000 in
theorem closed_any (f t r : Nat) (l : List Sg) (v : Value) (B : Nat) (w : World) (hv : SegsF w (· < w.heap.size) v l) (hl : l.length ≤ 1000) (hf : f < 256) (ht : t < 256) (hr : r < 18446744073709551616) (htab : Tab B w) (hB : B ≤ w.heap.size) :
    Calls Tryz.prog 32 #[.agg (wrV f t r v)] w fun e w' => ∃ v, e = .returned v ∧ SegsF w' (· < w'.heap.size) v (closeL f t r l) ∧ Below w.heap.size w w' := by
  obtain ⟨p, cap, rfl⟩ := segs_slice hv
  have hlI : (l.length : Int) ≤ 1000 := by omega
  have hl0 : (0 : Int) ≤ (l.length : Int) := Int.natCast_nonneg _
  have hfI : (f : Int) < 256 := by omega
  have hf0 : (0 : Int) ≤ (f : Int) := Int.natCast_nonneg _
  have htI : (t : Int) < 256 := by omega
  have ht0 : (0 : Int) ≤ (t : Int) := Int.natCast_nonneg _
  have HV := Lib.hid hv
  have HT := Lib.hid htab
  have HB := Lib.hid hB
  have HR := Lib.hid hr
  clear hv htab hB hr hl
  have hb1 : Below w.heap.size w ((w.alloc (.cells (wrV f t r (.slice p l.length cap)) 74)).alloc (.cells #[.int .u64 (f : Int), .int .u64 (t : Int), .int .u64 (r : Int)] 22)) := ((Below.refl _ _).alloc (Nat.le_refl _) _).alloc (by simp only [size_a]; omega) _
  have hq1 := told_at [85, 78, 66] [f, t, r] (w.heap.size + 1) 3 B ((w.alloc (.cells (wrV f t r (.slice p l.length cap)) 74)).alloc (.cells #[.int .u64 (f : Int), .int .u64 (t : Int), .int .u64 (r : Int)] 22)) _ rfl (heap_new _ _ _ (by simp only [size_a])) rfl (by omega)
    (by intro n hn; have := HR.out; simp only [List.mem_cons, List.not_mem_nil, or_false] at hn; omega) (HT.out.on (hb1.mono HB.out)) (Nat.le_trans HB.out hb1.size)
  have hW0 : ((w.alloc (.cells (wrV f t r (.slice p l.length cap)) 74)).alloc (.cells #[.int .u64 (f : Int), .int .u64 (t : Int), .int .u64 (r : Int)] 22)).heap[w.heap.size]? = some (.cells (wrV f t r (.slice p l.length cap)) 74 (0, 0)) := heap_past _ _ _ (by simp only [size_a]; omega) (heap_new _ _ _ rfl)
  have hs1 : ((w.alloc (.cells (wrV f t r (.slice p l.length cap)) 74)).alloc (.cells #[.int .u64 (f : Int), .int .u64 (t : Int), .int .u64 (r : Int)] 22)).heap.size = w.heap.size + 1 + 1 := by simp only [size_a]
  have HQ1 := Lib.hid hq1
  have HB1 := Lib.hid hb1
  have HW0 := Lib.hid hW0
  have HS1 := Lib.hid hs1
  clear hq1 hb1 hW0 hs1
  go_enter Tryz.func32, Tryz.ntmps32
  go_wp2_with (go_at_call 48; refine (HQ1.out).mono ?_)
  first | rintro e w1 pe cape F1 rfl he hF1 hbw | rintro e w1 ⟨pe, cape, F1, rfl, he, hF1, hbw⟩
  have hsz1 : w.heap.size + 1 + 1 ≤ w1.heap.size := by have := hbw.size; rw [HS1.out] at this; exact this
  have hg1 : w1.heap[w.heap.size]? = some (.cells (wrV f t r (.slice p l.length cap)) 74 (0, 0)) := (hbw.block _ (by rw [HS1.out]; omega)).trans HW0.out
  have hbl1 : Below w.heap.size w w1 := HB1.out.trans (hbw.mono (by rw [HS1.out]; omega))
  have c2 : w1.cell? ⟨w.heap.size, 2, none⟩ = some (.int .u64 (r : Int)) := cell_of_arr hg1 2
  have c3 : w1.cell? ⟨w.heap.size, 3, none⟩ = some (.slice p l.length cap) := cell_of_arr hg1 3
  have hlt1 : w.heap.size < w1.heap.size := by omega
  have hb2 : Below w1.heap.size w1 ((w1.alloc (.cells #[str [85, 78, 66], .slice pe 3 cape] 112)).alloc (.cells #[.int .u64 (l.length : Int), .int .u64 (r : Int)] 22)) := ((Below.refl _ _).alloc (Nat.le_refl _) _).alloc (by simp only [size_a]; omega) _
  have hq2 := told_at [85, 78, 90] [l.length, r] (w1.heap.size + 1) 2 B ((w1.alloc (.cells #[str [85, 78, 66], .slice pe 3 cape] 112)).alloc (.cells #[.int .u64 (l.length : Int), .int .u64 (r : Int)] 22)) _ rfl (heap_new _ _ _ (by simp only [size_a])) rfl (by omega)
    (by intro n hn; have := HR.out; simp only [List.mem_cons, List.not_mem_nil, or_false] at hn; omega) (HT.out.on ((hbl1.mono HB.out).trans (hb2.mono (by have := HB.out; omega)))) (by have := HB.out; have := hb2.size; omega)
  have hs2 : ((w1.alloc (.cells #[str [85, 78, 66], .slice pe 3 cape] 112)).alloc (.cells #[.int .u64 (l.length : Int), .int .u64 (r : Int)] 22)).heap.size = w1.heap.size + 1 + 1 := by simp only [size_a]
  have hW1 : ((w1.alloc (.cells #[str [85, 78, 66], .slice pe 3 cape] 112)).alloc (.cells #[.int .u64 (l.length : Int), .int .u64 (r : Int)] 22)).heap[w1.heap.size]? = some (.cells #[str [85, 78, 66], .slice pe 3 cape] 112 (0, 0)) := heap_past _ _ _ (by simp only [size_a]; omega) (heap_new _ _ _ rfl)
  have HQ2 := Lib.hid hq2
  have HB2 := Lib.hid hb2
  have HW1 := Lib.hid hW1
  have HS2 := Lib.hid hs2
  have HE1 := Lib.hid he
  have HF1 := Lib.hid hF1
  have HBL1 := Lib.hid hbl1
  have HG1 := Lib.hid hg1
  clear hq2 hb2 hW1 hs2 he hF1 hbw hbl1 hg1 hsz1 HQ1
  go_wp2_with (go_at_call 48; refine (HQ2.out).mono ?_)
  first | rintro e w2 pe2 cape2 F2 rfl he hF2 hbw | rintro e w2 ⟨pe2, cape2, F2, rfl, he, hF2, hbw⟩
  have hsz2 : w1.heap.size + 1 + 1 ≤ w2.heap.size := by have := hbw.size; rw [HS2.out] at this; exact this
  have hbl2 : Below w1.heap.size w1 w2 := HB2.out.trans (hbw.mono (by rw [HS2.out]; omega))
  have hbl : Below w.heap.size w w2 := HBL1.out.trans (hbl2.mono HBL1.out.size)
  have hg2 : w2.heap[w.heap.size]? = some (.cells (wrV f t r (.slice p l.length cap)) 74 (0, 0)) := (hbl2.block _ hlt1).trans HG1.out
  have hm2 : w2.heap[w1.heap.size]? = some (.cells #[str [85, 78, 66], .slice pe 3 cape] 112 (0, 0)) := (hbw.block _ (by rw [HS2.out]; omega)).trans HW1.out
  have d3 : w2.cell? ⟨w.heap.size, 3, none⟩ = some (.slice p l.length cap) := cell_of_arr hg2 3
  have m0 : w2.cell? ⟨w1.heap.size, 0, none⟩ = some (str [85, 78, 66]) := cell_of_arr hm2 0
  have m1 : w2.cell? ⟨w1.heap.size, 1, none⟩ = some (.slice pe 3 cape) := cell_of_arr hm2 1
  have l0 : w.heap.size < w2.heap.size := by omega
  have l1 : w.heap.size < w2.heap.size + 1 := by omega
  have l2 : w.heap.size < w2.heap.size + 1 + 1 := by omega
  have k0 : w1.heap.size < w2.heap.size := by omega
  have k1 : w1.heap.size < w2.heap.size + 1 := by omega
  have n1 : w2.heap.size < w2.heap.size + 1 := by omega
  obtain ⟨W3, hW3⟩ : ∃ W3, W3 = ((((w2.alloc (.cells #[str [85, 78, 90], .slice pe2 2 cape2] 112)).alloc (.cells #[str [85, 78, 66], .slice pe 3 cape] 112)).alloc (.cells #[str [85, 78, 90], .slice pe2 2 cape2] 112)).alloc (.cells #[.slice (some ⟨w2.heap.size + 1, 0, none⟩) 1 1, .slice p l.length cap, .slice (some ⟨w2.heap.size + 1 + 1, 0, none⟩) 1 1] 72)) := ⟨_, rfl⟩
  have hB3 : Below w2.heap.size w2 W3 := by
    rw [hW3]
    exact ((((Below.refl _ _).alloc (Nat.le_refl _) _).alloc (by simp only [size_a]; omega) _).alloc (by simp only [size_a]; omega) _).alloc (by simp only [size_a]; omega) _
  have hS3 : W3.heap.size = w2.heap.size + 1 + 1 + 1 + 1 := by rw [hW3]; simp only [size_a]
  have hP1 : W3.heap[w2.heap.size + 1]? = some (.cells #[str [85, 78, 66], .slice pe 3 cape] 112 (0, 0)) := by
    rw [hW3]; exact heap_past _ _ _ (by simp only [size_a]; omega) (heap_past _ _ _ (by simp only [size_a]; omega) (heap_new _ _ _ (by simp only [size_a])))
  have hP2 : W3.heap[w2.heap.size + 1 + 1]? = some (.cells #[str [85, 78, 90], .slice pe2 2 cape2] 112 (0, 0)) := by
    rw [hW3]; exact heap_past _ _ _ (by simp only [size_a]; omega) (heap_new _ _ _ (by simp only [size_a]))
  have hQ : W3.heap[w2.heap.size + 1 + 1 + 1]? = some (.cells #[.slice (some ⟨w2.heap.size + 1, 0, none⟩) 1 1, .slice p l.length cap, .slice (some ⟨w2.heap.size + 1 + 1, 0, none⟩) 1 1] 72 (0, 0)) := by
    rw [hW3]; exact heap_new _ _ _ (by simp only [size_a])
  have hc := concat_any [[headS f t r], l, [tailS l.length r]] [.slice (some ⟨w2.heap.size + 1, 0, none⟩) 1 1, .slice p l.length cap, .slice (some ⟨w2.heap.size + 1 + 1, 0, none⟩) 1 1] (w2.heap.size + 1 + 1 + 1) W3
    (by intro i v hv; rw [cell_of_arr hQ i]; simpa using hv) (by rw [hS3]; omega) rfl
    (by
      intro i v sl hv hsl
      match i, hv, hsl with
      | 0, hv, hsl =>
        obtain rfl := Option.some.inj hv
        obtain rfl := Option.some.inj hsl
        refine seg_one _ _ _ _ rfl (by show _ < _; rw [hS3]; omega) hP1 (HE1.out.kept fun b hb => ?_)
        have h5 := HF1.out b hb
        exact ⟨by show _ < _; rw [hS3]; omega, (hB3.block b (by omega)).trans (hbl2.block b h5.2)⟩
      | 1, hv, hsl =>
        obtain rfl := Option.some.inj hv
        obtain rfl := Option.some.inj hsl
        refine HV.out.kept fun b hb => ?_
        have hb' : b < w.heap.size := hb
        exact ⟨by show _ < _; rw [hS3]; omega, (hB3.block b (by omega)).trans (hbl.block b hb')⟩
      | 2, hv, hsl =>
        obtain rfl := Option.some.inj hv
        obtain rfl := Option.some.inj hsl
        refine seg_one _ _ _ _ rfl (by show _ < _; rw [hS3]; omega) hP2 (he.kept fun b hb => ?_)
        have h5 := hF2 b hb
        exact ⟨by show _ < _; rw [hS3]; omega, hB3.block b h5.2⟩
      | i + 3, hv, _ => cases hv)
    (by simp) (by simp; omega) (by simp)
  have HC := Lib.hid (show Calls Tryz.prog 49 #[.slice (some ⟨w2.heap.size + 1 + 1 + 1, 0, none⟩) 3 3] W3 _ from hc)
  have HBL := Lib.hid (hbl.trans (hB3.mono hbl.size))
  have HWS := Lib.hid (Nat.le_trans hbl.size hB3.size)
  rw [hW3] at HC HBL HWS
  clear hc hB3 hS3 hP1 hP2 hQ he hF2 hbw hbl2 hbl hg2 hm2 hsz2 hW3
  go_wp2_with (go_at_call 49; refine (HC.out).mono ?_)
  first | rintro e w3 v rfl hsg hb3 | rintro e w3 ⟨v, rfl, hsg, hb3⟩
  have HSG := Lib.hid hsg
  have HB3 := Lib.hid (HBL.out.trans (hb3.mono HWS.out))
  clear hsg hb3
  go_wp2
  go_ret
  exact ⟨_, rfl, HSG.out, HB3.out⟩
end Go.Proofs.YtgaoeljdlpemnaaGreatDoor
