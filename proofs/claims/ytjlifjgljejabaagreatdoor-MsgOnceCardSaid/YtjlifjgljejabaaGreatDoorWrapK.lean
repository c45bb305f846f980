/- closed: an interchange's segments with head and tail. -/
import Derived.Test.YtjlifjgljejabaaGreatDoorWrapG
namespace Go.Proofs.YtjlifjgljejabaaGreatDoor
open Go.RowKit Go.Edi Go.Wrap

def headS (f t r : Nat) : Sg := ⟨[85, 78, 66], numsE [f, t, r]⟩
def tailS (n r : Nat) : Sg := ⟨[85, 78, 90], numsE [n, r]⟩
def closeL (f t r : Nat) (l : List Sg) : List Sg := headS f t r :: (l ++ [tailS l.length r])
theorem nums_at {w : World} {F : Nat → Prop} (b : Nat) (ns : List Nat) (A : Array Value) (hA : A = (ns.map fun (n : Nat) => Value.int .u64 (n : Int)).toArray) (hF : F b) (h : w.heap[b]? = some (.cells A 22 (0, 0))) : NumsF w F (.slice (some ⟨b, 0, none⟩) ns.length ns.length) ns :=
  ⟨_, _, rfl, Nat.le_refl _, fun _ => ⟨b, 0, rfl, hF, fun j u hu => by rw [Nat.zero_add, cell_of_arr h j, hA]; simpa using hu⟩⟩
theorem seg_one {w : World} {F : Nat → Prop} (b : Nat) (s : Sg) (ve : Value) (A : Array Value) (hA : A = #[str s.tag, ve]) (hF : F b) (h : w.heap[b]? = some (.cells A 59 (0, 0))) (he : ElsF w F ve s.els) : SegsF w F (.slice (some ⟨b, 0, none⟩) 1 1) [s] :=
  ⟨[str s.tag, ve], ⟨_, _, rfl, Nat.le_refl _, fun _ => ⟨b, 0, rfl, hF, fun j u hu => by rw [Nat.zero_add, cell_of_arr h j, hA]; simpa using hu⟩⟩, ⟨rfl, he, True.intro⟩⟩
/-- told, at numbers that lie in a block -/
theorem told_at (tag : Tx) (ns : List Nat) (b n : Nat) (B : Nat) (w : World) (A : Array Value) (hA : A = (ns.map fun (n : Nat) => Value.int .u64 (n : Int)).toArray) (hb : w.heap[b]? = some (.cells A 22 (0, 0))) (hn : ns.length = n) (hn2 : n ≤ 1000) (hlt : ∀ n ∈ ns, n < 18446744073709551616) (htab : Tab B w) (hB : B ≤ w.heap.size) :
    Calls Tryz.prog 60 #[str tag, .slice (some ⟨b, 0, none⟩) n n] w fun e w' => ∃ pe cape F, e = .returned (.agg #[str tag, .slice pe n cape]) ∧ ElsF w' F (.slice pe n cape) (numsE ns) ∧ (∀ b, F b → w.heap.size ≤ b ∧ b < w'.heap.size) ∧ Below w.heap.size w w' := by
  subst hn
  refine (told_any tag ns _ B w (nums_at b ns A hA (Array.getElem?_eq_some_iff.1 hb).1 hb) hn2 hlt htab hB).mono ?_
  rintro e w' ⟨ve, F, rfl, h1, h2, h3⟩
  obtain ⟨ys, ⟨pe, cape, rfl, h4⟩, h5⟩ := h1
  have e1 : (numsE ns).length = ns.length := by simp [numsE]
  exact ⟨pe, cape, F, by rw [e1], ⟨ys, ⟨pe, cape, by rw [e1], h4⟩, h5⟩, h2, h3⟩
set_option maxRecDepth 100000 in
set_option maxHeartbeats 6400000 in
theorem closed_any (f t r : Nat) (l : List Sg) (v : Value) (B : Nat) (w : World) (hv : SegsF w (· < w.heap.size) v l) (hl : l.length ≤ 1000) (hf : f < 256) (ht : t < 256) (hr : r < 18446744073709551616) (htab : Tab B w) (hB : B ≤ w.heap.size) :
    Calls Tryz.prog 45 #[.agg (wrV f t r v)] w fun e w' => ∃ v, e = .returned v ∧ SegsF w' (· < w'.heap.size) v (closeL f t r l) ∧ Below w.heap.size w w' := by
  obtain ⟨p, cap, rfl⟩ := segs_slice hv
  have hlI : (l.length : Int) ≤ 1000 := by omega
  have hl0 : (0 : Int) ≤ (l.length : Int) := Int.natCast_nonneg _
  have hfI : (f : Int) < 256 := by omega
  have hf0 : (0 : Int) ≤ (f : Int) := Int.natCast_nonneg _
  have htI : (t : Int) < 256 := by omega
  have ht0 : (0 : Int) ≤ (t : Int) := Int.natCast_nonneg _
  have HV := Lib.hid hv
  have HT := Lib.hid htab
  have HB := Lib.hid hB
  have HR := Lib.hid hr
  clear hv htab hB hr hl
  have hb1 : Below w.heap.size w ((w.alloc (.cells (wrV f t r (.slice p l.length cap)) 41)).alloc (.cells #[.int .u64 (f : Int), .int .u64 (t : Int), .int .u64 (r : Int)] 22)) := ((Below.refl _ _).alloc (Nat.le_refl _) _).alloc (by simp only [size_a]; omega) _
  have hq1 := told_at [85, 78, 66] [f, t, r] (w.heap.size + 1) 3 B ((w.alloc (.cells (wrV f t r (.slice p l.length cap)) 41)).alloc (.cells #[.int .u64 (f : Int), .int .u64 (t : Int), .int .u64 (r : Int)] 22)) _ rfl (heap_new _ _ _ (by simp only [size_a])) rfl (by omega)
    (by intro n hn; have := HR.out; simp only [List.mem_cons, List.not_mem_nil, or_false] at hn; omega) (HT.out.on (hb1.mono HB.out)) (Nat.le_trans HB.out hb1.size)
  have hW0 : ((w.alloc (.cells (wrV f t r (.slice p l.length cap)) 41)).alloc (.cells #[.int .u64 (f : Int), .int .u64 (t : Int), .int .u64 (r : Int)] 22)).heap[w.heap.size]? = some (.cells (wrV f t r (.slice p l.length cap)) 41 (0, 0)) := heap_past _ _ _ (by simp only [size_a]; omega) (heap_new _ _ _ rfl)
  have hs1 : ((w.alloc (.cells (wrV f t r (.slice p l.length cap)) 41)).alloc (.cells #[.int .u64 (f : Int), .int .u64 (t : Int), .int .u64 (r : Int)] 22)).heap.size = w.heap.size + 1 + 1 := by simp only [size_a]
  have HQ1 := Lib.hid hq1
  have HB1 := Lib.hid hb1
  have HW0 := Lib.hid hW0
  have HS1 := Lib.hid hs1
  clear hq1 hb1 hW0 hs1
  go_enter Tryz.func45, Tryz.ntmps45
  go_wp2_with (go_at_call 60; refine (HQ1.out).mono ?_)
  first | rintro e w1 pe cape F1 rfl he hF1 hbw | rintro e w1 ⟨pe, cape, F1, rfl, he, hF1, hbw⟩
  have hsz1 : w.heap.size + 1 + 1 ≤ w1.heap.size := by have := hbw.size; rw [HS1.out] at this; exact this
  have hg1 : w1.heap[w.heap.size]? = some (.cells (wrV f t r (.slice p l.length cap)) 41 (0, 0)) := (hbw.block _ (by rw [HS1.out]; omega)).trans HW0.out
  have hbl1 : Below w.heap.size w w1 := HB1.out.trans (hbw.mono (by rw [HS1.out]; omega))
  have c2 : w1.cell? ⟨w.heap.size, 2, none⟩ = some (.int .u64 (r : Int)) := cell_of_arr hg1 2
  have c3 : w1.cell? ⟨w.heap.size, 3, none⟩ = some (.slice p l.length cap) := cell_of_arr hg1 3
  have hlt1 : w.heap.size < w1.heap.size := by omega
  have hb2 : Below w1.heap.size w1 ((w1.alloc (.cells #[str [85, 78, 66], .slice pe 3 cape] 59)).alloc (.cells #[.int .u64 (l.length : Int), .int .u64 (r : Int)] 22)) := ((Below.refl _ _).alloc (Nat.le_refl _) _).alloc (by simp only [size_a]; omega) _
  have hq2 := told_at [85, 78, 90] [l.length, r] (w1.heap.size + 1) 2 B ((w1.alloc (.cells #[str [85, 78, 66], .slice pe 3 cape] 59)).alloc (.cells #[.int .u64 (l.length : Int), .int .u64 (r : Int)] 22)) _ rfl (heap_new _ _ _ (by simp only [size_a])) rfl (by omega)
    (by intro n hn; have := HR.out; simp only [List.mem_cons, List.not_mem_nil, or_false] at hn; omega) (HT.out.on ((hbl1.mono HB.out).trans (hb2.mono (by have := HB.out; omega)))) (by have := HB.out; have := hb2.size; omega)
  have hs2 : ((w1.alloc (.cells #[str [85, 78, 66], .slice pe 3 cape] 59)).alloc (.cells #[.int .u64 (l.length : Int), .int .u64 (r : Int)] 22)).heap.size = w1.heap.size + 1 + 1 := by simp only [size_a]
  have hW1 : ((w1.alloc (.cells #[str [85, 78, 66], .slice pe 3 cape] 59)).alloc (.cells #[.int .u64 (l.length : Int), .int .u64 (r : Int)] 22)).heap[w1.heap.size]? = some (.cells #[str [85, 78, 66], .slice pe 3 cape] 59 (0, 0)) := heap_past _ _ _ (by simp only [size_a]; omega) (heap_new _ _ _ rfl)
  have HQ2 := Lib.hid hq2
  have HB2 := Lib.hid hb2
  have HW1 := Lib.hid hW1
  have HS2 := Lib.hid hs2
  have HE1 := Lib.hid he
  have HF1 := Lib.hid hF1
  have HBL1 := Lib.hid hbl1
  have HG1 := Lib.hid hg1
  clear hq2 hb2 hW1 hs2 he hF1 hbw hbl1 hg1 hsz1 HQ1
  go_wp2_with (go_at_call 60; refine (HQ2.out).mono ?_)
  first | rintro e w2 pe2 cape2 F2 rfl he hF2 hbw | rintro e w2 ⟨pe2, cape2, F2, rfl, he, hF2, hbw⟩
  have hsz2 : w1.heap.size + 1 + 1 ≤ w2.heap.size := by have := hbw.size; rw [HS2.out] at this; exact this
  have hbl2 : Below w1.heap.size w1 w2 := HB2.out.trans (hbw.mono (by rw [HS2.out]; omega))
  have hbl : Below w.heap.size w w2 := HBL1.out.trans (hbl2.mono HBL1.out.size)
  have hg2 : w2.heap[w.heap.size]? = some (.cells (wrV f t r (.slice p l.length cap)) 41 (0, 0)) := (hbl2.block _ hlt1).trans HG1.out
  have hm2 : w2.heap[w1.heap.size]? = some (.cells #[str [85, 78, 66], .slice pe 3 cape] 59 (0, 0)) := (hbw.block _ (by rw [HS2.out]; omega)).trans HW1.out
  have d3 : w2.cell? ⟨w.heap.size, 3, none⟩ = some (.slice p l.length cap) := cell_of_arr hg2 3
  have m0 : w2.cell? ⟨w1.heap.size, 0, none⟩ = some (str [85, 78, 66]) := cell_of_arr hm2 0
  have m1 : w2.cell? ⟨w1.heap.size, 1, none⟩ = some (.slice pe 3 cape) := cell_of_arr hm2 1
  have l0 : w.heap.size < w2.heap.size := by omega
  have l1 : w.heap.size < w2.heap.size + 1 := by omega
  have l2 : w.heap.size < w2.heap.size + 1 + 1 := by omega
  have k0 : w1.heap.size < w2.heap.size := by omega
  have k1 : w1.heap.size < w2.heap.size + 1 := by omega
  have n1 : w2.heap.size < w2.heap.size + 1 := by omega
  obtain ⟨W3, hW3⟩ : ∃ W3, W3 = ((((w2.alloc (.cells #[str [85, 78, 90], .slice pe2 2 cape2] 59)).alloc (.cells #[str [85, 78, 66], .slice pe 3 cape] 59)).alloc (.cells #[str [85, 78, 90], .slice pe2 2 cape2] 59)).alloc (.cells #[.slice (some ⟨w2.heap.size + 1, 0, none⟩) 1 1, .slice p l.length cap, .slice (some ⟨w2.heap.size + 1 + 1, 0, none⟩) 1 1] 39)) := ⟨_, rfl⟩
  have hB3 : Below w2.heap.size w2 W3 := by
    rw [hW3]
    exact ((((Below.refl _ _).alloc (Nat.le_refl _) _).alloc (by simp only [size_a]; omega) _).alloc (by simp only [size_a]; omega) _).alloc (by simp only [size_a]; omega) _
  have hS3 : W3.heap.size = w2.heap.size + 1 + 1 + 1 + 1 := by rw [hW3]; simp only [size_a]
  have hP1 : W3.heap[w2.heap.size + 1]? = some (.cells #[str [85, 78, 66], .slice pe 3 cape] 59 (0, 0)) := by
    rw [hW3]; exact heap_past _ _ _ (by simp only [size_a]; omega) (heap_past _ _ _ (by simp only [size_a]; omega) (heap_new _ _ _ (by simp only [size_a])))
  have hP2 : W3.heap[w2.heap.size + 1 + 1]? = some (.cells #[str [85, 78, 90], .slice pe2 2 cape2] 59 (0, 0)) := by
    rw [hW3]; exact heap_past _ _ _ (by simp only [size_a]; omega) (heap_new _ _ _ (by simp only [size_a]))
  have hQ : W3.heap[w2.heap.size + 1 + 1 + 1]? = some (.cells #[.slice (some ⟨w2.heap.size + 1, 0, none⟩) 1 1, .slice p l.length cap, .slice (some ⟨w2.heap.size + 1 + 1, 0, none⟩) 1 1] 39 (0, 0)) := by
    rw [hW3]; exact heap_new _ _ _ (by simp only [size_a])
  have hc := concat_any [[headS f t r], l, [tailS l.length r]] [.slice (some ⟨w2.heap.size + 1, 0, none⟩) 1 1, .slice p l.length cap, .slice (some ⟨w2.heap.size + 1 + 1, 0, none⟩) 1 1] (w2.heap.size + 1 + 1 + 1) W3
    (by intro i v hv; rw [cell_of_arr hQ i]; simpa using hv) (by rw [hS3]; omega) rfl
    (by
      intro i v sl hv hsl
      match i, hv, hsl with
      | 0, hv, hsl =>
        obtain rfl := Option.some.inj hv
        obtain rfl := Option.some.inj hsl
        refine seg_one _ _ _ _ rfl (by show _ < _; rw [hS3]; omega) hP1 (HE1.out.kept fun b hb => ?_)
        have h5 := HF1.out b hb
        exact ⟨by show _ < _; rw [hS3]; omega, (hB3.block b (by omega)).trans (hbl2.block b h5.2)⟩
      | 1, hv, hsl =>
        obtain rfl := Option.some.inj hv
        obtain rfl := Option.some.inj hsl
        refine HV.out.kept fun b hb => ?_
        have hb' : b < w.heap.size := hb
        exact ⟨by show _ < _; rw [hS3]; omega, (hB3.block b (by omega)).trans (hbl.block b hb')⟩
      | 2, hv, hsl =>
        obtain rfl := Option.some.inj hv
        obtain rfl := Option.some.inj hsl
        refine seg_one _ _ _ _ rfl (by show _ < _; rw [hS3]; omega) hP2 (he.kept fun b hb => ?_)
        have h5 := hF2 b hb
        exact ⟨by show _ < _; rw [hS3]; omega, hB3.block b h5.2⟩
      | i + 3, hv, _ => cases hv)
    (by simp) (by simp; omega) (by simp)
  have HC := Lib.hid (show Calls Tryz.prog 61 #[.slice (some ⟨w2.heap.size + 1 + 1 + 1, 0, none⟩) 3 3] W3 _ from hc)
  have HBL := Lib.hid (hbl.trans (hB3.mono hbl.size))
  have HWS := Lib.hid (Nat.le_trans hbl.size hB3.size)
  rw [hW3] at HC HBL HWS
  clear hc hB3 hS3 hP1 hP2 hQ he hF2 hbw hbl2 hbl hg2 hm2 hsz2 hW3
  go_wp2_with (go_at_call 61; refine (HC.out).mono ?_)
  first | rintro e w3 v rfl hsg hb3 | rintro e w3 ⟨v, rfl, hsg, hb3⟩
  have HSG := Lib.hid hsg
  have HB3 := Lib.hid (HBL.out.trans (hb3.mono HWS.out))
  clear hsg hb3
  go_wp2
  go_ret
  exact ⟨_, rfl, HSG.out, HB3.out⟩
end Go.Proofs.YtjlifjgljejabaaGreatDoor
