/- slices.Concat of segments (and slices.Grow beneath it): a new list of them all. -/
import Derived.Test.YtjlifjgljejabaaGreatDoorWrapD
import Derived.Test.YtjlifjgljejabaaGreatDoorEdiSn
import Derived.Lib.AppendZerosOnto
import Derived.Lib.SliceRun
import Derived.Lib.Walk
namespace Go.Proofs.YtjlifjgljejabaaGreatDoor
open Go.RowKit Go.Edi Go.Wrap Go.Lib

set_option maxRecDepth 100000 in
set_option maxHeartbeats 3200000 in
theorem grow_any (n : Nat) (hn : 0 < n) (hn2 : n ≤ 100000) (w : World) :
    Calls Tryz.prog 90 #[.slice none 0 0, .int .i64 (n : Int)] w fun e w' => ∃ p cap, e = .returned (.slice p 0 cap) ∧ w'.ownsRow w.heap.size 59 2 (.slice p 0 cap) 0 [] ∧ Below w.heap.size w w' := by
  obtain ⟨i0, hi0, hi1⟩ := Option.map_eq_some_iff.1 par_seg
  simp only [Prod.mk.injEq] at hi1
  obtain ⟨hz0, hs0, hb0⟩ := hi1
  have hold : (Builtin.firstCells i0.size 0 (.slice none 0 0)).run Tryz.prog w.drew = .ok ([] : List Value).toArray w.drew := run_firstCells_none w.drew i0.size 0 0 0
  have hG : (0 : Nat) + n ≤ grownCap w (0 + n) 0 59 := grownCap_ge w _ _ _
  have hGm : grownCap w (0 + n) 0 59 ≤ maxLen := grownCap_le_maxLen w _ _ _ (by unfold maxLen; omega)
  have hrz : ∀ ty, (Builtin.append_ #[39, 3] ty #[.slice none 0 0, .int .i64 (n : Int)]).run Tryz.prog w = _ := fun ty =>
    Lib.run_append_grow_zeros w 39 3 ty 59 i0 _ .i64 .i64 Tryz.underlying39 Tryz.underlying3 hi0 hz0 none 0 0 [] hold n hn (by omega) (by omega) (by omega) (by rw [hb0]; omega) (growslice_fits (by omega) (by rw [hb0]; omega))
  generalize grownCap w (0 + n) 0 59 = G at *
  have hG63 : (G : Int) ≤ 9223372036854775807 := by unfold maxLen at hGm; omega
  have hnI : (0 : Int) < (n : Int) := by omega
  have hnI2 : (n : Int) ≤ 100000 := by omega
  have HO := Lib.hid (World.ownsRow_made (base := w.heap.size) (e := 59) (size := 2) w (Builtin.zeroCells #[.string ⟨#[]⟩, .slice none 0 0] n ++ Builtin.zeroCells #[.string ⟨#[]⟩, .slice none 0 0] (G - n)) G (Nat.le_refl _) hGm (by
    rw [Array.size_append, size_zeroCells, size_zeroCells]
    simp
    omega))
  clear hold hz0 hs0 hb0 hi0 hGm
  go_enter Tryz.func90, Tryz.ntmps90
  go_wp2_with (at_builtin; refine Lib.wpList_append_run _ rfl _ _ _ _ rfl _ _ rfl rfl _ _ (hrz _) ?_)
  go_ret
  exact ⟨_, _, rfl, own_keep HO.out (fun _ _ => rfl), ((Below.refl _ _).alloc (Nat.le_refl _) _).drew⟩
theorem flat_succ (ls : List (List Sg)) (k : Nat) (h : k < ls.length) : (ls.take (k + 1)).flatten = (ls.take k).flatten ++ ls[k] := by
  rw [← List.take_append_getElem h, List.flatten_append]; simp
theorem flat_le (ls : List (List Sg)) (k : Nat) : (ls.take k).flatten.length ≤ ls.flatten.length := by
  have h : ls.flatten = (ls.take k).flatten ++ (ls.drop k).flatten := by rw [← List.flatten_append, List.take_append_drop]
  rw [h, List.length_append]; omega
/-- what Concat has put together, so far -/
structure CcI (w : World) (l : List Sg) (v : Value) (wr : World) : Prop where
  own : ∃ xs, wr.ownsRow w.heap.size 59 2 v l.length xs ∧ SgC wr (· < w.heap.size) l xs
  bl : Below w.heap.size w wr
theorem CcI.segs {w wr : World} {l : List Sg} {v : Value} (h : CcI w l v wr) : SegsF wr (· < wr.heap.size) v l := by
  obtain ⟨xs, h1, h2⟩ := h.own
  exact ⟨xs, row_own h1 (fun b e => (h1.lt b e).2), h2.kept (fun b hb => ⟨Nat.lt_of_lt_of_le hb h.bl.size, rfl⟩)⟩
set_option maxRecDepth 100000 in
set_option maxHeartbeats 6400000 in
theorem concat_any (ls : List (List Sg)) (vs : List Value) (q : Nat) (w : World) (hq : ∀ (i : Nat) (v : Value), vs[i]? = some v → w.cell? ⟨q, i, none⟩ = some v) (hqs : q < w.heap.size) (hvs : vs.length = ls.length)
    (hsg : ∀ (i : Nat) (v : Value) (l : List Sg), vs[i]? = some v → ls[i]? = some l → SegsF w (· < w.heap.size) v l) (hpos : 0 < ls.flatten.length) (hle : ls.flatten.length ≤ 100000) (hln : ls.length ≤ 1000) :
    Calls Tryz.prog 61 #[.slice (some ⟨q, 0, none⟩) ls.length ls.length] w fun e w' => ∃ v, e = .returned v ∧ SegsF w' (· < w'.heap.size) v ls.flatten ∧ Below w.heap.size w w' := by
  have hlI : (ls.length : Int) ≤ 1000 := by omega
  have HQ := Lib.hid hq
  have HQS := Lib.hid hqs
  have HVS := Lib.hid hvs
  have HSG := Lib.hid hsg
  have HP := Lib.hid hpos
  have HLE := Lib.hid hle
  clear hq hqs hvs hsg hpos hle hln
  go_enter Tryz.func61, Tryz.ntmps61
  go_wp2
  go_loopw [3, 11] (fun s i wr => ∃ (k n : Nat), s = .int .i64 n ∧ i = .int .i64 k ∧ k ≤ ls.length ∧ n = (ls.take k).flatten.length ∧ w = wr) (fun _ i _ => ls.length - (RowKit.intOf i).toNat)
  case atStart => exact ⟨0, 0, rfl, rfl, Nat.zero_le _, rfl, rfl⟩
  case round =>
    obtain ⟨k, n, rfl, rfl, hk, hn, rfl⟩ := hrel
    have HN := Lib.hid hn
    have hn1 : (n : Int) ≤ 100000 := by have := flat_le ls k; have := HLE.out; omega
    have hn0 : (0 : Int) ≤ (n : Int) := Int.natCast_nonneg _
    by_cases hlt : (k : Int) < (ls.length : Int)
    · have hkl : k < ls.length := by omega
      have hk0 : (0 : Int) ≤ (k : Int) := Int.natCast_nonneg _
      obtain ⟨v, hv⟩ : ∃ v, vs[k]? = some v := ⟨vs[k]'(by rw [HVS.out]; exact hkl), List.getElem?_eq_getElem _⟩
      have hck := HQ.out k v hv
      have hs := HSG.out k v _ hv (List.getElem?_eq_getElem hkl)
      have HFS := Lib.hid (flat_succ ls k hkl)
      have hfl := flat_le ls (k + 1)
      rw [HFS.out, List.length_append] at hfl
      generalize ls[k]'hkl = l at *
      obtain ⟨p, cap, rfl⟩ := segs_slice hs
      have hm1 : (n : Int) + (l.length : Int) ≤ 100000 := by have := HLE.out; omega
      have hm0 : (0 : Int) ≤ (l.length : Int) := Int.natCast_nonneg _
      clear hn hs hfl hv
      go_wp2
      go_roundw
      case rel => exact ⟨k + 1, n + l.length, by go_num, by go_num, by omega, by rw [HFS.out, List.length_append, HN.out], trivial⟩
      case measure => simp [RowKit.intOf]; omega
    · obtain rfl : k = ls.length := by omega
      rw [List.take_length] at HN
      have hg := grow_any n (by have := HN.out; have := HP.out; omega) (by omega) w
      have HG := Lib.hid hg
      clear hg hn
      go_wp2_with (go_at_call 90; refine (HG.out).mono ?_)
      first | rintro e w1 p cap rfl ho hb | rintro e w1 ⟨p, cap, rfl, ho, hb⟩
      have HO := Lib.hid ho
      have HB := Lib.hid hb
      clear ho hb
      go_wp2
      go_loopw [6, 27] (fun u i wr => ∃ (k : Nat) (p : Option Addr) (cap : Nat), u = .slice p (ls.take k).flatten.length cap ∧ i = .int .i64 k ∧ k ≤ ls.length ∧ CcI w (ls.take k).flatten (.slice p (ls.take k).flatten.length cap) wr) (fun _ i _ => ls.length - (RowKit.intOf i).toNat)
      case atStart => exact ⟨0, p, cap, rfl, rfl, Nat.zero_le _, ⟨⟨[], HO.out, True.intro⟩, HB.out⟩⟩
      case round =>
        obtain ⟨k, p, cap, rfl, rfl, hk, hci⟩ := hrel
        have HC := Lib.hid hci
        have hb := hci.bl
        by_cases hlt2 : (k : Int) < (ls.length : Int)
        · have hkl : k < ls.length := by omega
          have hk0 : (0 : Int) ≤ (k : Int) := Int.natCast_nonneg _
          obtain ⟨v, hv⟩ : ∃ v, vs[k]? = some v := ⟨vs[k]'(by rw [HVS.out]; exact hkl), List.getElem?_eq_getElem _⟩
          have hck : wr.cell? ⟨q, k, none⟩ = some v := (World.cell?_of_block (a := ⟨q, k, none⟩) (hb.block q HQS.out)).trans (HQ.out k v hv)
          have hs := HSG.out k v _ hv (List.getElem?_eq_getElem hkl)
          have HFS := Lib.hid (flat_succ ls k hkl)
          have hfl := flat_le ls (k + 1)
          rw [HFS.out, List.length_append] at hfl
          generalize ls[k]'hkl = l at *
          obtain ⟨p2, cap2, rfl⟩ := segs_slice hs
          have HS := Lib.hid (SegsF.kept hs (w' := wr) (F' := (· < w.heap.size)) (fun b hb2 => ⟨hb2, hb.block b hb2⟩))
          obtain ⟨xs, hrow, hsg⟩ := HS.out
          obtain ⟨ys, hown, hsc⟩ := HC.out.own
          have HFL := Lib.hid hfl
          have HROW := Lib.hid hrow
          have HSGC := Lib.hid hsg
          have HOWN := Lib.hid hown
          have HSC := Lib.hid hsc
          have HBL := Lib.hid hb
          generalize (ls.take k).flatten = a at *
          clear hci hs hfl hv hrow hsg hown hsc hb
          go_wp2_with (at_builtin; refine wl_appF 39 59 (.agg #[.string ⟨#[]⟩, .slice none 0 0]) 2 40 par_seg Tryz.underlying39 rfl (by decide) (by decide) w.heap.size (.slice p a.length cap) a.length ys rfl HOWN.out (.slice p2 l.length cap2) (· < w.heap.size) l.length xs rfl HROW.out HSGC.out.len (one_sgc HSGC.out) (by have := HFL.out; have := HLE.out; omega) HBL.out.size ?_)
          intro v' w3 ho hgr hbk
          obtain ⟨p3, cap3, rfl⟩ := own_slice ho
          have hb3 : Below w.heap.size w w3 := HBL.out.grown hgr HBL.out.size (fun k hk => (HOWN.out.lt k hk).1)
          have hkp : Kp (· < w.heap.size) (· < w.heap.size) wr w3 := fun b hb => ⟨hb, (hb3.block b hb).trans (HBL.out.block b hb).symm⟩
          have HCN := Lib.hid (show CcI w (a ++ l) (.slice p3 (a.length + l.length) cap3) w3 from ⟨⟨ys ++ xs, by rw [List.length_append]; exact ho, (HSGC.out.app HSC.out).kept hkp⟩, hb3⟩)
          clear ho hgr hbk hb3 hkp
          go_wp2
          go_roundw
          case rel => exact ⟨k + 1, p3, cap3, by rw [HFS.out, List.length_append], by go_num, by omega, by rw [HFS.out, List.length_append]; exact HCN.out⟩
          case measure => simp [RowKit.intOf]; omega
        · obtain rfl : k = ls.length := by omega
          rw [List.take_length] at *
          have hs := hci.segs
          rw [List.length_flatten] at hs
          have HS := Lib.hid hs
          have HB2 := Lib.hid hb
          clear hci hb hs
          go_wp2
          go_ret
          exact ⟨_, rfl, HS.out, HB2.out⟩
end Go.Proofs.YtjlifjgljejabaaGreatDoor
