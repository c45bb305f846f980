/- A hash as a state of three parts, a byte written, a digest as bytes; how a hash lies in memory. No program is spoken of here. -/
import Derived.Test.YtgaoeljdlpemnaaGreatDoorShaW1
/- Contract of the closure in sha.mix, over the translated program. -/
namespace Go.Proofs.YtgaoeljdlpemnaaGreatDoor.Hs
open Go.RowKit Go.Sha

theorem info42 : (Tryz.prog.info? 121).map (·.size) = some 8 := by kernel_rfl

set_option maxRecDepth 100000 in
set_option maxHeartbeats 800000 in
theorem round_any (v sp cn : List Nat) (bn bs : Nat) (ts tc : TypeId) (fs fc : Nat × Nat) (i : Nat) (w : World) (hi : i < 64) (hv : v.length = 8) (hv1 : Lt M v) (hs : sp.length = 64) (hs1 : Lt M sp) (hc : cn.length = 64) (hc1 : Lt M cn)
    (hbn : w.heap[bn]? = some (.cells (wv v) 121 (0, 0))) (hbs : w.heap[bs]? = some (.cells (wv sp) ts fs)) (hbc : w.heap[1]? = some (.cells (wv cn) tc fc)) :
    Calls Tryz.prog 80 #[.int .i64 (i : Int), .pointer (some ⟨bn, 0, none⟩), .pointer (some ⟨bs, 0, none⟩)] w fun e w' => e = .returned (.tuple #[]) ∧ ∃ n, w' = (w.setRow bn (wv (rnd (at0 cn i) (at0 sp i) v))).drewN n := by
  have HB := Lib.hid hbn; clear hbn
  have v0 : w.cell? ⟨bn, 0, none⟩ = some (.int .u32 (at0 v 0 : Nat)) := (cell_of_row w bn 0 _ _ _ HB.out).trans (wv_get v 0 (by omega))
  have v1 : w.cell? ⟨bn, 1, none⟩ = some (.int .u32 (at0 v 1 : Nat)) := (cell_of_row w bn 1 _ _ _ HB.out).trans (wv_get v 1 (by omega))
  have v2 : w.cell? ⟨bn, 2, none⟩ = some (.int .u32 (at0 v 2 : Nat)) := (cell_of_row w bn 2 _ _ _ HB.out).trans (wv_get v 2 (by omega))
  have v3 : w.cell? ⟨bn, 3, none⟩ = some (.int .u32 (at0 v 3 : Nat)) := (cell_of_row w bn 3 _ _ _ HB.out).trans (wv_get v 3 (by omega))
  have v4 : w.cell? ⟨bn, 4, none⟩ = some (.int .u32 (at0 v 4 : Nat)) := (cell_of_row w bn 4 _ _ _ HB.out).trans (wv_get v 4 (by omega))
  have v5 : w.cell? ⟨bn, 5, none⟩ = some (.int .u32 (at0 v 5 : Nat)) := (cell_of_row w bn 5 _ _ _ HB.out).trans (wv_get v 5 (by omega))
  have v6 : w.cell? ⟨bn, 6, none⟩ = some (.int .u32 (at0 v 6 : Nat)) := (cell_of_row w bn 6 _ _ _ HB.out).trans (wv_get v 6 (by omega))
  have v7 : w.cell? ⟨bn, 7, none⟩ = some (.int .u32 (at0 v 7 : Nat)) := (cell_of_row w bn 7 _ _ _ HB.out).trans (wv_get v 7 (by omega))
  have ci : w.cell? ⟨1, i, none⟩ = some (.int .u32 (at0 cn i : Nat)) := (cell_of_row w _ i _ _ _ hbc).trans (wv_get cn i (by omega))
  have si : w.cell? ⟨bs, i, none⟩ = some (.int .u32 (at0 sp i : Nat)) := (cell_of_row w bs i _ _ _ hbs).trans (wv_get sp i (by omega))
  have l4 : at0 v 4 < M := hv1.getD (by decide) _
  have l0 : at0 v 0 < M := hv1.getD (by decide) _
  clear hbs hbc
  have HV := Lib.hid hv; clear hv
  have HV1 := Lib.hid hv1; clear hv1
  have HS := Lib.hid hs; clear hs
  have HS1 := Lib.hid hs1; clear hs1
  have HC := Lib.hid hc; clear hc
  have HC1 := Lib.hid hc1; clear hc1
  go_enter Tryz.func80, Tryz.ntmps80
  go_wp2
  go_quiet (fail)
  go_wp2
  go_quiet ((go_at_call 81; exact quiet2 (turned_any _ _ _ (by decide) (by decide) (by assumption))))
  go_wp2_with (first
    | (go_at_call 81; refine (turned_any _ _ _ (by decide) (by decide) (by assumption)).mono ?_; rintro e w' ⟨rfl, rfl⟩)
    | ((with_reducible refine wl_store (ty := 121) bn 121 (wv v) ?cs ?hx ?hy ?hg ?hi ?ho ?h1 ?hh); (case hy => rfl); (case hx => rfl); (case hg => exact HB.out); (case hi => exact info42); (case ho => rw [wv_size, HV.out]; rfl); (case h1 => simp [Value.oneCell'])))
  go_end0
  refine ⟨rfl, ?_⟩
  rw [setRow_drewN, rnd_walk v _ _ HV1.out]
  exact ⟨_, rfl⟩
end Go.Proofs.YtgaoeljdlpemnaaGreatDoor.Hs
/- Contract of sha.mix, over the translated program. -/
namespace Go.Proofs.YtgaoeljdlpemnaaGreatDoor.Hs
open Go.RowKit Go.Sha

@[local go_sem high, local simp high] theorem z42 (w : World) : (zeroValue 121).run Tryz.prog w = .ok (.agg (wv (zl 8))) w := by kernel_rfl
@[local go_sem high, local simp high] theorem z49' (w : World) : (zeroValue 163).run Tryz.prog w = .ok (.agg (wv (zl 64))) w := by kernel_rfl
theorem info40 : (Tryz.prog.info? 94).map (·.size) = some 64 := by kernel_rfl

/-- what the package-level variables hold -/
def Gl (w : World) : Prop := (∃ t f, w.heap[0]? = some (.cells (wv BEG) t f)) ∧ (∃ t f, w.heap[1]? = some (.cells (wv KON) t f))
theorem Gl.size {w : World} (h : Gl w) : 1 < w.heap.size := by
  obtain ⟨_, t, f, h⟩ := h
  exact (Array.getElem?_eq_some_iff.1 h).1
theorem Gl.below {w w' : World} {B : Nat} (h : Gl w) (hB : 2 ≤ B) (hb : Below B w w') : Gl w' := by
  obtain ⟨⟨t, f, h0⟩, t', f', h1⟩ := h
  exact ⟨⟨t, f, (hb.block _ (by omega)).trans h0⟩, t', f', (hb.block _ (by omega)).trans h1⟩

set_option maxRecDepth 100000 in
set_option maxHeartbeats 800000 in
theorem mix_any (was b : List Nat) (w : World) (hw : was.length = 8) (hw1 : Lt M was) (hs : b.length = 64) (hb : Lt 256 b) (hG : Gl w) :
    Calls Tryz.prog 54 #[.agg (wv was), .agg (bv b)] w fun e w' => e = .returned (.agg (wv (mixL was b))) ∧ Below w.heap.size w w' := by
  have HW := Lib.hid hw; clear hw
  have HW1 := Lib.hid hw1; clear hw1
  have HS := Lib.hid hs; clear hs
  have HB := Lib.hid hb; clear hb
  have HG := Lib.hid hG; clear hG
  go_enter Tryz.func54, Tryz.ntmps54
  go_wp2_with (first
    | (go_at_call 79; with_reducible refine (spread_any _ _ HS.out HB.out).mono ?_)
    | ((with_reducible refine wl_load (dst := 10) (w.heap.size + 1) 94 (bv b) (0, 0) 64 5 Tryz.underlying94 ?_ ?_ ?_ ?_); (· rfl); (· exact (heap_prev _ _ _ (by simp)).trans (heap_last _ _ _ (by simp))); (· rw [bv_size, HS.out]; exact info40)))
  rintro e w1 ⟨rfl, hb1⟩
  have Hs1 : w.heap.size + 3 ≤ w1.heap.size := by have := hb1.size; simpa using this
  have HBel := Lib.hid (show Below w.heap.size w w1 from ((((Below.refl _ _).alloc (Nat.le_refl _) _).alloc (by simp) _).alloc (by simp; omega) _).trans (hb1.mono (by simp; omega)))
  have HQ0 := Lib.hid (show w1.heap[w.heap.size]? = some (.cells (wv was) 121 (0, 0)) from (hb1.block _ (by simp; omega)).trans ((heap_prev _ _ _ (by simp; omega)).trans ((heap_prev _ _ _ (by simp)).trans (heap_last _ _ _ rfl))))
  have HQ2 := Lib.hid (show w1.heap[w.heap.size + 1 + 1]? = some (.cells (wv (zl 8)) 121 (0, 0)) from (hb1.block _ (by simp)).trans (heap_last _ _ _ (by simp)))
  clear hb1
  go_wp2_with (first
    | ((with_reducible refine wl_storeL (ty := 163) w1.heap.size (wv (spr b 64)) ?_ ?_ ?_ ?_ ?_ ?_ ?_); (· rfl); (· rfl); (· rfl); (· rw [wv_size, spr_len]; exact info49); (· rw [wv_size, wv_size, spr_len, zl_len]); (· exact wv_one _))
    | ((with_reducible refine wl_load (dst := 12) w.heap.size 121 (wv was) (0, 0) 8 28 Tryz.underlying121 ?_ ?_ ?_ ?_); (· rfl); (· exact (heap_prev _ _ _ (by omega)).trans HQ0.out); (· rw [wv_size, HW.out]; exact info42))
    | ((with_reducible refine wl_storeL (ty := 121) (w1.heap.size + 1) (wv was) ?_ ?_ ?_ ?_ ?_ ?_ ?_); (· rfl); (· rfl); (· simp); (· rw [wv_size, HW.out]; exact info42); (· rw [wv_size, wv_size, HW.out, zl_len]); (· exact wv_one _)))
  go_loopw [8, 14] (fun _ i wr => ∃ k n : Nat, k ≤ 64 ∧ i = .int .i64 k ∧ wr = ((w1.alloc (.cells (wv (spr b 64)) 163)).alloc (.cells (wv (rds KON (spr b 64) was k)) 121)).drewN n) (fun _ i _ => 64 - (intOf i).toNat)
  case atStart => exact ⟨0, 0, Nat.zero_le _, rfl, by rw [rds_zero]; rfl⟩
  case round =>
    obtain ⟨k, n, hk, rfl, rfl⟩ := hrel
    by_cases hlt : k < 64
    · go_wp2_with fail
      obtain ⟨_, tc, fc, hc⟩ := HG.out
      refine (round_any (rds KON (spr b 64) was k) (spr b 64) KON (w1.heap.size + 1) w1.heap.size 163 tc (0, 0) fc k _ hlt (rds_len _ _ HW.out k) (rds_lt _ _ HW1.out k) (spr_len b 64) (spr_lt HB.out 64) KON_len KON_lt
        (by exact heap_last _ _ _ (by simp)) (by exact (heap_prev _ _ _ (by simp)).trans (heap_last _ _ _ rfl))
        (by exact (heap_prev _ _ _ (by simp; omega)).trans ((heap_prev _ _ _ (by omega)).trans ((HBel.out.block _ HG.out.size).trans hc)))).mono ?_
      rintro e w2 ⟨rfl, m, rfl⟩
      rw [setRow_drewN, setRow_alloc_at _ _ _ _ _ (by simp), ← rds_succ]
      clear hc
      go_wp2_with fail
      go_roundw
      case rel => exact ⟨k + 1, n + m, by omega, by go_num, rfl⟩
      case measure => simp [intOf]; omega
    · have HK := Lib.hid (show k = 64 by omega)
      go_wp2_with fail
      go_loopw [9, 21] (fun _ i wr => ∃ j n : Nat, j ≤ 8 ∧ i = .int .i64 j ∧ wr = ((w1.alloc (.cells (wv (spr b 64)) 163)).alloc (.cells (wv (fold was (rds KON (spr b 64) was k) j)) 121)).drewN n) (fun _ i _ => 8 - (intOf i).toNat)
      case atStart => exact ⟨0, n, Nat.zero_le _, rfl, by rw [fold_zero]⟩
      case round =>
        clear hk hlt
        obtain ⟨j, m, hj, rfl, rfl⟩ := hrel
        have Hs2 : w.heap.size < w1.heap.size := by omega
        by_cases hlt : j < 8
        · have c0 : w1.cell? ⟨w.heap.size, j, none⟩ = some (.int .u32 (at0 was j : Nat)) := (cell_of_row _ _ j _ _ _ HQ0.out).trans (wv_get was j (by rw [HW.out]; omega))
          have gk := wv_get (fold was (rds KON (spr b 64) was k) j) j (by rw [fold_len, rds_len _ _ HW.out]; omega)
          go_wp2
          go_region
          go_wp2
          go_roundw
          case rel =>
            go_light
            refine ⟨j + 1, m + 1, by omega, by go_num, ?_⟩
            rw [setCell_drewN, World.setCell_alloc_at _ _ _ _ _ (by simp), addm, wv_set, ← fold_succ]
          case measure => simp [intOf]; omega
        · have HJ := Lib.hid (show j = 8 by omega)
          go_wp2_with (first
            | ((with_reducible refine wl_load (dst := 33) (w1.heap.size + 1) 121 (wv (fold was (rds KON (spr b 64) was k) j)) (0, 0) 8 28 Tryz.underlying121 ?_ ?_ ?_ ?_); (· rfl); (· exact heap_last _ _ _ (by simp)); (· rw [wv_size, fold_len, rds_len _ _ HW.out]; exact info42))
            | ((with_reducible refine wl_store (ty := 121) (w.heap.size + 1 + 1) 121 (wv (zl 8)) (wv (fold was (rds KON (spr b 64) was k) j)) ?_ ?_ ?_ ?_ ?_ ?_ ?_); (· rfl); (· rfl); (· exact (heap_prev _ _ _ (by simp; omega)).trans ((heap_prev _ _ _ (by omega)).trans HQ2.out)); (· rw [wv_size, fold_len, rds_len _ _ HW.out]; exact info42); (· rw [wv_size, wv_size, fold_len, rds_len _ _ HW.out, zl_len]); (· exact wv_one _)))
          rw [setRow_drewN, setRow_alloc_past _ _ _ _ (by simp; omega), setRow_alloc_past _ _ _ _ (by omega)]
          have hh : (w1.setRow (w.heap.size + 1 + 1) (wv (fold was (rds KON (spr b 64) was k) j))).heap[w.heap.size + 1 + 1]? = some (.cells (wv (fold was (rds KON (spr b 64) was k) j)) 121 (0, 0)) := setRow_heap _ _ _ _ _ _ HQ2.out
          refine ret_row Tryz.results54 (w.heap.size + 1 + 1) 121 (wv (fold was (rds KON (spr b 64) was k) j)) (0, 0) 8 28 Tryz.underlying121 rfl ?_ ?_ rfl ⟨by rw [HK.out, HJ.out, mixL], ?_⟩
          · exact (heap_prev _ _ _ (by simp; omega)).trans ((heap_prev _ _ _ (by simp; omega)).trans hh)
          · rw [wv_size, fold_len, rds_len _ _ HW.out]; exact info42
          · exact below_drewN (((below_setRow' HBel.out (by omega) _).alloc (by simp; omega) _).alloc (by simp; omega) _) _
end Go.Proofs.YtgaoeljdlpemnaaGreatDoor.Hs
namespace Go.Sha

/-- a hash as cells: eight words, 64 bytes, the count -/
def hv (m r : List Nat) (c : Nat) : Array Value := wv m ++ bv r ++ #[Value.int .u64 (c : Int)]
theorem hv_size {m r : List Nat} (c : Nat) (hm : m.length = 8) (hr : r.length = 64) : (hv m r c).size = 73 := by simp [hv, wv_size, bv_size, hm, hr]
theorem hv_count {m r : List Nat} (c : Nat) (hm : m.length = 8) (hr : r.length = 64) : (hv m r c)[72]? = some (.int .u64 (c : Int)) := by
  rw [hv, Array.getElem?_append_right (by simp [wv_size, bv_size, hm, hr])]
  simp [wv_size, bv_size, hm, hr]
/-- the digest's bytes -/
def digB (w : List Nat) (i : Nat) : Nat := (at0 w (i / 4) >>> (24 - 8 * (i % 4))) % 256
def digTo (w : List Nat) : Nat → List Nat
  | 0 => zl 32
  | k + 1 => (digTo w k).set k (digB w k)
def dig (w : List Nat) : List Nat := digTo w 32
theorem digTo_len (w : List Nat) : ∀ k, (digTo w k).length = 32
  | 0 => zl_len 32
  | k + 1 => by rw [digTo, List.length_set, digTo_len w k]
theorem digTo_zero (w : List Nat) : digTo w 0 = zl 32 := rfl
theorem digTo_succ (w : List Nat) (k : Nat) : digTo w (k + 1) = (digTo w k).set k (digB w k) := rfl
theorem digTo_lt (w : List Nat) : ∀ k, Lt 256 (digTo w k)
  | 0 => zl_lt 32 256 (by decide)
  | k + 1 => (digTo_lt w k).set _ _ (Nat.mod_lt _ (by decide))
theorem dig_len (w : List Nat) : (dig w).length = 32 := digTo_len w 32
theorem dig_lt (w : List Nat) : Lt 256 (dig w) := digTo_lt w 32
theorem dig_walk (m : List Nat) (k : Nat) : ((at0 m (k / 4) : Nat) : Int) / 2 ^ (24 - 8 * (k % 4)) % 256 = ((digB m k : Nat) : Int) := by
  rw [shrm, digB]; simp
attribute [irreducible] hv digTo dig
end Go.Sha
