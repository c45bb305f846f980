/- Contract of the closure in sha.mix, over the translated program. -/
import Derived.Test.YthaaccbbegmhbaaDoorShaW1
namespace Go.Proofs.YthaaccbbegmhbaaDoor
open Go.RowKit Go.Sha

theorem info42 : (Tryd.prog.info? 57).map (·.size) = some 8 := by kernel_rfl

set_option maxRecDepth 100000 in
set_option maxHeartbeats 800000 in
theorem round_any (v sp cn : List Nat) (bn bs : Nat) (ts tc : TypeId) (fs fc : Nat × Nat) (i : Nat) (w : World) (hi : i < 64) (hv : v.length = 8) (hv1 : Lt M v) (hs : sp.length = 64) (hs1 : Lt M sp) (hc : cn.length = 64) (hc1 : Lt M cn)
    (hbn : w.heap[bn]? = some (.cells (wv v) 57 (0, 0))) (hbs : w.heap[bs]? = some (.cells (wv sp) ts fs)) (hbc : w.heap[1]? = some (.cells (wv cn) tc fc)) :
    Calls Tryd.prog 38 #[.int .i64 (i : Int), .pointer (some ⟨bn, 0, none⟩), .pointer (some ⟨bs, 0, none⟩)] w fun e w' => e = .returned (.tuple #[]) ∧ ∃ n, w' = (w.setRow bn (wv (rnd (at0 cn i) (at0 sp i) v))).drewN n := by
  have HB := Lib.hid hbn; clear hbn
  have v0 : w.cell? ⟨bn, 0, none⟩ = some (.int .u32 (at0 v 0 : Nat)) := (cell_of_row w bn 0 _ _ _ HB.out).trans (wv_get v 0 (by omega))
  have v1 : w.cell? ⟨bn, 1, none⟩ = some (.int .u32 (at0 v 1 : Nat)) := (cell_of_row w bn 1 _ _ _ HB.out).trans (wv_get v 1 (by omega))
  have v2 : w.cell? ⟨bn, 2, none⟩ = some (.int .u32 (at0 v 2 : Nat)) := (cell_of_row w bn 2 _ _ _ HB.out).trans (wv_get v 2 (by omega))
  have v3 : w.cell? ⟨bn, 3, none⟩ = some (.int .u32 (at0 v 3 : Nat)) := (cell_of_row w bn 3 _ _ _ HB.out).trans (wv_get v 3 (by omega))
  have v4 : w.cell? ⟨bn, 4, none⟩ = some (.int .u32 (at0 v 4 : Nat)) := (cell_of_row w bn 4 _ _ _ HB.out).trans (wv_get v 4 (by omega))
  have v5 : w.cell? ⟨bn, 5, none⟩ = some (.int .u32 (at0 v 5 : Nat)) := (cell_of_row w bn 5 _ _ _ HB.out).trans (wv_get v 5 (by omega))
  have v6 : w.cell? ⟨bn, 6, none⟩ = some (.int .u32 (at0 v 6 : Nat)) := (cell_of_row w bn 6 _ _ _ HB.out).trans (wv_get v 6 (by omega))
  have v7 : w.cell? ⟨bn, 7, none⟩ = some (.int .u32 (at0 v 7 : Nat)) := (cell_of_row w bn 7 _ _ _ HB.out).trans (wv_get v 7 (by omega))
  have ci : w.cell? ⟨1, i, none⟩ = some (.int .u32 (at0 cn i : Nat)) := (cell_of_row w _ i _ _ _ hbc).trans (wv_get cn i (by omega))
  have si : w.cell? ⟨bs, i, none⟩ = some (.int .u32 (at0 sp i : Nat)) := (cell_of_row w bs i _ _ _ hbs).trans (wv_get sp i (by omega))
  have l4 : at0 v 4 < M := hv1.getD (by decide) _
  have l0 : at0 v 0 < M := hv1.getD (by decide) _
  clear hbs hbc
  have HV := Lib.hid hv; clear hv
  have HV1 := Lib.hid hv1; clear hv1
  have HS := Lib.hid hs; clear hs
  have HS1 := Lib.hid hs1; clear hs1
  have HC := Lib.hid hc; clear hc
  have HC1 := Lib.hid hc1; clear hc1
  go_enter Tryd.func38, Tryd.ntmps38
  go_wp2
  go_quiet (fail)
  go_wp2
  go_quiet ((go_at_call 39; exact quiet2 (turned_any _ _ _ (by decide) (by decide) (by assumption))))
  go_wp2_with (first
    | (go_at_call 39; refine (turned_any _ _ _ (by decide) (by decide) (by assumption)).mono ?_; rintro e w' ⟨rfl, rfl⟩)
    | ((with_reducible refine wl_store (ty := 57) bn 57 (wv v) ?cs ?hx ?hy ?hg ?hi ?ho ?h1 ?hh); (case hy => rfl); (case hx => rfl); (case hg => exact HB.out); (case hi => exact info42); (case ho => rw [wv_size, HV.out]; rfl); (case h1 => simp [Value.oneCell'])))
  go_end0
  refine ⟨rfl, ?_⟩
  rw [setRow_drewN, rnd_walk v _ _ HV1.out]
  exact ⟨_, rfl⟩
end Go.Proofs.YthaaccbbegmhbaaDoor
