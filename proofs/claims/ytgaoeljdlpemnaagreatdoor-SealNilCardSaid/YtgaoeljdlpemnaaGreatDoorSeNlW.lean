/- SealNil's walk. -/
import Derived.Test.YtgaoeljdlpemnaaGreatDoorSeT
namespace Go.Proofs.YtgaoeljdlpemnaaGreatDoor
open Go.RowKit Go.Edi Go.Wrap Go.Lib
open Go.Sha (bv zl)

set_option maxRecDepth 100000 in
set_option maxHeartbeats 3200000 in
theorem senil_walk (p : Pk) (t : Nat) (v : Value) (B : Nat) (w : World) (he : Ev B w) (hB : B ≤ w.heap.size) :
    Calls Tryz.prog 3 #[.agg (pkV p), .int .u8 (t : Int), v] w fun e w' => e = .returned (.bool true) ∧ Below w.heap.size w w' := by
  have hb0 : Below w.heap.size w (w.alloc (.cells (pkV p) 38)) := (Below.refl _ _).alloc (Nat.le_refl _) _
  have HB0 := Lib.hid hb0
  have HP0 := Lib.hid (show (w.alloc (.cells (pkV p) 38)).heap[w.heap.size]? = some (.cells (pkV p) 38 (0, 0)) from at_last _ _)
  have HWK := Lib.hid (show ∀ wz, Below w.heap.size w wz → Calls Tryz.prog 8 #[] wz fun e w' => e = .returned (.bool true) ∧ Below wz.heap.size wz w' from fun wz hz => sewakes_any B wz (he.on (hz.mono hB)) (Nat.le_trans hB hz.size))
  have heq : ∀ W, (binOp .eql 38 (.agg pk0) (.agg pk0)).run Tryz.prog W = .ok (.bool true) W := fun W => by
    have h := eql_pk .zero .zero W
    rw [decide_eq_true rfl] at h
    exact h
  clear hb0 he hB
  go_enter Tryz.func3, Tryz.ntmps3
  go_wp2_with (first
    | (refine wpList_load_row rfl 38 _ rfl w.heap.size rfl 38 (pkV p) (0, 0) _ HP0.out Tryz.underlying38 rfl sizePk ?_))
  go_at_call 5
  refine (seal_nil (pkV p) _).mono ?_
  rintro e w1 ⟨rfl, hb1⟩
  have HB1 := Lib.hid (HB0.out.trans (hb1.mono HB0.out.size))
  clear hb1
  go_wp2_with fail
  go_at_call 6
  refine (open_nil t v w1).mono ?_
  rintro e w2 ⟨rfl, hb2⟩
  have HB2 := Lib.hid (HB1.out.trans (hb2.mono HB1.out.size))
  have hd2 : (w2.alloc (.cells pk0 38)).heap[w2.heap.size]? = some (.cells pk0 38 (0, 0)) := at_last _ _
  have HD2 := Lib.hid hd2
  obtain ⟨w3, hw3⟩ : ∃ w3, w3 = (w2.alloc (.cells pk0 38)).setRow w2.heap.size pk0 := ⟨_, rfl⟩
  have hb3 : Below w2.heap.size w2 w3 := by rw [hw3]; exact below_setR ((Below.refl _ _).alloc (Nat.le_refl _) _) (Nat.le_refl _) _
  have HW3 := Lib.hid hw3
  have HP3 := Lib.hid (show w3.heap[w2.heap.size]? = some (.cells pk0 38 (0, 0)) by rw [hw3]; exact setRow_heap _ _ _ _ _ _ hd2)
  have HB3 := Lib.hid (HB2.out.trans (hb3.mono HB2.out.size))
  clear hd2 hw3 hb3 hb2
  go_wp2_with (first
    | (refine wpList_store_row rfl 38 _ _ rfl w2.heap.size pk0 rfl rfl 38 pk0 HD2.out sizePk rfl pk0_one ?_; rw [← HW3.out])
    | (go_at_call 7; refine (carriers_nil w3).mono ?_; rintro e w' ⟨rfl, hq⟩; subst hq)
    | (refine wpList_load_rowG (by rfl) 38 _ rfl w2.heap.size rfl 38 pk0 (0, 0) _ HP3.out Tryz.underlying38 rfl sizePk ?_)
    | (go_at_call 8; refine (HWK.out _ HB3.out).mono ?_; rintro e w4 ⟨rfl, hb4⟩; have HB4 := Lib.hid (HB3.out.trans (hb4.mono HB3.out.size)); clear hb4))
  go_ret
  exact ⟨rfl, HB4.out⟩
end Go.Proofs.YtgaoeljdlpemnaaGreatDoor
