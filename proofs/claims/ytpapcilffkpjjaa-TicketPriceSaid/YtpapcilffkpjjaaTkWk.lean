/- Contracts of the statements' known sale and wakes. -/
import Derived.Test.YtpapcilffkpjjaaTkMg
namespace Go.Proofs.Ytpapcilffkpjjaa
open Go.Shelf Go.RowKit Go.Lib Go.Money Go.Pror Go.Tick

def kn : Sl := ⟨[68, 79, 69, 47, 74], [⟨0, 0, 1⟩, ⟨1, 0, 1⟩, ⟨0, 0, 1⟩], 100, [⟨[71, 66], 7⟩, ⟨[85, 83], 3⟩], 20⟩
theorem kn_chk : chkL kn 2 = 0 := by decide +kernel
theorem kn_vals : vals kn = [34, 33, 33] := by decide +kernel
theorem kn_nn : nonneg (amts kn) := by
  intro a ha
  simp [amts, kn] at ha
  rcases ha with rfl | rfl | rfl <;> decide
theorem kn_sum : sumO 0 (amts kn) = some 110 := by decide +kernel
theorem kn_wt : ∀ x ∈ kn.legs, x.wt ≤ 4294967295 := by
  intro x hx
  simp [kn] at hx
  rcases hx with rfl | rfl | rfl <;> decide
theorem row_lit {α : Type} [Inhabited α] {enc : α → List Value} {k : Nat} (hk : ∀ x, (enc x).length = k) {w : World} {g : Nat} {ty : TypeId} (L : List α) (h : w.heap[g]? = some (.cells (L.flatMap enc).toArray ty (0, 0))) : Row w k enc (some ⟨g, 0, none⟩) L :=
  ⟨fun _ => ⟨g, 0, rfl, lt_heap h, fun j hj i v hv => by
    have := flat_get hk L j i v hj hv
    rw [Nat.zero_add, cell_arr h, List.getElem?_toArray, this]⟩⟩
set_option maxRecDepth 100000 in
theorem known_any (w : World) : Calls Try.prog 21 #[] w fun e w' => ∃ lp tp, e = .returned (.agg (saV kn lp 3 tp 2)) ∧ Row w' 3 lgC lp kn.legs ∧ Row w' 2 txC tp kn.taxes ∧ Below w.heap.size w w' := by
  go_enter Try.func21, Try.ntmps21
  go_wp2
  refine bodyPost_ret (results_cell_row rfl _ _ w.heap.size 28 (saV kn (some ⟨w.heap.size + 1, 0, none⟩) 3 (some ⟨w.heap.size + 1 + 1, 0, none⟩) 2) (0, 0) _ rfl ?_ Try.underlying28 rfl sizeSale) rfl ?_
  · rw [Below.heap_alloc _ _ _ (by simp; omega), Below.heap_alloc _ _ _ (by simp)]; exact heap_last _ _ _ rfl
  · refine ⟨_, _, rfl, row_lit (enc := lgC) (k := 3) (fun _ => rfl) kn.legs (ty := 58) ?_, row_lit (enc := txC) (k := 2) (fun _ => rfl) kn.taxes (ty := 48) ?_, (((Below.refl _ _).alloc (Nat.le_refl _) _).alloc (by simp) _).alloc (by simp; omega) _⟩
    · rw [Below.heap_alloc _ _ _ (by simp)]; exact heap_last _ _ _ (by simp)
    · exact heap_last _ _ _ (by simp)
set_option maxRecDepth 100000 in
set_option maxHeartbeats 1600000 in
theorem tkwakes_any (w : World) : Calls Try.prog 9 #[] w fun e w' => e = .returned (.bool true) ∧ Below w.heap.size w w' := by
  have HK := Lib.hid known_any
  have HP := Lib.hid (fun lp tp W (hT : Row W 2 txC tp kn.taxes) => show Calls Try.prog 17 #[.agg (saV kn lp 3 tp 2)] W (fun e w' => e = .returned (.tuple #[iv 110, iv 0]) ∧ Below W.heap.size W w') from
    (price_any kn lp tp 3 2 W hT (by decide)).mono fun e w' ⟨r, he, hr, hb⟩ => ⟨by rw [he, hr kn_nn, kn_sum]; rfl, hb⟩)
  have HM := Lib.hid (fun lp tp W (hL : Row W 3 lgC lp kn.legs) (hT : Row W 2 txC tp kn.taxes) => make_good 0 1 kn 2 lp 3 tp 2 W (by decide) (by decide) hL hT (by decide) (by decide) kn_wt (by decide) (by decide) kn_chk)
  have HG := Lib.hid (fun W => show Calls Try.prog 10 #[iv 34, iv 20] W (fun e w' => e = .returned (.tuple #[iv 14, iv 20]) ∧ W = w') from give_any 34 20 (by decide) W)
  have hf : kn.fare = 100 := rfl
  have HS := Lib.hid (fun W p q c (hN : Nums W .i64 p [34, 33, 33]) (hM : Nums W .i64 q [34, 33, 33]) => show Calls Try.prog 22 #[.slice p kn.legs.length c, .slice q 3 3] W (fun e w' => e = .returned (.bool true) ∧ ∃ k, w' = W.drewN k) from rsame_any [34, 33, 33] [34, 33, 33] p q c 3 W (by decide) (by decide) hN hM)
  rw [kn_vals] at HM
  go_enter Try.func9, Try.ntmps9
  go_wp2_with fail
  refine (HK.out _).mono ?_
  rintro e w1 ⟨lp, tp, rfl, hL, hT, hb1⟩
  have HT1 := Lib.hid hT
  have HB1 := Lib.hid hb1
  clear hL hT hb1
  go_wp2_with fail
  refine (HP.out _ _ _ HT1.out).mono ?_
  rintro e w2 ⟨rfl, hb2⟩
  have HB2 := Lib.hid (HB1.out.trans (hb2.mono HB1.out.size))
  clear hb2
  go_wp2_with fail
  refine (HK.out _).mono ?_
  rintro e w3 ⟨lp3, tp3, rfl, hL, hT, hb3⟩
  have HL3 := Lib.hid hL
  have HT3 := Lib.hid hT
  have HB3 := Lib.hid (HB2.out.trans (hb3.mono HB2.out.size))
  clear hL hT hb3
  go_wp2_with fail
  refine (HM.out _ _ _ HL3.out HT3.out).mono ?_
  rintro e w4 ⟨lp4, lc4, tp4, tc4, vp4, vc4, rfl, _, _, _, _, _, hn4, hb4⟩
  have HN4 := Lib.hid hn4
  have HB4 := Lib.hid (HB3.out.trans (hb4.mono HB3.out.size))
  clear hn4 hb4
  go_wp2_with (go_at_call 10; refine (HG.out _).mono ?_; rintro e w5 ⟨rfl, rfl⟩)
  refine (HS.out _ _ _ _ (HN4.out.keep (((Below.refl _ _).alloc (Nat.le_refl _) _).alloc (by simp) _)) (nums_lit [34, 33, 33] (heap_last _ _ _ (by simp)))).mono ?_
  rintro e w6 ⟨rfl, k, rfl⟩
  go_wp2
  go_ret
  exact ⟨rfl, below_drewN ((HB4.out.alloc HB4.out.size _).alloc (by have := HB4.out.size; simp; omega) _) _⟩
end Go.Proofs.Ytpapcilffkpjjaa
