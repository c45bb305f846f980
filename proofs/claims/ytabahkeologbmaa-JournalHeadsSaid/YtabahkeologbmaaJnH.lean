/- Contracts of heads: headOf, number, length, whole. -/
import Derived.Test.YtabahkeologbmaaJnLay
namespace Go.Proofs.Ytabahkeologbmaa.Jn
open Go.RowKit Go.Shelf Go.Dk Go.Jn Go.Sha Go.Proofs.Ytabahkeologbmaa.Dk

theorem zero_head (w : World) : (zeroValue 59).run Try.prog w = .ok (.agg (bc zero64)) w := by
  have : (zeroValue 59).run Try.prog w = .ok (.agg (Lib.byteCells zero64).toArray) w := by kernel_rfl
  rw [this, ← bc_list]
theorem info_head : (Try.prog.info? 59).map (·.size) = some 64 := by kernel_rfl
attribute [local go_sem high, local simp high] zero_head
theorem lay1 (A : By) : zero64.take 0 ++ (A ++ zero64.drop (0 + 8)) = A ++ List.replicate 56 0 := by
  have e0 : zero64 = List.replicate 64 0 := by unfold zero64; rfl
  rw [e0]; simp
theorem lay2 (A B : By) (h : A.length = 8) : (A ++ List.replicate 56 0).take 8 ++ (B ++ (A ++ List.replicate 56 0).drop (8 + 8)) = A ++ (B ++ List.replicate 48 0) := by
  rw [List.take_append_of_le_length (by omega), List.take_of_length_le (by omega), List.drop_append, List.drop_of_length_le (by omega), h, List.nil_append, List.drop_replicate]
theorem lay3 (A B : By) (h : A.length = 8) (h2 : B.length = 8) : (A ++ (B ++ List.replicate 48 0)).take 56 ++ (A ++ (A ++ (B ++ List.replicate 48 0)).drop (56 + 8)) = A ++ (B ++ (List.replicate 40 0 ++ A)) := by
  rw [List.take_append, List.take_append, List.take_of_length_le (l := A) (by omega), List.take_of_length_le (l := B) (by omega), h, h2, List.take_replicate, List.drop_of_length_le (by simp; omega), List.append_nil]
  simp only [List.append_assoc]
  rfl
set_option maxRecDepth 100000 in
set_option maxHeartbeats 800000 in
theorem headOf_any (num len : Nat) (h1 : num < 18446744073709551616) (h2 : len < 18446744073709551616) (w : World) :
    Calls Try.prog 52 #[.int .u64 (num : Int), .int .u64 (len : Int)] w fun e w' => e = .returned (.agg (bc (headB num len))) ∧ Below w.heap.size w w' := by
  have h1' := Lib.hid h1
  have h2' := Lib.hid h2
  clear h1 h2
  have hz : zero64.length = 64 := zero64_len
  go_enter Try.func52, Try.ntmps52
  go_wp2_with fail
  refine (lay_any (w.heap.size + 1) 0 8 64 num zero64 59 (by omega) h1'.out (by omega) _ (heap_last _ _ _ (by simp))).mono ?_
  rintro e w1 ⟨rfl, hb1, hf1⟩
  rw [lay1] at hb1
  have HF1 := Lib.hid hf1
  have HB1 := Lib.hid hb1
  clear hb1 hf1
  go_wp2_with fail
  refine (lay_any (w.heap.size + 1) 8 8 56 len _ 59 (by omega) h2'.out (by simp [beL_len]) _ HB1.out).mono ?_
  rintro e w2 ⟨rfl, hb2, hf2⟩
  rw [lay2 _ _ (beL_len _ _)] at hb2
  have HF2 := Lib.hid (HF1.out.trans (hf2.mono (fun _ h => h)))
  have HB2 := Lib.hid hb2
  clear hb2 hf2
  go_wp2_with fail
  refine (lay_any (w.heap.size + 1) 56 8 8 num _ 59 (by omega) h1'.out (by simp [beL_len]) _ HB2.out).mono ?_
  rintro e w3 ⟨rfl, hb3, hf3⟩
  rw [lay3 _ _ (beL_len _ _) (beL_len _ _)] at hb3
  have HF3 := Lib.hid (HF2.out.trans hf3)
  have HB3 := Lib.hid (show w3.heap[w.heap.size + 1]? = some (.cells (bc (headB num len)) 59 (0, 0)) from hb3)
  clear hb3 hf3
  have HA3 := Lib.hid (show w3.heap[w.heap.size]? = some (.cells (bc zero64) 59 (0, 0)) from (HF3.out.block _ (by simp; omega) (by omega)).trans ((heap_prev _ _ _ (by simp)).trans (heap_last _ _ _ rfl)))
  have hlen := headB_len num len
  go_wp2_with (first
    | ((with_reducible refine wl_load (dst := 15) (w.heap.size + 1) 59 (bc (headB num len)) (0, 0) 64 5 Try.underlying59 ?_ ?_ ?_ ?_); (· rfl); (· exact HB3.out); (· rw [bc_size, hlen]; exact info_head))
    | ((with_reducible refine wl_store (ty := 59) w.heap.size 59 (bc zero64) (bc (headB num len)) ?_ ?_ ?_ ?_ ?_ ?_ ?_); (· rfl); (· rfl); (· exact HA3.out); (· rw [bc_size, hlen]; exact info_head); (· rw [bc_size, bc_size, hlen, zero64_len]); (· exact bc_one _)))
  refine ret_row Try.results52 w.heap.size 59 (bc (headB num len)) (0, 0) 64 5 Try.underlying59 rfl ?_ ?_ rfl ⟨rfl, ?_⟩
  · exact setRow_heap _ _ _ _ _ _ HA3.out
  · rw [bc_size, hlen]; exact info_head
  · have hb : Below w.heap.size w w3 := (((Below.refl _ w).alloc (Nat.le_refl _) _).alloc (by simp) _).trans (HF3.out.below (by simp; omega) (fun k hk => by omega))
    exact below_setRow' hb (Nat.le_refl _) _
/-- a number out of a head's bytes -/
theorem row_part {w : World} {b : Nat} {T : TypeId} {s : By} (h : w.heap[b]? = some (.cells (bc s) T (0, 0))) (off n cap : Nat) (h1 : off + n ≤ s.length) (h2 : n ≤ cap) : BysF w (· = b) (.slice (some ⟨b, off, none⟩) n cap) ((s.drop off).take n) := by
  have hl : ((s.drop off).take n).length = n := by rw [List.length_take, List.length_drop]; omega
  refine ⟨_, cap, by rw [hl], by rw [hl]; exact h2, fun _ => ⟨b, off, rfl, rfl, fun j u hu => ?_⟩⟩
  rw [cell_of_arr h, bc_get]
  have hj : j < n := by have := (List.getElem?_eq_some_iff.1 hu).1; rw [byl_len, hl] at this; exact this
  unfold Lib.byteCells at hu ⊢
  rw [List.getElem?_map, List.getElem?_take, if_pos hj, List.getElem?_drop] at hu
  rw [List.getElem?_map]; exact hu
set_option maxRecDepth 100000 in
theorem number_any (s : By) (hs : s.length = 64) (w : World) : Calls Try.prog 32 #[.agg (bc s)] w fun e w' => e = .returned (.int .u64 (numB s : Int)) ∧ Below w.heap.size w w' := by
  have hb := row_part (s := s) (T := 59) (heap_last w (.cells (bc s) 59) _ rfl) 0 8 64 (by omega) (by omega)
  rw [List.drop_zero] at hb
  have HR := Lib.hid (read_num (s.take 8) (by rw [List.length_take]; omega) _ _ _ hb)
  have HB := Lib.hid (show Below w.heap.size w (w.alloc (.cells (bc s) 59)) from (Below.refl _ _).alloc (Nat.le_refl _) _)
  clear hb
  have ho := bc_one s
  go_enter Try.func32, Try.ntmps32
  go_wp2_with (refine (HR.out).mono ?_; rintro e w1 ⟨rfl, rfl⟩)
  go_ret
  exact ⟨rfl, HB.out⟩
set_option maxRecDepth 100000 in
theorem length_any (s : By) (hs : s.length = 64) (w : World) : Calls Try.prog 31 #[.agg (bc s)] w fun e w' => e = .returned (.int .u64 (lenB s : Int)) ∧ Below w.heap.size w w' := by
  have hb := row_part (s := s) (T := 59) (heap_last w (.cells (bc s) 59) _ rfl) 8 8 56 (by omega) (by omega)
  have HR := Lib.hid (read_num ((s.drop 8).take 8) (by rw [List.length_take]; omega) _ _ _ hb)
  have HB := Lib.hid (show Below w.heap.size w (w.alloc (.cells (bc s) 59)) from (Below.refl _ _).alloc (Nat.le_refl _) _)
  clear hb
  have ho := bc_one s
  go_enter Try.func31, Try.ntmps31
  go_wp2_with (refine (HR.out).mono ?_; rintro e w1 ⟨rfl, rfl⟩)
  go_ret
  exact ⟨rfl, HB.out⟩
end Go.Proofs.Ytabahkeologbmaa.Jn
