/- The document's own digits of a number. -/
import Derived.Test.YtlonmmnaipclcaaDoorWrapS
import Derived.Laws.Concat
import Derived.Laws.IdiomStrings
import Derived.Laws.DeepStrings4
import Derived.Deep.QuietTactic
import Derived.BigQuiet
import Derived.Deep.RegionLaw
namespace Go.Proofs.YtlonmmnaipclcaaDoor
open Go.RowKit Go.Edi Go.Wrap

theorem tx_app2 (a b : Tx) : tx a ++ tx b = tx (a ++ b) := by simp [tx, ByteArray.ext_iff]
/-- a digit's byte -/
def dgc (d : Nat) : UInt8 := UInt8.ofNat (48 + d)
theorem dx0 : ({ data := #[48, 49, 50, 51, 52, 53, 54, 55, 56, 57] } : ByteArray).extract 0 (0 + 1) = tx [dgc 0] := by kernel_rfl
theorem dx1 : ({ data := #[48, 49, 50, 51, 52, 53, 54, 55, 56, 57] } : ByteArray).extract 1 (1 + 1) = tx [dgc 1] := by kernel_rfl
theorem dx2 : ({ data := #[48, 49, 50, 51, 52, 53, 54, 55, 56, 57] } : ByteArray).extract 2 (2 + 1) = tx [dgc 2] := by kernel_rfl
theorem dx3 : ({ data := #[48, 49, 50, 51, 52, 53, 54, 55, 56, 57] } : ByteArray).extract 3 (3 + 1) = tx [dgc 3] := by kernel_rfl
theorem dx4 : ({ data := #[48, 49, 50, 51, 52, 53, 54, 55, 56, 57] } : ByteArray).extract 4 (4 + 1) = tx [dgc 4] := by kernel_rfl
theorem dx5 : ({ data := #[48, 49, 50, 51, 52, 53, 54, 55, 56, 57] } : ByteArray).extract 5 (5 + 1) = tx [dgc 5] := by kernel_rfl
theorem dx6 : ({ data := #[48, 49, 50, 51, 52, 53, 54, 55, 56, 57] } : ByteArray).extract 6 (6 + 1) = tx [dgc 6] := by kernel_rfl
theorem dx7 : ({ data := #[48, 49, 50, 51, 52, 53, 54, 55, 56, 57] } : ByteArray).extract 7 (7 + 1) = tx [dgc 7] := by kernel_rfl
theorem dx8 : ({ data := #[48, 49, 50, 51, 52, 53, 54, 55, 56, 57] } : ByteArray).extract 8 (8 + 1) = tx [dgc 8] := by kernel_rfl
theorem dx9 : ({ data := #[48, 49, 50, 51, 52, 53, 54, 55, 56, 57] } : ByteArray).extract 9 (9 + 1) = tx [dgc 9] := by kernel_rfl
theorem digit_ex (d : Nat) (hd : d < 10) : ({ data := #[48, 49, 50, 51, 52, 53, 54, 55, 56, 57] } : ByteArray).extract d (d + 1) = tx [dgc d] := by
  match d, hd with
  | 0, _ => exact dx0
  | 1, _ => exact dx1
  | 2, _ => exact dx2
  | 3, _ => exact dx3
  | 4, _ => exact dx4
  | 5, _ => exact dx5
  | 6, _ => exact dx6
  | 7, _ => exact dx7
  | 8, _ => exact dx8
  | 9, _ => exact dx9
theorem digit_slice (d : Nat) (hd : d < 10) (w : World) : (Instr.slice 9 (.string { data := #[48, 49, 50, 51, 52, 53, 54, 55, 56, 57] }) (some (.int .u64 (d : Int))) (some (.int .u64 ((d : Int) + 1))) none).run Tryd.prog w = .ok (str [dgc d]) w := by
  have hsz : ({ data := #[48, 49, 50, 51, 52, 53, 54, 55, 56, 57] } : ByteArray).size = 10 := rfl
  rw [run_slice_string_if (P := Tryd.prog) w 9 _ .u64 .u64 (d : Int) ((d : Int) + 1) Tryd.underlying9, if_pos (by rw [hsz]; omega)]
  rw [if_pos (by omega)]
  rw [show ((d : Int)).toNat = d from rfl, show ((d : Int) + 1).toNat = d + 1 by omega, digit_ex d hd]
set_option maxRecDepth 100000 in
set_option maxHeartbeats 1600000 in
theorem decimal_q (u : Nat) : ∀ (w : World), u < 18446744073709551616 → Calls Tryd.prog 22 #[.int .u64 (u : Int)] w fun e w' => e = .returned (str (digs u)) ∧ ∃ m, w' = w.drewN m := by
  induction u using Nat.strongRecOn with
  | _ u ih =>
    intro w hu
    have hu0 : (0 : Int) ≤ (u : Int) := Int.natCast_nonneg _
    by_cases h : (u : Int) < 10
    · have HD := Lib.hid (show digs u = [dgc u] from digs_small (show u < 10 by omega))
      have hsl := digit_slice u (by omega)
      clear ih
      go_enter Tryd.func22, Tryd.ntmps22
      go_wp2
      go_ret
      rw [HD.out]
      exact ⟨rfl, 0, by rw [World.drewN_zero]⟩
    · obtain ⟨q, hq⟩ : ∃ q, q = u / 10 := ⟨_, rfl⟩
      obtain ⟨d, hd⟩ : ∃ d, d = u % 10 := ⟨_, rfl⟩
      have HD := Lib.hid (show digs u = digs q ++ [dgc d] by rw [hq, hd]; exact digs_big (show ¬ u < 10 by omega))
      have HI := Lib.hid (fun w => ih q (by omega) w (by omega))
      have hl := digs_len q (by omega)
      have hsz : (tx (digs q)).size = (digs q).length := by simp [tx, ByteArray.size]
      have hz : ((digs q).length : Int) ≤ 20 := by omega
      have hq2 : (u : Int) / 10 = (q : Int) := by omega
      have hd2 : (u : Int) % 10 = (d : Int) := by omega
      have hd3 : (d : Int) < 10 := by omega
      have hd0 : (0 : Int) ≤ (d : Int) := Int.natCast_nonneg _
      have hsl := digit_slice d (by omega)
      have hap := tx_app2 (digs q) [dgc d]
      have hz2 : (tx [dgc d]).size = 1 := rfl
      clear ih hq hd hl
      go_enter Tryd.func22, Tryd.ntmps22
      go_wp2_with fail
      go_quiet ((go_at_call 22; exact Calls.quiet_of (HI.out _)))
      go_wp2
      go_ret
      rw [HD.out]
      exact ⟨rfl, nq, rfl⟩
theorem below_drewN (w : World) (m : Nat) : Below w.heap.size w (w.drewN m) := ⟨rfl, rfl, rfl, Nat.le_refl _, fun _ _ => rfl⟩
theorem decimal_any (u : Nat) (w : World) (hu : u < 18446744073709551616) : Calls Tryd.prog 22 #[.int .u64 (u : Int)] w fun e w' => e = .returned (str (digs u)) ∧ Below w.heap.size w w' := by
  refine (decimal_q u w hu).mono ?_
  rintro e w' ⟨rfl, m, rfl⟩
  exact ⟨rfl, below_drewN w m⟩
/-- the interchange's text by any numbers -/
def hdS (f t r : Nat) (l : List Sg) (c a : Nat) : List Sg := headS f t r :: (l ++ [tailS c a])
theorem mkd_digs (u : Nat) : mkd (digs u) = digs u := by
  have h : ∀ t : Tx, t.all dgt = true → mkd t = t := by
    intro t
    induction t with
    | nil => intro _; rfl
    | cons c t ih =>
      intro ht
      simp only [List.all_cons, Bool.and_eq_true] at ht
      have hs : sgn c = false := by
        have hd := ht.1
        simp only [dgt, Bool.and_eq_true, decide_eq_true_eq, UInt8.le_iff_toNat_le] at hd
        have g1 : 48 ≤ c.toNat := hd.1
        have g2 : c.toNat ≤ 57 := hd.2
        rw [sgn_int]
        simp
        omega
      simp only [mkd, hs, ih ht.2]
      simp
  apply h
  induction u using Nat.strongRecOn with
  | _ u ih =>
    by_cases hu : u < 10
    · rw [digs_small hu, List.all_cons, List.all_nil, dgt_d u hu]; rfl
    · rw [digs_big hu, List.all_append, ih (u / 10) (by omega), List.all_cons, List.all_nil, dgt_d (u % 10) (by omega)]; rfl
theorem digs_pln (u : Nat) : (digs u).all pln = true := by
  induction u using Nat.strongRecOn with
  | _ u ih =>
    have hp : ∀ d, d < 10 → pln (UInt8.ofNat (48 + d)) = true := fun d hd => by
      rw [pln_int, nat_d d hd]; simp; omega
    by_cases hu : u < 10
    · rw [digs_small hu, List.all_cons, List.all_nil, hp u hu]; rfl
    · rw [digs_big hu, List.all_append, ih (u / 10) (by omega), List.all_cons, List.all_nil, hp (u % 10) (by omega)]; rfl
theorem sgT_head (f t r : Nat) : sgT (headS f t r) = [85, 78, 66] ++ (43 :: (digs f ++ (43 :: (digs t ++ (43 :: digs r))))) := by
  show jn [43] ([85, 78, 66] :: [elT [digs f], elT [digs t], elT [digs r]]) = _
  simp [jn, jnT, elT, mkd_digs]
theorem sgT_tail (c a : Nat) : sgT (tailS c a) = [85, 78, 90] ++ (43 :: (digs c ++ (43 :: digs a))) := by
  show jn [43] ([85, 78, 90] :: [elT [digs c], elT [digs a]]) = _
  simp [jn, jnT, elT, mkd_digs]
theorem txT_hd (f t r : Nat) (l : List Sg) (c a : Nat) : txT (hdS f t r l c a) = [85, 78, 66, 43] ++ digs f ++ [43] ++ digs t ++ [43] ++ digs r ++ [39] ++ txT l ++ [85, 78, 90, 43] ++ digs c ++ [43] ++ digs a ++ [39] := by
  show sgT (headS f t r) ++ (39 :: txT (l ++ [tailS c a])) = _
  rw [txT_app, sgT_head]
  show _ ++ (39 :: (txT l ++ (sgT (tailS c a) ++ (39 :: [])))) = _
  rw [sgT_tail]
  simp
theorem num_ok (tag : Tx) (ns : List Nat) (ht : isTag tag = true) (hn : ns.length ≤ 16) (hlt : ∀ n ∈ ns, n < 18446744073709551616) : wholeS ⟨tag, numsE ns⟩ = true ∧ plainS ⟨tag, numsE ns⟩ = true ∧ shortS ⟨tag, numsE ns⟩ = true := by
  refine ⟨?_, ?_, ?_⟩
  · simp [wholeS, ht, numsE]
  · simp only [plainS, numsE, List.all_map, List.all_eq_true, Function.comp]
    intro n _ t ht c hc
    obtain rfl := List.mem_singleton.1 ht
    exact (List.all_eq_true.1 (digs_pln n)) c hc
  · simp only [shortS, numsE, List.length_map, Bool.and_eq_true, decide_eq_true_eq, List.all_map, List.all_eq_true, Function.comp]
    refine ⟨hn, fun n hm => ?_⟩
    simp only [shortE, List.length_cons, List.length_nil, List.all_cons, List.all_nil, Bool.and_true, Bool.and_eq_true, decide_eq_true_eq]
    have := digs_len n (hlt n hm)
    omega
theorem print_parts {l : List Sg} (h : (printL l).2 = 0) : l.all wholeS = true ∧ l.all plainS = true ∧ l.length ≤ 64 ∧ l.all shortS = true ∧ (txT l).length ≤ 65536 := by
  unfold printL at h
  split at h
  · rename_i h1
    split at h
    · rename_i h2
      split at h
      · rename_i h3
        rw [Bool.and_eq_true, decide_eq_true_eq] at h3
        split at h
        · cases h
        · exact ⟨h1, h2, h3.1, h3.2, by omega⟩
      · cases h
    · cases h
  · cases h
theorem print_of {l : List Sg} (h1 : l.all wholeS = true) (h2 : l.all plainS = true) (h3 : l.length ≤ 64) (h4 : l.all shortS = true) (h5 : (txT l).length ≤ 65536) : printL l = (txT l, 0) := by
  unfold printL
  rw [if_pos h1, if_pos h2, if_pos (by rw [h4]; simp; exact h3), if_neg (by omega)]
theorem print_hd {f t r c a : Nat} {l : List Sg} (h : (printL l).2 = 0) (hl : l.length ≤ 60) (ht : (txT l).length ≤ 60000) (hf : f < 18446744073709551616) (htt : t < 18446744073709551616) (hr : r < 18446744073709551616) (hc : c < 18446744073709551616) (ha : a < 18446744073709551616) :
    printL (hdS f t r l c a) = (txT (hdS f t r l c a), 0) := by
  obtain ⟨p1, p2, p3, p4, p5⟩ := print_parts h
  obtain ⟨a1, a2, a3⟩ := num_ok [85, 78, 66] [f, t, r] (by decide) (by simp) (by intro n hn; simp only [List.mem_cons, List.not_mem_nil, or_false] at hn; omega)
  obtain ⟨b1, b2, b3⟩ := num_ok [85, 78, 90] [c, a] (by decide) (by simp) (by intro n hn; simp only [List.mem_cons, List.not_mem_nil, or_false] at hn; omega)
  refine print_of ?_ ?_ (by simp [hdS]; omega) ?_ ?_
  · show (headS f t r :: (l ++ [tailS c a])).all wholeS = true
    rw [List.all_cons, List.all_append, List.all_cons, List.all_nil, p1, show wholeS (headS f t r) = true from a1, show wholeS (tailS c a) = true from b1]; rfl
  · show (headS f t r :: (l ++ [tailS c a])).all plainS = true
    rw [List.all_cons, List.all_append, List.all_cons, List.all_nil, p2, show plainS (headS f t r) = true from a2, show plainS (tailS c a) = true from b2]; rfl
  · show (headS f t r :: (l ++ [tailS c a])).all shortS = true
    rw [List.all_cons, List.all_append, List.all_cons, List.all_nil, p4, show shortS (headS f t r) = true from a3, show shortS (tailS c a) = true from b3]; rfl
  · rw [txT_hd]
    have := digs_len f hf
    have := digs_len t htt
    have := digs_len r hr
    have := digs_len c hc
    have := digs_len a ha
    simp only [List.length_append, List.length_cons, List.length_nil]
    omega
theorem wparse_hd {f t r c a : Nat} {l : List Sg} (h : (printL l).2 = 0) (hl : l.length ≤ 60) (ht : (txT l).length ≤ 60000) (hf : f < 18446744073709551616) (htt : t < 18446744073709551616) (hr : r < 18446744073709551616) (hc : c < 18446744073709551616) (ha : a < 18446744073709551616) :
    wparseL (txT (hdS f t r l c a)) = if 8 ≤ f ∨ 8 ≤ t then (Wr.nil, 40) else if c ≠ l.length then (Wr.nil, 41) else if r ≠ a then (Wr.nil, 42) else (⟨f, t, r, l⟩, 0) := by
  have hb := back _ _ (print_hd h hl ht hf htt hr hc ha)
  rw [wparse_ok (by rw [hb]), hb]
  show openL (hdS f t r l c a) = _
  have hlen : (hdS f t r l c a).length = l.length + 2 := by simp [hdS]
  have h0 : (hdS f t r l c a).getD 0 ⟨[], []⟩ = headS f t r := rfl
  have h1 : (hdS f t r l c a).getD ((hdS f t r l c a).length - 1) ⟨[], []⟩ = tailS c a := by
    rw [hlen]; simp [hdS, List.getD]
  have hm : ((hdS f t r l c a).take ((hdS f t r l c a).length - 1)).drop 1 = l := by
    rw [hlen]; simp [hdS]
  by_cases hft : 8 ≤ f ∨ 8 ≤ t
  · rw [if_pos hft]
    apply openL_head
    rw [h0]
    show headV ⟨[85, 78, 66], [[digs f], [digs t], [digs r]]⟩ = none
    simp only [headV, if_true, numL_digs]
    by_cases hf8 : f ≤ 7
    · rw [if_neg (show ¬ t ≤ 7 by omega)]
      simp
    · rw [if_neg hf8]
  · rw [if_neg hft]
    have hh := headV_head (f := f) (t := t) (by omega) (by omega) hr
    have ht2 := tailV_tail hc ha
    by_cases hcl : c = l.length
    · rw [if_neg (by omega)]
      by_cases hra : r = a
      · rw [if_neg (by omega), openL_ok (by rw [hlen]; omega) (by rw [h0]; exact hh) (by rw [h1]; exact ht2) (by rw [hlen]; omega) hra.symm, hm]
      · rw [if_pos hra, openL_ref (by rw [hlen]; omega) (by rw [h0]; exact hh) (by rw [h1]; exact ht2) (by rw [hlen]; omega) (fun e => hra e.symm)]
    · rw [if_pos hcl, openL_count (by rw [hlen]; omega) (by rw [h0]; exact hh) (by rw [h1]; exact ht2) (by rw [hlen]; omega)]
end Go.Proofs.YtlonmmnaipclcaaDoor
