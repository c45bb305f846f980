/- Contract of the document's Same: whether two lists of bytes are one. -/
import Derived.Test.YtabahkeologbmaaJnC
import Derived.Test.YtabahkeologbmaaJnOpen
import Derived.OrdersHeld
namespace Go.Proofs.Ytabahkeologbmaa.Jn
open Go.RowKit Go.Shelf Go.Dk Go.Jn Go.Sha Go.Proofs.Ytabahkeologbmaa.Dk

theorem tx_ne {a b : By} (h : a ≠ b) : ((tx a).toList == (tx b).toList) = false := by
  rw [beq_eq_false_iff_ne]
  intro e
  exact h (by simpa [tx, ByteArray.toList_eq] using e)
/-- the first k of both are alike -/
def likeL (l1 l2 : List By) (k : Nat) : Prop := ∀ j, j < k → l1[j]? = l2[j]?
theorem like_all {l1 l2 : List By} (hl : l1.length = l2.length) (h : likeL l1 l2 l1.length) : l1 = l2 := by
  apply List.ext_getElem?
  intro j
  by_cases hj : j < l1.length
  · exact h j hj
  · rw [List.getElem?_eq_none (by omega), List.getElem?_eq_none (by omega)]
theorem BsO.row {w : World} {base : Nat} {v : Value} {rs : List By} (h : BsO w base v rs) (hb : base ≤ w.heap.size) : BsF w (· < w.heap.size) v rs := by
  obtain ⟨ys, h1, h2⟩ := h
  obtain ⟨p, cap, rfl, _, hp⟩ := row_own (F := (· < w.heap.size)) h1 (fun b e => (own_lt h1 e).2)
  refine ⟨p, cap, rfl, fun h0 => ?_⟩
  obtain ⟨b, o, e1, e2, e3⟩ := hp h0
  refine ⟨b, o, e1, e2, fun i r hr => ?_⟩
  obtain ⟨y, hy, ho⟩ := h2 i r hr
  exact ⟨y, e3 i y hy, row_own ho (fun b e => (own_lt ho e).2)⟩
set_option maxRecDepth 100000 in
set_option maxHeartbeats 1600000 in
theorem same_any (l1 l2 : List By) (va vb : Value) (w : World) (ha : BsF w (· < w.heap.size) va l1) (hb : BsF w (· < w.heap.size) vb l2) (hla : l1.length ≤ 1000000) (hlb : l2.length ≤ 1000000) :
    Calls Try.prog 11 #[va, vb] w fun e w' => e = .returned (.bool (decide (l1 = l2))) ∧ Below w.heap.size w w' := by
  obtain ⟨pa, ca, rfl, hpa⟩ := ha
  obtain ⟨pb, cb, rfl, hpb⟩ := hb
  have HPA := Lib.hid hpa
  have HPB := Lib.hid hpb
  have a1 : (l1.length : Int) ≤ 1000000 := by omega
  have b1 : (l2.length : Int) ≤ 1000000 := by omega
  clear hpa hpb hla hlb
  by_cases hl : (l1.length : Int) = (l2.length : Int)
  rotate_left
  · have e : decide (l1 = l2) = false := decide_eq_false (fun h => hl (by rw [h]))
    rw [e]
    go_enter Try.func11, Try.ntmps11
    go_wp2
    go_ret
    exact ⟨rfl, Below.refl _ _⟩
  have HLE := Lib.hid (show l1.length = l2.length by omega)
  go_enter Try.func11, Try.ntmps11
  go_wp2
  go_loopw [5] (fun i wr => ∃ k : Nat, i = .int .i64 (k : Int) ∧ k ≤ l1.length ∧ Hid (likeL l1 l2 k) ∧ Below w.heap.size w wr) (fun i _ => l1.length - (intOf i).toNat)
  case atStart => exact ⟨0, rfl, Nat.zero_le _, Lib.hid (fun j h => absurd h (Nat.not_lt_zero j)), Below.refl _ _⟩
  case round =>
    obtain ⟨k, rfl, hk, hli, hbl⟩ := hrel
    have HB := Lib.hid hbl
    have hk0 : (0 : Int) ≤ (k : Int) := Int.natCast_nonneg _
    by_cases hlt : (k : Int) < (l1.length : Int)
    · have hkl : k < l1.length := by omega
      have hkb : k < l2.length := by have := HLE.out; omega
      have hltb : (k : Int) < (l2.length : Int) := by omega
      obtain ⟨ga, oa, rfl, hFa, hca⟩ := HPA.out (by omega)
      obtain ⟨gb, ob, rfl, hFb, hcb⟩ := HPB.out (by omega)
      obtain ⟨ra, hra⟩ : ∃ ra, l1[k]? = some ra := ⟨_, List.getElem?_eq_getElem hkl⟩
      obtain ⟨rb, hrb⟩ : ∃ rb, l2[k]? = some rb := ⟨_, List.getElem?_eq_getElem hkb⟩
      obtain ⟨ya, hya, hyb⟩ := hca k ra hra
      obtain ⟨yb, hyc, hyd⟩ := hcb k rb hrb
      have HCA := Lib.hid (show ∀ w3, Below wr.heap.size wr w3 → w3.cell? ⟨ga, oa + k, none⟩ = some ya ∧ (convert 40 9 ya).run Try.prog w3 = .ok (str ra) w3 from fun w3 h3 => by
        have hb3 : Below w.heap.size w w3 := HB.out.trans (h3.mono HB.out.size)
        exact ⟨(World.cell?_of_block (a := ⟨ga, oa + k, none⟩) (hb3.block ga hFa)).trans hya, bys_str (hyb.kept (F' := fun _ => True) (fun x hx => ⟨trivial, hb3.block x hx⟩))⟩)
      have HCB := Lib.hid (show ∀ w3, Below wr.heap.size wr w3 → w3.cell? ⟨gb, ob + k, none⟩ = some yb ∧ (convert 40 9 yb).run Try.prog w3 = .ok (str rb) w3 from fun w3 h3 => by
        have hb3 : Below w.heap.size w w3 := HB.out.trans (h3.mono HB.out.size)
        exact ⟨(World.cell?_of_block (a := ⟨gb, ob + k, none⟩) (hb3.block gb hFb)).trans hyc, bys_str (hyd.kept (F' := fun _ => True) (fun x hx => ⟨trivial, hb3.block x hx⟩))⟩)
      have HSr := Lib.hid (show Below wr.heap.size wr wr.drew from ⟨rfl, rfl, rfl, Nat.le_refl _, fun _ _ => rfl⟩)
      obtain ⟨pya, cya, rfl, _, _⟩ := hyb
      obtain ⟨pyb, cyb, rfl, _, _⟩ := hyd
      have HRA := Lib.hid hra
      have HRB := Lib.hid hrb
      clear hca hcb hya hyc hra hrb hbl
      by_cases he : ra = rb
      · subst he
        have HNE := Lib.hid (show True from trivial)
        go_wp2_with fail
        refine wp_region_held (S := Below wr.heap.size wr) (by kernel_rfl) ?_
        change wpAnyH _ _ _ _ _ _ _ _ (World.drew _)
        refine tkH (i := 0) (oi := ⟨some 17, .move (.tmp 0), _, _, _, none⟩) (.slice (some ⟨ga, oa, none⟩) l1.length ca) rfl (by kernel_rfl) (fun _ _ _ h => h) (yH rfl (fun w3 h3 => by go_simp)) HSr.out ?_
        simp only [Act.put, s1, s2, s3]
        refine tkH (i := 1) (oi := ⟨some 18, .move (.tmp 5), _, _, _, none⟩) (.int .i64 (k : Int)) rfl (by kernel_rfl) (fun _ _ _ h => h) (yH rfl (fun w3 h3 => by go_simp)) HSr.out ?_
        simp only [Act.put, s1, s2, s3]
        refine tkH (i := 2) (oi := ⟨some 19, .indexAddr 28 (.tmp 17) (.tmp 18), _, _, _, none⟩) (.pointer (some ⟨ga, oa + k, none⟩)) rfl (by kernel_rfl) (fun _ _ _ h => h) (yH rfl (fun w3 h3 => by go_simp)) HSr.out ?_
        simp only [Act.put, s1, s2, s3]
        refine tkH (i := 3) (oi := ⟨some 20, .load 40 (.tmp 19), _, _, _, none⟩) (.slice pya ra.length cya) rfl (by kernel_rfl) (fun _ _ _ h => h) (yH rfl (fun w3 h3 => by have q := (HCA.out w3 h3).1; go_simp)) HSr.out ?_
        simp only [Act.put, s1, s2, s3]
        refine tkH (i := 4) (oi := ⟨some 21, .convert 40 9 (.tmp 20), _, _, _, none⟩) (str ra) rfl (by kernel_rfl) (fun _ _ _ h => h) (yH rfl (fun w3 h3 => by have q := (HCA.out w3 h3).2; go_simp)) HSr.out ?_
        simp only [Act.put, s1, s2, s3]
        refine tkH (i := 5) (oi := ⟨some 22, .move (.tmp 1), _, _, _, none⟩) (.slice (some ⟨gb, ob, none⟩) l2.length cb) rfl (by kernel_rfl) (fun _ _ _ h => h) (yH rfl (fun w3 h3 => by go_simp)) HSr.out ?_
        simp only [Act.put, s1, s2, s3]
        refine tkH (i := 6) (oi := ⟨some 23, .move (.tmp 5), _, _, _, none⟩) (.int .i64 (k : Int)) rfl (by kernel_rfl) (fun _ _ _ h => h) (yH rfl (fun w3 h3 => by go_simp)) HSr.out ?_
        simp only [Act.put, s1, s2, s3]
        refine tkH (i := 7) (oi := ⟨some 24, .indexAddr 28 (.tmp 22) (.tmp 23), _, _, _, none⟩) (.pointer (some ⟨gb, ob + k, none⟩)) rfl (by kernel_rfl) (fun _ _ _ h => h) (yH rfl (fun w3 h3 => by go_simp)) HSr.out ?_
        simp only [Act.put, s1, s2, s3]
        refine tkH (i := 8) (oi := ⟨some 25, .load 40 (.tmp 24), _, _, _, none⟩) (.slice pyb ra.length cyb) rfl (by kernel_rfl) (fun _ _ _ h => h) (yH rfl (fun w3 h3 => by have q := (HCB.out w3 h3).1; go_simp)) HSr.out ?_
        simp only [Act.put, s1, s2, s3]
        refine tkH (i := 9) (oi := ⟨some 26, .convert 40 9 (.tmp 25), _, _, _, none⟩) (str ra) rfl (by kernel_rfl) (fun _ _ _ h => h) (yH rfl (fun w3 h3 => by have q := (HCB.out w3 h3).2; go_simp)) HSr.out ?_
        simp only [Act.put, s1, s2, s3]
        refine tkH (i := 10) (oi := ⟨some 27, .binOp .neq 9 (.tmp 21) (.tmp 26) 9, _, _, _, none⟩) (.bool false) rfl (by kernel_rfl) (fun _ _ _ h => h) (yH rfl (fun w3 h3 => by have q := HNE.out; go_simp)) HSr.out ?_
        simp only [Act.put, s1, s2, s3]
        refine wpAnyH_done (by kernel_rfl) ?_ _
        go_wp2
        go_roundw
        case rel => exact ⟨k + 1, by go_num, by omega, Lib.hid (fun j hj => by
          rcases Nat.lt_succ_iff_lt_or_eq.1 hj with h | rfl
          · exact hli.out j h
          · exact HRA.out.trans HRB.out.symm), HB.out.drew⟩
        case measure => simp [intOf]; omega
      · have HNE := Lib.hid (tx_ne he)
        have e : decide (l1 = l2) = false := decide_eq_false (fun h => he (by have := HRA.out; rw [h, HRB.out] at this; exact (Option.some.inj this).symm))
        have HE := Lib.hid e
        clear e
        go_wp2_with fail
        refine wp_region_held (S := Below wr.heap.size wr) (by kernel_rfl) ?_
        change wpAnyH _ _ _ _ _ _ _ _ (World.drew _)
        refine tkH (i := 0) (oi := ⟨some 17, .move (.tmp 0), _, _, _, none⟩) (.slice (some ⟨ga, oa, none⟩) l1.length ca) rfl (by kernel_rfl) (fun _ _ _ h => h) (yH rfl (fun w3 h3 => by go_simp)) HSr.out ?_
        simp only [Act.put, s1, s2, s3]
        refine tkH (i := 1) (oi := ⟨some 18, .move (.tmp 5), _, _, _, none⟩) (.int .i64 (k : Int)) rfl (by kernel_rfl) (fun _ _ _ h => h) (yH rfl (fun w3 h3 => by go_simp)) HSr.out ?_
        simp only [Act.put, s1, s2, s3]
        refine tkH (i := 2) (oi := ⟨some 19, .indexAddr 28 (.tmp 17) (.tmp 18), _, _, _, none⟩) (.pointer (some ⟨ga, oa + k, none⟩)) rfl (by kernel_rfl) (fun _ _ _ h => h) (yH rfl (fun w3 h3 => by go_simp)) HSr.out ?_
        simp only [Act.put, s1, s2, s3]
        refine tkH (i := 3) (oi := ⟨some 20, .load 40 (.tmp 19), _, _, _, none⟩) (.slice pya ra.length cya) rfl (by kernel_rfl) (fun _ _ _ h => h) (yH rfl (fun w3 h3 => by have q := (HCA.out w3 h3).1; go_simp)) HSr.out ?_
        simp only [Act.put, s1, s2, s3]
        refine tkH (i := 4) (oi := ⟨some 21, .convert 40 9 (.tmp 20), _, _, _, none⟩) (str ra) rfl (by kernel_rfl) (fun _ _ _ h => h) (yH rfl (fun w3 h3 => by have q := (HCA.out w3 h3).2; go_simp)) HSr.out ?_
        simp only [Act.put, s1, s2, s3]
        refine tkH (i := 5) (oi := ⟨some 22, .move (.tmp 1), _, _, _, none⟩) (.slice (some ⟨gb, ob, none⟩) l2.length cb) rfl (by kernel_rfl) (fun _ _ _ h => h) (yH rfl (fun w3 h3 => by go_simp)) HSr.out ?_
        simp only [Act.put, s1, s2, s3]
        refine tkH (i := 6) (oi := ⟨some 23, .move (.tmp 5), _, _, _, none⟩) (.int .i64 (k : Int)) rfl (by kernel_rfl) (fun _ _ _ h => h) (yH rfl (fun w3 h3 => by go_simp)) HSr.out ?_
        simp only [Act.put, s1, s2, s3]
        refine tkH (i := 7) (oi := ⟨some 24, .indexAddr 28 (.tmp 22) (.tmp 23), _, _, _, none⟩) (.pointer (some ⟨gb, ob + k, none⟩)) rfl (by kernel_rfl) (fun _ _ _ h => h) (yH rfl (fun w3 h3 => by go_simp)) HSr.out ?_
        simp only [Act.put, s1, s2, s3]
        refine tkH (i := 8) (oi := ⟨some 25, .load 40 (.tmp 24), _, _, _, none⟩) (.slice pyb rb.length cyb) rfl (by kernel_rfl) (fun _ _ _ h => h) (yH rfl (fun w3 h3 => by have q := (HCB.out w3 h3).1; go_simp)) HSr.out ?_
        simp only [Act.put, s1, s2, s3]
        refine tkH (i := 9) (oi := ⟨some 26, .convert 40 9 (.tmp 25), _, _, _, none⟩) (str rb) rfl (by kernel_rfl) (fun _ _ _ h => h) (yH rfl (fun w3 h3 => by have q := (HCB.out w3 h3).2; go_simp)) HSr.out ?_
        simp only [Act.put, s1, s2, s3]
        refine tkH (i := 10) (oi := ⟨some 27, .binOp .neq 9 (.tmp 21) (.tmp 26) 9, _, _, _, none⟩) (.bool true) rfl (by kernel_rfl) (fun _ _ _ h => h) (yH rfl (fun w3 h3 => by have q := HNE.out; go_simp)) HSr.out ?_
        simp only [Act.put, s1, s2, s3]
        refine wpAnyH_done (by kernel_rfl) ?_ _
        go_wp2
        go_ret
        exact ⟨by rw [HE.out]; rfl, HB.out.drew⟩
    · obtain rfl : k = l1.length := by omega
      have e : decide (l1 = l2) = true := decide_eq_true (like_all HLE.out hli.out)
      have HE := Lib.hid e
      clear e hbl
      go_wp2
      go_ret
      exact ⟨by rw [HE.out]; rfl, HB.out⟩
end Go.Proofs.Ytabahkeologbmaa.Jn
