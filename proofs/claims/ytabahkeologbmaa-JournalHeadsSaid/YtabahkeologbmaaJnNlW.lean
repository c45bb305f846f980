/- The walk of JournalNil. -/
import Derived.Test.YtabahkeologbmaaJnSe
namespace Go.Proofs.Ytabahkeologbmaa.Jn
open Go.RowKit Go.Shelf Go.Dk Go.Jn Go.Sha Go.Proofs.Ytabahkeologbmaa.Dk

/-- a byte of a row of one's own is another -/
theorem own_put {w : World} {base g n cap i : Nat} {l : By} {x : Value} (h : OwnB w base (.slice (some ⟨g, 0, none⟩) n cap) l) (hn : n = l.length) (hi : i < n) (c : UInt8) (hx : x = .int .u8 (c.toNat : Int)) : OwnB (w.setCell ⟨g, i, none⟩ x) base (.slice (some ⟨g, 0, none⟩) n cap) (l.set i c) := by
  subst hx hn
  show World.ownsRow _ _ _ _ _ (l.set i c).length _
  rw [List.length_set]
  obtain ⟨h1, ⟨e, _⟩ | ⟨g2, cap', cur, e, hb, hg, hn2, hm, hs, ht⟩⟩ := h
  · cases e
  · simp only [Value.slice.injEq, Option.some.injEq, Addr.mk.injEq, and_true, true_and] at e
    obtain ⟨rfl, rfl⟩ := e
    refine ⟨by rw [byl_len, List.length_set, Nat.mul_one], Or.inr ⟨g, cap, cur.setIfInBounds i (.int .u8 (c.toNat : Int)), rfl, hb, set_heap hg i _, hn2, hm, by rw [Array.size_setIfInBounds]; exact hs, ?_⟩⟩
    rw [Array.toList_setIfInBounds, List.take_set, ht]
    unfold Lib.byteCells
    rw [List.map_set]
theorem own_cell {w : World} {base g n cap i : Nat} {l : By} (h : OwnB w base (.slice (some ⟨g, 0, none⟩) n cap) l) (hi : i < l.length) : w.cell? ⟨g, i, none⟩ = some (.int .u8 ((l[i]).toNat : Int)) ∧ w.frozen? ⟨g, i, none⟩ = false := by
  constructor
  · have := World.ownsRow.cells h (g := g) rfl i (.int .u8 ((l[i]).toNat : Int)) (by unfold Lib.byteCells; rw [List.getElem?_map, List.getElem?_eq_getElem hi]; rfl)
    rw [Addr.add_mid, Nat.zero_add] at this
    exact this
  · obtain ⟨cs, hcs⟩ := own_cells h (g := g) rfl
    exact froz_of_arr hcs i
/-- of one record alone -/
theorem recs_one {w : World} {base : Nat} {v : Value} {b : By} (h : BsO w base v [b]) : ∃ lg lc yp yc cur, v = .slice (some ⟨lg, 0, none⟩) 1 lc ∧ w.heap[lg]? = some (.cells cur 40 (0, 0)) ∧ cur[0]? = some (.slice yp b.length yc) ∧ OwnB w base (.slice yp b.length yc) b ∧ base ≤ lg := by
  obtain ⟨ys, h1, h2⟩ := h
  obtain ⟨y, hy, ho⟩ := h2 0 b rfl
  obtain ⟨yp, yc, rfl⟩ := own_slice ho
  obtain ⟨_, ⟨e, e2⟩ | ⟨g, cap', cur, e, hb, hg, _, _, _, ht⟩⟩ := h1
  · cases e2
  · refine ⟨g, cap', yp, yc, cur, e, hg, ?_, ho, hb⟩
    rw [← ht, List.getElem?_take] at hy
    split at hy
    · simpa using hy
    · cases hy
set_option maxRecDepth 100000 in
set_option maxHeartbeats 3200000 in
theorem jnnil_any (b : By) (bp : Option Addr) (bcap : Nat) (w : World) (hb0 : BysF w (· < w.heap.size) (.slice bp b.length bcap) b) : Calls Try.prog 5 #[.slice bp b.length bcap] w fun e w' => e = .returned (.bool true) ∧ Below w.heap.size w w' := by
  by_cases hL : 60 < b.length
  · have i1 : decide ((60 : Int) < (b.length : Int)) = true := decide_eq_true (by omega)
    go_enter Try.func5, Try.ntmps5
    go_wp2
    go_ret
    exact ⟨rfl, Below.refl _ _⟩
  have i1 : decide ((60 : Int) < (b.length : Int)) = false := decide_eq_false (by omega)
  have hl0 : (0 : Int) ≤ (b.length : Int) := Int.natCast_nonneg _
  have hl1 : (b.length : Int) ≤ 60 := by omega
  have HL := Lib.hid hL
  have HB0 := Lib.hid hb0
  clear hL hb0
  go_enter Try.func5, Try.ntmps5
  go_wp2_with fail
  refine (open_nil w).mono ?_
  rintro e w1 ⟨rfl, hb1⟩
  have HB1 := Lib.hid hb1
  clear hb1
  go_wp2_with fail
  refine (records_nil w1).mono ?_
  rintro e w2 ⟨rfl, rfl⟩
  go_wp2_with fail
  refine (room_nil w1).mono ?_
  rintro e w2 ⟨rfl, rfl⟩
  go_wp2_with fail
  refine (add_nil _ _ _ w1).mono ?_
  rintro e w2 ⟨rfl, rfl⟩
  go_wp2_with fail
  refine (new_any 4 (by omega) (by omega) w1).mono ?_
  rintro e w2 ⟨D, L, M, rfl, hd2, hb2, h1, h2, h3⟩
  have HB2 := Lib.hid (HB1.out.trans (hb2.mono HB1.out.size))
  have hz1 := HB1.out.size
  have hz2 := hb2.size
  have HD2 := Lib.hid hd2
  have hH0 := hold_new (n := 4) (by omega) (by omega)
  have HO := Lib.hid (open_hold hd2 rfl hH0)
  clear hb2 hd2
  go_wp2_with fail
  refine (HO.out).mono ?_
  rintro e w3 ⟨J, v, rfl, hj3, hJ3, hb3⟩
  have HB3 := Lib.hid (HB2.out.trans (hb3.mono HB2.out.size))
  have HD3 := Lib.hid (HD2.out.below hb3 HD2.out.ltD HD2.out.ltL HD2.out.ltM)
  have HJ3 := Lib.hid hj3
  have hz3 := hb3.size
  clear hj3 hb3
  have hbel : Below w3.heap.size w3 (w3.alloc (.cells #[] 5)) := (Below.refl _ _).alloc (Nat.le_refl _) _
  have hown0 : (w3.alloc (.cells #[] 5)).ownsRow w3.heap.size 5 1 (.slice (some ⟨w3.heap.size, 0, none⟩) 0 0) 0 [] := ⟨rfl, Or.inr ⟨w3.heap.size, 0, #[], rfl, Nat.le_refl _, heap_last _ _ _ rfl, Nat.le_refl _, by unfold maxLen; omega, rfl, rfl⟩⟩
  have hb3' : BysF (w3.alloc (.cells #[] 5)) (· < w.heap.size) (.slice bp b.length bcap) b := HB0.out.kept (fun x hx => ⟨hx, (hbel.block x (Nat.lt_of_lt_of_le hx HB3.out.size)).trans (HB3.out.block x hx)⟩)
  obtain ⟨v4, w4, hr4, ho4, hg4, hn4⟩ := run_appF (w3.alloc (.cells #[] 5)) 40 40 5 (.int .u8 0) 1 1 par_u8 Try.underlying40 rfl (by decide) (by decide) w3.heap.size _ 0 [] hown0 (.slice bp b.length bcap) (· < w.heap.size) b.length (Lib.byteCells b) hb3' (by rw [byl_len, Nat.mul_one]) (byl_one _) (by omega) (by simp)
  rw [Nat.zero_add, List.nil_append] at ho4
  have HO4 := Lib.hid (show OwnB w4 w3.heap.size v4 b from ho4)
  have HBB := Lib.hid (show Below w3.heap.size w3 w4 from hbel.grown hg4 (by simp) (fun k e => by cases e; exact Nat.le_refl _))
  obtain ⟨ip, ic, rfl⟩ := own_slice ho4
  clear hbel hown0 hb3' ho4 hg4 hn4
  go_wp2_with ((with_reducible refine wl_appB (dst := 62) (.slice (some ⟨w3.heap.size, 0, none⟩) 0 0) (.slice bp b.length bcap) (.slice ip b.length ic) ?_ ?_ hr4 ?_); (· rfl); (· rfl))
  have hj4 : JnAt w4 J D w2.heap.size v [] 0 false := ⟨(HBB.out.block _ (lt_of_heap HJ3.out.hj)).trans HJ3.out.hj, own_keep HJ3.out.row (fun g cs _ hg => (HBB.out.block _ (lt_of_heap hg)).trans hg)⟩
  have hd4 := HD3.out.below HBB.out HD3.out.ltD HD3.out.ltL HD3.out.ltM
  have HJ4 := Lib.hid hj4
  have hz4 := HBB.out.size
  have HB4 := Lib.hid (HB3.out.trans (HBB.out.mono HB3.out.size))
  have hvlt : ∀ k, some k = v.ownBlock → k < w3.heap.size := fun k e => (own_lt HJ3.out.row e.symm).2
  have hilt : ∀ k, (Value.slice ip b.length ic).ownBlock = some k → w3.heap.size ≤ k ∧ k < w4.heap.size := fun k e => own_lt HO4.out e
  have HAD := Lib.hid (add_mk (n := 4) (la := fun _ => zero64) hj4 hd4 hH0 (by omega) b (fun k => (Value.slice ip b.length ic).ownBlock = some k) (u := .slice ip b.length ic) (row_own HO4.out (fun k e => e)) (fun x hx => ⟨(hilt x hx).2, fun e => by have := hvlt x e; have := (hilt x hx).1; omega⟩) (by omega) (by show 0 + 4 + b.length ≤ 64 * (4 - 2); omega))
  have hfit4 : (dat ([] ++ [b])).length ≤ 64 * (4 - 2) := by rw [dat_snoc_len]; show 0 + 4 + b.length ≤ _; omega
  have hH5 := hold_mk hH0 b hfit4
  clear hj4 hd4
  go_wp2_with fail
  refine (HAD.out).mono ?_
  rintro e w5 ⟨rfl, hd5, hf5, v5, hj5, hv5⟩
  have HB5 := Lib.hid (HB4.out.trans (adG_below hf5 HJ4.out (B := w.heap.size) (by omega) (by omega) (by omega) (by omega)))
  have HD5 := Lib.hid hd5
  have HJ5 := Lib.hid (show JnAt w5 J D w2.heap.size v5 [b] 1 false from hj5)
  have hnin : ∀ k, (Value.slice ip b.length ic).ownBlock = some k → ¬ AdG D L M J v k := fun k e hk => by
    have h1 := hilt k e
    have h2 := HD3.out.ltD; have h3 := HD3.out.ltL; have h4 := HD3.out.ltM; have h5 := lt_of_heap HJ3.out.hj
    rcases hk with h | h | h
    · omega
    · omega
    · have := hvlt k h; omega
  have HO5 := Lib.hid (show OwnB w5 w3.heap.size (.slice ip b.length ic) b from own_keep HO4.out (fun g cs e hg => (hf5.block g (lt_of_heap hg) (hnin g e)).trans hg))
  have HV5 := Lib.hid (show ∀ k, v5.ownBlock = some k → ∀ i, (Value.slice ip b.length ic).ownBlock = some i → i ≠ k from fun k e i ei hik => by
    subst hik
    rcases hv5 with h | ⟨g, h, hg⟩
    · rw [h] at e; have := hvlt i e.symm; have := (hilt i ei).1; omega
    · rw [h] at e; have := Option.some.inj e; have := (hilt i ei).2; omega)
  have hz5 := hf5.size
  clear hd5 hf5 hj5 hv5
  go_wp2_with fail
  go_loopw [11] (fun i wr => ∃ k : Nat, k ≤ b.length ∧ i = .int .i64 (k : Int) ∧ (∃ l' : By, l'.length = b.length ∧ OwnB wr w3.heap.size (.slice ip b.length ic) l') ∧ Frq (fun x => (Value.slice ip b.length ic).ownBlock = some x) w5 wr) (fun i _ => b.length - (intOf i).toNat)
  case atStart => exact ⟨0, Nat.zero_le _, rfl, ⟨b, rfl, HO5.out⟩, Frq.refl _ _⟩
  case round =>
    obtain ⟨k, hk, rfl, ⟨l', hl', hol⟩, hfr⟩ := hrel
    have hk0 : (0 : Int) ≤ (k : Int) := Int.natCast_nonneg _
    have HFR := Lib.hid hfr
    have HOL := Lib.hid hol
    by_cases hlt : (k : Int) < (b.length : Int)
    · have hlt2 : k < b.length := by omega
      obtain ⟨g, hg⟩ : ∃ g, ip = some ⟨g, 0, none⟩ := by
        have h2 : wr.ownsRow w3.heap.size 5 1 (.slice ip b.length ic) b.length (Lib.byteCells l') := by have := hol; unfold OwnB at this; rw [hl'] at this; exact this
        obtain ⟨g, hg, _⟩ := own_ptr h2 (by omega)
        exact ⟨g, hg⟩
      subst hg
      have hkl : k < l'.length := by omega
      have hcc := own_cell (i := k) hol hkl
      have cc := hcc.1
      have cf := hcc.2
      clear hfr hol
      go_wp2
      have hv : (((l'[k]).toNat : Int) + 1) % 256 = ((UInt8.ofNat (((l'[k]).toNat + 1) % 256)).toNat : Int) := by
        have : (UInt8.ofNat (((l'[k]).toNat + 1) % 256)).toNat = ((l'[k]).toNat + 1) % 256 := by simp
        rw [this]; omega
      refine ⟨⟨k + 1, by omega, by go_num, ⟨l'.set k (UInt8.ofNat (((l'[k]).toNat + 1) % 256)), by rw [List.length_set]; exact hl', own_put HOL.out hl'.symm hlt2 _ (by rw [hv])⟩, HFR.out.setCell (p := ⟨g, k, none⟩) (.inl rfl) _⟩, ?_⟩
      simp [intOf]; omega
    · obtain rfl : k = b.length := by omega
      clear hfr hol
      have hj6 : JnAt wr J D w2.heap.size v5 [b] 1 false := ⟨(HFR.out.block J (lt_of_heap HJ5.out.hj) (fun e => by have := lt_of_heap HJ3.out.hj; have := hilt J e; omega)).trans HJ5.out.hj, own_keep HJ5.out.row (fun g cs e hg => (HFR.out.block g (lt_of_heap hg) (fun ei => HV5.out g e g ei rfl)).trans hg)⟩
      have HJ6 := Lib.hid hj6
      have HB6 := Lib.hid (show Below w.heap.size w wr from HB5.out.trans (HFR.out.below HB5.out.size (fun x e => by have := hilt x e; omega)))
      have HR6 := Lib.hid (records_any hj6 (by show (dat ([] ++ [b])).length ≤ _; omega))
      have hz6 := HFR.out.size
      clear hj6
      go_wp2_with fail
      refine (HR6.out).mono ?_
      rintro e w8 ⟨l, rfl, hl8, hb8⟩
      have HB8 := Lib.hid (HB6.out.trans (hb8.mono HB6.out.size))
      have HJ8 := Lib.hid (show JnAt w8 J D w2.heap.size v5 [b] 1 false from ⟨(hb8.block _ (lt_of_heap HJ6.out.hj)).trans HJ6.out.hj, own_keep HJ6.out.row (fun g cs _ hg => (hb8.block _ (lt_of_heap hg)).trans hg)⟩)
      obtain ⟨lg, lc, yp, yc, cur, rfl, hlc, hl0, hoy, hlg⟩ := recs_one hl8
      have hz8 := hb8.size
      have HOY := Lib.hid hoy
      have HHL := Lib.hid hlc
      have HL0 := Lib.hid hl0
      have HC8 := Lib.hid (show ∀ w9, Below w8.heap.size w8 w9 → w9.cell? ⟨lg, 0, none⟩ = some (.slice yp b.length yc) ∧ (convert 40 9 (.slice yp b.length yc)).run Try.prog w9 = .ok (str b) w9 ∧ (convert 40 9 (.slice bp b.length bcap)).run Try.prog w9 = .ok (str b) w9 from fun w9 h9 =>
        ⟨(cell_of_arr ((h9.block _ (lt_of_heap HHL.out)).trans HHL.out) 0).trans HL0.out, bys_str (row_own (F := fun _ => True) (own_keep HOY.out (fun g cs _ hg => (h9.block _ (lt_of_heap hg)).trans hg)) (fun _ _ => trivial)), bys_str (HB0.out.kept (F' := fun _ => True) (fun x hx => ⟨trivial, (h9.block x (Nat.lt_of_lt_of_le hx HB8.out.size)).trans (HB8.out.block x hx)⟩))⟩)
      have HS8 := Lib.hid (show Below w8.heap.size w8 w8.drew from ⟨rfl, rfl, rfl, Nat.le_refl _, fun _ _ => rfl⟩)
      clear hl8 hb8 hoy hlc hl0
      go_wp2_with fail
      refine wp_region_held (S := Below w8.heap.size w8) (by kernel_rfl) ?_
      change wpAnyH _ _ _ _ _ _ _ _ (World.drew _)
      refine tkH (i := 0) (oi := ⟨some 82, .move (.tmp 12), _, _, _, none⟩) (.slice (some ⟨lg, 0, none⟩) 1 lc) rfl (by kernel_rfl) (fun _ _ _ h => h) (yH rfl (fun w3 h3 => by go_simp)) HS8.out ?_
      simp only [Act.put, s1, s2, s3]
      refine tkH (i := 1) (oi := ⟨some 83, .call ⟨.builtin .len, #[.tmp 82], _⟩, _, _, _, none⟩) (.int .i64 1) rfl (by kernel_rfl) (fun _ _ _ h => h) (yH rfl (fun w3 h3 => by go_simp)) HS8.out ?_
      simp only [Act.put, s1, s2, s3]
      refine tkH (i := 2) (oi := ⟨some 84, .binOp .neq 3 (.tmp 83) (.const (.int .i64 1)) 3, _, _, _, none⟩) (.bool false) rfl (by kernel_rfl) (fun _ _ _ h => h) (yH rfl (fun w3 h3 => by go_simp)) HS8.out ?_
      simp only [Act.put, s1, s2, s3]
      refine tkH (i := 3) (oi := ⟨some 85, .move (.tmp 84), _, _, _, none⟩) (.bool false) rfl (by kernel_rfl) (fun _ _ _ h => h) (yH rfl (fun w3 h3 => by go_simp)) HS8.out ?_
      simp only [Act.put, s1, s2, s3]
      refine tkH (i := 4) (oi := ⟨some 86, .move (.tmp 12), _, _, _, some (3, false)⟩) (.slice (some ⟨lg, 0, none⟩) 1 lc) rfl (by kernel_rfl) (fun _ _ _ h => h) (yH rfl (fun w3 h3 => by go_simp)) HS8.out ?_
      simp only [Act.put, s1, s2, s3]
      refine tkH (i := 5) (oi := ⟨some 87, .indexAddr 28 (.tmp 86) (.const (.int .i64 0)), _, _, _, some (3, false)⟩) (.pointer (some ⟨lg, 0, none⟩)) rfl (by kernel_rfl) (fun _ _ _ h => h) (yH rfl (fun w3 h3 => by go_simp)) HS8.out ?_
      simp only [Act.put, s1, s2, s3]
      refine tkH (i := 6) (oi := ⟨some 88, .load 40 (.tmp 87), _, _, _, some (3, false)⟩) (.slice yp b.length yc) rfl (by kernel_rfl) (fun _ _ _ h => h) (yH rfl (fun w3 h3 => by have q := (HC8.out w3 h3).1; go_simp)) HS8.out ?_
      simp only [Act.put, s1, s2, s3]
      refine tkH (i := 7) (oi := ⟨some 89, .convert 40 9 (.tmp 88), _, _, _, some (3, false)⟩) (str b) rfl (by kernel_rfl) (fun _ _ _ h => h) (yH rfl (fun w3 h3 => by have q := (HC8.out w3 h3).2.1; go_simp)) HS8.out ?_
      simp only [Act.put, s1, s2, s3]
      refine tkH (i := 8) (oi := ⟨some 90, .move (.tmp 0), _, _, _, some (3, false)⟩) (.slice bp b.length bcap) rfl (by kernel_rfl) (fun _ _ _ h => h) (yH rfl (fun w3 h3 => by go_simp)) HS8.out ?_
      simp only [Act.put, s1, s2, s3]
      refine tkH (i := 9) (oi := ⟨some 91, .convert 40 9 (.tmp 90), _, _, _, some (3, false)⟩) (str b) rfl (by kernel_rfl) (fun _ _ _ h => h) (yH rfl (fun w3 h3 => by have q := (HC8.out w3 h3).2.2; go_simp)) HS8.out ?_
      simp only [Act.put, s1, s2, s3]
      refine tkH (i := 10) (oi := ⟨some 92, .binOp .neq 9 (.tmp 89) (.tmp 91) 9, _, _, _, some (3, false)⟩) (.bool false) rfl (by kernel_rfl) (fun _ _ _ h => h) (yH rfl (fun w3 h3 => by go_simp)) HS8.out ?_
      simp only [Act.put, s1, s2, s3]
      refine tkH (i := 11) (oi := ⟨some 93, .pick (.tmp 85) (.const (.bool true)) (.tmp 92), _, _, _, none⟩) (.bool false) rfl (by kernel_rfl) (fun _ _ _ h => h) (yH rfl (fun w3 h3 => by go_simp)) HS8.out ?_
      simp only [Act.put, s1, s2, s3]
      refine wpAnyH_done (by kernel_rfl) ?_ _
      obtain ⟨wo, hwo⟩ : ∃ wo : World, wo = wr := ⟨_, rfl⟩
      subst hwo
      go_wp2_with fail
      go_loopw [13] (fun i wr => ∃ k : Nat, k ≤ b.length ∧ i = .int .i64 (k : Int) ∧ (∃ l' : By, l'.length = b.length ∧ OwnB wr wo.heap.size (.slice yp b.length yc) l') ∧ Frq (fun x => (Value.slice yp b.length yc).ownBlock = some x) w8 wr) (fun i _ => b.length - (intOf i).toNat)
      case atStart => exact ⟨0, Nat.zero_le _, rfl, ⟨b, rfl, HOY.out⟩, (Frq.refl _ _).drew⟩
      case round =>
        obtain ⟨k, hk, rfl, ⟨l', hl', hol⟩, hfr⟩ := hrel
        have hk0 : (0 : Int) ≤ (k : Int) := Int.natCast_nonneg _
        have HFR2 := Lib.hid hfr
        have HOL := Lib.hid hol
        have hylt : ∀ x, (Value.slice yp b.length yc).ownBlock = some x → wo.heap.size ≤ x ∧ x < w8.heap.size := fun x e => own_lt HOY.out e
        have hlgn : (Value.slice yp b.length yc).ownBlock ≠ some lg := fun e => by
          obtain ⟨cs, hcs⟩ := own_cells HOY.out e
          rw [HHL.out] at hcs
          simp only [Option.some.injEq, Obj.cells.injEq] at hcs
          exact absurd hcs.2.1 (by decide)
        have HLG := Lib.hid ((hfr.block lg (lt_of_heap HHL.out) hlgn).trans HHL.out)
        have cl : wr.cell? ⟨lg, 0, none⟩ = some (.slice yp b.length yc) := (cell_of_arr HLG.out 0).trans HL0.out
        clear hfr
        by_cases hlt : (k : Int) < (b.length : Int)
        · have hlt2 : k < b.length := by omega
          obtain ⟨yg, hg⟩ : ∃ g, yp = some ⟨g, 0, none⟩ := by
            have h2 : wr.ownsRow wo.heap.size 5 1 (.slice yp b.length yc) b.length (Lib.byteCells l') := by have := hol; unfold OwnB at this; rw [hl'] at this; exact this
            obtain ⟨g, hg, _⟩ := own_ptr h2 (by omega)
            exact ⟨g, hg⟩
          subst hg
          have hkl : k < l'.length := by omega
          have hcc := own_cell (i := k) hol hkl
          have cc := hcc.1
          have cf := hcc.2
          have hygn : yg ≠ lg := fun e => hlgn (by rw [e]; rfl)
          have HLr := Lib.hid (show ∀ w3, Frq (· = yg) wr w3 → w3.cell? ⟨lg, 0, none⟩ = some (.slice (some ⟨yg, 0, none⟩) b.length yc) from fun w3 h3 => (cell_of_arr ((h3.block lg (lt_of_heap HLG.out) (fun e => hygn e.symm)).trans HLG.out) 0).trans HL0.out)
          have HSr := Lib.hid (show Frq (· = yg) wr wr.drew from (Frq.refl _ _).drew)
          clear hol
          go_wp2_with fail
          refine wp_region_held (S := Frq (· = yg) wr) (by kernel_rfl) ?_
          change wpAnyH _ _ _ _ _ _ _ _ (World.drew _)
          refine tkH (i := 0) (oi := ⟨some 102, .move (.tmp 12), _, _, _, none⟩) (.slice (some ⟨lg, 0, none⟩) 1 lc) rfl (by kernel_rfl) (fun _ _ _ h => h) (yH rfl (fun w3 h3 => by go_simp)) HSr.out ?_
          simp only [Act.put, s1, s2, s3]
          refine tkH (i := 1) (oi := ⟨some 103, .indexAddr 28 (.tmp 102) (.const (.int .i64 0)), _, _, _, none⟩) (.pointer (some ⟨lg, 0, none⟩)) rfl (by kernel_rfl) (fun _ _ _ h => h) (yH rfl (fun w3 h3 => by go_simp)) HSr.out ?_
          simp only [Act.put, s1, s2, s3]
          refine tkH (i := 2) (oi := ⟨some 104, .load 40 (.tmp 103), _, _, _, none⟩) (.slice (some ⟨yg, 0, none⟩) b.length yc) rfl (by kernel_rfl) (fun _ _ _ h => h) (yH rfl (fun w3 h3 => by have q : w3.cell? ⟨lg, 0, none⟩ = some (.slice (some ⟨yg, 0, none⟩) b.length yc) := HLr.out w3 h3; go_simp)) HSr.out ?_
          simp only [Act.put, s1, s2, s3]
          refine tkH (i := 3) (oi := ⟨some 105, .move (.tmp 13), _, _, _, none⟩) (.int .i64 (k : Int)) rfl (by kernel_rfl) (fun _ _ _ h => h) (yH rfl (fun w3 h3 => by go_simp)) HSr.out ?_
          simp only [Act.put, s1, s2, s3]
          refine tkH (i := 4) (oi := ⟨some 106, .move (.tmp 12), _, _, _, none⟩) (.slice (some ⟨lg, 0, none⟩) 1 lc) rfl (by kernel_rfl) (fun _ _ _ h => h) (yH rfl (fun w3 h3 => by go_simp)) HSr.out ?_
          simp only [Act.put, s1, s2, s3]
          refine tkH (i := 5) (oi := ⟨some 107, .indexAddr 28 (.tmp 106) (.const (.int .i64 0)), _, _, _, none⟩) (.pointer (some ⟨lg, 0, none⟩)) rfl (by kernel_rfl) (fun _ _ _ h => h) (yH rfl (fun w3 h3 => by go_simp)) HSr.out ?_
          simp only [Act.put, s1, s2, s3]
          refine tkH (i := 6) (oi := ⟨some 108, .load 40 (.tmp 107), _, _, _, none⟩) (.slice (some ⟨yg, 0, none⟩) b.length yc) rfl (by kernel_rfl) (fun _ _ _ h => h) (yH rfl (fun w3 h3 => by have q : w3.cell? ⟨lg, 0, none⟩ = some (.slice (some ⟨yg, 0, none⟩) b.length yc) := HLr.out w3 h3; go_simp)) HSr.out ?_
          simp only [Act.put, s1, s2, s3]
          refine tkH (i := 7) (oi := ⟨some 109, .move (.tmp 13), _, _, _, none⟩) (.int .i64 (k : Int)) rfl (by kernel_rfl) (fun _ _ _ h => h) (yH rfl (fun w3 h3 => by go_simp)) HSr.out ?_
          simp only [Act.put, s1, s2, s3]
          refine tkH (i := 8) (oi := ⟨some 110, .indexAddr 40 (.tmp 108) (.tmp 109), _, _, _, none⟩) (.pointer (some ⟨yg, k, none⟩)) rfl (by kernel_rfl) (fun _ _ _ h => h) (yH rfl (fun w3 h3 => by go_simp)) HSr.out ?_
          simp only [Act.put, s1, s2, s3]
          refine rdH (i := 9) (o := ⟨some 111, .load 5 (.tmp 110), _, _, _, none⟩) (by kernel_rfl) rfl (fun K' hK => ?_)
          go_simp
          refine hK.out _ _ HSr.out (fun _ => ?_)
          clear hK K'
          try (simp only [Act.put, s1, s2, s3])
          refine tkH (i := 10) (oi := ⟨some 112, .binOp .add 5 (.tmp 111) (.const (.int .u8 1)) 5, _, _, _, none⟩) (.int .u8 ((((l'[k]).toNat : Int) + 1) % 256)) rfl (by kernel_rfl) (fun _ _ _ h => h) (yH rfl (fun w3 h3 => by go_simp; rw [IntKind.wrap_u8])) HSr.out ?_
          simp only [Act.put, s1, s2, s3]
          refine tkH (i := 11) (oi := ⟨some 113, .indexAddr 40 (.tmp 104) (.tmp 105), _, _, _, none⟩) (.pointer (some ⟨yg, k, none⟩)) rfl (by kernel_rfl) (fun _ _ _ h => h) (yH rfl (fun w3 h3 => by go_simp)) HSr.out ?_
          simp only [Act.put, s1, s2, s3]
          refine rdH (i := 12) (o := ⟨none, .store 5 (.tmp 113) (.tmp 112), _, _, _, none⟩) (by kernel_rfl) rfl (fun K' hK => ?_)
          go_simp
          have HSs := Lib.hid (show Frq (· = yg) wr (wr.drew.setCell ⟨yg, k, none⟩ (.int .u8 ((((l'[k]).toNat : Int) + 1) % 256))) from HSr.out.setCell (p := ⟨yg, k, none⟩) (.inl rfl) _)
          refine hK.out _ _ HSs.out (fun _ => ?_)
          clear hK K'
          try (simp only [Act.put, s1, s2, s3])
          refine wpAnyH_done (by kernel_rfl) ?_ _
          have HV := Lib.hid (show (((l'[k]).toNat : Int) + 1) % 256 = ((UInt8.ofNat (((l'[k]).toNat + 1) % 256)).toNat : Int) from by
            have : (UInt8.ofNat (((l'[k]).toNat + 1) % 256)).toNat = ((l'[k]).toNat + 1) % 256 := by simp
            rw [this]; omega)
          go_wp2
          refine ⟨⟨k + 1, by omega, by go_num, ⟨l'.set k (UInt8.ofNat (((l'[k]).toNat + 1) % 256)), by rw [List.length_set]; exact hl', own_put HOL.out hl'.symm hlt2 _ (by rw [HV.out])⟩, (HFR2.out.setCell (p := ⟨yg, k, none⟩) (.inl rfl) _).drew⟩, ?_⟩
          simp [intOf]; omega
        · obtain rfl : k = b.length := by omega
          clear hol
          have hv5lt : ∀ x, v5.ownBlock = some x → x < wo.heap.size := fun x e => (own_lt HJ6.out.row e).2
          have hj9 : JnAt wr J D w2.heap.size v5 [b] 1 false := ⟨(HFR2.out.block J (lt_of_heap HJ8.out.hj) (fun e => by have := lt_of_heap HJ6.out.hj; have := hylt J e; omega)).trans HJ8.out.hj, own_keep HJ8.out.row (fun g cs e hg => (HFR2.out.block g (lt_of_heap hg) (fun ei => by have := hylt g ei; have := hv5lt g e; omega)).trans hg)⟩
          have HB9' := Lib.hid (show Below w.heap.size w wr from HB8.out.trans (HFR2.out.below HB8.out.size (fun x e => by have := hylt x e; have := HB6.out.size; omega)))
          have HR9 := Lib.hid (records_any hj9 (by show (dat ([] ++ [b])).length ≤ _; omega))
          clear hj9
          go_wp2_with fail
          clear cl
          refine (HR9.out).mono ?_
          rintro e w9 ⟨l, rfl, hl9, hb9⟩
          have HB9 := Lib.hid (HB9'.out.trans (hb9.mono HB9'.out.size))
          obtain ⟨mg, mc, zp, zc, cur2, rfl, hmc, hm0, hoz, hmg⟩ := recs_one hl9
          have HOZ := Lib.hid hoz
          have HML := Lib.hid hmc
          have HM0 := Lib.hid hm0
          have HC9 := Lib.hid (show ∀ w10, Below w9.heap.size w9 w10 → w10.cell? ⟨mg, 0, none⟩ = some (.slice zp b.length zc) ∧ (convert 40 9 (.slice zp b.length zc)).run Try.prog w10 = .ok (str b) w10 ∧ (convert 40 9 (.slice bp b.length bcap)).run Try.prog w10 = .ok (str b) w10 from fun w10 h10 =>
            ⟨(cell_of_arr ((h10.block _ (lt_of_heap HML.out)).trans HML.out) 0).trans HM0.out, bys_str (row_own (F := fun _ => True) (own_keep HOZ.out (fun g cs _ hg => (h10.block _ (lt_of_heap hg)).trans hg)) (fun _ _ => trivial)), bys_str (HB0.out.kept (F' := fun _ => True) (fun x hx => ⟨trivial, (h10.block x (Nat.lt_of_lt_of_le hx HB9.out.size)).trans (HB9.out.block x hx)⟩))⟩)
          have HS9 := Lib.hid (show Below w9.heap.size w9 w9.drew from ⟨rfl, rfl, rfl, Nat.le_refl _, fun _ _ => rfl⟩)
          clear hl9 hb9 hoz hmc hm0
          go_wp2_with fail
          refine wp_region_held (S := Below w9.heap.size w9) (by kernel_rfl) ?_
          change wpAnyH _ _ _ _ _ _ _ _ (World.drew _)
          refine tkH (i := 0) (oi := ⟨some 116, .move (.tmp 14), _, _, _, none⟩) (.slice (some ⟨mg, 0, none⟩) 1 mc) rfl (by kernel_rfl) (fun _ _ _ h => h) (yH rfl (fun w3 h3 => by go_simp)) HS9.out ?_
          simp only [Act.put, s1, s2, s3]
          refine tkH (i := 1) (oi := ⟨some 117, .call ⟨.builtin .len, #[.tmp 116], _⟩, _, _, _, none⟩) (.int .i64 1) rfl (by kernel_rfl) (fun _ _ _ h => h) (yH rfl (fun w3 h3 => by go_simp)) HS9.out ?_
          simp only [Act.put, s1, s2, s3]
          refine tkH (i := 2) (oi := ⟨some 118, .binOp .eql 3 (.tmp 117) (.const (.int .i64 1)) 3, _, _, _, none⟩) (.bool true) rfl (by kernel_rfl) (fun _ _ _ h => h) (yH rfl (fun w3 h3 => by go_simp)) HS9.out ?_
          simp only [Act.put, s1, s2, s3]
          refine tkH (i := 3) (oi := ⟨some 119, .move (.tmp 118), _, _, _, none⟩) (.bool true) rfl (by kernel_rfl) (fun _ _ _ h => h) (yH rfl (fun w3 h3 => by go_simp)) HS9.out ?_
          simp only [Act.put, s1, s2, s3]
          refine tkH (i := 4) (oi := ⟨some 120, .move (.tmp 14), _, _, _, some (3, true)⟩) (.slice (some ⟨mg, 0, none⟩) 1 mc) rfl (by kernel_rfl) (fun _ _ _ h => h) (yH rfl (fun w3 h3 => by go_simp)) HS9.out ?_
          simp only [Act.put, s1, s2, s3]
          refine tkH (i := 5) (oi := ⟨some 121, .indexAddr 28 (.tmp 120) (.const (.int .i64 0)), _, _, _, some (3, true)⟩) (.pointer (some ⟨mg, 0, none⟩)) rfl (by kernel_rfl) (fun _ _ _ h => h) (yH rfl (fun w3 h3 => by go_simp)) HS9.out ?_
          simp only [Act.put, s1, s2, s3]
          refine tkH (i := 6) (oi := ⟨some 122, .load 40 (.tmp 121), _, _, _, some (3, true)⟩) (.slice zp b.length zc) rfl (by kernel_rfl) (fun _ _ _ h => h) (yH rfl (fun w3 h3 => by have q := (HC9.out w3 h3).1; go_simp)) HS9.out ?_
          simp only [Act.put, s1, s2, s3]
          refine tkH (i := 7) (oi := ⟨some 123, .convert 40 9 (.tmp 122), _, _, _, some (3, true)⟩) (str b) rfl (by kernel_rfl) (fun _ _ _ h => h) (yH rfl (fun w3 h3 => by have q := (HC9.out w3 h3).2.1; go_simp)) HS9.out ?_
          simp only [Act.put, s1, s2, s3]
          refine tkH (i := 8) (oi := ⟨some 124, .move (.tmp 0), _, _, _, some (3, true)⟩) (.slice bp b.length bcap) rfl (by kernel_rfl) (fun _ _ _ h => h) (yH rfl (fun w3 h3 => by go_simp)) HS9.out ?_
          simp only [Act.put, s1, s2, s3]
          refine tkH (i := 9) (oi := ⟨some 125, .convert 40 9 (.tmp 124), _, _, _, some (3, true)⟩) (str b) rfl (by kernel_rfl) (fun _ _ _ h => h) (yH rfl (fun w3 h3 => by have q := (HC9.out w3 h3).2.2; go_simp)) HS9.out ?_
          simp only [Act.put, s1, s2, s3]
          refine tkH (i := 10) (oi := ⟨some 126, .binOp .eql 9 (.tmp 123) (.tmp 125) 9, _, _, _, some (3, true)⟩) (.bool true) rfl (by kernel_rfl) (fun _ _ _ h => h) (yH rfl (fun w3 h3 => by go_simp)) HS9.out ?_
          simp only [Act.put, s1, s2, s3]
          refine tkH (i := 11) (oi := ⟨some 127, .pick (.tmp 119) (.tmp 126) (.const (.bool false)), _, _, _, none⟩) (.bool true) rfl (by kernel_rfl) (fun _ _ _ h => h) (yH rfl (fun w3 h3 => by go_simp)) HS9.out ?_
          simp only [Act.put, s1, s2, s3]
          refine tkH (i := 12) (oi := ⟨some 128, .move (.tmp 127), _, _, _, none⟩) (.bool true) rfl (by kernel_rfl) (fun _ _ _ h => h) (yH rfl (fun w3 h3 => by go_simp)) HS9.out ?_
          simp only [Act.put, s1, s2, s3]
          refine rdH (i := 13) (o := ⟨some 129, .call ⟨.value (.func 19), #[], _⟩, _, _, _, some (12, true)⟩) (by kernel_rfl) rfl (fun K' hK => ?_)
          go_simp
          refine (keeps_any _).mono ?_
          rintro e w10 ⟨rfl, hb10⟩
          have HS10 := Lib.hid (show Below w9.heap.size w9 w10 from HS9.out.trans (hb10.mono (by exact Nat.le_refl _)))
          clear hb10
          refine hK.out _ _ HS10.out (fun _ => ?_)
          clear hK K'
          try (simp only [Act.put, s1, s2, s3])
          refine tkH (i := 14) (oi := ⟨some 130, .pick (.tmp 128) (.tmp 129) (.const (.bool false)), _, _, _, none⟩) (.bool true) rfl (by kernel_rfl) (fun _ _ _ h => h) (yH rfl (fun w3 h3 => by go_simp)) HS10.out ?_
          simp only [Act.put, s1, s2, s3]
          refine tkH (i := 15) (oi := ⟨some 2, .assign (.tmp 130), _, _, _, none⟩) (.bool true) rfl (by kernel_rfl) (fun _ _ _ h => h) (yH rfl (fun w3 h3 => by go_simp)) HS10.out ?_
          simp only [Act.put, s1, s2, s3]
          refine wpAnyH_done (by kernel_rfl) ?_ _
          go_wp2
          go_ret
          exact ⟨rfl, HB9.out.trans (HS10.out.mono HB9.out.size)⟩
end Go.Proofs.Ytabahkeologbmaa.Jn
