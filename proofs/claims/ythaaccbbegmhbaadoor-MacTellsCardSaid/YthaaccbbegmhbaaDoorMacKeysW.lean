/- The walk of the law MacKeys, over the translated program. -/
import Derived.Test.YthaaccbbegmhbaaDoorMacW5
namespace Go.Proofs.YthaaccbbegmhbaaDoor
open Go.RowKit Go.Sha

@[local go_sem high, local simp high] theorem zdig6 (w : World) : (zeroValue 25).run Tryd.prog w = .ok (.agg (bv (zl 32))) w := by kernel_rfl
theorem blk_short {k : List Nat} (h : k.length ≤ 64) : blk k = blk0 k := by unfold blk kk; rw [if_neg (by omega)]
theorem blk0_more {k : List Nat} (h : k.length < 64) : blk0 (k ++ [0]) = blk0 k := by
  rw [blk0_eq, blk0_eq, List.append_assoc, List.length_append]
  congr 1
  unfold zl
  rw [show 64 - k.length = (64 - (k.length + [0].length)) + 1 by simp; omega]
  rfl
theorem blk0_full {k : List Nat} (h : k.length = 64) : blk0 k = k := by rw [blk0_eq, h]; simp [zl]
theorem mac_blk {k k2 : List Nat} (l : List Nat) (h : blk k = blk k2) : macL k l = macL k2 l := by unfold macL out inn; rw [h]
theorem lt_snoc {k : List Nat} (h : Lt 256 k) : Lt 256 (k ++ [0]) := fun x hx => by
  rw [List.mem_append] at hx
  rcases hx with hx | hx
  · exact h x hx
  · simp at hx; omega
/-- one step of a region that draws its order: append of bytes -/
theorem step_app {ops : Array Oper} {o : Oper} {a : Act} {w : World} {K : Act → World → Prop} {Q : Exit → Act → World → Prop} {E : Prop} (hgd : o.guard = none) (s x : Operand)
    (ho : o.op = .call { callee := .builtin .append, args := #[s, x], argTypes := #[22, 22] })
    (base : Nat) (v u : Value) (l k : List Nat) (hs : a.eval s = v) (hx : a.eval x = u) (hown : Own w base v l) (hsrc : Src w u k) (hlen : l.length + k.length ≤ 1000000) (hbase : base ≤ w.heap.size)
    (h : ∀ v' w', Own w' base v' (l ++ k) → w.grownBy w' v.ownBlock → (v'.ownBlock = v.ownBlock ∨ v'.ownBlock = some w.heap.size) → K (a.put o.dst v') w') : if Region.wanted o (yielded ops a.tmps) = true then Oper.wp Tryd.prog o a w K Q else E := by
  rw [if_pos (by simp [Region.wanted, hgd])]
  obtain ⟨v', w', hr, h2, h3, h5⟩ := run_app w base o.type v u l k hown hsrc hlen hbase
  unfold Oper.wp execOp
  simp only [ho, resolve, invoke, builtin, Sem.run_bind, Sem.run_pure, Result.andThen_ok, List.map_toArray, List.map_cons, List.map_nil, hs, hx, hr]
  exact h v' w' h2 h3 h5
/-- what stands at each place of MacKeys: the mac in its block, a key of the same block in memory of the call's own -/
def KRel (w : World) (mB : Nat) (M : List Nat) (B : List Nat) (s : Value) (wr : World) : Prop :=
  ∃ sl, Own wr (mB + 1) s sl ∧ sl.length ≤ 64 ∧ blk0 sl = B ∧ Lt 256 sl ∧ wr.heap[mB]? = some (.cells (bv M) 25 (0, 0)) ∧ Below w.heap.size w wr
theorem Own.slice {w : World} {base : Nat} {v : Value} {l : List Nat} (h : Own w base v l) : ∃ p cap, v = .slice p l.length cap := by
  obtain ⟨p, cap, e, _⟩ := h.src
  exact ⟨p, cap, e⟩
/-- 64 bytes that lie from the beginning of a block -/
def Row64 (w : World) (g cap : Nat) (K : List Nat) : Prop := ∃ cur : Array Value, w.heap[g]? = some (.cells cur 5 (0, 0)) ∧ cur.size = cap ∧ cur.toList.take 64 = bl K
theorem Row64.own {w : World} {g cap base : Nat} {K : List Nat} (h : Row64 w g cap K) (hK : K.length = 64) (hb : base ≤ g) (hc : 64 ≤ cap) (hm : cap ≤ maxLen) : Own w base (.slice (some ⟨g, 0, none⟩) 64 cap) K := by
  obtain ⟨cur, h1, h2, h3⟩ := h
  unfold Own
  rw [hK]
  exact ⟨by rw [bl_len, hK], Or.inr ⟨g, cap, cur, rfl, hb, h1, hc, hm, by omega, by rw [Nat.mul_one]; exact h3⟩⟩
theorem Own.row64 {w : World} {base : Nat} {v : Value} {K : List Nat} (h : Own w base v K) (hK : K.length = 64) : ∃ g cap, v = .slice (some ⟨g, 0, none⟩) 64 cap ∧ v.ownBlock = some g ∧ base ≤ g ∧ 64 ≤ cap ∧ cap ≤ maxLen ∧ Row64 w g cap K := by
  obtain ⟨h1, h2⟩ := h
  rcases h2 with ⟨rfl, h0⟩ | ⟨g, cap, cur, rfl, hb, hh, hn, hm, hsz, htk⟩
  · omega
  · rw [hK] at hn htk ⊢
    rw [Nat.mul_one] at hsz htk
    exact ⟨g, cap, rfl, rfl, hb, hn, hm, cur, hh, hsz, htk⟩
theorem Row64.cell {w : World} {g cap : Nat} {K : List Nat} (h : Row64 w g cap K) (hK : K.length = 64) {j : Nat} (hj : j < 64) : w.cell? ⟨g, j, none⟩ = some (.int .u8 (at0 K j : Nat)) := by
  obtain ⟨cur, h1, h2, h3⟩ := h
  rw [cell_of_row _ _ j _ _ _ h1, ← bv_get K j (by omega), ← bl_get, ← h3, List.getElem?_take, if_pos hj]
  simp
theorem Row64.frozen {w : World} {g cap : Nat} {K : List Nat} (h : Row64 w g cap K) (j : Nat) : w.frozen? ⟨g, j, none⟩ = false := by
  obtain ⟨cur, h1, _, _⟩ := h
  exact frozen_of_row _ _ _ _ _ h1
theorem bl_set (l : List Nat) (i x : Nat) : (bl l).set i (.int .u8 (x : Int)) = bl (l.set i x) := by
  unfold bl; rw [← bv_set]; simp
theorem Row64.set {w : World} {g cap : Nat} {K : List Nat} (h : Row64 w g cap K) (j x : Nat) : Row64 (w.setCell ⟨g, j, none⟩ (.int .u8 (x : Int))) g cap (K.set j x) := by
  obtain ⟨cur, h1, h2, h3⟩ := h
  refine ⟨_, heap_setCell_same _ _ _ _ _ _ h1, by simpa using h2, ?_⟩
  rw [Array.toList_setIfInBounds, List.take_set, h3, bl_set]
theorem Row64.other {w : World} {g cap : Nat} {K : List Nat} (h : Row64 w g cap K) {g' j : Nat} (hne : g ≠ g') (v : Value) : Row64 (w.setCell ⟨g', j, none⟩ v) g cap K := by
  obtain ⟨cur, h1, h2, h3⟩ := h
  exact ⟨cur, (heap_setCell_other _ _ _ _ hne).trans h1, h2, h3⟩
theorem Row64.grown {w w' : World} {g cap : Nat} {K : List Nat} {row : Option Nat} (h : Row64 w g cap K) (hg : w.grownBy w' row) (hne : some g ≠ row) : Row64 w' g cap K := by
  obtain ⟨cur, h1, h2, h3⟩ := h
  exact ⟨cur, (hg.block _ (Array.getElem?_eq_some_iff.1 h1).1 hne).trans h1, h2, h3⟩
theorem Row64.kept {w w' : World} {g cap : Nat} {K : List Nat} (h : Row64 w g cap K) (hb : Below w.heap.size w w') : Row64 w' g cap K := by
  obtain ⟨cur, h1, h2, h3⟩ := h
  exact ⟨cur, (hb.block _ (Array.getElem?_eq_some_iff.1 h1).1).trans h1, h2, h3⟩
theorem tmod65 (c : Int) : ∃ n : Nat, n ≤ 64 ∧ (c.tmod 65 = (n : Int) ∨ (c.tmod 65 = -(n : Int) ∧ 0 < n)) := by
  refine ⟨(c.tmod 65).natAbs, ?_, ?_⟩
  · rw [Int.natAbs_tmod]
    have := Nat.mod_lt c.natAbs (show 0 < (65 : Int).natAbs by decide)
    simp at this ⊢; omega
  · omega

set_option maxRecDepth 100000 in
set_option maxHeartbeats 800000 in
theorem macKeys_big (p q : Option Addr) (m n c d : Nat) (more : Int) (w : World) (hG : Gl w) (h : 8192 < m ∨ 8192 < n) :
    Calls Tryd.prog 8 #[.slice p m c, .slice q n d, .int .i64 more] w fun e w' => e = .returned (.bool true) ∧ Below w.heap.size w w' := by
  have HG := Lib.hid hG; clear hG
  by_cases h1 : 8192 < m
  · have t1 : decide ((8192 : Int) < (m : Int)) = true := by simp; omega
    go_enter Tryd.func8, Tryd.ntmps8
    go_wp2_with fail
    refine (wakes2_any _ HG.out).mono ?_
    rintro e w2 ⟨rfl, hb2⟩
    go_wp2_with fail
    go_ret
    exact ⟨rfl, hb2⟩
  · have t1 : decide ((8192 : Int) < (m : Int)) = false := by simp; omega
    have t2 : decide ((8192 : Int) < (n : Int)) = true := by simp; omega
    go_enter Tryd.func8, Tryd.ntmps8
    go_wp2_with fail
    refine (wakes2_any _ HG.out).mono ?_
    rintro e w2 ⟨rfl, hb2⟩
    go_wp2_with fail
    go_ret
    exact ⟨rfl, hb2⟩

set_option maxRecDepth 100000 in
set_option maxHeartbeats 6400000 in
theorem macKeys_any (key l : List Nat) (p q : Option Addr) (m n c d : Nat) (more : Int) (w : World) (hG : Gl w) (hm : m = key.length) (hn : n = l.length) (hk1 : Lt 256 key) (hl1 : Lt 256 l) (h1 : m ≤ 8192) (h2 : n ≤ 8192)
    (hv : Byt w w.heap.size (.slice p m c) key) (hu : Byt w w.heap.size (.slice q n d) l) (hmr : -9223372036854775808 ≤ more ∧ more ≤ 9223372036854775807) :
    Calls Tryd.prog 8 #[.slice p m c, .slice q n d, .int .i64 more] w fun e w' => e = .returned (.bool true) ∧ Below w.heap.size w w' := by
  have HG := Lib.hid hG; clear hG
  have HM := Lib.hid hm; clear hm
  have HN := Lib.hid hn; clear hn
  have HK1 := Lib.hid hk1; clear hk1
  have HL1 := Lib.hid hl1; clear hl1
  have HV := Lib.hid hv; clear hv
  have HU := Lib.hid hu; clear hu
  have hsz := HG.out.size
  have t1 : decide ((8192 : Int) < (m : Int)) = false := by simp; omega
  have t2 : decide ((8192 : Int) < (n : Int)) = false := by simp; omega
  obtain ⟨r, hr, hrr⟩ := tmod65 more
  have HMR := Lib.hid hmr; clear hmr
  go_enter Tryd.func8, Tryd.ntmps8
  go_wp2_with fail
  refine (macOf_any key l _ _ w HK1.out HL1.out (by rw [← HM.out]; omega) (by rw [← HN.out]; omega) HG.out HV.out HU.out).mono ?_
  rintro e w1 ⟨rfl, hb1⟩
  have HB1 := Lib.hid hb1; clear hb1
  have hs1 := HB1.out.size
  obtain ⟨mB, hmB⟩ : ∃ mB, mB = w1.heap.size := ⟨_, rfl⟩
  have HMM := Lib.hid (macL_len key l)
  have HKK := Lib.hid (show ∀ sl : List Nat, sl.length ≤ 64 → blk0 sl = blk0 (kk key) → macL sl l = macL key l from fun sl h1 h2 => mac_blk l (by rw [blk_short h1, h2]; unfold blk; rfl))
  generalize hMM : macL key l = M at *
  have HME := Lib.hid hMM; clear hMM
  have HI25 := Lib.hid (show (Tryd.prog.info? 25).map (·.size) = some (bv M).size by rw [bv_size, HMM.out]; exact info25)
  go_wp2_with (first
    | ((with_reducible refine wl_storeL (ty := 25) w1.heap.size (bv M) ?_ ?_ ?_ ?_ ?_ ?_ ?_); (· rfl); (· rfl); (· rfl); (· exact HI25.out); (· rw [bv_size, bv_size, HMM.out, zl_len]); (· exact bv_one _))
    | (with_reducible refine stp_append ?_))
  unfold Stp
  rw [← hmB]
  have HM1 := Lib.hid (show (w1.alloc (.cells (bv M) 25)).heap[mB]? = some (.cells (bv M) 25 (0, 0)) from heap_last _ _ _ hmB)
  have HB2 := Lib.hid (show Below w.heap.size w (w1.alloc (.cells (bv M) 25)) from HB1.out.alloc hs1 _)
  have hs2 : mB + 1 = (w1.alloc (.cells (bv M) 25)).heap.size := by simp [hmB]
  have hmw : w.heap.size ≤ mB := by omega
  generalize w1.alloc (.cells (bv M) 25) = w2 at *
  clear hmB hs1
  with_reducible refine wl_app (mB + 1) (.slice none 0 0) (.slice p m c) [] key ?_ ?_ (own_nil _ _) ?_ ?_ ?_ ?_
  · rfl
  · rfl
  · exact (HV.out.grown HB2.out (g' := w2.heap.size) (fun b h => by omega)).src
  · rw [← HM.out]; simp; omega
  · omega
  intro sv w3 hown hgr _
  rw [List.nil_append] at hown
  have HOWN := Lib.hid hown; clear hown
  have HM3 := Lib.hid ((hgr.block _ (by omega) (by simp [Value.ownBlock])).trans HM1.out)
  have HB3 := Lib.hid (show Below w.heap.size w w3 from HB2.out.trans (grown_to_below hgr (by omega) (by simp [Value.ownBlock])))
  have hs3 : mB + 1 ≤ w3.heap.size := by have := hgr.size; omega
  clear hgr
  rcases Nat.lt_or_ge 64 m with h64 | h64
  · skip
    have t3 : decide ((64 : Int) < (m : Int)) = true := by simp; omega
    have HKE := Lib.hid (show kk key = shaL key from by unfold kk; rw [if_pos (by rw [← HM.out]; exact h64)])
    go_wp2_with fail
    refine (of_any key _ w3 HK1.out (by rw [← HM.out]; omega) (HG.out.below hsz HB3.out) (HV.out.grown HB3.out (fun b h => by omega))).mono ?_
    rintro e w4 ⟨rfl, hb4⟩
    have HB4 := Lib.hid (HB3.out.trans (hb4.mono (by omega)))
    have HM4 := Lib.hid ((hb4.block _ (by omega)).trans HM3.out)
    have hs4 : mB + 1 ≤ w4.heap.size := by have := hb4.size; omega
    clear hb4 HOWN
    go_wp2_with (first
      | ((with_reducible refine wl_storeL (ty := 25) w4.heap.size (bv (shaL key)) ?_ ?_ ?_ ?_ ?_ ?_ ?_); (· rfl); (· rfl); (· rfl); (· rw [bv_size, shaL_len]; exact info25); (· rw [bv_size, bv_size, shaL_len, zl_len]); (· exact bv_one _))
      | (with_reducible refine stp_append ?_))
    unfold Stp
    with_reducible refine wl_app (mB + 1) (.slice none 0 0) (.slice (some ⟨w4.heap.size, 0, none⟩) 32 32) [] (shaL key) ?_ ?_ (own_nil _ _) ?_ ?_ ?_ ?_
    · rfl
    · rfl
    · have := (byt_row (w := w4.alloc (.cells (bv (shaL key)) 25)) (b := w4.heap.size) (g := 0) (cap := 32) (l := shaL key) (t := 25) (f := (0, 0)) (heap_last _ _ _ rfl) (by omega) (by rw [shaL_len]; exact Nat.le_refl _)).src
      rw [shaL_len] at this; exact this
    · rw [shaL_len]; simp
    · simp; omega
    intro sv w5 hown hgr _
    rw [List.nil_append] at hown
    have HOWN := Lib.hid hown; clear hown
    have HM5 := Lib.hid ((hgr.block _ (by simp; omega) (by simp [Value.ownBlock])).trans ((heap_prev _ _ _ (by omega)).trans HM4.out))
    have HB5 := Lib.hid (show Below w.heap.size w w5 from (HB4.out.alloc HB4.out.size (.cells (bv (shaL key)) 25)).trans (grown_to_below hgr (by simp; omega) (by simp [Value.ownBlock])))
    have hs5 : mB + 1 ≤ w5.heap.size := by have := hgr.size; simp at this; omega
    clear hgr
    obtain ⟨sp, sc, hsv⟩ := HOWN.out.slice
    rw [shaL_len] at hsv
    subst hsv
    go_wp2_with fail
    refine wp_region_held (S := fun w' => Below w5.heap.size w5 w') (by kernel_rfl) ?_
    change wpAnyH _ _ _ _ _ _ _ _ (World.drew _)
    have HS0 := Lib.hid (show Below w5.heap.size w5 w5.drew from (Below.refl _ _).drew)
    generalize w5.drew = w0 at *
    refine wpAnyH_take (i := 0) (oi := ⟨some 36, .move (.tmp 8), _, _, _, none⟩) (v := .slice sp 32 sc) rfl (by kernel_rfl) (by kernel_rfl) (by kernel_rfl) (fun _ _ _ h => h) (Or.inl ⟨by rfl, fun w' hS => by go_simp⟩) HS0.out ?_
    simp only [Act.put, List.setIfInBounds_toArray, List.set_cons_zero, List.set_cons_succ]
    refine wpAnyH_take (i := 1) (oi := ⟨some 37, .move (.tmp 1), _, _, _, none⟩) (v := .slice q n d) rfl (by kernel_rfl) (by kernel_rfl) (by kernel_rfl) (fun _ _ _ h => h) (Or.inl ⟨by rfl, fun w' hS => by go_simp⟩) HS0.out ?_
    simp only [Act.put, List.setIfInBounds_toArray, List.set_cons_zero, List.set_cons_succ]
    refine wpAnyH_take (i := 3) (oi := ⟨some 39, .load 25 (.tmp 7), _, _, _, none⟩) (v := .agg (bv M)) rfl (by kernel_rfl) (by kernel_rfl) (by kernel_rfl) (fun _ _ _ h => h) (yi_row' (by rfl) 25 (.tmp 7) rfl mB (bv M) 32 5 Tryd.underlying25 HI25.out rfl (fun w' h => ⟨_, _, (h.block _ (Array.getElem?_eq_some_iff.1 HM5.out).1).trans HM5.out⟩)) HS0.out ?_
    simp only [Act.put, List.setIfInBounds_toArray, List.set_cons_zero, List.set_cons_succ]
    refine wpAnyH_ready (rs := [2]) (by kernel_rfl) (by simp) (AllReadyH.cons (o := ⟨some 38, .call ⟨.value (.func 15), #[.tmp 36, .tmp 37], _⟩, _, _, _, none⟩) rfl (fun K hK => ?_) AllReadyH.nil)
    go_simp
    refine (macOf_any (shaL key) l _ _ _ (shaL_lt key) HL1.out (by rw [shaL_len]; decide) (by rw [← HN.out]; omega) (HG.out.below hsz (HB5.out.trans (HS0.out.mono (by omega)))) ((HOWN.out.kept HS0.out).byt' (fun e => by have := (HOWN.out.lt _ e).2; have := HS0.out.size; omega)) (HU.out.grown (HB5.out.trans (HS0.out.mono (by omega))) (fun b h => by have := HS0.out.size; omega))).mono ?_
    rintro e w1 ⟨rfl, hbel⟩
    have HS1 := Lib.hid (HS0.out.trans (hbel.mono HS0.out.size))
    clear hbel
    refine hK.out _ _ HS1.out (fun _ => ?_)
    clear hK K
    rw [HKK.out (shaL key) (by rw [shaL_len]; decide) (by rw [HKE.out])]
    refine wpAnyH_take (i := 4) (oi := ⟨some 40, .binOp .neq 25 (.tmp 38) (.tmp 39) 25, _, _, _, none⟩) (v := .bool false) rfl (by kernel_rfl) (by kernel_rfl) (by kernel_rfl) (fun _ _ _ h => h) (yi_neq_same (by rfl) 25 25 (.tmp 38) (.tmp 39) rfl 5 32 (M) Tryd.underlying25 Tryd.underlying5 cells5 guard25 rfl rfl (HMM.out)) HS1.out ?_
    simp only [Act.put, List.setIfInBounds_toArray, List.set_cons_zero, List.set_cons_succ]
    refine wpAnyH_done (by kernel_rfl) ?_ _
    have HREL := Lib.hid (show KRel w mB M (blk0 (kk key)) (.slice sp 32 sc) w1 from ⟨shaL key, HOWN.out.kept HS1.out, by rw [shaL_len]; decide, by rw [HKE.out], shaL_lt key, (HS1.out.block _ (by omega)).trans HM5.out, HB5.out.trans (HS1.out.mono (by omega))⟩)
    clear HOWN HM5 HB5 HS0 HS1 HM4 HB4 HM3 HB3
    generalize Value.slice sp 32 sc = sv at *
    rcases hrr with hq | ⟨hq, hr0⟩
    all_goals
      have hnn : decide ((r : Int) < 0) = false := by simp
      go_wp2_with fail
      go_loopw [8] (fun s wr => KRel w mB M (blk0 (kk key)) s wr) (fun s _ => r - slen s)
      case atStart => exact HREL.out
      case round =>
        clear HREL
        obtain ⟨sl, hown, hl64, hblk, hlt, hmb0, hb⟩ := hrel
        have HOWN := Lib.hid hown; clear hown
        have HBK := Lib.hid hblk; clear hblk
        have HLT := Lib.hid hlt; clear hlt
        have HMB := Lib.hid hmb0; clear hmb0
        have HB := Lib.hid hb; clear hb
        have hmb := (Array.getElem?_eq_some_iff.1 HMB.out).1
        obtain ⟨sp, sc, rfl⟩ := HOWN.out.slice
        obtain ⟨L, hL⟩ : ∃ L, L = sl.length := ⟨_, rfl⟩
        rw [← hL] at hl64 HOWN ⊢
        have HL := Lib.hid hL; clear hL
        by_cases hc : L < r
        · have hci : decide ((L : Int) < (r : Int)) = true := by simp; omega
          go_wp2_with (with_reducible refine stp_append ?_)
          unfold Stp
          with_reducible refine wl_app (mB + 1) (.slice sp L sc) (.slice (some ⟨wr.heap.size, 0, none⟩) 1 1) sl [0] ?_ ?_ ?_ ?_ ?_ ?_ ?_
          · rfl
          · rfl
          · exact HOWN.out.kept ((Below.refl _ _).alloc (Nat.le_refl _) _)
          · exact src_one wr 0 5 1
          · rw [← HL.out]; simp; omega
          · simp; omega
          intro v' w' hown' hgr _
          have HOWN' := Lib.hid hown'; clear hown'
          have hob : ∀ k, (Value.slice sp L sc).ownBlock = some k → mB + 1 ≤ k := fun k e => (HOWN.out.lt k e).1
          have HMB' := Lib.hid ((hgr.block _ (by simp; omega) (fun e => by have := hob mB e.symm; omega)).trans ((heap_prev _ _ _ hmb).trans HMB.out))
          have HB' := Lib.hid (show Below w.heap.size w w' from (HB.out.alloc HB.out.size _).trans (grown_to_below hgr (by simp; omega) (fun k e => by have := hob k e; omega)))
          clear hgr
          obtain ⟨sp', sc', hsv'⟩ := HOWN'.out.slice
          have hl1 : (sl ++ [0] : List Nat).length = L + 1 := by rw [List.length_append, ← HL.out]; rfl
          rw [hl1] at hsv'
          clear hl1
          subst hsv'
          go_wp2_with fail
          go_roundw
          case rel => exact ⟨sl ++ [0], HOWN'.out, by rw [List.length_append, ← HL.out]; show L + 1 ≤ 64; omega, by rw [blk0_more (by rw [← HL.out]; omega)]; exact HBK.out, lt_snoc HLT.out, HMB'.out, HB'.out⟩
          case measure => show r - (L + 1) < r - L; omega
        · have hci : decide ((L : Int) < (r : Int)) = false := by simp; omega
          go_wp2_with fail
          refine wp_region_held (S := fun w' => Below wr.heap.size wr w') (by kernel_rfl) ?_
          change wpAnyH _ _ _ _ _ _ _ _ (World.drew _)
          have HS0 := Lib.hid (show Below wr.heap.size wr wr.drew from (Below.refl _ _).drew)
          generalize wr.drew = w0 at *
          refine wpAnyH_take (i := 0) (oi := ⟨some 54, .move (.tmp 8), _, _, _, none⟩) (v := .slice sp L sc) rfl (by kernel_rfl) (by kernel_rfl) (by kernel_rfl) (fun _ _ _ h => h) (Or.inl ⟨by rfl, fun w' hS => by go_simp⟩) HS0.out ?_
          simp only [Act.put, List.setIfInBounds_toArray, List.set_cons_zero, List.set_cons_succ]
          refine wpAnyH_take (i := 1) (oi := ⟨some 55, .move (.tmp 1), _, _, _, none⟩) (v := .slice q n d) rfl (by kernel_rfl) (by kernel_rfl) (by kernel_rfl) (fun _ _ _ h => h) (Or.inl ⟨by rfl, fun w' hS => by go_simp⟩) HS0.out ?_
          simp only [Act.put, List.setIfInBounds_toArray, List.set_cons_zero, List.set_cons_succ]
          refine wpAnyH_take (i := 3) (oi := ⟨some 57, .load 25 (.tmp 7), _, _, _, none⟩) (v := .agg (bv M)) rfl (by kernel_rfl) (by kernel_rfl) (by kernel_rfl) (fun _ _ _ h => h) (yi_row' (by rfl) 25 (.tmp 7) rfl mB (bv M) 32 5 Tryd.underlying25 HI25.out rfl (fun w' h => ⟨_, _, (h.block _ (Array.getElem?_eq_some_iff.1 HMB.out).1).trans HMB.out⟩)) HS0.out ?_
          simp only [Act.put, List.setIfInBounds_toArray, List.set_cons_zero, List.set_cons_succ]
          refine wpAnyH_ready (rs := [2]) (by kernel_rfl) (by simp) (AllReadyH.cons (o := ⟨some 56, .call ⟨.value (.func 15), #[.tmp 54, .tmp 55], _⟩, _, _, _, none⟩) rfl (fun K hK => ?_) AllReadyH.nil)
          go_simp
          refine (macOf_any sl l _ _ _ HLT.out HL1.out (by rw [← HL.out]; omega) (by rw [← HN.out]; omega) (HG.out.below hsz (HB.out.trans (HS0.out.mono (by omega)))) (by have h := (HOWN.out.kept HS0.out).byt' (g := w0.heap.size) (fun e => by have := (HOWN.out.lt _ e).2; have := HS0.out.size; omega); exact h) (HU.out.grown (HB.out.trans (HS0.out.mono (by omega))) (fun b h => by have := HS0.out.size; omega))).mono ?_
          rintro e w1 ⟨rfl, hbel⟩
          have HS1 := Lib.hid (HS0.out.trans (hbel.mono HS0.out.size))
          clear hbel
          refine hK.out _ _ HS1.out (fun _ => ?_)
          clear hK K
          rw [HKK.out sl (by rw [← HL.out]; exact hl64) HBK.out]
          refine wpAnyH_take (i := 4) (oi := ⟨some 58, .binOp .neq 25 (.tmp 56) (.tmp 57) 25, _, _, _, none⟩) (v := .bool false) rfl (by kernel_rfl) (by kernel_rfl) (by kernel_rfl) (fun _ _ _ h => h) (yi_neq_same (by rfl) 25 25 (.tmp 56) (.tmp 57) rfl 5 32 (M) Tryd.underlying25 Tryd.underlying5 cells5 guard25 rfl rfl (HMM.out)) HS1.out ?_
          simp only [Act.put, List.setIfInBounds_toArray, List.set_cons_zero, List.set_cons_succ]
          refine wpAnyH_done (by kernel_rfl) ?_ _
          have HREL := Lib.hid (show KRel w mB M (blk0 (kk key)) (.slice sp L sc) w1 from ⟨sl, by have := HOWN.out.kept HS1.out; exact this, by rw [← HL.out]; exact hl64, HBK.out, HLT.out, (HS1.out.block _ (by omega)).trans HMB.out, HB.out.trans (HS1.out.mono (by omega))⟩)
          clear HOWN HMB HB HBK HLT HS0 HS1 HL hci hc hl64 hmb
          go_wp2_with fail
          go_loopw [8] (fun s wr => KRel w mB M (blk0 (kk key)) s wr) (fun s _ => 64 - slen s)
          case atStart => exact HREL.out
          case round =>
            clear HREL
            obtain ⟨sl, hown, hl64, hblk, hlt, hmb0, hb⟩ := hrel
            have HOWN := Lib.hid hown; clear hown
            have HBK := Lib.hid hblk; clear hblk
            have HLT := Lib.hid hlt; clear hlt
            have HMB := Lib.hid hmb0; clear hmb0
            have HB := Lib.hid hb; clear hb
            have hmb := (Array.getElem?_eq_some_iff.1 HMB.out).1
            obtain ⟨sp, sc, rfl⟩ := HOWN.out.slice
            obtain ⟨L, hL⟩ : ∃ L, L = sl.length := ⟨_, rfl⟩
            rw [← hL] at hl64 HOWN ⊢
            have HL := Lib.hid hL; clear hL
            by_cases hc : L < 64
            · have hci : decide ((L : Int) < (64 : Int)) = true := by simp; omega
              go_wp2_with (with_reducible refine stp_append ?_)
              unfold Stp
              with_reducible refine wl_app (mB + 1) (.slice sp L sc) (.slice (some ⟨wr.heap.size, 0, none⟩) 1 1) sl [0] ?_ ?_ ?_ ?_ ?_ ?_ ?_
              · rfl
              · rfl
              · exact HOWN.out.kept ((Below.refl _ _).alloc (Nat.le_refl _) _)
              · exact src_one wr 0 5 1
              · rw [← HL.out]; simp; omega
              · simp; omega
              intro v' w' hown' hgr _
              have HOWN' := Lib.hid hown'; clear hown'
              have hob : ∀ k, (Value.slice sp L sc).ownBlock = some k → mB + 1 ≤ k := fun k e => (HOWN.out.lt k e).1
              have HMB' := Lib.hid ((hgr.block _ (by simp; omega) (fun e => by have := hob mB e.symm; omega)).trans ((heap_prev _ _ _ hmb).trans HMB.out))
              have HB' := Lib.hid (show Below w.heap.size w w' from (HB.out.alloc HB.out.size _).trans (grown_to_below hgr (by simp; omega) (fun k e => by have := hob k e; omega)))
              clear hgr
              obtain ⟨sp', sc', hsv'⟩ := HOWN'.out.slice
              have hl1 : (sl ++ [0] : List Nat).length = L + 1 := by rw [List.length_append, ← HL.out]; rfl
              rw [hl1] at hsv'
              clear hl1
              subst hsv'
              go_wp2_with fail
              go_roundw
              case rel => exact ⟨sl ++ [0], HOWN'.out, by rw [List.length_append, ← HL.out]; show L + 1 ≤ 64; omega, by rw [blk0_more (by rw [← HL.out]; omega)]; exact HBK.out, lt_snoc HLT.out, HMB'.out, HB'.out⟩
              case measure => show 64 - (L + 1) < 64 - L; omega
            · have hci : decide ((L : Int) < (64 : Int)) = false := by simp; omega
              obtain rfl : L = 64 := by omega
              have HSL := Lib.hid (show sl = blk key from by rw [← blk0_full HL.out.symm, HBK.out]; unfold blk; rfl)
              have HIN := Lib.hid (show xr 54 (blk key) = inn key from by unfold inn; rfl)
              have HOU := Lib.hid (show xr 92 (blk key) = out key from by unfold out; rfl)
              have HBL := Lib.hid (blk_lt HK1.out)
              have HB64 := Lib.hid (blk_len key)
              rw [HSL.out] at HOWN
              clear HBK HLT HL HSL HKK
              generalize blk key = K at *
              go_wp2_with (with_reducible refine stp_append ?_)
              unfold Stp
              with_reducible refine wl_app (mB + 1) (.slice none 0 0) (.slice sp 64 sc) [] K ?_ ?_ (own_nil _ _) ?_ ?_ ?_ ?_
              · rfl
              · rfl
              · exact HOWN.out.src
              · rw [HB64.out]; simp
              · omega
              intro v1 w1 hown1 hgr1 hat1
              rw [List.nil_append] at hown1
              have hbb1 := grown_to_below hgr1 (Nat.le_refl _) (by simp [Value.ownBlock])
              have HOWN1 := Lib.hid (HOWN.out.kept hbb1)
              have HMB1 := Lib.hid ((hbb1.block _ hmb).trans HMB.out)
              have HB1 := Lib.hid (HB.out.trans (hbb1.mono HB.out.size))
              obtain ⟨g1, c1, rfl, hg1, hbg1, hc1, hcm1, hrow1⟩ := hown1.row64 HB64.out
              have HROW1 := Lib.hid hrow1
              have hs1 := (Array.getElem?_eq_some_iff.1 HMB1.out).1
              have hg1l : g1 < w1.heap.size := by obtain ⟨cur, h1, _⟩ := hrow1; exact (Array.getElem?_eq_some_iff.1 h1).1
              clear hown1 hgr1 hat1 hbb1 hg1 hrow1 HOWN HMB HB
              go_wp2_with (with_reducible refine stp_append ?_)
              unfold Stp
              with_reducible refine wl_app (mB + 1) (.slice none 0 0) (.slice sp 64 sc) [] K ?_ ?_ (own_nil _ _) ?_ ?_ ?_ ?_
              · rfl
              · rfl
              · exact HOWN1.out.src
              · rw [HB64.out]; simp
              · omega
              intro v2 w2 hown2 hgr2 hat2
              rw [List.nil_append] at hown2
              have hbb2 := grown_to_below hgr2 (Nat.le_refl _) (by simp [Value.ownBlock])
              have HMB2 := Lib.hid ((hbb2.block _ hs1).trans HMB1.out)
              have HB2 := Lib.hid (HB1.out.trans (hbb2.mono HB1.out.size))
              obtain ⟨g2, c2, rfl, hg2, hbg2, hc2, hcm2, hrow2⟩ := hown2.row64 HB64.out
              have hg2s : g2 = w1.heap.size := by rcases hat2 with h | h <;> simp [Value.ownBlock] at h <;> exact h
              have HROW1' := Lib.hid (HROW1.out.kept hbb2)
              have HROW2 := Lib.hid hrow2
              have hg12 : ¬ g1 = g2 := by omega
              have hg21 : ¬ g2 = g1 := by omega
              unfold maxLen at hcm1 hcm2
              clear hg2s hg1l hown2 hgr2 hat2 hbb2 hg2 hrow2 HMB1 HB1 HROW1 HOWN1
              go_wp2_with fail
              go_loopw [13] (fun i wr => ∃ k : Nat, k ≤ 64 ∧ i = .int .i64 k ∧ Row64 wr g1 c1 (xrTo 54 K k) ∧ Row64 wr g2 c2 (xrTo 92 K k) ∧ wr.heap[mB]? = some (.cells (bv M) 25 (0, 0)) ∧ Below w.heap.size w wr) (fun i _ => 64 - (intOf i).toNat)
              case atStart => exact ⟨0, Nat.zero_le _, rfl, by rw [xrTo_zero]; exact HROW1'.out, by rw [xrTo_zero]; exact HROW2.out, HMB2.out, HB2.out⟩
              case round =>
                clear HROW1' HROW2 HMB2 HB2
                obtain ⟨k, hk, rfl, hr1, hr2, hm0, hb⟩ := hrel
                have HR1 := Lib.hid hr1; clear hr1
                have HR2 := Lib.hid hr2; clear hr2
                have HMB := Lib.hid hm0; clear hm0
                have HB := Lib.hid hb; clear hb
                by_cases hk64 : k < 64
                · have x1 : wr.cell? ⟨g1, k, none⟩ = some (.int .u8 (at0 K k : Nat)) := by rw [HR1.out.cell (by rw [xrTo_len, HB64.out]) hk64, xrTo_at _ _ _ (by rw [HB64.out]; exact hk64)]
                  have x2 : wr.cell? ⟨g2, k, none⟩ = some (.int .u8 (at0 K k : Nat)) := by rw [HR2.out.cell (by rw [xrTo_len, HB64.out]) hk64, xrTo_at _ _ _ (by rw [HB64.out]; exact hk64)]
                  have f1 : wr.frozen? ⟨g1, k, none⟩ = false := HR1.out.frozen k
                  have f2 : wr.frozen? ⟨g2, k, none⟩ = false := HR2.out.frozen k
                  have l0 : at0 K k < 256 := HBL.out.getD (by decide) _
                  have HX1 := Lib.hid (show bits .xor .u8 (at0 K k : Nat) 54 = ((at0 K k ^^^ 54 : Nat) : Int) from u8xor (b := 54) l0 (by decide))
                  have HX2 := Lib.hid (show bits .xor .u8 (at0 K k : Nat) 92 = ((at0 K k ^^^ 92 : Nat) : Int) from u8xor (b := 92) l0 (by decide))
                  have HY1 := Lib.hid (xrTo_succ 54 K k (by rw [HB64.out]; exact hk64))
                  have HY2 := Lib.hid (xrTo_succ 92 K k (by rw [HB64.out]; exact hk64))
                  generalize at0 K k = y at *
                  go_wp2_with fail
                  go_roundw
                  case rel =>
                    go_light
                    rw [HX1.out, HX2.out]
                    refine ⟨k + 1, by omega, by go_num, ?_, ?_, ?_, ?_⟩
                    · rw [← HY1.out]; exact (HR1.out.set k _).other hg12 _
                    · rw [← HY2.out]; exact (HR2.out.other hg21 _).set k _
                    · exact (heap_setCell_other _ _ _ _ (by show mB ≠ g2; omega)).trans ((heap_setCell_other _ _ _ _ (by show mB ≠ g1; omega)).trans HMB.out)
                    · exact (HB.out.setCell (by show w.heap.size ≤ g1; omega) _).setCell (by show w.heap.size ≤ g2; omega) _
                  case measure => simp [intOf]; omega
                · obtain rfl : k = 64 := by omega
                  rw [xrTo_all 54 HB64.out, HIN.out] at HR1
                  rw [xrTo_all 92 HB64.out, HOU.out] at HR2
                  have hmb := (Array.getElem?_eq_some_iff.1 HMB.out).1
                  go_wp2_with (with_reducible refine stp_append ?_)
                  unfold Stp
                  with_reducible refine wl_app (mB + 1) (.slice (some ⟨g1, 0, none⟩) 64 c1) (.slice q n d) (inn key) l ?_ ?_ ?_ ?_ ?_ ?_ ?_
                  · rfl
                  · rfl
                  · exact HR1.out.own (inn_len key) hbg1 hc1 (by unfold maxLen; exact hcm1)
                  · exact (HU.out.grown HB.out (g' := wr.heap.size) (fun b h => by have := HB.out.size; omega)).src
                  · rw [inn_len, ← HN.out]; omega
                  · omega
                  intro v3 w3 hown3 hgr3 hat3
                  have HOWN3 := Lib.hid hown3
                  have HR23 := Lib.hid (HR2.out.grown hgr3 (by simp [Value.ownBlock]; omega))
                  have HMB3 := Lib.hid ((hgr3.block _ hmb (by simp [Value.ownBlock]; omega)).trans HMB.out)
                  have HB3 := Lib.hid (HB.out.trans (grown_to_below hgr3 HB.out.size (by simp [Value.ownBlock]; omega)))
                  have hl3 : ∀ k, v3.ownBlock = some k → k < w3.heap.size := fun k e => (hown3.lt k e).2
                  clear hown3 hgr3 hat3 HMB HB HR1 HR2
                  go_wp2_with fail
                  refine (of_any (inn key ++ l) v3 w3 (fun x hx => by rw [List.mem_append] at hx; exact hx.elim (inn_lt HK1.out x) (HL1.out x)) (by rw [List.length_append, inn_len, ← HN.out]; omega) (HG.out.below hsz HB3.out) (HOWN3.out.byt' (fun e => by have := hl3 _ e; omega))).mono ?_
                  rintro e w4 ⟨rfl, hb4⟩
                  have HB4 := Lib.hid (HB3.out.trans (hb4.mono HB3.out.size))
                  have HMB4 := Lib.hid ((hb4.block _ (Array.getElem?_eq_some_iff.1 HMB3.out).1).trans HMB3.out)
                  have HR24 := Lib.hid (HR23.out.kept hb4)
                  clear hb4 HOWN3 hl3 HR23 HMB3 HB3
                  have HDL := Lib.hid (shaL_len (inn key ++ l))
                  have HME2 := Lib.hid (show shaL (out key ++ shaL (inn key ++ l)) = M from by rw [← HME.out]; unfold macL; rfl)
                  have HDT := Lib.hid (shaL_lt (inn key ++ l))
                  generalize shaL (inn key ++ l) = D at *
                  go_wp2_with (first
                    | ((with_reducible refine wl_storeL (ty := 25) w4.heap.size (bv D) ?_ ?_ ?_ ?_ ?_ ?_ ?_); (· rfl); (· rfl); (· rfl); (· rw [bv_size, HDL.out]; exact info25); (· rw [bv_size, bv_size, HDL.out, zl_len]); (· exact bv_one _)))
                  have HS0 := Lib.hid (show ((w4.alloc (.cells (bv D) 25)).drew).heap[mB]? = some (.cells (bv M) 25 (0, 0)) ∧ Below w.heap.size w ((w4.alloc (.cells (bv D) 25)).drew) from ⟨(heap_prev _ _ _ (Array.getElem?_eq_some_iff.1 HMB4.out).1).trans HMB4.out, (HB4.out.alloc HB4.out.size _).drew⟩)
                  have HR25 := Lib.hid (show Row64 ((w4.alloc (.cells (bv D) 25)).drew) g2 c2 (out key) from HR24.out.kept ((Below.refl _ _).alloc (Nat.le_refl _) _).drew)
                  have HDB := Lib.hid (show ((w4.alloc (.cells (bv D) 25)).drew).heap[w4.heap.size]? = some (.cells (bv D) 25 (0, 0)) from heap_last _ _ _ rfl)
                  refine wp_region_held (S := fun w' => w'.heap[mB]? = some (.cells (bv M) 25 (0, 0)) ∧ Below w.heap.size w w') (by kernel_rfl) ?_
                  change wpAnyH _ _ _ _ _ _ _ _ (World.drew _)
                  generalize (w4.alloc (.cells (bv D) 25)).drew = w0 at *
                  generalize w4.heap.size = dB at *
                  refine wpAnyH_take (i := 0) (oi := ⟨some 93, .move (.tmp 12), _, _, _, none⟩) (v := .slice (some ⟨g2, 0, none⟩) 64 c2) rfl (by kernel_rfl) (by kernel_rfl) (by kernel_rfl) (fun _ _ _ h => h) (Or.inl ⟨by rfl, fun w' hS => by go_simp⟩) HS0.out ?_
                  simp only [Act.put, List.setIfInBounds_toArray, List.set_cons_zero, List.set_cons_succ]
                  refine wpAnyH_take (i := 1) (oi := ⟨some 94, .slice 25 (.tmp 14) none none none, _, _, _, none⟩) (v := .slice (some ⟨dB, 0, none⟩) 32 32) rfl (by kernel_rfl) (by kernel_rfl) (by kernel_rfl) (fun _ _ _ h => h) (Or.inl ⟨by rfl, fun w' hS => by go_simp⟩) HS0.out ?_
                  simp only [Act.put, List.setIfInBounds_toArray, List.set_cons_zero, List.set_cons_succ]
                  refine wpAnyH_take (i := 4) (oi := ⟨some 97, .load 25 (.tmp 7), _, _, _, none⟩) (v := .agg (bv M)) rfl (by kernel_rfl) (by kernel_rfl) (by kernel_rfl) (fun _ _ _ h => h) (yi_row' (by rfl) 25 (.tmp 7) rfl mB (bv M) 32 5 Tryd.underlying25 HI25.out rfl (fun w' h => ⟨_, _, h.1⟩)) HS0.out ?_
                  simp only [Act.put, List.setIfInBounds_toArray, List.set_cons_zero, List.set_cons_succ]
                  refine wpAnyH_ready (rs := [2]) (by kernel_rfl) (by simp) (AllReadyH.cons (o := ⟨some 95, .call ⟨.builtin .append, #[.tmp 93, .tmp 94], #[22, 22]⟩, _, _, _, none⟩) rfl (fun K hK => ?_) AllReadyH.nil)
                  with_reducible refine step_app ?_ (.tmp 93) (.tmp 94) ?_ (mB + 1) (.slice (some ⟨g2, 0, none⟩) 64 c2) (.slice (some ⟨dB, 0, none⟩) 32 32) (out key) D ?_ ?_ ?_ ?_ ?_ ?_ ?_
                  · rfl
                  · rfl
                  · rfl
                  · rfl
                  · exact HR25.out.own (out_len key) hbg2 hc2 (by unfold maxLen; exact hcm2)
                  · have := (byt_row (w := w0) (g := w0.heap.size) (cap := 32) HDB.out (Nat.ne_of_lt (Array.getElem?_eq_some_iff.1 HDB.out).1) (by rw [HDL.out]; exact Nat.le_refl _)).src
                    rw [HDL.out] at this; exact this
                  · rw [out_len, HDL.out]; decide
                  · have := (Array.getElem?_eq_some_iff.1 HS0.out.1).1; omega
                  intro v5 w5 hown5 hgr5 hat5
                  have HS1 := Lib.hid (show w5.heap[mB]? = some (.cells (bv M) 25 (0, 0)) ∧ Below w.heap.size w w5 from ⟨(hgr5.block _ (Array.getElem?_eq_some_iff.1 HS0.out.1).1 (by simp [Value.ownBlock]; omega)).trans HS0.out.1, HS0.out.2.trans (grown_to_below hgr5 HS0.out.2.size (by simp [Value.ownBlock]; omega))⟩)
                  have HOWN5 := Lib.hid hown5
                  have hl5 : ∀ k, v5.ownBlock = some k → k < w5.heap.size := fun k e => (hown5.lt k e).2
                  clear hown5 hgr5 hat5
                  refine hK.out _ _ HS1.out (fun _ => ?_)
                  clear hK K
                  simp only [Act.put, List.setIfInBounds_toArray, List.set_cons_zero, List.set_cons_succ]
                  refine wpAnyH_ready (rs := [3]) (by kernel_rfl) (by simp) (AllReadyH.cons (o := ⟨some 96, .call ⟨.value (.func 10), #[.tmp 95], _⟩, _, _, _, none⟩) rfl (fun K hK => ?_) AllReadyH.nil)
                  go_simp
                  refine (of_any (out key ++ D) v5 w5 (fun x hx => by rw [List.mem_append] at hx; exact hx.elim (out_lt HK1.out x) (HDT.out x)) (by rw [List.length_append, out_len, HDL.out]; decide) (HG.out.below hsz HS1.out.2) (HOWN5.out.byt' (fun e => by have := hl5 _ e; omega))).mono ?_
                  rintro e w2 ⟨rfl, hbel⟩
                  have HS2 := Lib.hid (show _ ∧ _ from ⟨(hbel.block _ (Array.getElem?_eq_some_iff.1 HS1.out.1).1).trans HS1.out.1, HS1.out.2.trans (hbel.mono HS1.out.2.size)⟩)
                  clear hbel
                  refine hK.out _ _ HS2.out (fun _ => ?_)
                  clear hK K
                  rw [HME2.out]
                  refine wpAnyH_take (i := 5) (oi := ⟨some 98, .binOp .eql 25 (.tmp 96) (.tmp 97) 25, _, _, _, none⟩) (v := .bool true) rfl (by kernel_rfl) (by kernel_rfl) (by kernel_rfl) (fun _ _ _ h => h) (yi_eql_same (by rfl) 25 25 (.tmp 96) (.tmp 97) rfl 5 32 (M) Tryd.underlying25 Tryd.underlying5 cells5 guard25 rfl rfl (HMM.out)) HS2.out ?_
                  simp only [Act.put, List.setIfInBounds_toArray, List.set_cons_zero, List.set_cons_succ]
                  refine wpAnyH_take (i := 6) (oi := ⟨some 99, .move (.tmp 98), _, _, _, none⟩) (v := .bool true) rfl (by kernel_rfl) (by kernel_rfl) (by kernel_rfl) (fun _ _ _ h => h) (Or.inl ⟨by rfl, fun w' hS => by go_simp⟩) HS2.out ?_
                  simp only [Act.put, List.setIfInBounds_toArray, List.set_cons_zero, List.set_cons_succ]
                  refine wpAnyH_ready (rs := [7]) (by kernel_rfl) (by simp) (AllReadyH.cons (o := ⟨some 100, .call ⟨.value (.func 14), #[], _⟩, _, _, _, some (6, true)⟩) rfl (fun K hK => ?_) AllReadyH.nil)
                  go_simp
                  refine (wakes2_any _ (HG.out.below hsz HS2.out.2)).mono ?_
                  rintro e w3 ⟨rfl, hbel⟩
                  have HS3 := Lib.hid (show _ ∧ _ from ⟨(hbel.block _ (Array.getElem?_eq_some_iff.1 HS2.out.1).1).trans HS2.out.1, HS2.out.2.trans (hbel.mono HS2.out.2.size)⟩)
                  clear hbel
                  refine hK.out _ _ HS3.out (fun _ => ?_)
                  clear hK K
                  refine wpAnyH_take (i := 8) (oi := ⟨some 101, .pick (.tmp 99) (.tmp 100) (.const (.bool false)), _, _, _, none⟩) (v := .bool true) rfl (by kernel_rfl) (by kernel_rfl) (by kernel_rfl) (fun _ _ _ h => h) (Or.inl ⟨by rfl, fun w' hS => by go_simp⟩) HS3.out ?_
                  simp only [Act.put, List.setIfInBounds_toArray, List.set_cons_zero, List.set_cons_succ]
                  refine wpAnyH_take (i := 9) (oi := ⟨some 6, .assign (.tmp 101), _, _, _, none⟩) (v := .bool true) rfl (by kernel_rfl) (by kernel_rfl) (by kernel_rfl) (fun _ _ _ h => h) (Or.inl ⟨by rfl, fun w' hS => by go_simp⟩) HS3.out ?_
                  simp only [Act.put, List.setIfInBounds_toArray, List.set_cons_zero, List.set_cons_succ]
                  refine wpAnyH_done (by kernel_rfl) ?_ _
                  go_wp2_with fail
                  go_ret
                  exact ⟨rfl, HS3.out.2⟩
  · skip
    have t3 : decide ((64 : Int) < (m : Int)) = false := by simp; omega
    have HKE := Lib.hid (show kk key = key from by unfold kk; rw [if_neg (by rw [← HM.out]; omega)])
    have HREL := Lib.hid (show KRel w mB M (blk0 (kk key)) sv w3 from ⟨key, HOWN.out, by rw [← HM.out]; exact h64, by rw [HKE.out], HK1.out, HM3.out, HB3.out⟩)
    clear HOWN HM3 HB3
    rcases hrr with hq | ⟨hq, hr0⟩
    all_goals
      have hnn : decide ((r : Int) < 0) = false := by simp
      go_wp2_with fail
      go_loopw [8] (fun s wr => KRel w mB M (blk0 (kk key)) s wr) (fun s _ => r - slen s)
      case atStart => exact HREL.out
      case round =>
        clear HREL
        obtain ⟨sl, hown, hl64, hblk, hlt, hmb0, hb⟩ := hrel
        have HOWN := Lib.hid hown; clear hown
        have HBK := Lib.hid hblk; clear hblk
        have HLT := Lib.hid hlt; clear hlt
        have HMB := Lib.hid hmb0; clear hmb0
        have HB := Lib.hid hb; clear hb
        have hmb := (Array.getElem?_eq_some_iff.1 HMB.out).1
        obtain ⟨sp, sc, rfl⟩ := HOWN.out.slice
        obtain ⟨L, hL⟩ : ∃ L, L = sl.length := ⟨_, rfl⟩
        rw [← hL] at hl64 HOWN ⊢
        have HL := Lib.hid hL; clear hL
        by_cases hc : L < r
        · have hci : decide ((L : Int) < (r : Int)) = true := by simp; omega
          go_wp2_with (with_reducible refine stp_append ?_)
          unfold Stp
          with_reducible refine wl_app (mB + 1) (.slice sp L sc) (.slice (some ⟨wr.heap.size, 0, none⟩) 1 1) sl [0] ?_ ?_ ?_ ?_ ?_ ?_ ?_
          · rfl
          · rfl
          · exact HOWN.out.kept ((Below.refl _ _).alloc (Nat.le_refl _) _)
          · exact src_one wr 0 5 1
          · rw [← HL.out]; simp; omega
          · simp; omega
          intro v' w' hown' hgr _
          have HOWN' := Lib.hid hown'; clear hown'
          have hob : ∀ k, (Value.slice sp L sc).ownBlock = some k → mB + 1 ≤ k := fun k e => (HOWN.out.lt k e).1
          have HMB' := Lib.hid ((hgr.block _ (by simp; omega) (fun e => by have := hob mB e.symm; omega)).trans ((heap_prev _ _ _ hmb).trans HMB.out))
          have HB' := Lib.hid (show Below w.heap.size w w' from (HB.out.alloc HB.out.size _).trans (grown_to_below hgr (by simp; omega) (fun k e => by have := hob k e; omega)))
          clear hgr
          obtain ⟨sp', sc', hsv'⟩ := HOWN'.out.slice
          have hl1 : (sl ++ [0] : List Nat).length = L + 1 := by rw [List.length_append, ← HL.out]; rfl
          rw [hl1] at hsv'
          clear hl1
          subst hsv'
          go_wp2_with fail
          go_roundw
          case rel => exact ⟨sl ++ [0], HOWN'.out, by rw [List.length_append, ← HL.out]; show L + 1 ≤ 64; omega, by rw [blk0_more (by rw [← HL.out]; omega)]; exact HBK.out, lt_snoc HLT.out, HMB'.out, HB'.out⟩
          case measure => show r - (L + 1) < r - L; omega
        · have hci : decide ((L : Int) < (r : Int)) = false := by simp; omega
          go_wp2_with fail
          refine wp_region_held (S := fun w' => Below wr.heap.size wr w') (by kernel_rfl) ?_
          change wpAnyH _ _ _ _ _ _ _ _ (World.drew _)
          have HS0 := Lib.hid (show Below wr.heap.size wr wr.drew from (Below.refl _ _).drew)
          generalize wr.drew = w0 at *
          refine wpAnyH_take (i := 0) (oi := ⟨some 54, .move (.tmp 8), _, _, _, none⟩) (v := .slice sp L sc) rfl (by kernel_rfl) (by kernel_rfl) (by kernel_rfl) (fun _ _ _ h => h) (Or.inl ⟨by rfl, fun w' hS => by go_simp⟩) HS0.out ?_
          simp only [Act.put, List.setIfInBounds_toArray, List.set_cons_zero, List.set_cons_succ]
          refine wpAnyH_take (i := 1) (oi := ⟨some 55, .move (.tmp 1), _, _, _, none⟩) (v := .slice q n d) rfl (by kernel_rfl) (by kernel_rfl) (by kernel_rfl) (fun _ _ _ h => h) (Or.inl ⟨by rfl, fun w' hS => by go_simp⟩) HS0.out ?_
          simp only [Act.put, List.setIfInBounds_toArray, List.set_cons_zero, List.set_cons_succ]
          refine wpAnyH_take (i := 3) (oi := ⟨some 57, .load 25 (.tmp 7), _, _, _, none⟩) (v := .agg (bv M)) rfl (by kernel_rfl) (by kernel_rfl) (by kernel_rfl) (fun _ _ _ h => h) (yi_row' (by rfl) 25 (.tmp 7) rfl mB (bv M) 32 5 Tryd.underlying25 HI25.out rfl (fun w' h => ⟨_, _, (h.block _ (Array.getElem?_eq_some_iff.1 HMB.out).1).trans HMB.out⟩)) HS0.out ?_
          simp only [Act.put, List.setIfInBounds_toArray, List.set_cons_zero, List.set_cons_succ]
          refine wpAnyH_ready (rs := [2]) (by kernel_rfl) (by simp) (AllReadyH.cons (o := ⟨some 56, .call ⟨.value (.func 15), #[.tmp 54, .tmp 55], _⟩, _, _, _, none⟩) rfl (fun K hK => ?_) AllReadyH.nil)
          go_simp
          refine (macOf_any sl l _ _ _ HLT.out HL1.out (by rw [← HL.out]; omega) (by rw [← HN.out]; omega) (HG.out.below hsz (HB.out.trans (HS0.out.mono (by omega)))) (by have h := (HOWN.out.kept HS0.out).byt' (g := w0.heap.size) (fun e => by have := (HOWN.out.lt _ e).2; have := HS0.out.size; omega); exact h) (HU.out.grown (HB.out.trans (HS0.out.mono (by omega))) (fun b h => by have := HS0.out.size; omega))).mono ?_
          rintro e w1 ⟨rfl, hbel⟩
          have HS1 := Lib.hid (HS0.out.trans (hbel.mono HS0.out.size))
          clear hbel
          refine hK.out _ _ HS1.out (fun _ => ?_)
          clear hK K
          rw [HKK.out sl (by rw [← HL.out]; exact hl64) HBK.out]
          refine wpAnyH_take (i := 4) (oi := ⟨some 58, .binOp .neq 25 (.tmp 56) (.tmp 57) 25, _, _, _, none⟩) (v := .bool false) rfl (by kernel_rfl) (by kernel_rfl) (by kernel_rfl) (fun _ _ _ h => h) (yi_neq_same (by rfl) 25 25 (.tmp 56) (.tmp 57) rfl 5 32 (M) Tryd.underlying25 Tryd.underlying5 cells5 guard25 rfl rfl (HMM.out)) HS1.out ?_
          simp only [Act.put, List.setIfInBounds_toArray, List.set_cons_zero, List.set_cons_succ]
          refine wpAnyH_done (by kernel_rfl) ?_ _
          have HREL := Lib.hid (show KRel w mB M (blk0 (kk key)) (.slice sp L sc) w1 from ⟨sl, by have := HOWN.out.kept HS1.out; exact this, by rw [← HL.out]; exact hl64, HBK.out, HLT.out, (HS1.out.block _ (by omega)).trans HMB.out, HB.out.trans (HS1.out.mono (by omega))⟩)
          clear HOWN HMB HB HBK HLT HS0 HS1 HL hci hc hl64 hmb
          go_wp2_with fail
          go_loopw [8] (fun s wr => KRel w mB M (blk0 (kk key)) s wr) (fun s _ => 64 - slen s)
          case atStart => exact HREL.out
          case round =>
            clear HREL
            obtain ⟨sl, hown, hl64, hblk, hlt, hmb0, hb⟩ := hrel
            have HOWN := Lib.hid hown; clear hown
            have HBK := Lib.hid hblk; clear hblk
            have HLT := Lib.hid hlt; clear hlt
            have HMB := Lib.hid hmb0; clear hmb0
            have HB := Lib.hid hb; clear hb
            have hmb := (Array.getElem?_eq_some_iff.1 HMB.out).1
            obtain ⟨sp, sc, rfl⟩ := HOWN.out.slice
            obtain ⟨L, hL⟩ : ∃ L, L = sl.length := ⟨_, rfl⟩
            rw [← hL] at hl64 HOWN ⊢
            have HL := Lib.hid hL; clear hL
            by_cases hc : L < 64
            · have hci : decide ((L : Int) < (64 : Int)) = true := by simp; omega
              go_wp2_with (with_reducible refine stp_append ?_)
              unfold Stp
              with_reducible refine wl_app (mB + 1) (.slice sp L sc) (.slice (some ⟨wr.heap.size, 0, none⟩) 1 1) sl [0] ?_ ?_ ?_ ?_ ?_ ?_ ?_
              · rfl
              · rfl
              · exact HOWN.out.kept ((Below.refl _ _).alloc (Nat.le_refl _) _)
              · exact src_one wr 0 5 1
              · rw [← HL.out]; simp; omega
              · simp; omega
              intro v' w' hown' hgr _
              have HOWN' := Lib.hid hown'; clear hown'
              have hob : ∀ k, (Value.slice sp L sc).ownBlock = some k → mB + 1 ≤ k := fun k e => (HOWN.out.lt k e).1
              have HMB' := Lib.hid ((hgr.block _ (by simp; omega) (fun e => by have := hob mB e.symm; omega)).trans ((heap_prev _ _ _ hmb).trans HMB.out))
              have HB' := Lib.hid (show Below w.heap.size w w' from (HB.out.alloc HB.out.size _).trans (grown_to_below hgr (by simp; omega) (fun k e => by have := hob k e; omega)))
              clear hgr
              obtain ⟨sp', sc', hsv'⟩ := HOWN'.out.slice
              have hl1 : (sl ++ [0] : List Nat).length = L + 1 := by rw [List.length_append, ← HL.out]; rfl
              rw [hl1] at hsv'
              clear hl1
              subst hsv'
              go_wp2_with fail
              go_roundw
              case rel => exact ⟨sl ++ [0], HOWN'.out, by rw [List.length_append, ← HL.out]; show L + 1 ≤ 64; omega, by rw [blk0_more (by rw [← HL.out]; omega)]; exact HBK.out, lt_snoc HLT.out, HMB'.out, HB'.out⟩
              case measure => show 64 - (L + 1) < 64 - L; omega
            · have hci : decide ((L : Int) < (64 : Int)) = false := by simp; omega
              obtain rfl : L = 64 := by omega
              have HSL := Lib.hid (show sl = blk key from by rw [← blk0_full HL.out.symm, HBK.out]; unfold blk; rfl)
              have HIN := Lib.hid (show xr 54 (blk key) = inn key from by unfold inn; rfl)
              have HOU := Lib.hid (show xr 92 (blk key) = out key from by unfold out; rfl)
              have HBL := Lib.hid (blk_lt HK1.out)
              have HB64 := Lib.hid (blk_len key)
              rw [HSL.out] at HOWN
              clear HBK HLT HL HSL HKK
              generalize blk key = K at *
              go_wp2_with (with_reducible refine stp_append ?_)
              unfold Stp
              with_reducible refine wl_app (mB + 1) (.slice none 0 0) (.slice sp 64 sc) [] K ?_ ?_ (own_nil _ _) ?_ ?_ ?_ ?_
              · rfl
              · rfl
              · exact HOWN.out.src
              · rw [HB64.out]; simp
              · omega
              intro v1 w1 hown1 hgr1 hat1
              rw [List.nil_append] at hown1
              have hbb1 := grown_to_below hgr1 (Nat.le_refl _) (by simp [Value.ownBlock])
              have HOWN1 := Lib.hid (HOWN.out.kept hbb1)
              have HMB1 := Lib.hid ((hbb1.block _ hmb).trans HMB.out)
              have HB1 := Lib.hid (HB.out.trans (hbb1.mono HB.out.size))
              obtain ⟨g1, c1, rfl, hg1, hbg1, hc1, hcm1, hrow1⟩ := hown1.row64 HB64.out
              have HROW1 := Lib.hid hrow1
              have hs1 := (Array.getElem?_eq_some_iff.1 HMB1.out).1
              have hg1l : g1 < w1.heap.size := by obtain ⟨cur, h1, _⟩ := hrow1; exact (Array.getElem?_eq_some_iff.1 h1).1
              clear hown1 hgr1 hat1 hbb1 hg1 hrow1 HOWN HMB HB
              go_wp2_with (with_reducible refine stp_append ?_)
              unfold Stp
              with_reducible refine wl_app (mB + 1) (.slice none 0 0) (.slice sp 64 sc) [] K ?_ ?_ (own_nil _ _) ?_ ?_ ?_ ?_
              · rfl
              · rfl
              · exact HOWN1.out.src
              · rw [HB64.out]; simp
              · omega
              intro v2 w2 hown2 hgr2 hat2
              rw [List.nil_append] at hown2
              have hbb2 := grown_to_below hgr2 (Nat.le_refl _) (by simp [Value.ownBlock])
              have HMB2 := Lib.hid ((hbb2.block _ hs1).trans HMB1.out)
              have HB2 := Lib.hid (HB1.out.trans (hbb2.mono HB1.out.size))
              obtain ⟨g2, c2, rfl, hg2, hbg2, hc2, hcm2, hrow2⟩ := hown2.row64 HB64.out
              have hg2s : g2 = w1.heap.size := by rcases hat2 with h | h <;> simp [Value.ownBlock] at h <;> exact h
              have HROW1' := Lib.hid (HROW1.out.kept hbb2)
              have HROW2 := Lib.hid hrow2
              have hg12 : ¬ g1 = g2 := by omega
              have hg21 : ¬ g2 = g1 := by omega
              unfold maxLen at hcm1 hcm2
              clear hg2s hg1l hown2 hgr2 hat2 hbb2 hg2 hrow2 HMB1 HB1 HROW1 HOWN1
              go_wp2_with fail
              go_loopw [13] (fun i wr => ∃ k : Nat, k ≤ 64 ∧ i = .int .i64 k ∧ Row64 wr g1 c1 (xrTo 54 K k) ∧ Row64 wr g2 c2 (xrTo 92 K k) ∧ wr.heap[mB]? = some (.cells (bv M) 25 (0, 0)) ∧ Below w.heap.size w wr) (fun i _ => 64 - (intOf i).toNat)
              case atStart => exact ⟨0, Nat.zero_le _, rfl, by rw [xrTo_zero]; exact HROW1'.out, by rw [xrTo_zero]; exact HROW2.out, HMB2.out, HB2.out⟩
              case round =>
                clear HROW1' HROW2 HMB2 HB2
                obtain ⟨k, hk, rfl, hr1, hr2, hm0, hb⟩ := hrel
                have HR1 := Lib.hid hr1; clear hr1
                have HR2 := Lib.hid hr2; clear hr2
                have HMB := Lib.hid hm0; clear hm0
                have HB := Lib.hid hb; clear hb
                by_cases hk64 : k < 64
                · have x1 : wr.cell? ⟨g1, k, none⟩ = some (.int .u8 (at0 K k : Nat)) := by rw [HR1.out.cell (by rw [xrTo_len, HB64.out]) hk64, xrTo_at _ _ _ (by rw [HB64.out]; exact hk64)]
                  have x2 : wr.cell? ⟨g2, k, none⟩ = some (.int .u8 (at0 K k : Nat)) := by rw [HR2.out.cell (by rw [xrTo_len, HB64.out]) hk64, xrTo_at _ _ _ (by rw [HB64.out]; exact hk64)]
                  have f1 : wr.frozen? ⟨g1, k, none⟩ = false := HR1.out.frozen k
                  have f2 : wr.frozen? ⟨g2, k, none⟩ = false := HR2.out.frozen k
                  have l0 : at0 K k < 256 := HBL.out.getD (by decide) _
                  have HX1 := Lib.hid (show bits .xor .u8 (at0 K k : Nat) 54 = ((at0 K k ^^^ 54 : Nat) : Int) from u8xor (b := 54) l0 (by decide))
                  have HX2 := Lib.hid (show bits .xor .u8 (at0 K k : Nat) 92 = ((at0 K k ^^^ 92 : Nat) : Int) from u8xor (b := 92) l0 (by decide))
                  have HY1 := Lib.hid (xrTo_succ 54 K k (by rw [HB64.out]; exact hk64))
                  have HY2 := Lib.hid (xrTo_succ 92 K k (by rw [HB64.out]; exact hk64))
                  generalize at0 K k = y at *
                  go_wp2_with fail
                  go_roundw
                  case rel =>
                    go_light
                    rw [HX1.out, HX2.out]
                    refine ⟨k + 1, by omega, by go_num, ?_, ?_, ?_, ?_⟩
                    · rw [← HY1.out]; exact (HR1.out.set k _).other hg12 _
                    · rw [← HY2.out]; exact (HR2.out.other hg21 _).set k _
                    · exact (heap_setCell_other _ _ _ _ (by show mB ≠ g2; omega)).trans ((heap_setCell_other _ _ _ _ (by show mB ≠ g1; omega)).trans HMB.out)
                    · exact (HB.out.setCell (by show w.heap.size ≤ g1; omega) _).setCell (by show w.heap.size ≤ g2; omega) _
                  case measure => simp [intOf]; omega
                · obtain rfl : k = 64 := by omega
                  rw [xrTo_all 54 HB64.out, HIN.out] at HR1
                  rw [xrTo_all 92 HB64.out, HOU.out] at HR2
                  have hmb := (Array.getElem?_eq_some_iff.1 HMB.out).1
                  go_wp2_with (with_reducible refine stp_append ?_)
                  unfold Stp
                  with_reducible refine wl_app (mB + 1) (.slice (some ⟨g1, 0, none⟩) 64 c1) (.slice q n d) (inn key) l ?_ ?_ ?_ ?_ ?_ ?_ ?_
                  · rfl
                  · rfl
                  · exact HR1.out.own (inn_len key) hbg1 hc1 (by unfold maxLen; exact hcm1)
                  · exact (HU.out.grown HB.out (g' := wr.heap.size) (fun b h => by have := HB.out.size; omega)).src
                  · rw [inn_len, ← HN.out]; omega
                  · omega
                  intro v3 w3 hown3 hgr3 hat3
                  have HOWN3 := Lib.hid hown3
                  have HR23 := Lib.hid (HR2.out.grown hgr3 (by simp [Value.ownBlock]; omega))
                  have HMB3 := Lib.hid ((hgr3.block _ hmb (by simp [Value.ownBlock]; omega)).trans HMB.out)
                  have HB3 := Lib.hid (HB.out.trans (grown_to_below hgr3 HB.out.size (by simp [Value.ownBlock]; omega)))
                  have hl3 : ∀ k, v3.ownBlock = some k → k < w3.heap.size := fun k e => (hown3.lt k e).2
                  clear hown3 hgr3 hat3 HMB HB HR1 HR2
                  go_wp2_with fail
                  refine (of_any (inn key ++ l) v3 w3 (fun x hx => by rw [List.mem_append] at hx; exact hx.elim (inn_lt HK1.out x) (HL1.out x)) (by rw [List.length_append, inn_len, ← HN.out]; omega) (HG.out.below hsz HB3.out) (HOWN3.out.byt' (fun e => by have := hl3 _ e; omega))).mono ?_
                  rintro e w4 ⟨rfl, hb4⟩
                  have HB4 := Lib.hid (HB3.out.trans (hb4.mono HB3.out.size))
                  have HMB4 := Lib.hid ((hb4.block _ (Array.getElem?_eq_some_iff.1 HMB3.out).1).trans HMB3.out)
                  have HR24 := Lib.hid (HR23.out.kept hb4)
                  clear hb4 HOWN3 hl3 HR23 HMB3 HB3
                  have HDL := Lib.hid (shaL_len (inn key ++ l))
                  have HME2 := Lib.hid (show shaL (out key ++ shaL (inn key ++ l)) = M from by rw [← HME.out]; unfold macL; rfl)
                  have HDT := Lib.hid (shaL_lt (inn key ++ l))
                  generalize shaL (inn key ++ l) = D at *
                  go_wp2_with (first
                    | ((with_reducible refine wl_storeL (ty := 25) w4.heap.size (bv D) ?_ ?_ ?_ ?_ ?_ ?_ ?_); (· rfl); (· rfl); (· rfl); (· rw [bv_size, HDL.out]; exact info25); (· rw [bv_size, bv_size, HDL.out, zl_len]); (· exact bv_one _)))
                  have HS0 := Lib.hid (show ((w4.alloc (.cells (bv D) 25)).drew).heap[mB]? = some (.cells (bv M) 25 (0, 0)) ∧ Below w.heap.size w ((w4.alloc (.cells (bv D) 25)).drew) from ⟨(heap_prev _ _ _ (Array.getElem?_eq_some_iff.1 HMB4.out).1).trans HMB4.out, (HB4.out.alloc HB4.out.size _).drew⟩)
                  have HR25 := Lib.hid (show Row64 ((w4.alloc (.cells (bv D) 25)).drew) g2 c2 (out key) from HR24.out.kept ((Below.refl _ _).alloc (Nat.le_refl _) _).drew)
                  have HDB := Lib.hid (show ((w4.alloc (.cells (bv D) 25)).drew).heap[w4.heap.size]? = some (.cells (bv D) 25 (0, 0)) from heap_last _ _ _ rfl)
                  refine wp_region_held (S := fun w' => w'.heap[mB]? = some (.cells (bv M) 25 (0, 0)) ∧ Below w.heap.size w w') (by kernel_rfl) ?_
                  change wpAnyH _ _ _ _ _ _ _ _ (World.drew _)
                  generalize (w4.alloc (.cells (bv D) 25)).drew = w0 at *
                  generalize w4.heap.size = dB at *
                  refine wpAnyH_take (i := 0) (oi := ⟨some 93, .move (.tmp 12), _, _, _, none⟩) (v := .slice (some ⟨g2, 0, none⟩) 64 c2) rfl (by kernel_rfl) (by kernel_rfl) (by kernel_rfl) (fun _ _ _ h => h) (Or.inl ⟨by rfl, fun w' hS => by go_simp⟩) HS0.out ?_
                  simp only [Act.put, List.setIfInBounds_toArray, List.set_cons_zero, List.set_cons_succ]
                  refine wpAnyH_take (i := 1) (oi := ⟨some 94, .slice 25 (.tmp 14) none none none, _, _, _, none⟩) (v := .slice (some ⟨dB, 0, none⟩) 32 32) rfl (by kernel_rfl) (by kernel_rfl) (by kernel_rfl) (fun _ _ _ h => h) (Or.inl ⟨by rfl, fun w' hS => by go_simp⟩) HS0.out ?_
                  simp only [Act.put, List.setIfInBounds_toArray, List.set_cons_zero, List.set_cons_succ]
                  refine wpAnyH_take (i := 4) (oi := ⟨some 97, .load 25 (.tmp 7), _, _, _, none⟩) (v := .agg (bv M)) rfl (by kernel_rfl) (by kernel_rfl) (by kernel_rfl) (fun _ _ _ h => h) (yi_row' (by rfl) 25 (.tmp 7) rfl mB (bv M) 32 5 Tryd.underlying25 HI25.out rfl (fun w' h => ⟨_, _, h.1⟩)) HS0.out ?_
                  simp only [Act.put, List.setIfInBounds_toArray, List.set_cons_zero, List.set_cons_succ]
                  refine wpAnyH_ready (rs := [2]) (by kernel_rfl) (by simp) (AllReadyH.cons (o := ⟨some 95, .call ⟨.builtin .append, #[.tmp 93, .tmp 94], #[22, 22]⟩, _, _, _, none⟩) rfl (fun K hK => ?_) AllReadyH.nil)
                  with_reducible refine step_app ?_ (.tmp 93) (.tmp 94) ?_ (mB + 1) (.slice (some ⟨g2, 0, none⟩) 64 c2) (.slice (some ⟨dB, 0, none⟩) 32 32) (out key) D ?_ ?_ ?_ ?_ ?_ ?_ ?_
                  · rfl
                  · rfl
                  · rfl
                  · rfl
                  · exact HR25.out.own (out_len key) hbg2 hc2 (by unfold maxLen; exact hcm2)
                  · have := (byt_row (w := w0) (g := w0.heap.size) (cap := 32) HDB.out (Nat.ne_of_lt (Array.getElem?_eq_some_iff.1 HDB.out).1) (by rw [HDL.out]; exact Nat.le_refl _)).src
                    rw [HDL.out] at this; exact this
                  · rw [out_len, HDL.out]; decide
                  · have := (Array.getElem?_eq_some_iff.1 HS0.out.1).1; omega
                  intro v5 w5 hown5 hgr5 hat5
                  have HS1 := Lib.hid (show w5.heap[mB]? = some (.cells (bv M) 25 (0, 0)) ∧ Below w.heap.size w w5 from ⟨(hgr5.block _ (Array.getElem?_eq_some_iff.1 HS0.out.1).1 (by simp [Value.ownBlock]; omega)).trans HS0.out.1, HS0.out.2.trans (grown_to_below hgr5 HS0.out.2.size (by simp [Value.ownBlock]; omega))⟩)
                  have HOWN5 := Lib.hid hown5
                  have hl5 : ∀ k, v5.ownBlock = some k → k < w5.heap.size := fun k e => (hown5.lt k e).2
                  clear hown5 hgr5 hat5
                  refine hK.out _ _ HS1.out (fun _ => ?_)
                  clear hK K
                  simp only [Act.put, List.setIfInBounds_toArray, List.set_cons_zero, List.set_cons_succ]
                  refine wpAnyH_ready (rs := [3]) (by kernel_rfl) (by simp) (AllReadyH.cons (o := ⟨some 96, .call ⟨.value (.func 10), #[.tmp 95], _⟩, _, _, _, none⟩) rfl (fun K hK => ?_) AllReadyH.nil)
                  go_simp
                  refine (of_any (out key ++ D) v5 w5 (fun x hx => by rw [List.mem_append] at hx; exact hx.elim (out_lt HK1.out x) (HDT.out x)) (by rw [List.length_append, out_len, HDL.out]; decide) (HG.out.below hsz HS1.out.2) (HOWN5.out.byt' (fun e => by have := hl5 _ e; omega))).mono ?_
                  rintro e w2 ⟨rfl, hbel⟩
                  have HS2 := Lib.hid (show _ ∧ _ from ⟨(hbel.block _ (Array.getElem?_eq_some_iff.1 HS1.out.1).1).trans HS1.out.1, HS1.out.2.trans (hbel.mono HS1.out.2.size)⟩)
                  clear hbel
                  refine hK.out _ _ HS2.out (fun _ => ?_)
                  clear hK K
                  rw [HME2.out]
                  refine wpAnyH_take (i := 5) (oi := ⟨some 98, .binOp .eql 25 (.tmp 96) (.tmp 97) 25, _, _, _, none⟩) (v := .bool true) rfl (by kernel_rfl) (by kernel_rfl) (by kernel_rfl) (fun _ _ _ h => h) (yi_eql_same (by rfl) 25 25 (.tmp 96) (.tmp 97) rfl 5 32 (M) Tryd.underlying25 Tryd.underlying5 cells5 guard25 rfl rfl (HMM.out)) HS2.out ?_
                  simp only [Act.put, List.setIfInBounds_toArray, List.set_cons_zero, List.set_cons_succ]
                  refine wpAnyH_take (i := 6) (oi := ⟨some 99, .move (.tmp 98), _, _, _, none⟩) (v := .bool true) rfl (by kernel_rfl) (by kernel_rfl) (by kernel_rfl) (fun _ _ _ h => h) (Or.inl ⟨by rfl, fun w' hS => by go_simp⟩) HS2.out ?_
                  simp only [Act.put, List.setIfInBounds_toArray, List.set_cons_zero, List.set_cons_succ]
                  refine wpAnyH_ready (rs := [7]) (by kernel_rfl) (by simp) (AllReadyH.cons (o := ⟨some 100, .call ⟨.value (.func 14), #[], _⟩, _, _, _, some (6, true)⟩) rfl (fun K hK => ?_) AllReadyH.nil)
                  go_simp
                  refine (wakes2_any _ (HG.out.below hsz HS2.out.2)).mono ?_
                  rintro e w3 ⟨rfl, hbel⟩
                  have HS3 := Lib.hid (show _ ∧ _ from ⟨(hbel.block _ (Array.getElem?_eq_some_iff.1 HS2.out.1).1).trans HS2.out.1, HS2.out.2.trans (hbel.mono HS2.out.2.size)⟩)
                  clear hbel
                  refine hK.out _ _ HS3.out (fun _ => ?_)
                  clear hK K
                  refine wpAnyH_take (i := 8) (oi := ⟨some 101, .pick (.tmp 99) (.tmp 100) (.const (.bool false)), _, _, _, none⟩) (v := .bool true) rfl (by kernel_rfl) (by kernel_rfl) (by kernel_rfl) (fun _ _ _ h => h) (Or.inl ⟨by rfl, fun w' hS => by go_simp⟩) HS3.out ?_
                  simp only [Act.put, List.setIfInBounds_toArray, List.set_cons_zero, List.set_cons_succ]
                  refine wpAnyH_take (i := 9) (oi := ⟨some 6, .assign (.tmp 101), _, _, _, none⟩) (v := .bool true) rfl (by kernel_rfl) (by kernel_rfl) (by kernel_rfl) (fun _ _ _ h => h) (Or.inl ⟨by rfl, fun w' hS => by go_simp⟩) HS3.out ?_
                  simp only [Act.put, List.setIfInBounds_toArray, List.set_cons_zero, List.set_cons_succ]
                  refine wpAnyH_done (by kernel_rfl) ?_ _
                  go_wp2_with fail
                  go_ret
                  exact ⟨rfl, HS3.out.2⟩
end Go.Proofs.YthaaccbbegmhbaaDoor
