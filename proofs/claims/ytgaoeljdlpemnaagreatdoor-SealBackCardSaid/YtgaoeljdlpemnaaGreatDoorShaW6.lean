/- Contracts of (*sha.Hash).fill, (*sha.Hash).Sum, sha.Of, and of both methods on no hash, over the translated program. -/
import Derived.Test.YtgaoeljdlpemnaaGreatDoorShaLaws2
/- Contract of (*sha.Hash).Write, over the translated program. -/
namespace Go.Proofs.YtgaoeljdlpemnaaGreatDoor.Hs
open Go.RowKit Go.Sha

/-- a slice of bytes in memory, apart from block g -/
def Byt (w : World) (g : Nat) (v : Value) (l : List Nat) : Prop :=
  ∃ p cap, v = .slice p l.length cap ∧ l.length ≤ cap ∧ (0 < l.length → ∃ b o, p = some ⟨b, o, none⟩ ∧ b ≠ g ∧ b < w.heap.size ∧ ∀ j, j < l.length → w.cell? ⟨b, o + j, none⟩ = some (.int .u8 (at0 l j : Nat)))
def slen : Value → Nat | .slice _ n _ => n | _ => 0
/-- the loop of Write: what is left of the bytes, what the hash is -/
def WRel (w : World) (g : Nat) (s : HS) (l : List Nat) (v : Value) (wr : World) : Prop :=
  ∃ l0 l1, l = l0 ++ l1 ∧ Byt w g v l1 ∧ wr.heap[g]? = some (.cells (putL s l0).cells 123 (0, 0)) ∧ w.grownBy wr (some g)

theorem info5 : (Tryz.prog.info? 5).map (·.size) = some 1 := by kernel_rfl
theorem bl_one (l : List Nat) : ∀ v ∈ bl l, v.oneCell' = true := by
  intro v hv
  unfold bl bv at hv
  simp at hv
  obtain ⟨n, _, rfl⟩ := hv
  rfl
theorem bl_src {w : World} {b o : Nat} {l : List Nat} (h : ∀ j, j < l.length → w.cell? ⟨b, o + j, none⟩ = some (.int .u8 (at0 l j : Nat))) (n : Nat) :
    ∀ j v, (bl (l.take n))[j]? = some v → w.cell? ((⟨b, o, none⟩ : Addr).add j) = some v := by
  intro j v hv
  have hj : j < (l.take n).length := by rw [← bl_len]; exact (List.getElem?_eq_some_iff.1 hv).1
  rw [bl_get, bv_get _ _ hj] at hv
  have hj2 : j < l.length := by simp at hj; omega
  have e : at0 (l.take n) j = at0 l j := by
    unfold at0
    rw [List.getD_eq_getElem?_getD, List.getD_eq_getElem?_getD, List.getElem?_take, if_pos (by simp at hj; omega)]
  rw [Addr.add_mid, h j hj2, ← e]
  exact hv

set_option maxRecDepth 100000 in
set_option maxHeartbeats 800000 in
theorem write_any (g : Nat) (s : HS) (l : List Nat) (v : Value) (w : World) (ho : s.Ok) (hl : Lt 256 l) (hc : s.c + l.length < 1152921504606846976) (hG : Gl w) (hg2 : 2 ≤ g)
    (hg : w.heap[g]? = some (.cells s.cells 123 (0, 0))) (hb : Byt w g v l) :
    Calls Tryz.prog 36 #[.pointer (some ⟨g, 0, none⟩), v] w fun e w' => e = .returned (.tuple #[]) ∧ w'.heap[g]? = some (.cells (putL s l).cells 123 (0, 0)) ∧ w.grownBy w' (some g) := by
  have HO := Lib.hid ho; clear ho
  have HL := Lib.hid hl; clear hl
  have HC := Lib.hid hc; clear hc
  have HG := Lib.hid hG; clear hG
  have HA := Lib.hid hg; clear hg
  have HV := Lib.hid hb; clear hb
  go_enter Tryz.func36, Tryz.ntmps36
  go_wp2
  go_loopw [1, 4] (fun v _ wr => WRel w g s l v wr) (fun v _ _ => slen v)
  case atStart => exact ⟨[], l, rfl, HV.out, by rw [putL_nil]; exact HA.out, World.grownBy.refl _ _⟩
  case round =>
    obtain ⟨l0, l1, hl, hb, hh, hgr⟩ := hrel
    have HLL := Lib.hid hl; clear hl
    have HS1 := Lib.hid (show (putL s l0).Ok from putL_ok HO.out (fun x hx => HL.out x (by rw [HLL.out]; simp [hx])))
    have HC1 := Lib.hid (show (putL s l0).c + l1.length < 1152921504606846976 by rw [putL_c]; have := HC.out; rw [HLL.out] at this; simp at this; omega)
    have HG1 := Lib.hid (show Gl wr from by
      obtain ⟨⟨t, f, h0⟩, t', f', h1⟩ := HG.out
      have := HG.out.size
      exact ⟨⟨t, f, (hgr.block _ (by omega) (by simp; omega)).trans h0⟩, t', f', (hgr.block _ (by omega) (by simp; omega)).trans h1⟩)
    have HPE := Lib.hid (show ∀ y, putL s (l0 ++ y) = putL (putL s l0) y from fun y => putL_append s l0 y)
    generalize putL s l0 = s1 at *
    obtain ⟨m, r, c⟩ := s1
    have HH := Lib.hid hh; clear hh
    have HGR := Lib.hid hgr; clear hgr
    obtain ⟨p, cap, rfl, hcap, hp⟩ := hb
    have HP := Lib.hid hp; clear hp
    clear HV
    obtain ⟨n, hn⟩ : ∃ n, n = l1.length := ⟨_, rfl⟩
    rw [← hn] at hcap HP HC1 ⊢
    have HN := Lib.hid hn; clear hn
    have hc2 : c + n < 1152921504606846976 := HC1.out
    by_cases h0 : 0 < n
    · obtain ⟨b, o, rfl, hbg, hbs, hbc⟩ := HP.out h0
      have HBC := Lib.hid hbc; clear hbc HP
      go_wp2
      refine wp_region_still_tail 7 (by kernel_rfl) (by kernel_rfl) ?_
      simp only [List.take_succ_cons, List.take_zero, List.drop_succ_cons, List.drop_zero]
      repeat still_step
      still_call ((waiting_any g m r c 123 (0, 0) wr.drew HS1.out.m8 HS1.out.r64 (by omega) HH.out).mono fun _ _ h => ⟨h.1, h.2.symm⟩)
      obtain ⟨q, hq⟩ : ∃ q, q = c % 64 := ⟨_, rfl⟩
      have hq64 : q < 64 := by omega
      have hqi : (q : Int) ≤ 64 := by omega
      have hqj : ¬ (64 : Int) < (q : Int) := by omega
      rw [← hq]
      have HQ := Lib.hid hq; clear hq
      have hqn : ¬ 64 = q := by omega
      repeat still_step
      refine wpStill_nil ?_
      change wpList _ _ _ _ _ wr.drew
      obtain ⟨t, ht⟩ : ∃ t, t = Nat.min n (64 - q) := ⟨_, rfl⟩
      have htn : t ≤ n := by rw [ht]; exact Nat.min_le_left _ _
      have htq0 : t ≤ 64 - q := by rw [ht]; exact Nat.min_le_right n (64 - q)
      have htq : q + t ≤ 64 := by omega
      have ht0 : 0 < t := by rw [ht]; exact Nat.lt_min.2 ⟨h0, by omega⟩
      have htc : c + t < 1152921504606846976 := by omega
      have hxl : (l1.take t).length = t := by rw [List.length_take, ← HN.out]; omega
      with_reducible refine wl_copy (dst := 17) 5 Tryz.underlying39 info5 g (8 + q) (64 - q) (64 - q) ⟨b, o, none⟩ n cap (hv m r c) (hv m (lay r q (l1.take t)) c) 123 (bl (l1.take t)) ?_ ?_ ?_ ?_ ?_ ?_ ?_ ?_ ?_
      · rfl
      · rfl
      · exact HH.out
      · rw [bl_len, hxl, ht]
      · refine bl_src (fun j hj => ?_) t
        have := HBC.out j (by rw [HN.out]; exact hj)
        exact (HGR.out.cell_far ⟨b, o + j, none⟩ hbs (by simp; exact hbg)).trans this
      · rw [bl_len, hxl, hv_size c HS1.out.m8 HS1.out.r64]; omega
      · exact bl_one _
      · exact hv_lay c q HS1.out.m8 HS1.out.r64 (by rw [hxl]; exact htq)
      rw [bl_len, hxl]
      have HH2 := Lib.hid (show (wr.drew.setRow g (hv m (lay r q (l1.take t)) c)).heap[g]? = some (.cells (hv m (lay r q (l1.take t)) c) 123 (0, 0)) from setRow_heap _ _ _ _ _ _ HH.out)
      have HGR2 := Lib.hid (show w.grownBy (wr.drew.setRow g (hv m (lay r q (l1.take t)) c)) (some g) from grown_setRow (grown_drew HGR.out) _)
      have HT := Lib.hid ht; clear ht
      have HXL := Lib.hid hxl; clear hxl
      have HR2 := Lib.hid (show (lay r q (l1.take t)).length = 64 by rw [lay_len (by rw [HXL.out, HS1.out.r64]; exact htq), HS1.out.r64])
      have HRL := Lib.hid (show Lt 256 (lay r q (l1.take t)) from lay_lt HS1.out.r1 (fun x hx => HL.out x (by rw [HLL.out]; simp [List.mem_of_mem_take hx])))
      generalize wr.drew.setRow g (hv m (lay r q (l1.take t)) c) = w2 at *
      have c72 : w2.cell? ⟨g, 72, none⟩ = some (.int .u64 (c : Int)) := (cell_of_row _ _ _ _ _ _ HH2.out).trans (hv_count c HS1.out.m8 HR2.out)
      have f72 : w2.frozen? ⟨g, 72, none⟩ = false := frozen_of_row _ _ _ _ _ HH2.out
      have HE := Lib.hid (show putL ⟨m, r, c⟩ (l1.take t) = ⟨if (c + t) % 64 = 0 then mixL m (lay r q (l1.take t)) else m, lay r q (l1.take t), c + t⟩ from by
        have := putL_piece (l1.take t) ⟨m, r, c⟩ HS1.out.r64 (by rw [HXL.out, ← HQ.out]; exact htq) (by rw [HXL.out]; exact ht0)
        rw [HXL.out, ← HQ.out] at this; exact this)
      have HX := Lib.hid (show ∀ (p' : Option Addr) (cap' : Nat) (w' : World), n - t ≤ cap' → (0 < n - t → p' = some ⟨b, o + t, none⟩) → w'.heap[g]? = some (.cells (putL ⟨m, r, c⟩ (l1.take t)).cells 123 (0, 0)) → w.grownBy w' (some g) → WRel w g s l (.slice p' (n - t) cap') w' from by
        intro p' cap' w' h1 h2 h3 h4
        have hy : (l1.drop t).length = n - t := by rw [List.length_drop, ← HN.out]
        refine ⟨l0 ++ l1.take t, l1.drop t, by rw [List.append_assoc, List.take_append_drop]; exact HLL.out, ⟨p', cap', by rw [hy], by rw [hy]; exact h1, fun h => ⟨b, o + t, h2 (by omega), hbg, hbs, fun j hj => ?_⟩⟩, by rw [HPE.out]; exact h3, h4⟩
        have := HBC.out (t + j) (by omega)
        rw [show o + t + j = o + (t + j) by omega, this]
        unfold at0
        rw [List.getD_eq_getElem?_getD, List.getD_eq_getElem?_getD, List.getElem?_drop])
      obtain ⟨z, hz⟩ : ∃ z, z = (c + t) % 64 := ⟨_, rfl⟩
      have HZ := Lib.hid hz; clear hz
      clear HBC HH HGR HA HO HC
      go_wp2_with fail
      all_goals
        refine (waiting_any g m (lay r q (l1.take t)) (c + t) 123 (0, 0) _ HS1.out.m8 HR2.out htc (by
          have := heap_setCell_same w2 g 72 _ _ (.int .u64 ((c + t : Nat) : Int)) HH2.out
          rw [hv_setCount c (c + t) HS1.out.m8 HR2.out] at this
          exact this)).mono ?_
        rw [← HZ.out]
        rintro e w3 ⟨rfl, rfl⟩
        have HH3 := Lib.hid (show (w2.setCell ⟨g, 72, none⟩ (.int .u64 ((c + t : Nat) : Int))).heap[g]? = some (.cells (hv m (lay r q (l1.take t)) (c + t)) 123 (0, 0)) from by
          have := heap_setCell_same w2 g 72 _ _ (.int .u64 ((c + t : Nat) : Int)) HH2.out
          rw [hv_setCount c (c + t) HS1.out.m8 HR2.out] at this
          exact this)
        have HGR3 := Lib.hid (show w.grownBy (w2.setCell ⟨g, 72, none⟩ (.int .u64 ((c + t : Nat) : Int))) (some g) from grown_setCell HGR2.out _ _)
        rw [show ((c : Int) + (t : Int)) = ((c + t : Nat) : Int) from by simp]
        generalize w2.setCell ⟨g, 72, none⟩ (.int .u64 ((c + t : Nat) : Int)) = w3 at *
        clear c72 f72 HH2 HGR2
        by_cases hz : z = 0
        · have hzb : ((z : Int) == 0) = true := by simp; omega
          have HG3 := Lib.hid (show Gl w3 from by
            obtain ⟨⟨t, f, h0⟩, t', f', h1⟩ := HG.out
            have := HG.out.size
            exact ⟨⟨t, f, (HGR3.out.block _ (by omega) (by simp; omega)).trans h0⟩, t', f', (HGR3.out.block _ (by omega) (by simp; omega)).trans h1⟩)
          have HLT := Lib.hid (show g < w3.heap.size from (Array.getElem?_eq_some_iff.1 HH3.out).1)
          generalize lay r q (l1.take t) = r2 at *
          go_wp2_with fail
          refine wp_region_any (by kernel_rfl) ?_
          change wpAny _ _ _ _ _ _ _ (World.drew _)
          refine wpAny_take (i := 0) (oi := ⟨some 33, .move (.tmp 0), _, _, _, none⟩) (v := .pointer (some ⟨g, 0, none⟩)) rfl (by kernel_rfl) (by kernel_rfl) (by kernel_rfl) (fun _ _ _ h => h) (Or.inl ⟨by rfl, fun w => by go_simp⟩) ?_
          refine wpAny_take (i := 1) (oi := ⟨some 34, .move (.tmp 0), _, _, _, none⟩) (v := .pointer (some ⟨g, 0, none⟩)) rfl (by kernel_rfl) (by kernel_rfl) (by kernel_rfl) (fun _ _ _ h => h) (Or.inl ⟨by rfl, fun w => by go_simp⟩) ?_
          refine wpAny_take (i := 2) (oi := ⟨some 35, .nilCheck (.tmp 34), _, _, _, none⟩) (v := .pointer (some ⟨g, 0, none⟩)) rfl (by kernel_rfl) (by kernel_rfl) (by kernel_rfl) (fun _ _ _ h => h) (Or.inl ⟨by rfl, fun w => by go_simp⟩) ?_
          refine wpAny_take (i := 3) (oi := ⟨some 36, .fieldAddr 123 (.tmp 35) 0, _, _, _, none⟩) (v := .pointer (some ⟨g, 0, none⟩)) rfl (by kernel_rfl) (by kernel_rfl) (by kernel_rfl) (fun _ _ _ h => h) (Or.inl ⟨by rfl, fun w => by go_simp⟩) ?_
          refine wpAny_take (i := 5) (oi := ⟨some 38, .move (.tmp 0), _, _, _, none⟩) (v := .pointer (some ⟨g, 0, none⟩)) rfl (by kernel_rfl) (by kernel_rfl) (by kernel_rfl) (fun _ _ _ h => h) (Or.inl ⟨by rfl, fun w => by go_simp⟩) ?_
          refine wpAny_take (i := 6) (oi := ⟨some 39, .nilCheck (.tmp 38), _, _, _, none⟩) (v := .pointer (some ⟨g, 0, none⟩)) rfl (by kernel_rfl) (by kernel_rfl) (by kernel_rfl) (fun _ _ _ h => h) (Or.inl ⟨by rfl, fun w => by go_simp⟩) ?_
          refine wpAny_take (i := 7) (oi := ⟨some 40, .fieldAddr 123 (.tmp 39) 1, _, _, _, none⟩) (v := .pointer (some ⟨g, 8, none⟩)) rfl (by kernel_rfl) (by kernel_rfl) (by kernel_rfl) (fun _ _ _ h => h) (Or.inl ⟨by rfl, fun w => by go_simp⟩) ?_
          simp only [Act.put, List.setIfInBounds_toArray, List.set_cons_zero, List.set_cons_succ]
          refine wpAny_ready (rs := [4, 8]) (by kernel_rfl) (by simp) (AllReady.cons (o := ⟨some 37, .load 121 (.tmp 36), _, _, _, none⟩) rfl (fun K hK => ?_) (AllReady.cons (o := ⟨some 41, .load 94 (.tmp 40), _, _, _, none⟩) rfl (fun K hK => ?_) AllReady.nil))
          · with_reducible refine step_load ?_ 121 (.tmp 36) ?_ g 0 (wv m) (hv m r2 (c + t)) 123 (0, 0) 8 28 Tryz.underlying121 ?_ ?_ ?_ ?_ (hK _ _ ?_)
            · rfl
            · rfl
            · rw [wv_size, HS1.out.m8]; exact info42
            · rfl
            · exact HH3.out
            · exact hv_wordsAt _
            clear hK K
            refine wpAny_ready (rs := [8]) (by kernel_rfl) (by simp) (AllReady.cons (o := ⟨some 41, .load 94 (.tmp 40), _, _, _, none⟩) rfl (fun K hK => ?_) AllReady.nil)
            with_reducible refine step_load ?_ 94 (.tmp 40) ?_ g 8 (bv r2) (hv m r2 (c + t)) 123 (0, 0) 64 5 Tryz.underlying94 ?_ ?_ ?_ ?_ (hK _ _ ?_)
            · rfl
            · rfl
            · rw [bv_size, HR2.out]; exact info40
            · rfl
            · exact HH3.out
            · exact hv_bytesAt _ HS1.out.m8
            clear hK K
            simp only [Act.put, List.setIfInBounds_toArray, List.set_cons_zero, List.set_cons_succ]
            refine wpAny_ready (rs := [9]) (by kernel_rfl) (by simp) (AllReady.cons (o := ⟨some 42, .call ⟨.value (.func 54), #[.tmp 37, .tmp 41], _⟩, _, _, _, none⟩) rfl (fun K hK => ?_) AllReady.nil)
            go_simp
            refine (mix_any m r2 _ HS1.out.m8 HS1.out.m1 HR2.out HRL.out (by exact HG3.out)).mono ?_
            rintro e w4 ⟨rfl, hb4⟩
            have HB4 := Lib.hid (show Below w3.heap.size w3 w4 from ⟨hb4.os, hb4.tape, hb4.output, hb4.size, hb4.block⟩)
            clear hb4
            refine hK _ _ ?_
            clear hK K
            refine wpAny_take (i := 10) (oi := ⟨some 43, .nilCheck (.tmp 33), _, _, _, none⟩) (v := .pointer (some ⟨g, 0, none⟩)) rfl (by kernel_rfl) (by kernel_rfl) (by kernel_rfl) (fun _ _ _ h => h) (Or.inl ⟨by rfl, fun w => by go_simp⟩) ?_
            refine wpAny_take (i := 11) (oi := ⟨some 44, .fieldAddr 123 (.tmp 43) 0, _, _, _, none⟩) (v := .pointer (some ⟨g, 0, none⟩)) rfl (by kernel_rfl) (by kernel_rfl) (by kernel_rfl) (fun _ _ _ h => h) (Or.inl ⟨by rfl, fun w => by go_simp⟩) ?_
            simp only [Act.put, List.setIfInBounds_toArray, List.set_cons_zero, List.set_cons_succ]
            refine wpAny_ready (rs := [12]) (by kernel_rfl) (by simp) (AllReady.cons (o := ⟨none, .store 121 (.tmp 44) (.tmp 42), _, _, _, none⟩) rfl (fun K hK => ?_) AllReady.nil)
            with_reducible refine step_store ?_ 121 (.tmp 44) (.tmp 42) ?_ g 0 (wv (mixL m r2)) (hv m r2 (c + t)) (hv (mixL m r2) r2 (c + t)) 123 ?_ ?_ ?_ ?_ ?_ ?_ ?_ (hK _ _ ?_)
            · rfl
            · rfl
            · rw [wv_size, mixL_len _ HS1.out.m8]; exact info42
            · rfl
            · rfl
            · exact (HB4.out.block _ HLT.out).trans HH3.out
            · rw [wv_size, mixL_len _ HS1.out.m8, hv_size _ HS1.out.m8 HR2.out]; decide
            · exact wv_one _
            · exact hv_words _ HS1.out.m8 (mixL_len _ HS1.out.m8)
            clear hK K
            refine wpAny_done (by kernel_rfl) ?_ _
            simp only [Act.put]
            have HH5 := Lib.hid (show (w4.setRow g (hv (mixL m r2) r2 (c + t))).heap[g]? = some (.cells (hv (mixL m r2) r2 (c + t)) 123 (0, 0)) from setRow_heap _ _ _ _ _ _ ((HB4.out.block _ HLT.out).trans HH3.out))
            have HGR5 := Lib.hid (show w.grownBy (w4.setRow g (hv (mixL m r2) r2 (c + t))) (some g) from grown_setRow (grown_below HGR3.out HB4.out) _)
            generalize w4.setRow g (hv (mixL m r2) r2 (c + t)) = w5 at *
            go_wp2_with fail
            refine ⟨HX.out _ _ _ (by omega) (by first | exact fun _ => rfl | omega) ?_ HGR5.out, by simp [slen]; omega⟩
            rw [HE.out, if_pos (by rw [← HZ.out]; exact hz)]
            exact HH5.out
          · with_reducible refine step_load ?_ 94 (.tmp 40) ?_ g 8 (bv r2) (hv m r2 (c + t)) 123 (0, 0) 64 5 Tryz.underlying94 ?_ ?_ ?_ ?_ (hK _ _ ?_)
            · rfl
            · rfl
            · rw [bv_size, HR2.out]; exact info40
            · rfl
            · exact HH3.out
            · exact hv_bytesAt _ HS1.out.m8
            clear hK K
            refine wpAny_ready (rs := [4]) (by kernel_rfl) (by simp) (AllReady.cons (o := ⟨some 37, .load 121 (.tmp 36), _, _, _, none⟩) rfl (fun K hK => ?_) AllReady.nil)
            with_reducible refine step_load ?_ 121 (.tmp 36) ?_ g 0 (wv m) (hv m r2 (c + t)) 123 (0, 0) 8 28 Tryz.underlying121 ?_ ?_ ?_ ?_ (hK _ _ ?_)
            · rfl
            · rfl
            · rw [wv_size, HS1.out.m8]; exact info42
            · rfl
            · exact HH3.out
            · exact hv_wordsAt _
            clear hK K
            simp only [Act.put, List.setIfInBounds_toArray, List.set_cons_zero, List.set_cons_succ]
            refine wpAny_ready (rs := [9]) (by kernel_rfl) (by simp) (AllReady.cons (o := ⟨some 42, .call ⟨.value (.func 54), #[.tmp 37, .tmp 41], _⟩, _, _, _, none⟩) rfl (fun K hK => ?_) AllReady.nil)
            go_simp
            refine (mix_any m r2 _ HS1.out.m8 HS1.out.m1 HR2.out HRL.out (by exact HG3.out)).mono ?_
            rintro e w4 ⟨rfl, hb4⟩
            have HB4 := Lib.hid (show Below w3.heap.size w3 w4 from ⟨hb4.os, hb4.tape, hb4.output, hb4.size, hb4.block⟩)
            clear hb4
            refine hK _ _ ?_
            clear hK K
            refine wpAny_take (i := 10) (oi := ⟨some 43, .nilCheck (.tmp 33), _, _, _, none⟩) (v := .pointer (some ⟨g, 0, none⟩)) rfl (by kernel_rfl) (by kernel_rfl) (by kernel_rfl) (fun _ _ _ h => h) (Or.inl ⟨by rfl, fun w => by go_simp⟩) ?_
            refine wpAny_take (i := 11) (oi := ⟨some 44, .fieldAddr 123 (.tmp 43) 0, _, _, _, none⟩) (v := .pointer (some ⟨g, 0, none⟩)) rfl (by kernel_rfl) (by kernel_rfl) (by kernel_rfl) (fun _ _ _ h => h) (Or.inl ⟨by rfl, fun w => by go_simp⟩) ?_
            simp only [Act.put, List.setIfInBounds_toArray, List.set_cons_zero, List.set_cons_succ]
            refine wpAny_ready (rs := [12]) (by kernel_rfl) (by simp) (AllReady.cons (o := ⟨none, .store 121 (.tmp 44) (.tmp 42), _, _, _, none⟩) rfl (fun K hK => ?_) AllReady.nil)
            with_reducible refine step_store ?_ 121 (.tmp 44) (.tmp 42) ?_ g 0 (wv (mixL m r2)) (hv m r2 (c + t)) (hv (mixL m r2) r2 (c + t)) 123 ?_ ?_ ?_ ?_ ?_ ?_ ?_ (hK _ _ ?_)
            · rfl
            · rfl
            · rw [wv_size, mixL_len _ HS1.out.m8]; exact info42
            · rfl
            · rfl
            · exact (HB4.out.block _ HLT.out).trans HH3.out
            · rw [wv_size, mixL_len _ HS1.out.m8, hv_size _ HS1.out.m8 HR2.out]; decide
            · exact wv_one _
            · exact hv_words _ HS1.out.m8 (mixL_len _ HS1.out.m8)
            clear hK K
            refine wpAny_done (by kernel_rfl) ?_ _
            simp only [Act.put]
            have HH5 := Lib.hid (show (w4.setRow g (hv (mixL m r2) r2 (c + t))).heap[g]? = some (.cells (hv (mixL m r2) r2 (c + t)) 123 (0, 0)) from setRow_heap _ _ _ _ _ _ ((HB4.out.block _ HLT.out).trans HH3.out))
            have HGR5 := Lib.hid (show w.grownBy (w4.setRow g (hv (mixL m r2) r2 (c + t))) (some g) from grown_setRow (grown_below HGR3.out HB4.out) _)
            generalize w4.setRow g (hv (mixL m r2) r2 (c + t)) = w5 at *
            go_wp2_with fail
            refine ⟨HX.out _ _ _ (by omega) (by first | exact fun _ => rfl | omega) ?_ HGR5.out, by simp [slen]; omega⟩
            rw [HE.out, if_pos (by rw [← HZ.out]; exact hz)]
            exact HH5.out
        · have hzb : ((z : Int) == 0) = false := by simp; omega
          go_wp2_with fail
          refine ⟨HX.out _ _ _ (by omega) (by first | exact fun _ => rfl | omega) ?_ HGR3.out, by simp [slen]; omega⟩
          rw [HE.out, if_neg (by rw [← HZ.out]; exact hz)]
          exact HH3.out
    · obtain rfl : l1 = [] := List.eq_nil_of_length_eq_zero (by rw [← HN.out]; omega)
      go_wp2_with fail
      go_end0
      refine ⟨rfl, ?_, HGR.out⟩
      rw [HLL.out, HPE.out, putL_nil]
      exact HH.out
end Go.Proofs.YtgaoeljdlpemnaaGreatDoor.Hs
/- What fills bytes up, and the digest of what was written. No program is spoken of here. -/
namespace Go.Sha
open Go.RowKit

def psize (c : Nat) : Nat := if 64 - c % 64 ≤ 8 then 64 - c % 64 + 64 else 64 - c % 64
theorem psize_lo (c : Nat) : 9 ≤ psize c := by unfold psize; split <;> omega
theorem psize_hi (c : Nat) : psize c ≤ 72 := by unfold psize; split <;> omega
def tlTo (c : Nat) : Nat → List Nat
  | 0 => (zl 72).set 0 128
  | k + 1 => (tlTo c k).set (psize c - 1 - k) (((8 * c) >>> (8 * k)) % 256)
theorem tlTo_len (c : Nat) : ∀ k, (tlTo c k).length = 72
  | 0 => by rw [tlTo, List.length_set, zl_len]
  | k + 1 => by rw [tlTo, List.length_set, tlTo_len c k]
theorem tlTo_lt (c : Nat) : ∀ k, Lt 256 (tlTo c k)
  | 0 => Lt.set (zl_lt 72 256 (by decide)) _ _ (by decide)
  | k + 1 => (tlTo_lt c k).set _ _ (Nat.mod_lt _ (by decide))
theorem tlTo_zero (c : Nat) : tlTo c 0 = (zl 72).set 0 128 := rfl
theorem tlTo_succ (c k : Nat) : tlTo c (k + 1) = (tlTo c k).set (psize c - 1 - k) (((8 * c) >>> (8 * k)) % 256) := rfl
theorem tl_walk (c k : Nat) : 8 * (c : Int) / 2 ^ (8 * k) % 256 = ((((8 * c) >>> (8 * k)) % 256 : Nat) : Int) := by
  rw [show 8 * (c : Int) = ((8 * c : Nat) : Int) by simp, shrm]; simp
/-- what is written behind c bytes to fill them up -/
def pad (c : Nat) : List Nat := (tlTo c 8).take (psize c)
theorem pad_len (c : Nat) : (pad c).length = psize c := by rw [pad, List.length_take, tlTo_len]; have := psize_hi c; omega
theorem pad_lt (c : Nat) : Lt 256 (pad c) := fun x hx => tlTo_lt c 8 x (List.mem_of_mem_take hx)
theorem pad_at (c j : Nat) (h : j < psize c) : at0 (pad c) j = at0 (tlTo c 8) j := by
  unfold at0 pad
  rw [List.getD_eq_getElem?_getD, List.getD_eq_getElem?_getD, List.getElem?_take, if_pos h]
/-- the digest of what was written -/
def sumL (s : HS) : List Nat := dig (putL s (pad s.c)).m
def hs0 : HS := ⟨BEG, zl 64, 0⟩
theorem hs0_ok : hs0.Ok := ⟨BEG_len, BEG_lt, zl_len 64, zl_lt 64 256 (by decide)⟩
/-- the digest of bytes -/
def shaL (l : List Nat) : List Nat := sumL (putL hs0 l)
theorem shaL_len (l : List Nat) : (shaL l).length = 32 := dig_len _
theorem shaL_lt (l : List Nat) : Lt 256 (shaL l) := dig_lt _
attribute [irreducible] tlTo pad sumL shaL psize
end Go.Sha
namespace Go.Proofs.YtgaoeljdlpemnaaGreatDoor.Hs
open Go.RowKit Go.Sha

@[local go_sem high, local simp high] theorem z55 (w : World) : (zeroValue 168).run Tryz.prog w = .ok (.agg (bv (zl 72))) w := by kernel_rfl
@[local go_sem high, local simp high] theorem z25' (w : World) : (zeroValue 62).run Tryz.prog w = .ok (.agg (bv (zl 32))) w := by kernel_rfl

set_option maxRecDepth 100000 in
set_option maxHeartbeats 800000 in
theorem fill_any (g : Nat) (s : HS) (w : World) (ho : s.Ok) (hc : s.c + 72 < 1152921504606846976) (hG : Gl w) (hg2 : 2 ≤ g) (hg : w.heap[g]? = some (.cells s.cells 123 (0, 0))) :
    Calls Tryz.prog 55 #[.pointer (some ⟨g, 0, none⟩)] w fun e w' => e = .returned (.tuple #[]) ∧ w'.heap[g]? = some (.cells (putL s (pad s.c)).cells 123 (0, 0)) ∧ w.grownBy w' (some g) := by
  obtain ⟨m, r, c⟩ := s
  have hc' : c + 72 < 1152921504606846976 := hc
  have HO := Lib.hid ho; clear ho hc
  have HG := Lib.hid hG; clear hG
  have HA := Lib.hid hg; clear hg
  have hgs : g < w.heap.size := (Array.getElem?_eq_some_iff.1 HA.out).1
  have c72 : w.cell? ⟨g, 72, none⟩ = some (.int .u64 (c : Int)) := (cell_of_row _ _ _ _ _ _ HA.out).trans (hv_count c HO.out.m8 HO.out.r64)
  have g0 := bv_get (zl 72) 0 (by rw [zl_len]; decide)
  go_enter Tryz.func55, Tryz.ntmps55
  go_wp2_with fail
  refine (waiting_any g m r c 123 (0, 0) _ HO.out.m8 HO.out.r64 (by omega) (by exact (heap_prev _ _ _ hgs).trans HA.out)).mono ?_
  obtain ⟨q, hq⟩ : ∃ q, q = c % 64 := ⟨_, rfl⟩
  have hq64 : q < 64 := by omega
  rw [← hq]
  rintro e w1 ⟨rfl, rfl⟩
  have ez : (bv (zl 72)).setIfInBounds 0 (Value.int .u8 128) = bv (tlTo c 0) := by rw [tlTo_zero]; exact bv_set (zl 72) 0 128
  rw [ez]
  obtain ⟨z, hz⟩ : ∃ z, z = psize c := ⟨_, rfl⟩
  have hz1 : 9 ≤ z := by rw [hz]; exact psize_lo c
  have hz2 : z ≤ 72 := by rw [hz]; exact psize_hi c
  have hz3 : (z : Int) ≤ 72 := by omega
  have HZ := Lib.hid hz
  have HEZ := Lib.hid (show z = if 64 - q ≤ 8 then 64 - q + 64 else 64 - q by rw [hz, hq]; unfold psize; rfl)
  have HQ := Lib.hid hq
  clear hz hq ez g0
  by_cases h8 : 64 - q ≤ 8
  all_goals
    have hzi : (z : Int) = if 64 - q ≤ 8 then 64 - (q : Int) + 64 else 64 - (q : Int) := by
      rw [HEZ.out]; split <;> omega
    first | rw [if_pos h8] at hzi | rw [if_neg h8] at hzi
    have HZI := Lib.hid hzi
    clear hzi
    go_wp2_with fail
    rw [← HZI.out]
    go_loopw [5, 19] (fun _ i wr => ∃ k : Nat, k ≤ 8 ∧ i = .int .i64 k ∧ wr = w.alloc (.cells (bv (tlTo c k)) 168)) (fun _ i _ => 8 - (intOf i).toNat)
    case atStart => exact ⟨0, Nat.zero_le _, rfl, rfl⟩
    case round =>
      obtain ⟨k, hk, rfl, rfl⟩ := hrel
      by_cases hlt : k < 8
      · have gk := bv_get (tlTo c k) (z - 1 - k) (by rw [tlTo_len]; omega)
        go_wp2_with fail
        refine ⟨⟨k + 1, by omega, by go_num, ?_⟩, by simp [intOf]; omega⟩
        rw [tl_walk c k, bv_set, tlTo_succ, HZ.out]
      · have HK := Lib.hid (show k = 8 by omega)
        go_wp2_with fail
        refine (write_any g ⟨m, r, c⟩ (pad c) _ _ HO.out (pad_lt c) (by rw [pad_len]; have := psize_hi c; show c + psize c < _; omega) (by exact HG.out.below HG.out.size ((Below.refl _ _).alloc (Nat.le_refl _) _)) hg2 (by exact (heap_prev _ _ _ hgs).trans HA.out) ?_).mono ?_
        · refine ⟨some ⟨w.heap.size, 0, none⟩, 72, by rw [pad_len, HZ.out], by rw [pad_len, ← HZ.out]; exact hz2, fun _ => ⟨w.heap.size, 0, rfl, by omega, by simp, fun j hj => ?_⟩⟩
          rw [pad_len] at hj
          rw [pad_at c j hj, ← HK.out, Nat.zero_add, World.cell?_alloc_at _ _ _ _ rfl, bv_get _ _ (by rw [tlTo_len]; have := psize_hi c; omega)]
        · rintro e w2 ⟨rfl, hh, hgr⟩
          have HH2 := Lib.hid hh
          have HGR2 := Lib.hid hgr
          clear hh hgr
          go_wp2_with fail
          go_end0
          exact ⟨rfl, HH2.out, grown_trans (World.grownBy_alloc _ _ _) HGR2.out⟩

/-- a method of no hash -/
theorem write_nil (v : Value) (w : World) : Calls Tryz.prog 36 #[.pointer none, v] w fun e w' => e = .returned (.tuple #[]) ∧ w = w' := by
  go_enter Tryz.func36, Tryz.ntmps36
  go_wp2
  exact bodyPost_ret (results_none rfl _ _ _) rfl ⟨rfl, rfl⟩
theorem sum_nil (w : World) : Calls Tryz.prog 37 #[.pointer none] w fun e w' => e = .returned (.agg (bv (zl 32))) ∧ Below w.heap.size w w' := by
  go_enter Tryz.func37, Tryz.ntmps37
  go_wp2_with (first
    | ((with_reducible refine wl_storeL (ty := 62) w.heap.size (bv (zl 32)) ?_ ?_ ?_ ?_ ?_ ?_ ?_); (· rfl); (· rfl); (· rfl); (· rw [bv_size, zl_len]; exact info25); (· rfl); (· exact bv_one _)))
  refine ret_row Tryz.results37 w.heap.size 62 (bv (zl 32)) (0, 0) 32 5 Tryz.underlying62 rfl (heap_last _ _ _ rfl) (by rw [bv_size, zl_len]; exact info25) rfl ⟨rfl, (Below.refl _ _).alloc (Nat.le_refl _) _⟩
end Go.Proofs.YtgaoeljdlpemnaaGreatDoor.Hs
