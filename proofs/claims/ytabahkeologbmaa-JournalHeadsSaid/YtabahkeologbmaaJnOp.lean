/- Contracts of Open's steps, and of Open. -/
import Derived.Test.YtabahkeologbmaaJnRh
import Derived.Test.YtabahkeologbmaaJnRd
import Derived.Test.YtabahkeologbmaaJnIn
namespace Go.Proofs.Ytabahkeologbmaa.Jn
open Go.RowKit Go.Shelf Go.Dk Go.Jn Go.Sha Go.Proofs.Ytabahkeologbmaa.Dk
attribute [local go_sem high, local simp high] zero_head

theorem own_less {w : World} {b c : Nat} {v : Value} {l : By} (h : OwnB w b v l) (hc : c ≤ b) : OwnB w c v l := by
  obtain ⟨h1, h2 | ⟨g, cap', cur, e1, e2, e3⟩⟩ := h
  · exact ⟨h1, Or.inl h2⟩
  · exact ⟨h1, Or.inr ⟨g, cap', cur, e1, Nat.le_trans hc e2, e3⟩⟩
/-- the first step -/
def Op1P (Bh : Nat) (t : Option By) (w : World) (e : Ending) (w' : World) : Prop := e = .returned (.int .i64 (if t.isSome then 0 else 130)) ∧ w'.heap[Bh]? = some (.cells (bc (topC t)) 59 (0, 0)) ∧ Frq (· = Bh) w w'
set_option maxRecDepth 100000 in
set_option maxHeartbeats 800000 in
theorem open1_any {D L M Bd Bh : Nat} {d : Dk} {w : World} (h : DkAt w D L M d) (hd : d.dead = false) (hn : 4 ≤ d.n) (x : By) (hx : x.length = 64) (hbd : w.heap[Bd]? = some (.cells #[pD D] 24 (0, 0))) (hbh : w.heap[Bh]? = some (.cells (bc x) 59 (0, 0)))
    (t : Option By) (ht : topB (d.rd 0) (d.rd 1) (64 * (d.n - 2)) = t) (ht64 : ∀ s, t = some s → s.length = 64) : Calls Try.prog 27 #[.pointer (some ⟨Bd, 0, none⟩), .pointer (some ⟨Bh, 0, none⟩)] w (Op1P Bh t w) := by
  have cd : w.cell? ⟨Bd, 0, none⟩ = some (pD D) := cell_of_arr hbd 0
  have HR := Lib.hid (readHead_any h hd hn)
  rw [ht] at HR
  have HB := Lib.hid hbh
  have hT := topC_len ht64
  clear h hd hn hbd hbh ht
  cases t with
  | none =>
    go_enter Try.func27, Try.ntmps27
    go_wp2_with (first
      | (go_at_call 28; refine (HR.out).mono ?_; rintro e w1 ⟨he, hb⟩; simp only at he; subst he; have HB1 := Lib.hid ((hb.block _ (lt_of_heap HB.out)).trans HB.out); have HF := Lib.hid hb; clear hb)
      | ((with_reducible refine wl_store (ty := 59) Bh 59 (bc x) (bc zero64) ?_ ?_ ?_ ?_ ?_ ?_ ?_); (· rfl); (· rfl); (· exact HB1.out); (· rw [bc_size, zero64_len]; exact info_head); (· rw [bc_size, bc_size, hx, zero64_len]); (· exact bc_one _)))
    go_ret
    exact ⟨rfl, setRow_heap _ _ _ _ _ _ HB1.out, Frq.setRow (G := (· = Bh)) (Frq.ofBelow HF.out) (.inl rfl) _⟩
  | some s =>
    have hs : s.length = 64 := ht64 s rfl
    go_enter Try.func27, Try.ntmps27
    go_wp2_with (first
      | (go_at_call 28; refine (HR.out).mono ?_; rintro e w1 ⟨he, hb⟩; simp only at he; subst he; have HB1 := Lib.hid ((hb.block _ (lt_of_heap HB.out)).trans HB.out); have HF := Lib.hid hb; clear hb)
      | ((with_reducible refine wl_store (ty := 59) Bh 59 (bc x) (bc s) ?_ ?_ ?_ ?_ ?_ ?_ ?_); (· rfl); (· rfl); (· exact HB1.out); (· rw [bc_size, hs]; exact info_head); (· rw [bc_size, bc_size, hx, hs]); (· exact bc_one _)))
    go_ret
    exact ⟨rfl, setRow_heap _ _ _ _ _ _ HB1.out, Frq.setRow (G := (· = Bh)) (Frq.ofBelow HF.out) (.inl rfl) _⟩
/-- the second step -/
def Op2P (J D : Nat) (rs : List By) (w : World) : Ending → World → Prop :=
  StepP (fun w' => ∃ v, Frq (· = J) w w' ∧ w'.heap[J]? = some (.cells #[pD D, .int .u64 0, v, .bool false] 57 (0, 0)) ∧ OwnB w' w.heap.size v (dat rs) ∧ ∀ k, v.ownBlock = some k → w.heap.size ≤ k) (fun _ _ => False)
set_option maxRecDepth 100000 in
set_option maxHeartbeats 1600000 in
theorem open2_any {D L M Bd Bh Bj J : Nat} {d : Dk} {w : World} (h : DkAt w D L M d) (hd : d.dead = false) (h4 : 4 ≤ d.n) (s : By) (hs : s.length = 64) (v0 : Value) (hbd : w.heap[Bd]? = some (.cells #[pD D] 24 (0, 0))) (hbh : w.heap[Bh]? = some (.cells (bc s) 59 (0, 0))) (hbj : w.heap[Bj]? = some (.cells #[pJ J] 29 (0, 0)))
    (hjs : w.heap[J]? = some (.cells #[pD D, .int .u64 0, v0, .bool false] 57 (0, 0))) (hv0 : v0.oneCell' = true) (hne : Bd ≠ J ∧ Bh ≠ J ∧ Bj ≠ J)
    (hlen : lenB s ≤ 64 * (d.n - 2)) (rs : List By) (t : By) (hdt : (rdsL d 2 (secs (lenB s))).take (lenB s) = dat rs ++ t) (ht : Stuck t) (htt : t = [] ∨ t ≠ []) :
    Calls Try.prog 29 #[.pointer (some ⟨Bd, 0, none⟩), .pointer (some ⟨Bh, 0, none⟩), .pointer (some ⟨Bj, 0, none⟩)] w (if t = [] then Op2P J D rs w else StepP (fun _ => False) (fun n w' => n = 130 ∧ Frq (· = J) w w')) := by
  have HD := Lib.hid h
  have HBD := Lib.hid hbd
  have HBH := Lib.hid hbh
  have HBJ := Lib.hid hbj
  have HJS := Lib.hid hjs
  have HLD := Lib.hid (lt_of_heap hbd)
  have HLH := Lib.hid (lt_of_heap hbh)
  have HLJ := Lib.hid (lt_of_heap hbj)
  have HS1 := Lib.hid (show Frq (· = J) w w.drew from (Frq.refl _ _).drew)
  obtain ⟨hn1, hn2, hn3⟩ := hne
  clear h hbd hbh hbj hjs
  rcases htt with ht0 | ht0
  · rw [if_pos ht0]
    go_enter Try.func29, Try.ntmps29
    go_wp2_with fail
    refine wp_region_held (S := Frq (· = J) w) (by kernel_rfl) ?_
    change wpAnyH _ _ _ _ _ _ _ _ (World.drew _)
    refine tkH (i := 0) (oi := ⟨some 5, .load 29 (.tmp 2), _, _, _, none⟩) (pJ J) rfl (by kernel_rfl) (fun _ _ _ h => h) (yH rfl (fun w3 h3 => by have q : w3.cell? ⟨Bj, 0, none⟩ = some (pJ J) := cell_of_arr ((h3.block _ HLJ.out (by omega)).trans HBJ.out) 0; go_simp)) HS1.out ?_
    simp only [Act.put, s1, s2, s3]
    refine tkH (i := 1) (oi := ⟨some 6, .load 24 (.tmp 0), _, _, _, none⟩) (pD D) rfl (by kernel_rfl) (fun _ _ _ h => h) (yH rfl (fun w3 h3 => by have q : w3.cell? ⟨Bd, 0, none⟩ = some (pD D) := cell_of_arr ((h3.block _ HLD.out (by omega)).trans HBD.out) 0; go_simp)) HS1.out ?_
    simp only [Act.put, s1, s2, s3]
    refine tkH (i := 2) (oi := ⟨some 7, .load 59 (.tmp 1), _, _, _, none⟩) (.agg (bc s)) rfl (by kernel_rfl) (fun _ _ _ h => h) (yH rfl (fun w3 h3 => ldX s hs rfl ((h3.block _ HLH.out (by omega)).trans HBH.out))) HS1.out ?_
    simp only [Act.put, s1, s2, s3]
    refine rdH (i := 3) (o := ⟨some 8, .call ⟨.value (.func 31), #[.tmp 7], _⟩, _, _, _, none⟩) (by kernel_rfl) rfl (fun K' hK => ?_)
    go_simp
    refine (length_any s hs _).mono ?_
    rintro e w4 ⟨rfl, hb4⟩
    have HS4 := Lib.hid (show Frq (· = J) w w4 from HS1.out.trans (Frq.ofBelow hb4))
    have hb4 : Below w.heap.size w w4 := ⟨hb4.os, hb4.tape, hb4.output, hb4.size, hb4.block⟩
    have HD4 := Lib.hid (show DkAt w4 D L M d from HD.out.below hb4 HD.out.ltD HD.out.ltL HD.out.ltM)
    have HB4 := Lib.hid hb4
    clear hb4
    refine hK.out _ _ HS4.out (fun _ => ?_)
    clear hK K'
    try (simp only [Act.put, s1, s2, s3])
    refine rdH (i := 4) (o := ⟨some 9, .call ⟨.value (.func 30), #[.tmp 6, .tmp 8], _⟩, _, _, _, none⟩) (by kernel_rfl) rfl (fun K' hK => ?_)
    go_simp
    refine (readData_any HD4.out hd h4 (lenB s) hlen rs t hdt ht).mono ?_
    rintro e w5 ⟨hq, hb5⟩
    rw [if_pos ht0] at hq
    obtain ⟨v, rfl, hrow⟩ := hq
    obtain ⟨vp, vc, rfl⟩ := own_slice hrow
    have HROW := Lib.hid hrow
    clear hrow
    have HS5 := Lib.hid (show Frq (· = J) w w5 from HS4.out.trans (Frq.ofBelow hb5))
    have HB5 := Lib.hid (show Below w.heap.size w w5 from HB4.out.trans (hb5.mono HB4.out.size))
    clear hb5
    refine hK.out _ _ HS5.out (fun _ => ?_)
    clear hK K'
    try (simp only [Act.put, s1, s2, s3])
    refine tkH (i := 5) (oi := ⟨some 4, .move (.tmp 9), _, _, _, none⟩) (.tuple #[.slice vp (dat rs).length vc, .int .i64 0]) rfl (by kernel_rfl) (fun _ _ _ h => h) (yH rfl (fun w3 h3 => by go_simp)) HS5.out ?_
    simp only [Act.put, s1, s2, s3]
    refine tkH (i := 6) (oi := ⟨some 10, .extract (.tmp 4) 0, _, _, _, none⟩) (.slice vp (dat rs).length vc) rfl (by kernel_rfl) (fun _ _ _ h => h) (yH rfl (fun w3 h3 => by go_simp)) HS5.out ?_
    simp only [Act.put, s1, s2, s3]
    refine tkH (i := 7) (oi := ⟨some 11, .extract (.tmp 4) 1, _, _, _, none⟩) (.int .i64 0) rfl (by kernel_rfl) (fun _ _ _ h => h) (yH rfl (fun w3 h3 => by go_simp)) HS5.out ?_
    simp only [Act.put, s1, s2, s3]
    refine tkH (i := 8) (oi := ⟨some 12, .nilCheck (.tmp 5), _, _, _, none⟩) (pJ J) rfl (by kernel_rfl) (fun _ _ _ h => h) (yH rfl (fun w3 h3 => by go_simp)) HS5.out ?_
    simp only [Act.put, s1, s2, s3]
    refine tkH (i := 9) (oi := ⟨some 13, .fieldAddr 57 (.tmp 12) 2, _, _, _, none⟩) (.pointer (some ⟨J, 2, none⟩)) rfl (by kernel_rfl) (fun _ _ _ h => h) (yH rfl (fun w3 h3 => by go_simp)) HS5.out ?_
    simp only [Act.put, s1, s2, s3]
    have HJ5 := Lib.hid ((HB5.out.block _ (lt_of_heap HJS.out)).trans HJS.out)
    have c5 : w5.cell? ⟨J, 2, none⟩ = some v0 := cell_of_arr HJ5.out 2
    have f5 : w5.frozen? ⟨J, 2, none⟩ = false := froz_of_arr HJ5.out 2
    refine rdH (i := 10) (o := ⟨none, .store 40 (.tmp 13) (.tmp 10), _, _, _, none⟩) (by kernel_rfl) rfl (fun K' hK => ?_)
    go_simp
    have HS6 := Lib.hid (show Frq (· = J) w (w5.setCell ⟨J, 2, none⟩ (.slice vp (dat rs).length vc)) from HS5.out.setCell (p := ⟨J, 2, none⟩) (.inl rfl) _)
    refine hK.out _ _ HS6.out (fun _ => ?_)
    clear hK K'
    try (simp only [Act.put, s1, s2, s3])
    refine tkH (i := 11) (oi := ⟨some 3, .assign (.tmp 11), _, _, _, none⟩) (.int .i64 0) rfl (by kernel_rfl) (fun _ _ _ h => h) (yH rfl (fun w3 h3 => by go_simp)) HS6.out ?_
    simp only [Act.put, s1, s2, s3]
    refine wpAnyH_done (by kernel_rfl) ?_ _
    go_wp2
    go_ret
    refine .inl ⟨rfl, _, HS6.out, by rw [set_heap HJ5.out]; rfl, ?_, ?_⟩
    · exact own_less (own_keep HROW.out (fun g cs _ hg => (Below.heap_setCell _ _ _ _ (fun e => by have e' : g = J := e; rw [e', HJ5.out] at hg; cases hg)).trans hg)) HB4.out.size
    · intro k e; exact Nat.le_trans HB4.out.size (own_lt HROW.out e).1
  · rw [if_neg ht0]
    go_enter Try.func29, Try.ntmps29
    go_wp2_with fail
    refine wp_region_held (S := Frq (· = J) w) (by kernel_rfl) ?_
    change wpAnyH _ _ _ _ _ _ _ _ (World.drew _)
    refine tkH (i := 0) (oi := ⟨some 5, .load 29 (.tmp 2), _, _, _, none⟩) (pJ J) rfl (by kernel_rfl) (fun _ _ _ h => h) (yH rfl (fun w3 h3 => by have q : w3.cell? ⟨Bj, 0, none⟩ = some (pJ J) := cell_of_arr ((h3.block _ HLJ.out (by omega)).trans HBJ.out) 0; go_simp)) HS1.out ?_
    simp only [Act.put, s1, s2, s3]
    refine tkH (i := 1) (oi := ⟨some 6, .load 24 (.tmp 0), _, _, _, none⟩) (pD D) rfl (by kernel_rfl) (fun _ _ _ h => h) (yH rfl (fun w3 h3 => by have q : w3.cell? ⟨Bd, 0, none⟩ = some (pD D) := cell_of_arr ((h3.block _ HLD.out (by omega)).trans HBD.out) 0; go_simp)) HS1.out ?_
    simp only [Act.put, s1, s2, s3]
    refine tkH (i := 2) (oi := ⟨some 7, .load 59 (.tmp 1), _, _, _, none⟩) (.agg (bc s)) rfl (by kernel_rfl) (fun _ _ _ h => h) (yH rfl (fun w3 h3 => ldX s hs rfl ((h3.block _ HLH.out (by omega)).trans HBH.out))) HS1.out ?_
    simp only [Act.put, s1, s2, s3]
    refine rdH (i := 3) (o := ⟨some 8, .call ⟨.value (.func 31), #[.tmp 7], _⟩, _, _, _, none⟩) (by kernel_rfl) rfl (fun K' hK => ?_)
    go_simp
    refine (length_any s hs _).mono ?_
    rintro e w4 ⟨rfl, hb4⟩
    have HS4 := Lib.hid (show Frq (· = J) w w4 from HS1.out.trans (Frq.ofBelow hb4))
    have hb4 : Below w.heap.size w w4 := ⟨hb4.os, hb4.tape, hb4.output, hb4.size, hb4.block⟩
    have HD4 := Lib.hid (show DkAt w4 D L M d from HD.out.below hb4 HD.out.ltD HD.out.ltL HD.out.ltM)
    have HB4 := Lib.hid hb4
    clear hb4
    refine hK.out _ _ HS4.out (fun _ => ?_)
    clear hK K'
    try (simp only [Act.put, s1, s2, s3])
    refine rdH (i := 4) (o := ⟨some 9, .call ⟨.value (.func 30), #[.tmp 6, .tmp 8], _⟩, _, _, _, none⟩) (by kernel_rfl) rfl (fun K' hK => ?_)
    go_simp
    refine (readData_any HD4.out hd h4 (lenB s) hlen rs t hdt ht).mono ?_
    rintro e w5 ⟨hq, hb5⟩
    rw [if_neg ht0] at hq
    subst hq
    have HS5 := Lib.hid (show Frq (· = J) w w5 from HS4.out.trans (Frq.ofBelow hb5))
    have HB5 := Lib.hid (show Below w.heap.size w w5 from HB4.out.trans (hb5.mono HB4.out.size))
    clear hb5
    refine hK.out _ _ HS5.out (fun _ => ?_)
    clear hK K'
    try (simp only [Act.put, s1, s2, s3])
    refine tkH (i := 5) (oi := ⟨some 4, .move (.tmp 9), _, _, _, none⟩) (.tuple #[.slice none 0 0, .int .i64 130]) rfl (by kernel_rfl) (fun _ _ _ h => h) (yH rfl (fun w3 h3 => by go_simp)) HS5.out ?_
    simp only [Act.put, s1, s2, s3]
    refine tkH (i := 6) (oi := ⟨some 10, .extract (.tmp 4) 0, _, _, _, none⟩) (.slice none 0 0) rfl (by kernel_rfl) (fun _ _ _ h => h) (yH rfl (fun w3 h3 => by go_simp)) HS5.out ?_
    simp only [Act.put, s1, s2, s3]
    refine tkH (i := 7) (oi := ⟨some 11, .extract (.tmp 4) 1, _, _, _, none⟩) (.int .i64 130) rfl (by kernel_rfl) (fun _ _ _ h => h) (yH rfl (fun w3 h3 => by go_simp)) HS5.out ?_
    simp only [Act.put, s1, s2, s3]
    refine tkH (i := 8) (oi := ⟨some 12, .nilCheck (.tmp 5), _, _, _, none⟩) (pJ J) rfl (by kernel_rfl) (fun _ _ _ h => h) (yH rfl (fun w3 h3 => by go_simp)) HS5.out ?_
    simp only [Act.put, s1, s2, s3]
    refine tkH (i := 9) (oi := ⟨some 13, .fieldAddr 57 (.tmp 12) 2, _, _, _, none⟩) (.pointer (some ⟨J, 2, none⟩)) rfl (by kernel_rfl) (fun _ _ _ h => h) (yH rfl (fun w3 h3 => by go_simp)) HS5.out ?_
    simp only [Act.put, s1, s2, s3]
    have HJ5 := Lib.hid ((HB5.out.block _ (lt_of_heap HJS.out)).trans HJS.out)
    have c5 : w5.cell? ⟨J, 2, none⟩ = some v0 := cell_of_arr HJ5.out 2
    have f5 : w5.frozen? ⟨J, 2, none⟩ = false := froz_of_arr HJ5.out 2
    refine rdH (i := 10) (o := ⟨none, .store 40 (.tmp 13) (.tmp 10), _, _, _, none⟩) (by kernel_rfl) rfl (fun K' hK => ?_)
    go_simp
    have HS6 := Lib.hid (show Frq (· = J) w (w5.setCell ⟨J, 2, none⟩ (.slice none 0 0)) from HS5.out.setCell (p := ⟨J, 2, none⟩) (.inl rfl) _)
    refine hK.out _ _ HS6.out (fun _ => ?_)
    clear hK K'
    try (simp only [Act.put, s1, s2, s3])
    refine tkH (i := 11) (oi := ⟨some 3, .assign (.tmp 11), _, _, _, none⟩) (.int .i64 130) rfl (by kernel_rfl) (fun _ _ _ h => h) (yH rfl (fun w3 h3 => by go_simp)) HS6.out ?_
    simp only [Act.put, s1, s2, s3]
    refine wpAnyH_done (by kernel_rfl) ?_ _
    go_wp2
    go_ret
    exact .inr ⟨130, by omega, rfl, rfl, HS6.out⟩
theorem topB_whole {s0 s1 s : By} {room : Nat} (h : topB s0 s1 room = some s) : wholeB s room = true ∧ (s = s0 ∨ s = s1) := by
  unfold topB at h
  split at h
  · split at h
    · rename_i h1 h2; obtain rfl := Option.some.inj h; exact ⟨h2.1, .inr rfl⟩
    · rename_i h1 h2; obtain rfl := Option.some.inj h; exact ⟨h1, .inl rfl⟩
  · split at h
    · rename_i h1 h2; obtain rfl := Option.some.inj h; exact ⟨h2, .inr rfl⟩
    · cases h
theorem whole_len {s : By} {room : Nat} (h : wholeB s room = true) : lenB s ≤ room := by
  unfold wholeB at h
  simp only [Bool.and_eq_true, decide_eq_true_eq] at h
  exact h.2
/-- while a disk is opened -/
structure OpI (w : World) (D L M : Nat) (d : Dk) (s : By) (v : Value) (W : World) : Prop where
  bd : W.heap[w.heap.size]? = some (.cells #[pD D] 24 (0, 0))
  js : W.heap[w.heap.size + 1]? = some (.cells #[pD D, .int .u64 0, v, .bool false] 57 (0, 0))
  bj : W.heap[w.heap.size + 1 + 1]? = some (.cells #[pJ (w.heap.size + 1)] 29 (0, 0))
  bh : W.heap[w.heap.size + 1 + 1 + 1]? = some (.cells (bc s) 59 (0, 0))
  q : W.heap[w.heap.size + 1 + 1 + 1 + 1]? = some (.cells #[.func (.func 27) #[] #[.pointer (some ⟨w.heap.size, 0, none⟩), .pointer (some ⟨w.heap.size + 1 + 1 + 1, 0, none⟩)], .func (.func 29) #[] #[.pointer (some ⟨w.heap.size, 0, none⟩), .pointer (some ⟨w.heap.size + 1 + 1 + 1, 0, none⟩), .pointer (some ⟨w.heap.size + 1 + 1, 0, none⟩)]] 63 (0, 0))
  dk : DkAt W D L M d
  b : Below w.heap.size w W
def opS (B : Nat) : List Stp3 := [⟨27, #[], #[.pointer (some ⟨B, 0, none⟩), .pointer (some ⟨B + 1 + 1 + 1, 0, none⟩)]⟩, ⟨29, #[], #[.pointer (some ⟨B, 0, none⟩), .pointer (some ⟨B + 1 + 1 + 1, 0, none⟩), .pointer (some ⟨B + 1 + 1, 0, none⟩)]⟩]
/-- what holds when so many steps are done -/
def OpK (w : World) (D L M : Nat) (d : Dk) (top : Option By) (rs : List By) (tl : By) (k : Nat) (W : World) : Prop :=
  match k with
  | 0 => OpI w D L M d zero64 (.slice none 0 0) W
  | 1 => ∃ s, top = some s ∧ OpI w D L M d s (.slice none 0 0) W
  | _ => ∃ s v, top = some s ∧ tl = [] ∧ OpI w D L M d s v W ∧ OwnB W w.heap.size v (dat rs)
theorem OpK.cells {w : World} {D L M : Nat} {d : Dk} {top : Option By} {rs : List By} {tl : By} {k : Nat} {W : World} (h : OpK w D L M d top rs tl k W) : ∃ s v, OpI w D L M d s v W := by
  match k, h with
  | 0, h => exact ⟨_, _, h⟩
  | 1, h => obtain ⟨s, _, h⟩ := h; exact ⟨_, _, h⟩
  | k + 2, h => obtain ⟨s, v, _, _, h, _⟩ := h; exact ⟨_, _, h⟩
theorem opS_ent (B : Nat) : ∀ (i : Nat) v, (opS B)[i]? = some v → Enters Try.prog v.g := by
  intro i v h
  match i, h with
  | 0, h => obtain rfl := Option.some.inj h; exact enters_of Try.func27 (by kernel_rfl) rfl
  | 1, h => obtain rfl := Option.some.inj h; exact enters_of Try.func29 (by kernel_rfl) rfl
  | i + 2, h => simp [opS] at h
theorem opS_step {w : World} {D L M : Nat} {d : Dk} (hD : D < w.heap.size ∧ L < w.heap.size ∧ M < w.heap.size) (hd : d.dead = false) (h4 : 4 ≤ d.n) (top : Option By) (ht : topB (d.rd 0) (d.rd 1) (64 * (d.n - 2)) = top) (rs : List By) (tl : By) (htl : Stuck tl)
    (hdt : ∀ s, top = some s → (rdsL d 2 (secs (lenB s))).take (lenB s) = dat rs ++ tl) : ∀ k v W, (opS w.heap.size)[k]? = some v → OpK w D L M d top rs tl k W →
    Calls Try.prog v.g (v.first ++ v.caps) W (StepP (OpK w D L M d top rs tl (k + 1)) (fun n W' => n = 130 ∧ (top = none ∨ tl ≠ []) ∧ Below w.heap.size w W')) := by
  intro k v W h hI
  match k, h, hI with
  | 0, h, hI =>
    obtain rfl := Option.some.inj h
    have hI : OpI w D L M d zero64 (.slice none 0 0) W := hI
    have h64 : ∀ s, top = some s → s.length = 64 := fun s hs => by
      rw [hs] at ht
      rcases (topB_whole ht).2 with h | h
      · rw [h]; exact hI.dk.ok.rd 0
      · rw [h]; exact hI.dk.ok.rd 1
    refine (open1_any (Bd := w.heap.size) (Bh := w.heap.size + 1 + 1 + 1) hI.dk hd h4 zero64 zero64_len hI.bd hI.bh top ht h64).mono ?_
    rintro e W' ⟨rfl, hb, hf⟩
    have same : ∀ b, b < W.heap.size → b ≠ w.heap.size + 1 + 1 + 1 → W'.heap[b]? = W.heap[b]? := fun b hb hn => hf.block b hb hn
    have hb2 : Below w.heap.size w W' := hI.b.trans (hf.below hI.b.size (fun k e => by omega))
    cases htp : top with
    | none => exact .inr ⟨130, by omega, rfl, rfl, .inl rfl, hb2⟩
    | some s =>
      rw [htp] at hb
      refine .inl ⟨rfl, s, rfl, ⟨(same _ (lt_of_heap hI.bd) (by omega)).trans hI.bd, (same _ (lt_of_heap hI.js) (by omega)).trans hI.js, (same _ (lt_of_heap hI.bj) (by omega)).trans hI.bj, hb, (same _ (lt_of_heap hI.q) (by omega)).trans hI.q, ?_, hb2⟩⟩
      exact hI.dk.kept (same _ hI.dk.ltD (by omega)) (same _ hI.dk.ltL (by omega)) (same _ hI.dk.ltM (by omega))
  | 1, h, hI =>
    obtain rfl := Option.some.inj h
    obtain ⟨s, hs, hI⟩ := hI
    have hw : wholeB s (64 * (d.n - 2)) = true := by rw [hs] at ht; exact (topB_whole ht).1
    have h64 : s.length = 64 := by
      rw [hs] at ht
      rcases (topB_whole ht).2 with h | h
      · rw [h]; exact hI.dk.ok.rd 0
      · rw [h]; exact hI.dk.ok.rd 1
    refine (open2_any (Bd := w.heap.size) (Bh := w.heap.size + 1 + 1 + 1) (Bj := w.heap.size + 1 + 1) (J := w.heap.size + 1) hI.dk hd h4 s h64 _ hI.bd hI.bh hI.bj hI.js rfl ⟨by omega, by omega, by omega⟩ (whole_len hw) rs tl (hdt s hs) htl (Classical.em _)).mono ?_
    intro e W' hq
    split at hq
    · rename_i ht0
      rcases hq with ⟨rfl, v, hf, hj, ho, _⟩ | ⟨n, hn, rfl, hf⟩
      · have same : ∀ b, b < W.heap.size → b ≠ w.heap.size + 1 → W'.heap[b]? = W.heap[b]? := fun b hb hn => hf.block b hb hn
        refine .inl ⟨rfl, s, v, hs, ht0, ⟨(same _ (lt_of_heap hI.bd) (by omega)).trans hI.bd, hj, (same _ (lt_of_heap hI.bj) (by omega)).trans hI.bj, (same _ (lt_of_heap hI.bh) (by omega)).trans hI.bh, (same _ (lt_of_heap hI.q) (by omega)).trans hI.q, hI.dk.kept (same _ hI.dk.ltD (by omega)) (same _ hI.dk.ltL (by omega)) (same _ hI.dk.ltM (by omega)), hI.b.trans (hf.below hI.b.size (fun k e => by omega))⟩, own_less ho hI.b.size⟩
      · exact hf.elim
    · rename_i ht0
      rcases hq with ⟨rfl, h⟩ | ⟨n, hn, rfl, rfl, hf⟩
      · exact h.elim
      · exact .inr ⟨130, hn, rfl, rfl, .inr ht0, hI.b.trans (hf.below hI.b.size (fun k e => by omega))⟩
  | k + 2, h, _ => simp [opS] at h
theorem opI_start {w : World} {D L M : Nat} {d : Dk} (h : DkAt w D L M d) (a b c e g : Obj) (ha : a = .cells #[pD D] 24) (hb : b = .cells #[pD D, .int .u64 0, .slice none 0 0, .bool false] 57) (hc : c = .cells #[pJ (w.heap.size + 1)] 29) (he : e = .cells (bc zero64) 59)
    (hg : g = .cells #[.func (.func 27) #[] #[.pointer (some ⟨w.heap.size, 0, none⟩), .pointer (some ⟨w.heap.size + 1 + 1 + 1, 0, none⟩)], .func (.func 29) #[] #[.pointer (some ⟨w.heap.size, 0, none⟩), .pointer (some ⟨w.heap.size + 1 + 1 + 1, 0, none⟩), .pointer (some ⟨w.heap.size + 1 + 1, 0, none⟩)]] 63) :
    OpI w D L M d zero64 (.slice none 0 0) (((((w.alloc a).alloc b).alloc c).alloc e).alloc g) := by
  subst ha hb hc he hg
  have hbb : Below w.heap.size w (((((w.alloc (.cells #[pD D] 24)).alloc (.cells #[pD D, .int .u64 0, .slice none 0 0, .bool false] 57)).alloc (.cells #[pJ (w.heap.size + 1)] 29)).alloc (.cells (bc zero64) 59)).alloc (.cells #[.func (.func 27) #[] #[.pointer (some ⟨w.heap.size, 0, none⟩), .pointer (some ⟨w.heap.size + 1 + 1 + 1, 0, none⟩)], .func (.func 29) #[] #[.pointer (some ⟨w.heap.size, 0, none⟩), .pointer (some ⟨w.heap.size + 1 + 1 + 1, 0, none⟩), .pointer (some ⟨w.heap.size + 1 + 1, 0, none⟩)]] 63)) :=
    (((((Below.refl _ w).alloc (Nat.le_refl _) _).alloc (by simp) _).alloc (by simp <;> omega) _).alloc (by simp <;> omega) _).alloc (by simp <;> omega) _
  refine ⟨?_, ?_, ?_, ?_, heap_last _ _ _ (by simp), h.below hbb h.ltD h.ltL h.ltM, hbb⟩
  · exact (heap_prev _ _ _ (by simp <;> omega)).trans ((heap_prev _ _ _ (by simp <;> omega)).trans ((heap_prev _ _ _ (by simp <;> omega)).trans ((heap_prev _ _ _ (by simp)).trans (heap_last _ _ _ rfl))))
  · exact (heap_prev _ _ _ (by simp <;> omega)).trans ((heap_prev _ _ _ (by simp <;> omega)).trans ((heap_prev _ _ _ (by simp)).trans (heap_last _ _ _ (by simp))))
  · exact (heap_prev _ _ _ (by simp <;> omega)).trans ((heap_prev _ _ _ (by simp)).trans (heap_last _ _ _ (by simp)))
  · exact (heap_prev _ _ _ (by simp)).trans (heap_last _ _ _ (by simp))
/-- what Open answers -/
def OpenP (D : Nat) (top : Option By) (rs : List By) (tl : By) (w : World) (e : Ending) (w' : World) : Prop :=
  (match top with
  | some s => if tl = [] then ∃ J v, e = .returned (.tuple #[pJ J, .int .i64 0]) ∧ JnAt w' J D w.heap.size v rs (numB s) false ∧ w.heap.size ≤ J else e = .returned (.tuple #[.pointer none, .int .i64 130])
  | none => e = .returned (.tuple #[.pointer none, .int .i64 130])) ∧ Below w.heap.size w w'
def OErr (n : Int) (w : World) (e : Ending) (w' : World) : Prop := e = .returned (.tuple #[.pointer none, .int .i64 n]) ∧ Below w.heap.size w w'
set_option maxRecDepth 100000 in
theorem open_nil (w : World) : Calls Try.prog 10 #[.pointer none] w (OErr 8 w) := by
  go_enter Try.func10, Try.ntmps10
  go_wp2
  go_ret2
  exact ⟨rfl, (Below.refl _ _).alloc (Nat.le_refl _) _⟩
set_option maxRecDepth 100000 in
theorem open_dead {D L M : Nat} {d : Dk} {w : World} (h : DkAt w D L M d) (hd : d.dead = true) : Calls Try.prog 10 #[pD D] w (OErr 120 w) := by
  have hb : Below w.heap.size w (w.alloc (.cells #[pD D] 24)) := (Below.refl _ _).alloc (Nat.le_refl _) _
  have HDD := Lib.hid (dead_any (h.below hb h.ltD h.ltL h.ltM))
  rw [hd] at HDD
  clear h hd hb
  go_enter Try.func10, Try.ntmps10
  go_wp2_with (go_at_call 16; refine (HDD.out).mono ?_; rintro e w1 ⟨rfl, rfl⟩)
  go_ret2
  exact ⟨rfl, (Below.refl _ _).alloc (Nat.le_refl _) _⟩
set_option maxRecDepth 100000 in
theorem open_small {D L M : Nat} {d : Dk} {w : World} (h : DkAt w D L M d) (hd : d.dead = false) (hn : d.n < 4) : Calls Try.prog 10 #[pD D] w (OErr 130 w) := by
  have hb : Below w.heap.size w (w.alloc (.cells #[pD D] 24)) := (Below.refl _ _).alloc (Nat.le_refl _) _
  have HDD := Lib.hid (dead_any (h.below hb h.ltD h.ltL h.ltM))
  have HSZ := Lib.hid (size_any (h.below hb h.ltD h.ltL h.ltM))
  rw [hd] at HDD
  have hn2 : (d.n : Int) ≤ 3 := by omega
  clear h hd hb hn
  generalize d.n = n at *
  go_enter Try.func10, Try.ntmps10
  go_wp2_with (first
    | (go_at_call 16; refine (HDD.out).mono ?_; rintro e w1 ⟨rfl, rfl⟩)
    | (go_at_call 25; refine (HSZ.out).mono ?_; rintro e w1 ⟨rfl, rfl⟩))
  go_ret2
  exact ⟨rfl, (Below.refl _ _).alloc (Nat.le_refl _) _⟩
set_option maxRecDepth 100000 in
set_option maxHeartbeats 1600000 in
theorem open_any {D L M : Nat} {d : Dk} {w : World} (h : DkAt w D L M d) (hd : d.dead = false) (h4 : 4 ≤ d.n) (top : Option By) (ht : topB (d.rd 0) (d.rd 1) (64 * (d.n - 2)) = top) (rs : List By) (tl : By) (htl : Stuck tl)
    (hdt : ∀ s, top = some s → (rdsL d 2 (secs (lenB s))).take (lenB s) = dat rs ++ tl) : Calls Try.prog 10 #[pD D] w (OpenP D top rs tl w) := by
  have hb : Below w.heap.size w (w.alloc (.cells #[pD D] 24)) := (Below.refl _ _).alloc (Nat.le_refl _) _
  have HDD := Lib.hid (dead_any (h.below hb h.ltD h.ltL h.ltM))
  have HSZ := Lib.hid (size_any (h.below hb h.ltD h.ltL h.ltM))
  rw [hd] at HDD
  have HD := Lib.hid h
  have HST := Lib.hid (opS_step ⟨h.ltD, h.ltL, h.ltM⟩ hd h4 top ht rs tl htl hdt)
  have HTS := Lib.hid (show ∀ s, top = some s → s.length = 64 from fun s hs => by
    rw [hs] at ht
    rcases (topB_whole ht).2 with hh | hh
    · rw [hh]; exact h.ok.rd 0
    · rw [hh]; exact h.ok.rd 1)
  have hn2 : (4 : Int) ≤ (d.n : Int) := by omega
  clear h hd hb h4 ht hdt
  go_enter Try.func10, Try.ntmps10
  go_wp2_with (first
    | (go_at_call 16; refine (HDD.out).mono ?_; rintro e w1 ⟨rfl, rfl⟩)
    | (go_at_call 25; refine (HSZ.out).mono ?_; rintro e w1 ⟨rfl, rfl⟩))
  generalize hW : World.alloc _ _ = W
  have hI : OpI w D L M d zero64 (.slice none 0 0) W := by
    subst hW
    exact opI_start HD.out _ _ _ _ _ rfl rfl rfl rfl rfl
  have HI := Lib.hid hI
  clear hI hW HDD HSZ
  refine (inRow_any (opS w.heap.size) (w.heap.size + 1 + 1 + 1 + 1) (OpK w D L M d top rs tl) (fun n W' => n = 130 ∧ (top = none ∨ tl ≠ []) ∧ Below w.heap.size w W') W (by show 2 ≤ 100; omega) (fun k W1 h1 i v hv => ?_) (opS_ent _) HST.out HI.out).mono ?_
  · obtain ⟨s, u, hh⟩ := h1.cells
    match i, hv with
    | 0, hv => obtain rfl := Option.some.inj hv; exact cell_of_arr hh.q 0
    | 1, hv => obtain rfl := Option.some.inj hv; exact cell_of_arr hh.q 1
    | i + 2, hv => simp [opS] at hv
  · rintro e w5 (⟨rfl, s, v, htop, htl0, hI5, hrow⟩ | ⟨n, hn, rfl, rfl, hbad, hb5⟩)
    · have HI5 := Lib.hid hI5
      have HTOP := Lib.hid htop
      have htop : s.length = 64 := HTS.out s htop
      have HTL := Lib.hid htl0
      have HROW := Lib.hid hrow
      have HS5 := Lib.hid (show Frq (· = w.heap.size + 1) w5 w5.drew from (Frq.refl _ _).drew)
      obtain ⟨vp, vc, rfl⟩ := own_slice hrow
      obtain ⟨top, htt⟩ : ∃ top, top = s := ⟨_, rfl⟩
      subst htt
      clear hI5 htl0 hrow hn2
      go_wp2_with fail
      refine wp_region_held (S := Frq (· = w.heap.size + 1) w5) (by kernel_rfl) ?_
      change wpAnyH _ _ _ _ _ _ _ _ (World.drew _)
      refine tkH (i := 0) (oi := ⟨some 27, .load 29 (.tmp 4), _, _, _, none⟩) (pJ (w.heap.size + 1)) rfl (by kernel_rfl) (fun _ _ _ h => h) (yH rfl (fun w3 h3 => by have q : w3.cell? ⟨w.heap.size + 1 + 1, 0, none⟩ = some (pJ (w.heap.size + 1)) := cell_of_arr ((h3.block _ (lt_of_heap HI5.out.bj) (by omega)).trans HI5.out.bj) 0; go_simp)) HS5.out ?_
      simp only [Act.put, s1, s2, s3]
      refine tkH (i := 1) (oi := ⟨some 28, .load 59 (.tmp 5), _, _, _, none⟩) (.agg (bc top)) rfl (by kernel_rfl) (fun _ _ _ h => h) (yH rfl (fun w3 h3 => ldX top htop rfl ((h3.block _ (lt_of_heap HI5.out.bh) (by omega)).trans HI5.out.bh))) HS5.out ?_
      simp only [Act.put, s1, s2, s3]
      refine rdH (i := 2) (o := ⟨some 29, .call ⟨.value (.func 32), #[.tmp 28], _⟩, _, _, _, none⟩) (by kernel_rfl) rfl (fun K' hK => ?_)
      go_simp
      refine (number_any top htop _).mono ?_
      rintro e w6 ⟨rfl, hb6⟩
      have HS6 := Lib.hid (show Frq (· = w.heap.size + 1) w5 w6 from HS5.out.trans (Frq.ofBelow hb6))
      have HB6 := Lib.hid (show Below w5.heap.size w5 w6 from ⟨hb6.os, hb6.tape, hb6.output, hb6.size, hb6.block⟩)
      clear hb6
      refine hK.out _ _ HS6.out (fun _ => ?_)
      clear hK K'
      try (simp only [Act.put, s1, s2, s3])
      refine tkH (i := 3) (oi := ⟨some 30, .nilCheck (.tmp 27), _, _, _, none⟩) (pJ (w.heap.size + 1)) rfl (by kernel_rfl) (fun _ _ _ h => h) (yH rfl (fun w3 h3 => by go_simp)) HS6.out ?_
      simp only [Act.put, s1, s2, s3]
      refine tkH (i := 4) (oi := ⟨some 31, .fieldAddr 57 (.tmp 30) 1, _, _, _, none⟩) (.pointer (some ⟨w.heap.size + 1, 1, none⟩)) rfl (by kernel_rfl) (fun _ _ _ h => h) (yH rfl (fun w3 h3 => by go_simp)) HS6.out ?_
      simp only [Act.put, s1, s2, s3]
      have HJ6 := Lib.hid ((HB6.out.block _ (lt_of_heap HI5.out.js)).trans HI5.out.js)
      have c6 : w6.cell? ⟨w.heap.size + 1, 1, none⟩ = some (.int .u64 0) := cell_of_arr HJ6.out 1
      have f6 : w6.frozen? ⟨w.heap.size + 1, 1, none⟩ = false := froz_of_arr HJ6.out 1
      refine rdH (i := 5) (o := ⟨none, .store 49 (.tmp 31) (.tmp 29), _, _, _, none⟩) (by kernel_rfl) rfl (fun K' hK => ?_)
      go_simp
      have HS7 := Lib.hid (show Frq (· = w.heap.size + 1) w5 (w6.setCell ⟨w.heap.size + 1, 1, none⟩ (.int .u64 (numB top : Int))) from HS6.out.setCell (p := ⟨w.heap.size + 1, 1, none⟩) (.inl rfl) _)
      refine hK.out _ _ HS7.out (fun _ => ?_)
      clear hK K'
      try (simp only [Act.put, s1, s2, s3])
      refine wpAnyH_done (by kernel_rfl) ?_ _
      have HB7 := Lib.hid (show Below w.heap.size w (w6.setCell ⟨w.heap.size + 1, 1, none⟩ (.int .u64 (numB top : Int))) from (HI5.out.b.trans (HB6.out.mono HI5.out.b.size)).setCell (p := ⟨w.heap.size + 1, 1, none⟩) (by show w.heap.size ≤ w.heap.size + 1; omega) _)
      have c7 : (w6.setCell ⟨w.heap.size + 1, 1, none⟩ (.int .u64 (numB top : Int))).cell? ⟨w.heap.size + 1 + 1, 0, none⟩ = some (pJ (w.heap.size + 1)) := cell_of_arr ((HS7.out.block _ (lt_of_heap HI5.out.bj) (by omega)).trans HI5.out.bj) 0
      go_wp2
      go_ret2
      unfold OpenP
      rw [HTOP.out]
      refine ⟨(if_pos HTL.out).mpr ⟨w.heap.size + 1, .slice vp (dat rs).length vc, rfl, ⟨?_, ?_⟩, by omega⟩, HB7.out⟩
      · rw [set_heap HJ6.out]; rfl
      · exact own_keep HROW.out (fun g cs _ hg => (HS7.out.block _ (lt_of_heap hg) (fun e => by rw [e, HI5.out.js] at hg; cases hg)).trans hg)
    · go_wp2
      go_ret2
      refine ⟨?_, hb5⟩
      rcases hbad with h | h
      · rw [h]; rfl
      · cases top with
        | none => rfl
        | some s => exact (if_neg h).mpr rfl
end Go.Proofs.Ytabahkeologbmaa.Jn
