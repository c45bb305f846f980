/- Contracts of left, Room and of commit's steps. -/
import Derived.Test.YtabahkeologbmaaJnRd
import Derived.Test.YtabahkeologbmaaJnIn
namespace Go.Proofs.Ytabahkeologbmaa.Jn
open Go.RowKit Go.Shelf Go.Dk Go.Jn Go.Sha Go.Proofs.Ytabahkeologbmaa.Dk

set_option maxRecDepth 100000 in
set_option maxHeartbeats 800000 in
theorem left_any {w : World} {J D L M base : Nat} {v : Value} {rs : List By} {num : Nat} {dead : Bool} {d : Dk} (hj : JnAt w J D base v rs num dead) (h : DkAt w D L M d) (h4 : 4 ≤ d.n) (hl : (dat rs).length ≤ 64 * (d.n - 2)) :
    Calls Try.prog 35 #[pJ J] w fun e w' => e = .returned (.int .i64 (((64 * (d.n - 2) : Nat) : Int) - ((dat rs).length : Int))) ∧ w' = w.drew := by
  have hn := h.ok.n2
  obtain ⟨vp, vc, rfl⟩ := own_slice hj.row
  have HJ := Lib.hid hj.hj
  have HLJ := Lib.hid (lt_of_heap hj.hj)
  have HS1 := Lib.hid (show Below w.heap.size w w.drew from ⟨rfl, rfl, rfl, Nat.le_refl _, fun _ _ => rfl⟩)
  have HRO := Lib.hid (roomOf_any (w := w.drew) (d := d) (h.below HS1.out h.ltD h.ltL h.ltM) (by omega))
  have hRb : 64 * (d.n - 2) ≤ 300000 := by omega
  clear hj h h4
  generalize 64 * (d.n - 2) = R at *
  have HW := Lib.hid (IntWalk.i64_in ((R : Int) - ((dat rs).length : Int)) (by omega))
  go_enter Try.func35, Try.ntmps35
  go_wp2_with fail
  refine wp_region_held (S := Below w.heap.size w) (by kernel_rfl) ?_
  change wpAnyH _ _ _ _ _ _ _ _ (World.drew _)
  refine tkH (i := 0) (oi := ⟨some 3, .move (.tmp 0), _, _, _, none⟩) (pJ J) rfl (by kernel_rfl) (fun _ _ _ h => h) (yH rfl (fun w3 h3 => by go_simp)) HS1.out ?_
  simp only [Act.put, s1, s2, s3]
  refine tkH (i := 1) (oi := ⟨some 4, .nilCheck (.tmp 3), _, _, _, none⟩) (pJ J) rfl (by kernel_rfl) (fun _ _ _ h => h) (yH rfl (fun w3 h3 => by go_simp)) HS1.out ?_
  simp only [Act.put, s1, s2, s3]
  refine tkH (i := 2) (oi := ⟨some 5, .fieldAddr 57 (.tmp 4) 0, _, _, _, none⟩) (pJ J) rfl (by kernel_rfl) (fun _ _ _ h => h) (yH rfl (fun w3 h3 => by go_simp)) HS1.out ?_
  simp only [Act.put, s1, s2, s3]
  refine tkH (i := 3) (oi := ⟨some 6, .load 24 (.tmp 5), _, _, _, none⟩) (pD D) rfl (by kernel_rfl) (fun _ _ _ h => h) (yH rfl (fun w3 h3 => by have q : w3.cell? ⟨J, 0, none⟩ = some (pD D) := cell_of_arr ((h3.block _ HLJ.out).trans HJ.out) 0; go_simp)) HS1.out ?_
  simp only [Act.put, s1, s2, s3]
  refine tkH (i := 5) (oi := ⟨some 8, .move (.tmp 0), _, _, _, none⟩) (pJ J) rfl (by kernel_rfl) (fun _ _ _ h => h) (yH rfl (fun w3 h3 => by go_simp)) HS1.out ?_
  simp only [Act.put, s1, s2, s3]
  refine tkH (i := 6) (oi := ⟨some 9, .nilCheck (.tmp 8), _, _, _, none⟩) (pJ J) rfl (by kernel_rfl) (fun _ _ _ h => h) (yH rfl (fun w3 h3 => by go_simp)) HS1.out ?_
  simp only [Act.put, s1, s2, s3]
  refine tkH (i := 7) (oi := ⟨some 10, .fieldAddr 57 (.tmp 9) 2, _, _, _, none⟩) (.pointer (some ⟨J, 2, none⟩)) rfl (by kernel_rfl) (fun _ _ _ h => h) (yH rfl (fun w3 h3 => by go_simp)) HS1.out ?_
  simp only [Act.put, s1, s2, s3]
  refine tkH (i := 8) (oi := ⟨some 11, .load 40 (.tmp 10), _, _, _, none⟩) (.slice vp (dat rs).length vc) rfl (by kernel_rfl) (fun _ _ _ h => h) (yH rfl (fun w3 h3 => by have q : w3.cell? ⟨J, 2, none⟩ = some (.slice vp (dat rs).length vc) := cell_of_arr ((h3.block _ HLJ.out).trans HJ.out) 2; go_simp)) HS1.out ?_
  simp only [Act.put, s1, s2, s3]
  refine tkH (i := 9) (oi := ⟨some 12, .call ⟨.builtin .len, #[.tmp 11], _⟩, _, _, _, none⟩) (.int .i64 ((dat rs).length : Int)) rfl (by kernel_rfl) (fun _ _ _ h => h) (yH rfl (fun w3 h3 => by go_simp)) HS1.out ?_
  simp only [Act.put, s1, s2, s3]
  refine rdH (i := 4) (o := ⟨some 7, .call ⟨.value (.func 46), #[.tmp 6], _⟩, _, _, _, none⟩) (by kernel_rfl) rfl (fun K' hK => ?_)
  go_simp
  refine (HRO.out).mono ?_
  rintro e w3 ⟨rfl, rfl⟩
  refine hK.out _ _ HS1.out (fun _ => ?_)
  clear hK K'
  try (simp only [Act.put, s1, s2, s3])
  refine tkH (i := 10) (oi := ⟨some 13, .binOp .sub 3 (.tmp 7) (.tmp 12) 3, _, _, _, none⟩) (.int .i64 ((R : Int) - ((dat rs).length : Int))) rfl (by kernel_rfl) (fun _ _ _ h => h) (yH rfl (fun w3 h3 => by have q := HW.out; go_simp)) HS1.out ?_
  simp only [Act.put, s1, s2, s3]
  refine tkH (i := 11) (oi := ⟨some 2, .assign (.tmp 13), _, _, _, none⟩) (.int .i64 ((R : Int) - ((dat rs).length : Int))) rfl (by kernel_rfl) (fun _ _ _ h => h) (yH rfl (fun w3 h3 => by go_simp)) HS1.out ?_
  simp only [Act.put, s1, s2, s3]
  refine wpAnyH_done (by kernel_rfl) ?_ _
  go_wp2
  go_ret
  exact ⟨rfl, rfl⟩
def roomL (d : Dk) (rs : List By) : Nat := 64 * (d.n - 2) - (dat rs).length - 4
set_option maxRecDepth 100000 in
theorem room_any {w : World} {J D L M base : Nat} {v : Value} {rs : List By} {num : Nat} {dead : Bool} {d : Dk} (hj : JnAt w J D base v rs num dead) (h : DkAt w D L M d) (h4 : 4 ≤ d.n) (hl : (dat rs).length ≤ 64 * (d.n - 2)) :
    Calls Try.prog 14 #[pJ J] w fun e w' => e = .returned (.int .i64 (roomL d rs : Int)) ∧ w' = w.drew := by
  have HL := Lib.hid (left_any hj h h4 hl)
  have hn := h.ok.n2
  have e1 : (roomL d rs : Int) = max (((64 * (d.n - 2) : Nat) : Int) - ((dat rs).length : Int) - 4) 0 := by unfold roomL; omega
  rw [e1]
  obtain ⟨x, hx⟩ : ∃ x : Int, ((64 * (d.n - 2) : Nat) : Int) - ((dat rs).length : Int) = x := ⟨_, rfl⟩
  rw [hx] at HL ⊢
  have hx0 : (0 : Int) ≤ x := by omega
  have hx1 : x ≤ 1000000 := by omega
  clear hj h hx e1
  go_enter Try.func14, Try.ntmps14
  go_wp2_with (go_at_call 35; refine (HL.out).mono ?_; rintro e w1 ⟨rfl, rfl⟩)
  go_ret
  exact ⟨rfl, rfl⟩
set_option maxRecDepth 100000 in
theorem room_nil (w : World) : Calls Try.prog 14 #[.pointer none] w fun e w' => e = .returned (.int .i64 0) ∧ w = w' := by
  go_enter Try.func14, Try.ntmps14
  go_wp2
  go_ret
  exact ⟨rfl, rfl⟩
theorem subX {w : World} {ρ : Operand → Value} {x y : Operand} {dst : Option Tmp} {typ : TypeId} {pos : String} {after : Array Edge} {gd : Option (Nat × Bool)} (p : Option Addr) (L cap lo : Nat) (l : Int) (hx : ρ x = .slice p L cap) (hy : ρ y = .int .i64 l) (hl : l = (lo : Int)) (h1 : lo ≤ L) :
    (execOp ρ (⟨dst, .slice 40 x (some y) none none, typ, pos, after, gd⟩ : Oper)).run Try.prog w = .ok (.value (.slice (sbp p cap lo) (L - lo) (cap - lo))) w := by
  unfold execOp
  simp only [hx, hy, Option.map_some, Option.map_none, Sem.run_bind, run_subL w p L cap lo l hl h1, Result.andThen_ok, Sem.run_pure]
theorem wf_nat {a : Nat} (h : a ≤ 1000000) : (Lit.int .i64 (a : Int)).wf = true := by
  have e1 : IntKind.i64.min = -9223372036854775808 := rfl
  have e2 : IntKind.i64.max = 9223372036854775807 := rfl
  simp only [Lit.wf, e1, e2, Bool.and_eq_true, decide_eq_true_eq]
  omega
set_option maxRecDepth 100000 in
set_option maxHeartbeats 1600000 in
theorem commit1_any {w : World} {J D L M Bj Bf Bd : Nat} {d : Dk} {u1 u2 : Value} {dd : Bool} (h : DkAt w D L M d) (np : Option Addr) (N nc fs : Nat) (data : By) (F : Nat → Prop) (hN : data.length = N) (hbj : w.heap[Bj]? = some (.cells #[pJ J] 29 (0, 0))) (hbf : w.heap[Bf]? = some (.cells #[.int .i64 (fs : Int)] 3 (0, 0))) (hbd : w.heap[Bd]? = some (.cells #[.slice np N nc] 40 (0, 0)))
    (hjs : w.heap[J]? = some (.cells #[pD D, u1, u2, .bool dd] 57 (0, 0))) (hne : (Bj ≠ D ∧ Bj ≠ M) ∧ (Bf ≠ D ∧ Bf ≠ M) ∧ (Bd ≠ D ∧ Bd ≠ M) ∧ (J ≠ D ∧ J ≠ M)) (hrow : BysF w F (.slice np N nc) data) (hF : ∀ x, F x → x < w.heap.size) (hfs : 64 * fs < N) (hN2 : N ≤ 300000) :
    Calls Try.prog 53 #[.pointer (some ⟨Bj, 0, none⟩), .pointer (some ⟨Bf, 0, none⟩), .pointer (some ⟨Bd, 0, none⟩)] w (WrP D L M d (2 + (fs : Int)) (padS (data.drop (64 * fs))) w) := by
  have HD := Lib.hid h
  have HBJ := Lib.hid hbj
  have HBF := Lib.hid hbf
  have HBD := Lib.hid hbd
  have HJS := Lib.hid hjs
  have HS1 := Lib.hid (show Frq (fun k => k = D ∨ k = M) w w.drew from (Frq.refl _ _).drew)
  obtain ⟨⟨n1, n2⟩, ⟨n3, n4⟩, ⟨n5, n6⟩, n7, n8⟩ := hne
  have hwf : (Lit.int .i64 (2 + (fs : Int))).wf = true := by
    have := wf_nat (a := 2 + fs) (by omega)
    rwa [show ((2 + fs : Nat) : Int) = 2 + (fs : Int) by omega] at this
  have hsub := row_sub hrow (64 * fs) (N - 64 * fs) hN (by omega)
  have hdl : ((data.drop (64 * fs)).take (N - 64 * fs)) = data.drop (64 * fs) := List.take_of_length_le (by rw [List.length_drop]; omega)
  rw [hdl] at hsub
  have hlen : (data.drop (64 * fs)).length = N - 64 * fs := by rw [List.length_drop]; omega
  have HPL := Lib.hid (show (padS (data.drop (64 * fs))).length ≤ 1000000 from by rw [padS_len, hlen]; unfold secs; omega)
  have HWS := Lib.hid (wholeS_any (data.drop (64 * fs)) (.slice (sbp np nc (64 * fs)) (N - 64 * fs) (nc - 64 * fs)) F (by omega) (by omega) w.drew (fun x hx => hF x hx) hsub)
  have f0 : (0 : Int) ≤ (fs : Int) := Int.natCast_nonneg _
  have f1 : (fs : Int) ≤ 300000 := by omega
  have HA1 := Lib.hid (IntWalk.i64_in (2 + (fs : Int)) (by omega))
  have HA2 := Lib.hid (IntWalk.i64_in ((fs : Int) * 64) (by omega))
  clear h hbj hbf hbd hjs hrow hsub
  go_enter Try.func53, Try.ntmps53
  go_wp2_with fail
  refine wp_region_held (S := Frq (fun k => k = D ∨ k = M) w) (by kernel_rfl) ?_
  change wpAnyH _ _ _ _ _ _ _ _ (World.drew _)
  refine tkH (i := 0) (oi := ⟨some 4, .load 29 (.tmp 0), _, _, _, none⟩) (pJ J) rfl (by kernel_rfl) (fun _ _ _ h => h) (yH rfl (fun w3 h3 => by have q : w3.cell? ⟨Bj, 0, none⟩ = some (pJ J) := cell_of_arr ((h3.block _ (lt_of_heap HBJ.out) (by omega)).trans HBJ.out) 0; go_simp)) HS1.out ?_
  simp only [Act.put, s1, s2, s3]
  refine tkH (i := 1) (oi := ⟨some 5, .nilCheck (.tmp 4), _, _, _, none⟩) (pJ J) rfl (by kernel_rfl) (fun _ _ _ h => h) (yH rfl (fun w3 h3 => by go_simp)) HS1.out ?_
  simp only [Act.put, s1, s2, s3]
  refine tkH (i := 2) (oi := ⟨some 6, .fieldAddr 57 (.tmp 5) 0, _, _, _, none⟩) (pJ J) rfl (by kernel_rfl) (fun _ _ _ h => h) (yH rfl (fun w3 h3 => by go_simp)) HS1.out ?_
  simp only [Act.put, s1, s2, s3]
  refine tkH (i := 3) (oi := ⟨some 7, .load 24 (.tmp 6), _, _, _, none⟩) (pD D) rfl (by kernel_rfl) (fun _ _ _ h => h) (yH rfl (fun w3 h3 => by have q : w3.cell? ⟨J, 0, none⟩ = some (pD D) := cell_of_arr ((h3.block _ (lt_of_heap HJS.out) (by omega)).trans HJS.out) 0; go_simp)) HS1.out ?_
  simp only [Act.put, s1, s2, s3]
  refine tkH (i := 4) (oi := ⟨some 8, .load 3 (.tmp 1), _, _, _, none⟩) (.int .i64 (fs : Int)) rfl (by kernel_rfl) (fun _ _ _ h => h) (yH rfl (fun w3 h3 => by have q : w3.cell? ⟨Bf, 0, none⟩ = some (.int .i64 (fs : Int)) := cell_of_arr ((h3.block _ (lt_of_heap HBF.out) (by omega)).trans HBF.out) 0; go_simp)) HS1.out ?_
  simp only [Act.put, s1, s2, s3]
  refine tkH (i := 5) (oi := ⟨some 9, .binOp .add 3 (.const (.int .i64 2)) (.tmp 8) 3, _, _, _, none⟩) (.int .i64 (2 + (fs : Int))) rfl (by kernel_rfl) (fun _ _ _ h => h) (yH rfl (fun w3 h3 => by have q := HA1.out; go_simp)) HS1.out ?_
  simp only [Act.put, s1, s2, s3]
  refine tkH (i := 6) (oi := ⟨some 10, .load 40 (.tmp 2), _, _, _, none⟩) (.slice np N nc) rfl (by kernel_rfl) (fun _ _ _ h => h) (yH rfl (fun w3 h3 => by have q : w3.cell? ⟨Bd, 0, none⟩ = some (.slice np N nc) := cell_of_arr ((h3.block _ (lt_of_heap HBD.out) (by omega)).trans HBD.out) 0; go_simp)) HS1.out ?_
  simp only [Act.put, s1, s2, s3]
  refine tkH (i := 7) (oi := ⟨some 11, .load 3 (.tmp 1), _, _, _, none⟩) (.int .i64 (fs : Int)) rfl (by kernel_rfl) (fun _ _ _ h => h) (yH rfl (fun w3 h3 => by have q : w3.cell? ⟨Bf, 0, none⟩ = some (.int .i64 (fs : Int)) := cell_of_arr ((h3.block _ (lt_of_heap HBF.out) (by omega)).trans HBF.out) 0; go_simp)) HS1.out ?_
  simp only [Act.put, s1, s2, s3]
  refine tkH (i := 8) (oi := ⟨some 12, .binOp .mul 3 (.tmp 11) (.const (.int .i64 64)) 3, _, _, _, none⟩) (.int .i64 ((fs : Int) * 64)) rfl (by kernel_rfl) (fun _ _ _ h => h) (yH rfl (fun w3 h3 => by have q := HA2.out; go_simp)) HS1.out ?_
  simp only [Act.put, s1, s2, s3]
  refine tkH (i := 9) (oi := ⟨some 13, .slice 40 (.tmp 10) (some (.tmp 12)) none none, _, _, _, none⟩) (.slice (sbp np nc (64 * fs)) (N - 64 * fs) (nc - 64 * fs)) rfl (by kernel_rfl) (fun _ _ _ h => h) (yH rfl (fun w3 h3 => subX np N nc (64 * fs) ((fs : Int) * 64) rfl rfl (by omega) (by omega))) HS1.out ?_
  simp only [Act.put, s1, s2, s3]
  refine rdH (i := 10) (o := ⟨some 14, .call ⟨.value (.func 54), #[.tmp 13], _⟩, _, _, _, none⟩) (by kernel_rfl) rfl (fun K' hK => ?_)
  go_simp
  refine (HWS.out).mono ?_
  rintro e w4 ⟨rfl, hg4, hb4⟩
  have HS4 := Lib.hid (show Frq (fun k => k = D ∨ k = M) w w4 from HS1.out.trans (Frq.ofBelow hb4))
  have hb4 : Below w.heap.size w w4 := ⟨hb4.os, hb4.tape, hb4.output, hb4.size, hb4.block⟩
  have HD4 := Lib.hid (HD.out.below hb4 HD.out.ltD HD.out.ltL HD.out.ltM)
  have HG4 := Lib.hid (show w4.heap[w.heap.size]? = some (.cells (bc (padS (data.drop (64 * fs)))) 5 (0, 0)) from hg4)
  clear hg4 hb4
  refine hK.out _ _ HS4.out (fun _ => ?_)
  clear hK K'
  try (simp only [Act.put, s1, s2, s3])
  refine rdH (i := 11) (o := ⟨some 15, .call ⟨.value (.func 23), #[.tmp 7, .tmp 9, .tmp 14], _⟩, _, _, _, none⟩) (by kernel_rfl) rfl (fun K' hK => ?_)
  go_simp
  refine (write_gen HD4.out (2 + (fs : Int)) hwf (padS (data.drop (64 * fs))) _ (· = w.heap.size) HPL.out ⟨_, _, rfl, Nat.le_refl _, fun _ => ⟨w.heap.size, 0, rfl, rfl, fun j u hu => by rw [Nat.zero_add, cell_of_arr HG4.out, bc_get]; exact hu⟩⟩ (fun x hx => by subst hx; have := lt_of_heap HG4.out; have := HD.out.ltD; have := HD.out.ltM; omega)).mono ?_
  rintro e w5 ⟨rfl, hd5, hf5⟩
  have HD5 := Lib.hid hd5
  have HS5 := Lib.hid (show Frq (fun k => k = D ∨ k = M) w w5 from HS4.out.trans hf5)
  clear hd5 hf5
  refine hK.out _ _ HS5.out (fun _ => ?_)
  clear hK K'
  try (simp only [Act.put, s1, s2, s3])
  refine tkH (i := 12) (oi := ⟨some 3, .assign (.tmp 15), _, _, _, none⟩) (.int .i64 (Dk.wr d (2 + (fs : Int)) (padS (data.drop (64 * fs)))).1) rfl (by kernel_rfl) (fun _ _ _ h => h) (yH rfl (fun w3 h3 => by go_simp)) HS5.out ?_
  simp only [Act.put, s1, s2, s3]
  refine wpAnyH_done (by kernel_rfl) ?_ _
  go_wp2
  go_ret
  exact ⟨rfl, HD5.out, HS5.out⟩
set_option maxRecDepth 100000 in
set_option maxHeartbeats 1600000 in
theorem commit2_any {w : World} {J D L M Bj Bn Bh : Nat} {d : Dk} {u1 u2 : Value} {dd : Bool} (h : DkAt w D L M d) (nx : Nat) (hnx : nx < 18446744073709551616) (hd : By) (hh : hd.length = 64) (hbj : w.heap[Bj]? = some (.cells #[pJ J] 29 (0, 0))) (hbn : w.heap[Bn]? = some (.cells #[.int .u64 (nx : Int)] 49 (0, 0))) (hbh : w.heap[Bh]? = some (.cells (bc hd) 59 (0, 0)))
    (hjs : w.heap[J]? = some (.cells #[pD D, u1, u2, .bool dd] 57 (0, 0))) (hne : (Bj ≠ D ∧ Bj ≠ M) ∧ (Bn ≠ D ∧ Bn ≠ M) ∧ (Bh ≠ D ∧ Bh ≠ M) ∧ (J ≠ D ∧ J ≠ M)) :
    Calls Try.prog 56 #[.pointer (some ⟨Bj, 0, none⟩), .pointer (some ⟨Bn, 0, none⟩), .pointer (some ⟨Bh, 0, none⟩)] w (WrP D L M d ((nx % 2 : Nat) : Int) hd w) := by
  have HD0 := Lib.hid (show DkAt w.drew D L M d from h.below (B := w.heap.size) ⟨rfl, rfl, rfl, Nat.le_refl _, fun _ _ => rfl⟩ h.ltD h.ltL h.ltM)
  have HBJ := Lib.hid hbj
  have HBN := Lib.hid hbn
  have HBH := Lib.hid hbh
  have HJS := Lib.hid hjs
  have HS1 := Lib.hid (show Frq (fun k => k = D ∨ k = M) w w.drew from (Frq.refl _ _).drew)
  obtain ⟨⟨n1, n2⟩, ⟨n3, n4⟩, ⟨n5, n6⟩, n7, n8⟩ := hne
  have hwf : (Lit.int .i64 ((nx % 2 : Nat) : Int)).wf = true := wf_nat (by omega)
  have HR1 := Lib.hid (show (nx : Int).tmod 2 = ((nx % 2 : Nat) : Int) from rfl)
  have HR2 := Lib.hid (IntWalk.i64_in ((nx : Int) % 2) (by omega))
  have x0 : (0 : Int) ≤ (nx : Int) := Int.natCast_nonneg _
  clear h hbj hbn hbh hjs hnx
  go_enter Try.func56, Try.ntmps56
  go_wp2_with fail
  refine wp_region_held (S := Frq (fun k => k = D ∨ k = M) w) (by kernel_rfl) ?_
  change wpAnyH _ _ _ _ _ _ _ _ (World.drew _)
  refine tkH (i := 0) (oi := ⟨some 4, .load 29 (.tmp 0), _, _, _, none⟩) (pJ J) rfl (by kernel_rfl) (fun _ _ _ h => h) (yH rfl (fun w3 h3 => by have q : w3.cell? ⟨Bj, 0, none⟩ = some (pJ J) := cell_of_arr ((h3.block _ (lt_of_heap HBJ.out) (by omega)).trans HBJ.out) 0; go_simp)) HS1.out ?_
  simp only [Act.put, s1, s2, s3]
  refine tkH (i := 1) (oi := ⟨some 5, .nilCheck (.tmp 4), _, _, _, none⟩) (pJ J) rfl (by kernel_rfl) (fun _ _ _ h => h) (yH rfl (fun w3 h3 => by go_simp)) HS1.out ?_
  simp only [Act.put, s1, s2, s3]
  refine tkH (i := 2) (oi := ⟨some 6, .fieldAddr 57 (.tmp 5) 0, _, _, _, none⟩) (pJ J) rfl (by kernel_rfl) (fun _ _ _ h => h) (yH rfl (fun w3 h3 => by go_simp)) HS1.out ?_
  simp only [Act.put, s1, s2, s3]
  refine tkH (i := 3) (oi := ⟨some 7, .load 24 (.tmp 6), _, _, _, none⟩) (pD D) rfl (by kernel_rfl) (fun _ _ _ h => h) (yH rfl (fun w3 h3 => by have q : w3.cell? ⟨J, 0, none⟩ = some (pD D) := cell_of_arr ((h3.block _ (lt_of_heap HJS.out) (by omega)).trans HJS.out) 0; go_simp)) HS1.out ?_
  simp only [Act.put, s1, s2, s3]
  refine tkH (i := 4) (oi := ⟨some 8, .load 49 (.tmp 1), _, _, _, none⟩) (.int .u64 (nx : Int)) rfl (by kernel_rfl) (fun _ _ _ h => h) (yH rfl (fun w3 h3 => by have q : w3.cell? ⟨Bn, 0, none⟩ = some (.int .u64 (nx : Int)) := cell_of_arr ((h3.block _ (lt_of_heap HBN.out) (by omega)).trans HBN.out) 0; go_simp)) HS1.out ?_
  simp only [Act.put, s1, s2, s3]
  refine tkH (i := 5) (oi := ⟨some 9, .binOp .rem 49 (.tmp 8) (.const (.int .u64 2)) 49, _, _, _, none⟩) (.int .u64 ((nx % 2 : Nat) : Int)) rfl (by kernel_rfl) (fun _ _ _ h => h) (yH rfl (fun w3 h3 => by have q := HR1.out; go_simp)) HS1.out ?_
  simp only [Act.put, s1, s2, s3]
  refine tkH (i := 6) (oi := ⟨some 10, .convert 49 3 (.tmp 9), _, _, _, none⟩) (.int .i64 ((nx % 2 : Nat) : Int)) rfl (by kernel_rfl) (fun _ _ _ h => h) (yH rfl (fun w3 h3 => by have q := HR2.out; go_simp)) HS1.out ?_
  simp only [Act.put, s1, s2, s3]
  refine tkH (i := 7) (oi := ⟨some 11, .slice 59 (.tmp 2) none none none, _, _, _, none⟩) (.slice (some ⟨Bh, 0, none⟩) 64 64) rfl (by kernel_rfl) (fun _ _ _ h => h) (yH rfl (fun w3 h3 => by go_simp)) HS1.out ?_
  simp only [Act.put, s1, s2, s3]
  refine rdH (i := 8) (o := ⟨some 12, .call ⟨.value (.func 23), #[.tmp 7, .tmp 10, .tmp 11], _⟩, _, _, _, none⟩) (by kernel_rfl) rfl (fun K' hK => ?_)
  go_simp
  refine (write_gen HD0.out ((nx % 2 : Nat) : Int) hwf hd _ (· = Bh) (by omega) ⟨_, _, by rw [hh], by rw [hh]; exact Nat.le_refl _, fun _ => ⟨Bh, 0, rfl, rfl, fun j u hu => by rw [Nat.zero_add]; exact (cell_of_arr (W := w.drew) HBH.out j).trans (by rw [bc_get]; exact hu)⟩⟩ (fun x hx => by subst hx; exact ⟨lt_of_heap HBH.out, by omega, by omega⟩)).mono ?_
  rintro e w5 ⟨rfl, hd5, hf5⟩
  have HD5 := Lib.hid hd5
  have HS5 := Lib.hid (show Frq (fun k => k = D ∨ k = M) w w5 from HS1.out.trans hf5)
  clear hd5 hf5
  refine hK.out _ _ HS5.out (fun _ => ?_)
  clear hK K'
  try (simp only [Act.put, s1, s2, s3])
  refine tkH (i := 9) (oi := ⟨some 3, .assign (.tmp 12), _, _, _, none⟩) (.int .i64 (Dk.wr d ((nx % 2 : Nat) : Int) hd).1) rfl (by kernel_rfl) (fun _ _ _ h => h) (yH rfl (fun w3 h3 => by go_simp)) HS5.out ?_
  simp only [Act.put, s1, s2, s3]
  refine wpAnyH_done (by kernel_rfl) ?_ _
  go_wp2
  go_ret
  exact ⟨rfl, HD5.out, HS5.out⟩
end Go.Proofs.Ytabahkeologbmaa.Jn
