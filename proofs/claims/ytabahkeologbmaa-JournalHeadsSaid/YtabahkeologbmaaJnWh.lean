/- Contract of whole: whether a head is one. -/
import Derived.Test.YtabahkeologbmaaJnH
import Derived.Test.YtabahkeologbmaaShaLaws3
import Derived.Test.YtabahkeologbmaaDkQ
import Derived.OrdersHeld
namespace Go.Proofs.Ytabahkeologbmaa.Jn
open Go.RowKit Go.Shelf Go.Dk Go.Jn Go.Sha Go.Proofs.Ytabahkeologbmaa.Dk

/-- an operation that is not wanted -/
theorem skH {P : Program} {S : World → Prop} {ops : Array Oper} {o : Oper} {a : Act} (hw : Region.wanted o (yielded ops a.tmps) = false) : YieldsIf P ops S o undef a := .inr ⟨hw, rfl⟩
theorem bc_bv (l : By) : bc l = bv (l.map fun c => c.toNat) := by
  rw [← Array.toList_inj, bc_list]
  simp [bv, Lib.byteCells]
theorem nat_inj (l k : By) : (l.map (fun c => c.toNat) = k.map fun c => c.toNat) = (l = k) := by
  refine propext ⟨fun h => ?_, fun h => by rw [h]⟩
  exact (List.map_inj_right (fun a b => UInt8.toNat_inj.1)).1 h
theorem eql_head (l k : By) (hl : l.length = 64) (hk : k.length = 64) (w : World) : (binOp .eql 59 (.agg (bc l)) (.agg (bc k))).run Try.prog w = .ok (.bool (decide (l = k))) w := by
  rw [bc_bv, bc_bv, run_eql_bytes w Try.underlying59 Try.underlying5 (by kernel_rfl) _ _ (by rw [List.length_map, hl]) (by rw [List.length_map, hk])]
  congr 2
  exact decide_eq_decide.2 (Iff.of_eq (nat_inj l k))
theorem ld_head {w : World} {g : Nat} {t : TypeId} (s : By) (hs : s.length = 64) (hg : w.heap[g]? = some (.cells (bc s) t (0, 0))) : (loadVar 59 ⟨g, 0, none⟩).run Try.prog w = .ok (.agg (bc s)) w :=
  run_loadVar_row w g t 59 (bc s) (0, 0) _ hg Try.underlying59 rfl (by rw [bc_size, hs]; exact info_head)
theorem ldX {w : World} {ρ : Operand → Value} {x : Operand} {g : Nat} {t : TypeId} {dst : Option Tmp} {typ : TypeId} {pos : String} {after : Array Edge} {gd : Option (Nat × Bool)} (s : By) (hs : s.length = 64) (hx : ρ x = .pointer (some ⟨g, 0, none⟩)) (hg : w.heap[g]? = some (.cells (bc s) t (0, 0))) :
    (execOp ρ (⟨dst, .load 59 x, typ, pos, after, gd⟩ : Oper)).run Try.prog w = .ok (.value (.agg (bc s))) w := by
  unfold execOp
  simp only [hx, Instr.loadAt, Instr.sureAddr, Sem.run_bind, Sem.run_pure, Result.andThen_ok, ld_head s hs hg]
theorem eqX {w : World} {ρ : Operand → Value} {x y : Operand} {dst : Option Tmp} {ty2 typ : TypeId} {pos : String} {after : Array Edge} {gd : Option (Nat × Bool)} (l k : By) (b : Bool) (hl : l.length = 64) (hk : k.length = 64) (hb : decide (l = k) = b) (hx : ρ x = .agg (bc l)) (hy : ρ y = .agg (bc k)) :
    (execOp ρ (⟨dst, .binOp .eql 59 x y ty2, typ, pos, after, gd⟩ : Oper)).run Try.prog w = .ok (.value (.bool b)) w := by
  unfold execOp
  simp only [hx, hy, Sem.run_bind, run_eqGuard_agg (P := Try.prog) w .eql 59 x y (bc l) (bc k) (by kernel_rfl), Result.andThen_ok, eql_head l k hl hk w, hb, Sem.run_pure]
set_option maxRecDepth 100000 in
set_option maxHeartbeats 1600000 in
theorem whole_any (s : By) (hs : s.length = 64) (room : Nat) (hr : room ≤ 1000000) (w : World) :
    Calls Try.prog 45 #[.agg (bc s), .int .i64 (room : Int)] w fun e w' => e = .returned (.bool (wholeB s room)) ∧ Below w.heap.size w w' := by
  obtain ⟨w1, hw1⟩ : ∃ w1, w.alloc (.cells (bc s) 59) = w1 := ⟨_, rfl⟩
  have HB1 := Lib.hid (show w1.heap[w.heap.size]? = some (.cells (bc s) 59 (0, 0)) from by rw [← hw1]; exact heap_last _ _ _ rfl)
  have HW1 := Lib.hid (show Below w.heap.size w w1 from by rw [← hw1]; exact (Below.refl _ _).alloc (Nat.le_refl _) _)
  have HS1 := Lib.hid (show Below (w.heap.size + 1) w1 w1.drew from ⟨rfl, rfl, rfl, Nat.le_refl _, fun _ _ => rfl⟩)
  have HSZ := Lib.hid (show w1.heap.size = w.heap.size + 1 from by rw [← hw1]; simp)
  have ho := bc_one s
  have hr0 : (0 : Int) ≤ (room : Int) := Int.natCast_nonneg _
  have hr1 : (room : Int) ≤ 1000000 := by omega
  have HN1 := Lib.hid (show numB s < 18446744073709551616 from numB_lt hs)
  have HN2 := Lib.hid (show lenB s < 18446744073709551616 from lenB_lt hs)
  by_cases he : s = headB (numB s) (lenB s)
  · have HEQ := Lib.hid (decide_eq_true he)
    by_cases hl : lenB s ≤ room
    · have HW := Lib.hid (show wholeB s room = true from by unfold wholeB; rw [HEQ.out, decide_eq_true hl]; rfl)
      have hi : decide ((lenB s : Int) ≤ (room : Int)) = true := decide_eq_true (by omega)
      clear he
      go_enter Try.func45, Try.ntmps45
      go_wp2_with fail
      clear hw1
      refine wp_region_held (S := Below (w.heap.size + 1) w1) (by kernel_rfl) ?_
      change wpAnyH _ _ _ _ _ _ _ _ (World.drew _)
      refine tkH (i := 0) (oi := ⟨some 5, .load 59 (.tmp 2), _, _, _, none⟩) (.agg (bc s)) rfl (by kernel_rfl) (fun _ _ _ h => h) (yH rfl (fun w3 h3 => ldX s hs rfl ((h3.block _ (by omega)).trans HB1.out))) HS1.out ?_
      simp only [Act.put, s1, s2, s3]
      refine tkH (i := 1) (oi := ⟨some 6, .load 59 (.tmp 2), _, _, _, none⟩) (.agg (bc s)) rfl (by kernel_rfl) (fun _ _ _ h => h) (yH rfl (fun w3 h3 => ldX s hs rfl ((h3.block _ (by omega)).trans HB1.out))) HS1.out ?_
      simp only [Act.put, s1, s2, s3]
      refine tkH (i := 3) (oi := ⟨some 8, .load 59 (.tmp 2), _, _, _, none⟩) (.agg (bc s)) rfl (by kernel_rfl) (fun _ _ _ h => h) (yH rfl (fun w3 h3 => ldX s hs rfl ((h3.block _ (by omega)).trans HB1.out))) HS1.out ?_
      simp only [Act.put, s1, s2, s3]
      refine rdH (i := 2) (o := ⟨some 7, .call ⟨.value (.func 32), #[.tmp 6], _⟩, _, _, _, none⟩) (by kernel_rfl) rfl (fun K' hK => ?_)
      go_simp
      refine (number_any s hs _).mono ?_
      rintro e w2 ⟨rfl, hb2⟩
      have HS2 := Lib.hid (show Below (w.heap.size + 1) w1 w2 from HS1.out.trans (hb2.mono (by have := HS1.out.size; have := HSZ.out; omega)))
      clear hb2
      refine hK.out _ _ HS2.out (fun _ => ?_)
      clear hK K'
      try (simp only [Act.put, s1, s2, s3])
      refine rdH (i := 4) (o := ⟨some 9, .call ⟨.value (.func 31), #[.tmp 8], _⟩, _, _, _, none⟩) (by kernel_rfl) rfl (fun K' hK => ?_)
      go_simp
      refine (length_any s hs _).mono ?_
      rintro e w3 ⟨rfl, hb3⟩
      have HS3 := Lib.hid (show Below (w.heap.size + 1) w1 w3 from HS2.out.trans (hb3.mono (by have := HS2.out.size; have := HSZ.out; omega)))
      clear hb3
      refine hK.out _ _ HS3.out (fun _ => ?_)
      clear hK K'
      try (simp only [Act.put, s1, s2, s3])
      refine rdH (i := 5) (o := ⟨some 10, .call ⟨.value (.func 52), #[.tmp 7, .tmp 9], _⟩, _, _, _, none⟩) (by kernel_rfl) rfl (fun K' hK => ?_)
      go_simp
      refine (headOf_any (numB s) (lenB s) HN1.out HN2.out _).mono ?_
      rintro e w4 ⟨rfl, hb4⟩
      have HS4 := Lib.hid (show Below (w.heap.size + 1) w1 w4 from HS3.out.trans (hb4.mono (by have := HS3.out.size; have := HSZ.out; omega)))
      clear hb4
      refine hK.out _ _ HS4.out (fun _ => ?_)
      clear hK K'
      try (simp only [Act.put, s1, s2, s3])
      refine tkH (i := 6) (oi := ⟨some 11, .binOp .eql 59 (.tmp 5) (.tmp 10) 59, _, _, _, none⟩) (.bool true) rfl (by kernel_rfl) (fun _ _ _ h => h) (yH rfl (fun w3 h3 => eqX s _ _ hs (headB_len _ _) HEQ.out rfl rfl)) HS4.out ?_
      simp only [Act.put, s1, s2, s3]
      refine tkH (i := 7) (oi := ⟨some 12, .move (.tmp 11), _, _, _, none⟩) (.bool true) rfl (by kernel_rfl) (fun _ _ _ h => h) (yH rfl (fun w3 h3 => by go_simp)) HS4.out ?_
      simp only [Act.put, s1, s2, s3]
      refine tkH (i := 8) (oi := ⟨some 13, .load 59 (.tmp 2), _, _, _, some (7, true)⟩) (.agg (bc s)) rfl (by kernel_rfl) (fun _ _ _ h => h) (yH rfl (fun w3 h3 => ldX s hs rfl ((h3.block _ (by omega)).trans HB1.out))) HS4.out ?_
      simp only [Act.put, s1, s2, s3]
      refine tkH (i := 10) (oi := ⟨some 15, .move (.tmp 1), _, _, _, some (7, true)⟩) (.int .i64 (room : Int)) rfl (by kernel_rfl) (fun _ _ _ h => h) (yH rfl (fun w3 h3 => by go_simp)) HS4.out ?_
      simp only [Act.put, s1, s2, s3]
      refine tkH (i := 11) (oi := ⟨some 16, .convert 3 49 (.tmp 15), _, _, _, some (7, true)⟩) (.int .u64 (room : Int)) rfl (by kernel_rfl) (fun _ _ _ h => h) (yH rfl (fun w3 h3 => by have q := u64_in hr0 (by omega); go_simp)) HS4.out ?_
      simp only [Act.put, s1, s2, s3]
      refine rdH (i := 9) (o := ⟨some 14, .call ⟨.value (.func 31), #[.tmp 13], _⟩, _, _, _, some (7, true)⟩) (by kernel_rfl) rfl (fun K' hK => ?_)
      go_simp
      refine (length_any s hs _).mono ?_
      rintro e w5 ⟨rfl, hb5⟩
      have HS5 := Lib.hid (show Below (w.heap.size + 1) w1 w5 from HS4.out.trans (hb5.mono (by have := HS4.out.size; have := HSZ.out; omega)))
      clear hb5
      refine hK.out _ _ HS5.out (fun _ => ?_)
      clear hK K'
      try (simp only [Act.put, s1, s2, s3])
      refine tkH (i := 12) (oi := ⟨some 17, .binOp .leq 49 (.tmp 14) (.tmp 16) 49, _, _, _, some (7, true)⟩) (.bool true) rfl (by kernel_rfl) (fun _ _ _ h => h) (yH rfl (fun w3 h3 => by go_simp)) HS5.out ?_
      simp only [Act.put, s1, s2, s3]
      refine tkH (i := 13) (oi := ⟨some 18, .pick (.tmp 12) (.tmp 17) (.const (.bool false)), _, _, _, none⟩) (.bool true) rfl (by kernel_rfl) (fun _ _ _ h => h) (yH rfl (fun w3 h3 => by go_simp)) HS5.out ?_
      simp only [Act.put, s1, s2, s3]
      refine tkH (i := 14) (oi := ⟨some 4, .assign (.tmp 18), _, _, _, none⟩) (.bool true) rfl (by kernel_rfl) (fun _ _ _ h => h) (yH rfl (fun w3 h3 => by go_simp)) HS5.out ?_
      simp only [Act.put, s1, s2, s3]
      refine wpAnyH_done (by kernel_rfl) ?_ _
      go_wp2
      go_ret
      refine ⟨by rw [HW.out]; rfl, (show Below w.heap.size w w1 from HW1.out).trans (HS5.out.mono (by omega))⟩
    · have HW := Lib.hid (show wholeB s room = false from by unfold wholeB; rw [HEQ.out, decide_eq_false hl]; rfl)
      have hi : decide ((lenB s : Int) ≤ (room : Int)) = false := decide_eq_false (by omega)
      clear he
      go_enter Try.func45, Try.ntmps45
      go_wp2_with fail
      clear hw1
      refine wp_region_held (S := Below (w.heap.size + 1) w1) (by kernel_rfl) ?_
      change wpAnyH _ _ _ _ _ _ _ _ (World.drew _)
      refine tkH (i := 0) (oi := ⟨some 5, .load 59 (.tmp 2), _, _, _, none⟩) (.agg (bc s)) rfl (by kernel_rfl) (fun _ _ _ h => h) (yH rfl (fun w3 h3 => ldX s hs rfl ((h3.block _ (by omega)).trans HB1.out))) HS1.out ?_
      simp only [Act.put, s1, s2, s3]
      refine tkH (i := 1) (oi := ⟨some 6, .load 59 (.tmp 2), _, _, _, none⟩) (.agg (bc s)) rfl (by kernel_rfl) (fun _ _ _ h => h) (yH rfl (fun w3 h3 => ldX s hs rfl ((h3.block _ (by omega)).trans HB1.out))) HS1.out ?_
      simp only [Act.put, s1, s2, s3]
      refine tkH (i := 3) (oi := ⟨some 8, .load 59 (.tmp 2), _, _, _, none⟩) (.agg (bc s)) rfl (by kernel_rfl) (fun _ _ _ h => h) (yH rfl (fun w3 h3 => ldX s hs rfl ((h3.block _ (by omega)).trans HB1.out))) HS1.out ?_
      simp only [Act.put, s1, s2, s3]
      refine rdH (i := 2) (o := ⟨some 7, .call ⟨.value (.func 32), #[.tmp 6], _⟩, _, _, _, none⟩) (by kernel_rfl) rfl (fun K' hK => ?_)
      go_simp
      refine (number_any s hs _).mono ?_
      rintro e w2 ⟨rfl, hb2⟩
      have HS2 := Lib.hid (show Below (w.heap.size + 1) w1 w2 from HS1.out.trans (hb2.mono (by have := HS1.out.size; have := HSZ.out; omega)))
      clear hb2
      refine hK.out _ _ HS2.out (fun _ => ?_)
      clear hK K'
      try (simp only [Act.put, s1, s2, s3])
      refine rdH (i := 4) (o := ⟨some 9, .call ⟨.value (.func 31), #[.tmp 8], _⟩, _, _, _, none⟩) (by kernel_rfl) rfl (fun K' hK => ?_)
      go_simp
      refine (length_any s hs _).mono ?_
      rintro e w3 ⟨rfl, hb3⟩
      have HS3 := Lib.hid (show Below (w.heap.size + 1) w1 w3 from HS2.out.trans (hb3.mono (by have := HS2.out.size; have := HSZ.out; omega)))
      clear hb3
      refine hK.out _ _ HS3.out (fun _ => ?_)
      clear hK K'
      try (simp only [Act.put, s1, s2, s3])
      refine rdH (i := 5) (o := ⟨some 10, .call ⟨.value (.func 52), #[.tmp 7, .tmp 9], _⟩, _, _, _, none⟩) (by kernel_rfl) rfl (fun K' hK => ?_)
      go_simp
      refine (headOf_any (numB s) (lenB s) HN1.out HN2.out _).mono ?_
      rintro e w4 ⟨rfl, hb4⟩
      have HS4 := Lib.hid (show Below (w.heap.size + 1) w1 w4 from HS3.out.trans (hb4.mono (by have := HS3.out.size; have := HSZ.out; omega)))
      clear hb4
      refine hK.out _ _ HS4.out (fun _ => ?_)
      clear hK K'
      try (simp only [Act.put, s1, s2, s3])
      refine tkH (i := 6) (oi := ⟨some 11, .binOp .eql 59 (.tmp 5) (.tmp 10) 59, _, _, _, none⟩) (.bool true) rfl (by kernel_rfl) (fun _ _ _ h => h) (yH rfl (fun w3 h3 => eqX s _ _ hs (headB_len _ _) HEQ.out rfl rfl)) HS4.out ?_
      simp only [Act.put, s1, s2, s3]
      refine tkH (i := 7) (oi := ⟨some 12, .move (.tmp 11), _, _, _, none⟩) (.bool true) rfl (by kernel_rfl) (fun _ _ _ h => h) (yH rfl (fun w3 h3 => by go_simp)) HS4.out ?_
      simp only [Act.put, s1, s2, s3]
      refine tkH (i := 8) (oi := ⟨some 13, .load 59 (.tmp 2), _, _, _, some (7, true)⟩) (.agg (bc s)) rfl (by kernel_rfl) (fun _ _ _ h => h) (yH rfl (fun w3 h3 => ldX s hs rfl ((h3.block _ (by omega)).trans HB1.out))) HS4.out ?_
      simp only [Act.put, s1, s2, s3]
      refine tkH (i := 10) (oi := ⟨some 15, .move (.tmp 1), _, _, _, some (7, true)⟩) (.int .i64 (room : Int)) rfl (by kernel_rfl) (fun _ _ _ h => h) (yH rfl (fun w3 h3 => by go_simp)) HS4.out ?_
      simp only [Act.put, s1, s2, s3]
      refine tkH (i := 11) (oi := ⟨some 16, .convert 3 49 (.tmp 15), _, _, _, some (7, true)⟩) (.int .u64 (room : Int)) rfl (by kernel_rfl) (fun _ _ _ h => h) (yH rfl (fun w3 h3 => by have q := u64_in hr0 (by omega); go_simp)) HS4.out ?_
      simp only [Act.put, s1, s2, s3]
      refine rdH (i := 9) (o := ⟨some 14, .call ⟨.value (.func 31), #[.tmp 13], _⟩, _, _, _, some (7, true)⟩) (by kernel_rfl) rfl (fun K' hK => ?_)
      go_simp
      refine (length_any s hs _).mono ?_
      rintro e w5 ⟨rfl, hb5⟩
      have HS5 := Lib.hid (show Below (w.heap.size + 1) w1 w5 from HS4.out.trans (hb5.mono (by have := HS4.out.size; have := HSZ.out; omega)))
      clear hb5
      refine hK.out _ _ HS5.out (fun _ => ?_)
      clear hK K'
      try (simp only [Act.put, s1, s2, s3])
      refine tkH (i := 12) (oi := ⟨some 17, .binOp .leq 49 (.tmp 14) (.tmp 16) 49, _, _, _, some (7, true)⟩) (.bool false) rfl (by kernel_rfl) (fun _ _ _ h => h) (yH rfl (fun w3 h3 => by go_simp)) HS5.out ?_
      simp only [Act.put, s1, s2, s3]
      refine tkH (i := 13) (oi := ⟨some 18, .pick (.tmp 12) (.tmp 17) (.const (.bool false)), _, _, _, none⟩) (.bool false) rfl (by kernel_rfl) (fun _ _ _ h => h) (yH rfl (fun w3 h3 => by go_simp)) HS5.out ?_
      simp only [Act.put, s1, s2, s3]
      refine tkH (i := 14) (oi := ⟨some 4, .assign (.tmp 18), _, _, _, none⟩) (.bool false) rfl (by kernel_rfl) (fun _ _ _ h => h) (yH rfl (fun w3 h3 => by go_simp)) HS5.out ?_
      simp only [Act.put, s1, s2, s3]
      refine wpAnyH_done (by kernel_rfl) ?_ _
      go_wp2
      go_ret
      refine ⟨by rw [HW.out]; rfl, (show Below w.heap.size w w1 from HW1.out).trans (HS5.out.mono (by omega))⟩
  · have HEQ := Lib.hid (decide_eq_false he)
    have HW := Lib.hid (show wholeB s room = false from by unfold wholeB; rw [HEQ.out]; rfl)
    clear he
    go_enter Try.func45, Try.ntmps45
    go_wp2_with fail
    clear hw1
    refine wp_region_held (S := Below (w.heap.size + 1) w1) (by kernel_rfl) ?_
    change wpAnyH _ _ _ _ _ _ _ _ (World.drew _)
    refine tkH (i := 0) (oi := ⟨some 5, .load 59 (.tmp 2), _, _, _, none⟩) (.agg (bc s)) rfl (by kernel_rfl) (fun _ _ _ h => h) (yH rfl (fun w3 h3 => ldX s hs rfl ((h3.block _ (by omega)).trans HB1.out))) HS1.out ?_
    simp only [Act.put, s1, s2, s3]
    refine tkH (i := 1) (oi := ⟨some 6, .load 59 (.tmp 2), _, _, _, none⟩) (.agg (bc s)) rfl (by kernel_rfl) (fun _ _ _ h => h) (yH rfl (fun w3 h3 => ldX s hs rfl ((h3.block _ (by omega)).trans HB1.out))) HS1.out ?_
    simp only [Act.put, s1, s2, s3]
    refine tkH (i := 3) (oi := ⟨some 8, .load 59 (.tmp 2), _, _, _, none⟩) (.agg (bc s)) rfl (by kernel_rfl) (fun _ _ _ h => h) (yH rfl (fun w3 h3 => ldX s hs rfl ((h3.block _ (by omega)).trans HB1.out))) HS1.out ?_
    simp only [Act.put, s1, s2, s3]
    refine rdH (i := 2) (o := ⟨some 7, .call ⟨.value (.func 32), #[.tmp 6], _⟩, _, _, _, none⟩) (by kernel_rfl) rfl (fun K' hK => ?_)
    go_simp
    refine (number_any s hs _).mono ?_
    rintro e w2 ⟨rfl, hb2⟩
    have HS2 := Lib.hid (show Below (w.heap.size + 1) w1 w2 from HS1.out.trans (hb2.mono (by have := HS1.out.size; have := HSZ.out; omega)))
    clear hb2
    refine hK.out _ _ HS2.out (fun _ => ?_)
    clear hK K'
    try (simp only [Act.put, s1, s2, s3])
    refine rdH (i := 4) (o := ⟨some 9, .call ⟨.value (.func 31), #[.tmp 8], _⟩, _, _, _, none⟩) (by kernel_rfl) rfl (fun K' hK => ?_)
    go_simp
    refine (length_any s hs _).mono ?_
    rintro e w3 ⟨rfl, hb3⟩
    have HS3 := Lib.hid (show Below (w.heap.size + 1) w1 w3 from HS2.out.trans (hb3.mono (by have := HS2.out.size; have := HSZ.out; omega)))
    clear hb3
    refine hK.out _ _ HS3.out (fun _ => ?_)
    clear hK K'
    try (simp only [Act.put, s1, s2, s3])
    refine rdH (i := 5) (o := ⟨some 10, .call ⟨.value (.func 52), #[.tmp 7, .tmp 9], _⟩, _, _, _, none⟩) (by kernel_rfl) rfl (fun K' hK => ?_)
    go_simp
    refine (headOf_any (numB s) (lenB s) HN1.out HN2.out _).mono ?_
    rintro e w4 ⟨rfl, hb4⟩
    have HS4 := Lib.hid (show Below (w.heap.size + 1) w1 w4 from HS3.out.trans (hb4.mono (by have := HS3.out.size; have := HSZ.out; omega)))
    clear hb4
    refine hK.out _ _ HS4.out (fun _ => ?_)
    clear hK K'
    try (simp only [Act.put, s1, s2, s3])
    refine tkH (i := 6) (oi := ⟨some 11, .binOp .eql 59 (.tmp 5) (.tmp 10) 59, _, _, _, none⟩) (.bool false) rfl (by kernel_rfl) (fun _ _ _ h => h) (yH rfl (fun w3 h3 => eqX s _ _ hs (headB_len _ _) HEQ.out rfl rfl)) HS4.out ?_
    simp only [Act.put, s1, s2, s3]
    refine tkH (i := 7) (oi := ⟨some 12, .move (.tmp 11), _, _, _, none⟩) (.bool false) rfl (by kernel_rfl) (fun _ _ _ h => h) (yH rfl (fun w3 h3 => by go_simp)) HS4.out ?_
    simp only [Act.put, s1, s2, s3]
    refine tkH (i := 8) (oi := ⟨some 13, .load 59 (.tmp 2), _, _, _, some (7, true)⟩) undef rfl (by kernel_rfl) (fun _ _ _ h => h) (skH rfl) HS4.out ?_
    simp only [Act.put, s1, s2, s3]
    refine tkH (i := 9) (oi := ⟨some 14, .call ⟨.value (.func 31), #[.tmp 13], _⟩, _, _, _, some (7, true)⟩) undef rfl (by kernel_rfl) (fun _ _ _ h => h) (skH rfl) HS4.out ?_
    simp only [Act.put, s1, s2, s3]
    refine tkH (i := 10) (oi := ⟨some 15, .move (.tmp 1), _, _, _, some (7, true)⟩) undef rfl (by kernel_rfl) (fun _ _ _ h => h) (skH rfl) HS4.out ?_
    simp only [Act.put, s1, s2, s3]
    refine tkH (i := 11) (oi := ⟨some 16, .convert 3 49 (.tmp 15), _, _, _, some (7, true)⟩) undef rfl (by kernel_rfl) (fun _ _ _ h => h) (skH rfl) HS4.out ?_
    simp only [Act.put, s1, s2, s3]
    refine tkH (i := 12) (oi := ⟨some 17, .binOp .leq 49 (.tmp 14) (.tmp 16) 49, _, _, _, some (7, true)⟩) undef rfl (by kernel_rfl) (fun _ _ _ h => h) (skH rfl) HS4.out ?_
    simp only [Act.put, s1, s2, s3]
    refine tkH (i := 13) (oi := ⟨some 18, .pick (.tmp 12) (.tmp 17) (.const (.bool false)), _, _, _, none⟩) (.bool false) rfl (by kernel_rfl) (fun _ _ _ h => h) (yH rfl (fun w3 h3 => by go_simp)) HS4.out ?_
    simp only [Act.put, s1, s2, s3]
    refine tkH (i := 14) (oi := ⟨some 4, .assign (.tmp 18), _, _, _, none⟩) (.bool false) rfl (by kernel_rfl) (fun _ _ _ h => h) (yH rfl (fun w3 h3 => by go_simp)) HS4.out ?_
    simp only [Act.put, s1, s2, s3]
    refine wpAnyH_done (by kernel_rfl) ?_ _
    go_wp2
    go_ret
    refine ⟨by rw [HW.out]; rfl, (show Below w.heap.size w w1 from HW1.out).trans (HS4.out.mono (by omega))⟩
end Go.Proofs.Ytabahkeologbmaa.Jn
