/- Contract: puts, the example. -/
import Derived.Test.YtjdfdihopgceoaaCdX
namespace Go.Proofs.Ytjdfdihopgceoaa.Cd
open Go.RowKit Go.Shelf Go.Dk Go.Jn Go.Cod

def exR : Rc := ⟨3, zCmd, 2, 258, zMsg⟩
def exB : By := [3, 2, 0, 0, 0, 0, 0, 0, 1, 2]
theorem ex_ok : OkRc true exR := ⟨by decide, ⟨by decide, by decide, by decide, by decide, by decide, by decide, by decide, ⟨by decide, .inl rfl⟩, ⟨by decide, .inl rfl, fun l h => by simp [exR, zCmd] at h⟩, ⟨by decide, .inl rfl, fun l h => by simp [exR, zCmd] at h⟩⟩, by decide, by decide, vld_zmsg⟩
theorem ex_put : putL exR = (0, exB) := by decide
theorem ex_enc : encRc exR = exB := by
  have := put_enc ex_ok (by rw [ex_put])
  rw [ex_put] at this
  exact this.symm
theorem ex_get : getL exB = some exR := by
  have := get_put ex_ok (by rw [ex_put])
  rwa [ex_enc] at this
theorem ex_cells : (recC exR nilV nilV).toArray = #[.int .u8 3, .int .u8 0, .int .u8 0, .int .u64 0, .int .u8 0, .string ⟨#[]⟩, .slice none 0 0, .int .i64 0, .slice none 0 0, .int .i64 0, .int .i64 0, .int .u8 2, .int .u64 258, .int .u8 0, .int .u8 0, .int .u64 0, .int .u8 0, .int .u8 0, .int .u16 0, .int .u32 0, .int .i64 0, .int .u8 0, .int .u32 0, .int .i64 0, .int .i64 0] := by
  have h : wrap64 ((0 : Nat) : Int) = 0 := wrap_nat 0 (by decide)
  simp only [recC, exR, zCmd, zMsg, messageK, cellsK, cellK, h]
  rfl
theorem ex_bc : bc exB = #[.int .u8 3, .int .u8 2, .int .u8 0, .int .u8 0, .int .u8 0, .int .u8 0, .int .u8 0, .int .u8 0, .int .u8 1, .int .u8 2] := by
  simp [bc, Lib.byteCells, exB]
theorem ex_str : str exB = .string ⟨#[3, 2, 0, 0, 0, 0, 0, 0, 1, 2]⟩ := rfl
set_option maxRecDepth 100000 in
set_option maxHeartbeats 3200000 in
theorem puts_any (w : World) : Calls Try.prog 15 #[] w fun e w' => e = .returned (.bool true) ∧ Below w.heap.size w w' := by
  have HP := Lib.hid (by
    have := put_any ex_ok none none 0 0 w (rowf_nil _ _) (rowf_nil _ _)
    unfold PutP at this
    rw [ex_put] at this
    rw [show Value.slice none exR.cmd.legs.length 0 = nilV from rfl, show Value.slice none exR.cmd.taxes.length 0 = nilV from rfl, ex_cells] at this
    exact this)
  go_enter Try.func15, Try.ntmps15
  go_wp2_with fail
  refine (HP.out).mono ?_
  rintro e w2 ⟨v, rfl, ho2, hb2⟩
  obtain ⟨p2, c2, rfl⟩ := own_slice ho2
  have HO2 := Lib.hid ho2
  have HB2 := Lib.hid hb2
  have hbk : BkB (w2.alloc (.cells (bc exB) 5)) w2.heap.size exB := heap_last _ _ _ rfl
  have HG := Lib.hid (by
    have := get_any exB (some ⟨w2.heap.size, 0, none⟩) 10 (w2.alloc (.cells (bc exB) 5)) (by decide) (hbk.bys.kept (fun b hb => ⟨by simp only at hb; simp; omega, rfl⟩))
    unfold GetP at this
    rw [ex_get] at this
    rw [ex_bc] at this
    exact this)
  have HB3 := Lib.hid (show Below w.heap.size w (w2.alloc (.cells (bc exB) 5)) from hb2.alloc hb2.size _)
  have HBX := Lib.hid ex_bc
  clear ho2 hb2 hbk HP
  go_wp2_with fail
  refine (HG.out).mono ?_
  rintro e w3 ⟨hb3, lv, tv, rfl, hrow⟩
  obtain ⟨rfl, rfl⟩ : lv = nilV ∧ tv = nilV := by
    rcases hrow with ⟨h, _⟩ | ⟨_, h⟩
    · simp [exR] at h
    · exact h
  have hb4 : Below w.heap.size w w3 := HB3.out.trans (by rw [← HBX.out] at hb3; exact hb3.mono HB3.out.size)
  have hw23 : w2.heap.size ≤ w3.heap.size := by have := hb3.size; simp at this; omega
  obtain ⟨w4, hw4⟩ : ∃ w4, w3.alloc (.cells (recC zRc nilV nilV).toArray 44) = w4 := ⟨_, rfl⟩
  have hg4 : w4.heap[w3.heap.size]? = some (.cells (recC zRc nilV nilV).toArray 44 (0, 0)) := by rw [← hw4]; exact heap_last _ _ _ rfl
  have hb4' : Below w.heap.size w w4 := by rw [← hw4]; exact hb4.alloc hb4.size _
  obtain ⟨R, hR⟩ : ∃ R, (recC exR nilV nilV).toArray = R := ⟨_, rfl⟩
  have hRs : (Try.prog.info? 44).map (·.size) = some R.size := by rw [← hR]; exact sizeRec rfl
  have hRo : R.all (·.oneCell') = true := by rw [← hR]; exact recC_one _ rfl rfl
  have hZR : (recC zRc nilV nilV).toArray.size = R.size := by rw [← hR]; rfl
  obtain ⟨w5, hw5⟩ : ∃ w5, w4.setRow w3.heap.size R = w5 := ⟨_, rfl⟩
  have hg5 : w5.heap[w3.heap.size]? = some (.cells R 44 (0, 0)) := by rw [← hw5]; exact setRow_heap w4 w3.heap.size _ _ _ _ hg4
  have x0 := cell_of_arr hg5 0
  have x11 := cell_of_arr hg5 11
  have x12 := cell_of_arr hg5 12
  rw [← hR] at x0 x11 x12
  simp only [recC, exR, List.getElem?_toArray, List.getElem?_cons_zero, List.getElem?_cons_succ] at x0 x11 x12
  have hcv : (convert 47 9 (.slice p2 exB.length c2)).run Try.prog w5 = .ok (str exB) w5 := by
    have ho3 : OwnB w5 w.heap.size (.slice p2 exB.length c2) exB := own_keep HO2.out (fun g cs e hg => by
      have hgl := lt_of_heap hg
      rw [← hw5, setRow_other _ _ _ _ (by omega), ← hw4, heap_prev _ _ _ (by omega)]
      rw [hb3.block g (by simp; omega), heap_prev _ _ _ hgl]
      exact hg)
    exact bys_str (row_own (F := fun _ => True) ho3 (fun _ _ => trivial))
  have HB5 := Lib.hid (show Below w.heap.size w w5 by rw [← hw5]; exact below_setRow hb4' (by have := hb4.size; omega) _)
  have HST := Lib.hid (And.intro hg4 (And.intro hRs (And.intro hZR hRo)))
  rw [hR]
  rw [zcells] at hw4
  rw [ex_str] at hcv
  clear hrow hb3 hb4 HG hb4' hg4 hRs hRo hZR hg5 hR HB3 HB2 HO2 HBX
  go_wp2_with (refine wpList_store_row rfl 44 _ _ rfl w3.heap.size R rfl rfl 44 _ HST.out.1 HST.out.2.1 HST.out.2.2.1 HST.out.2.2.2 ?_)
  go_ret
  exact ⟨rfl, HB5.out⟩
end Go.Proofs.Ytjdfdihopgceoaa.Cd
