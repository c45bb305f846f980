/- Contract of number.Parse. -/
import Derived.Test.YtjlifjgljejabaaGreatDoorNuX
namespace Go.Proofs.YtjlifjgljejabaaGreatDoor.Nu
open Go.RowKit Go.Shelf Go.Number

theorem cell_of_arr {W : World} {g : Nat} {A : Array Value} {ty : TypeId} (h : W.heap[g]? = some (.cells A ty (0, 0))) (i : Nat) : W.cell? ⟨g, i, none⟩ = A[i]? := by simp [World.cell?, h]
theorem frozen_of_arr {W : World} {g : Nat} {A : Array Value} {ty : TypeId} (h : W.heap[g]? = some (.cells A ty (0, 0))) (i : Nat) : W.frozen? ⟨g, i, none⟩ = false := by simp [World.frozen?, h]
theorem set_arr {W : World} {g : Nat} {A : Array Value} {ty : TypeId} (h : W.heap[g]? = some (.cells A ty (0, 0))) (i : Nat) (u : Value) : (W.setCell ⟨g, i, none⟩ u).heap[g]? = some (.cells (A.setIfInBounds i u) ty (0, 0)) := by
  obtain ⟨hlt, hk⟩ := Array.getElem?_eq_some_iff.1 h
  show (W.heap.modify g _)[g]? = _
  rw [Array.getElem?_eq_getElem (by rw [Array.size_modify]; exact hlt), Array.getElem_modify_self, hk]
  rfl
theorem set2 {W : World} {g : Nat} {x y : Value} {ty : TypeId} (h : W.heap[g]? = some (.cells #[x, y] ty (0, 0))) (a b : Value) :
    ((W.setCell ⟨g, 0, none⟩ a).setCell ⟨g, 1, none⟩ b).heap[g]? = some (.cells #[a, b] ty (0, 0)) := set_arr (set_arr h 0 a) 1 b
theorem results_cell_tmp_row {P : Program} {fn : Func} {p u : Tmp} {ty : TypeId} (h : fn.results = #[.cell p ty, .tmp u]) (tmps : Array Value) (w : World) (g : Nat) (t : TypeId) (cs : Array Value) (fr : Nat × Nat) (d : TypeDesc)
    (hp : tmps.getD p undef = .pointer (some ⟨g, 0, none⟩)) (hg : w.heap[g]? = some (.cells cs t fr))
    (hu : P.underlying ty = some d) (hd : (match d with | .struct _ | .array _ _ => true | _ => false) = true) (hi : (P.info? ty).map (·.size) = some cs.size) :
    (results fn tmps).run P w = .ok (.tuple #[.agg cs, tmps.getD u undef]) w := by
  rw [results_cell_tmp h, hp]
  simp only [asAddr, Sem.run_pure, Result.andThen_ok, run_loadVar_row w g t ty cs fr d hg hu hd hi]
theorem set4 {W : World} {g : Nat} {x y z u : Value} {ty : TypeId} (h : W.heap[g]? = some (.cells #[x, y, z, u] ty (0, 0))) (a b c d : Value) :
    (((((W.setCell ⟨g, 0, none⟩ a).setCell ⟨g, 1, none⟩ b).setCell ⟨g, 2, none⟩ c).setCell ⟨g, 3, none⟩ d).drew).heap[g]? = some (.cells #[a, b, c, d] ty (0, 0)) := by
  have h1 : (W.setCell ⟨g, 0, none⟩ a).heap[g]? = some (.cells #[a, y, z, u] ty (0, 0)) := set_arr h 0 a
  have h2 : ((W.setCell ⟨g, 0, none⟩ a).setCell ⟨g, 1, none⟩ b).heap[g]? = some (.cells #[a, b, z, u] ty (0, 0)) := set_arr h1 1 b
  have h3 : (((W.setCell ⟨g, 0, none⟩ a).setCell ⟨g, 1, none⟩ b).setCell ⟨g, 2, none⟩ c).heap[g]? = some (.cells #[a, b, c, u] ty (0, 0)) := set_arr h2 2 c
  exact set_arr h3 3 d
theorem sizeTk : (Tryz.prog.info? 24).map (·.size) = some 2 := by kernel_rfl
theorem tx_ext (t : Tx) (a b : Nat) : (tx t).extract a b = tx ((t.take b).drop a) := by
  apply ByteArray.ext
  simp [ByteArray.data_extract, List.drop_take]
abbrev tk0 : Array Value := #[.int .u8 0, .int .u64 0]
abbrev paV (t : Tx) : Value := .tuple #[.agg (tkV (parseL t).1 (parseL t).2.1), .int .i64 ((parseL t).2.2 : Nat)]
def GoodL (l : Tx) : Prop := l.all dgt = true ∧ l.length ≤ 19
set_option maxRecDepth 100000 in
set_option maxHeartbeats 6400000 in
theorem parse_any (t : Tx) (w : World) : Calls Tryz.prog 82 #[str t] w fun e w' => e = .returned (paV t) ∧ Below w.heap.size w w' := by
  have hsz : (tx t).size = t.length := tx_size t
  obtain ⟨wb, hwb⟩ : ∃ wb, wb = w.alloc (.cells tk0 24) := ⟨_, rfl⟩
  have hbw : Below w.heap.size w wb := by rw [hwb]; exact (Below.refl _ _).alloc (Nat.le_refl _) _
  have hws : wb.heap.size = w.heap.size + 1 := by rw [hwb, size_a]
  have hb0 : wb.heap[w.heap.size]? = some (.cells tk0 24 (0, 0)) := by rw [hwb]; exact World.alloc_heap_new w _
  have CB : ∀ wz : World, Below wb.heap.size wb wz → wz.heap[w.heap.size]? = some (.cells tk0 24 (0, 0)) := fun wz hz => (hz.block _ (by rw [hws]; exact Nat.lt_succ_self _)).trans hb0
  have HCB := Lib.hid CB
  have hfin : ∀ (wz : World) (a b : Value), Below wb.heap.size wb wz → Below w.heap.size w ((wz.setCell ⟨w.heap.size, 0, none⟩ a).setCell ⟨w.heap.size, 1, none⟩ b) := fun wz a b hz =>
    ((hbw.trans (hz.mono hbw.size)).setCell (p := ⟨w.heap.size, 0, none⟩) (Nat.le_refl _) a).setCell (p := ⟨w.heap.size, 1, none⟩) (Nat.le_refl _) b
  have HFIN := Lib.hid hfin
  have hV : ∀ (l : Tx) (wz : World), GoodL l → Below wb.heap.size wb wz → Calls Tryz.prog 112 #[.string (tx l)] wz fun e w' => e = .returned (.int .u64 (val l : Int)) ∧ Below wb.heap.size wb w' := fun l wz g hz =>
    (value_any l g.1 g.2 wz).mono fun e w' h => ⟨h.1, hz.trans (h.2.mono hz.size)⟩
  have hC : ∀ (l : Tx) (wz : World), GoodL l → Below wb.heap.size wb wz → Calls Tryz.prog 76 #[.string (tx l)] wz fun e w' => e = .returned (.int .u64 (chk l : Int)) ∧ Below wb.heap.size wb w' := fun l wz g hz =>
    (check_any l g.1 (by have := g.2; omega) wz).mono fun e w' h => ⟨h.1, hz.trans (h.2.mono hz.size)⟩
  have HV := Lib.hid hV
  have HC := Lib.hid hC
  have HB0 := Lib.hid (Below.refl wb.heap.size wb)
  clear hb0 hws hbw CB hfin hV hC
  by_cases hl : t.length = 14
  · have hA : ∀ (wz : World), Below wb.heap.size wb wz → Calls Tryz.prog 111 #[str t] wz fun e w' => e = .returned (.bool (t.all dgt)) ∧ Below wb.heap.size wb w' := fun wz hz =>
      (areDigits_any t (by omega) wz).mono fun e w' h => ⟨h.1, hz.trans (h.2.mono hz.size)⟩
    rw [hl] at hsz
    cases ha : t.all dgt
    · have HP := Lib.hid (show parseL t = (0, 0, 90) by unfold parseL; rw [if_pos (.inr ha)])
      rw [ha] at hA
      have HA := Lib.hid hA
      have hli : (t.length : Int) = 14 := by omega
      clear hA ha hl
      go_enter Tryz.func82, Tryz.ntmps82
      go_wp2_with (go_at_call 111; rw [← hwb]; refine (HA.out _ HB0.out).mono ?_; rintro e w1 ⟨rfl, hb1⟩; have HB1 := Lib.hid hb1; have hR := HCB.out _ hb1; have r0 : w1.cell? ⟨w.heap.size, 0, none⟩ = some (.int .u8 0) := cell_of_arr hR 0; have r1 : w1.cell? ⟨w.heap.size, 1, none⟩ = some (.int .u64 0) := cell_of_arr hR 1; have f0 := frozen_of_arr hR 0; have f1 := frozen_of_arr hR 1; clear hb1 hR)
      go_wp2
      (try simp only [Exit.inBlock, Exit.then])
      refine bodyPost_ret (results_cell_tmp_row rfl _ _ w.heap.size 24 _ (0, 0) _ rfl (set2 (HCB.out _ HB1.out) _ _) Tryz.underlying24 rfl sizeTk) rfl ?_
      exact ⟨by unfold paV; rw [HP.out]; rfl, HFIN.out _ _ _ HB1.out⟩
    · have hmem : ∀ l : Tx, (∀ x ∈ l, x ∈ t) → l.all dgt = true := fun l h => List.all_eq_true.2 fun x hx => List.all_eq_true.1 ha x (h x hx)
      have G1 := Lib.hid (show GoodL (t.drop 13) from ⟨hmem _ fun x hx => List.mem_of_mem_drop hx, by rw [List.length_drop]; omega⟩)
      have G2 := Lib.hid (show GoodL (t.take 13) from ⟨hmem _ fun x hx => List.mem_of_mem_take hx, by rw [List.length_take]; omega⟩)
      have G3 := Lib.hid (show GoodL (t.take 3) from ⟨hmem _ fun x hx => List.mem_of_mem_take hx, by rw [List.length_take]; omega⟩)
      have G4 := Lib.hid (show GoodL ((t.take 13).drop 3) from ⟨hmem _ fun x hx => List.mem_of_mem_take (List.mem_of_mem_drop hx), by rw [List.length_drop, List.length_take]; omega⟩)
      have x1 : (tx t).extract 13 14 = tx (t.drop 13) := by rw [tx_ext, List.take_of_length_le (by omega)]
      have x2 : (tx t).extract 0 13 = tx (t.take 13) := by rw [tx_ext]; rfl
      have x3 : (tx t).extract 0 3 = tx (t.take 3) := by rw [tx_ext]; rfl
      have x4 : (tx t).extract 3 13 = tx ((t.take 13).drop 3) := by rw [tx_ext]
      rw [ha] at hA
      have HA := Lib.hid hA
      have hli : (t.length : Int) = 14 := by omega
      have HPP := Lib.hid (show parseL t = _ from by unfold parseL; rw [if_neg (by simp [hl, ha])])
      clear hA ha hl hmem
      go_enter Tryz.func82, Tryz.ntmps82
      go_wp2_with (go_at_call 111; rw [← hwb]; refine (HA.out _ HB0.out).mono ?_; rintro e w1 ⟨rfl, hb1⟩; have HB1 := Lib.hid hb1; clear hb1)
      have HD1 := Lib.hid (show Below wb.heap.size wb w1.drew from HB1.out.drew)
      go_region_law (first
        | (go_simp
           with_reducible refine (HV.out _ _ G1.out HD1.out).mono ?_
           rintro e w2 ⟨rfl, hb2⟩
           have HB2 := Lib.hid hb2
           clear hb2)
        | (go_simp
           with_reducible refine (HC.out _ _ G2.out HB2.out).mono ?_
           rintro e w3 ⟨rfl, hb3⟩
           have HB3 := Lib.hid hb3
           clear hb3))
      all_goals
        by_cases hk : val (t.drop 13) = chk (t.take 13)
        · have hkb : ((val (t.drop 13) : Int) != (chk (t.take 13) : Int)) = false := by rw [hk]; simp
          have HPP2 := Lib.hid (HPP.out.trans (if_neg (by simp [hk])))
          have HD3 := Lib.hid (show Below wb.heap.size wb w3.drew from HB3.out.drew)
          clear hk
          go_wp2
          go_region_law (first
            | (go_simp
               with_reducible refine (HV.out _ _ G3.out HD3.out).mono ?_
               rintro e w4 ⟨rfl, hb4⟩
               have HB4 := Lib.hid hb4
               clear hb4)
            | (go_simp
               with_reducible refine (HV.out _ _ G4.out HB4.out).mono ?_
               rintro e w5 ⟨rfl, hb5⟩
               have HB5 := Lib.hid hb5
               clear hb5))
          all_goals
            have HMB := Lib.hid (mayBe_any (val (t.take 3)) (val ((t.take 13).drop 3)) w5)
            have hR := HCB.out _ HB5.out
            have r0 : w5.cell? ⟨w.heap.size, 0, none⟩ = some (.int .u8 0) := cell_of_arr hR 0
            have r1 : w5.cell? ⟨w.heap.size, 1, none⟩ = some (.int .u64 0) := cell_of_arr hR 1
            have f0 := frozen_of_arr hR 0
            have f1 := frozen_of_arr hR 1
            clear hR
            by_cases hm : may (val (t.take 3)) (val ((t.take 13).drop 3))
            · have hdm : decide (may (val (t.take 3)) (val ((t.take 13).drop 3))) = true := decide_eq_true hm
              have HP := Lib.hid (HPP2.out.trans (if_pos hm))
              have hc0 : (0 : Int) ≤ (val (t.take 3) : Int) := Int.natCast_nonneg _
              have hc1 : (val (t.take 3) : Int) < 256 := by have := hm.1; omega
              clear hm
              go_wp2_with (go_at_call 74; refine (HMB.out).mono ?_; rintro e w' ⟨rfl, rfl⟩; simp only [hdm])
              (try simp only [Exit.inBlock, Exit.then])
              refine bodyPost_ret (results_cell_tmp_row rfl _ _ w.heap.size 24 _ (0, 0) _ rfl (set2 (HCB.out _ HB5.out) _ _) Tryz.underlying24 rfl sizeTk) rfl ?_
              exact ⟨by unfold paV; rw [HP.out]; rfl, HFIN.out _ _ _ HB5.out⟩
            · have hdm : decide (may (val (t.take 3)) (val ((t.take 13).drop 3))) = false := decide_eq_false hm
              have HP := Lib.hid (HPP2.out.trans (if_neg hm))
              clear hm
              go_wp2_with (go_at_call 74; refine (HMB.out).mono ?_; rintro e w' ⟨rfl, rfl⟩; simp only [hdm])
              (try simp only [Exit.inBlock, Exit.then])
              refine bodyPost_ret (results_cell_tmp_row rfl _ _ w.heap.size 24 _ (0, 0) _ rfl (set2 (HCB.out _ HB5.out) _ _) Tryz.underlying24 rfl sizeTk) rfl ?_
              exact ⟨by unfold paV; rw [HP.out]; rfl, HFIN.out _ _ _ HB5.out⟩
        · have hkb : ((val (t.drop 13) : Int) != (chk (t.take 13) : Int)) = true := by rw [bne_iff_ne]; omega
          have HP := Lib.hid (HPP.out.trans (if_pos hk))
          clear hk
          have hR := HCB.out _ HB3.out
          have r0 : w3.cell? ⟨w.heap.size, 0, none⟩ = some (.int .u8 0) := cell_of_arr hR 0
          have r1 : w3.cell? ⟨w.heap.size, 1, none⟩ = some (.int .u64 0) := cell_of_arr hR 1
          have f0 := frozen_of_arr hR 0
          have f1 := frozen_of_arr hR 1
          clear hR
          go_wp2
          (try simp only [Exit.inBlock, Exit.then])
          refine bodyPost_ret (results_cell_tmp_row rfl _ _ w.heap.size 24 _ (0, 0) _ rfl (set2 (HCB.out _ HB3.out) _ _) Tryz.underlying24 rfl sizeTk) rfl ?_
          exact ⟨by unfold paV; rw [HP.out]; rfl, HFIN.out _ _ _ HB3.out⟩
  · have HP := Lib.hid (show parseL t = (0, 0, 90) by unfold parseL; rw [if_pos (.inl hl)])
    have hne : ((t.length : Int) != 14) = true := by rw [bne_iff_ne]; omega
    have hB := Lib.hid (show Below w.heap.size w (w.alloc (.cells tk0 24)) by rw [← hwb]; exact (Below.refl _ _).trans (by rw [hwb]; exact (Below.refl _ _).alloc (Nat.le_refl _) _))
    have hR := Lib.hid (World.alloc_heap_new w (.cells tk0 24))
    clear hl hwb
    go_enter Tryz.func82, Tryz.ntmps82
    go_wp2
    (try simp only [Exit.inBlock, Exit.then])
    refine bodyPost_ret (results_cell_tmp_row rfl _ _ w.heap.size 24 _ (0, 0) _ rfl hR.out Tryz.underlying24 rfl sizeTk) rfl ?_
    exact ⟨by unfold paV; rw [HP.out]; rfl, hB.out⟩
end Go.Proofs.YtjlifjgljejabaaGreatDoor.Nu
