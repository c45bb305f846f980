/- Contract: what segments tell is taken into a message, field by field. -/
import Derived.Test.YtgaoeljdlpemnaaGreatDoorNuX
import Derived.Test.YtgaoeljdlpemnaaGreatDoorMgRk
/- Contract of number.Parse. -/
namespace Go.Proofs.YtgaoeljdlpemnaaGreatDoor.Nu
open Go.RowKit Go.Shelf Go.Number

theorem cell_of_arr {W : World} {g : Nat} {A : Array Value} {ty : TypeId} (h : W.heap[g]? = some (.cells A ty (0, 0))) (i : Nat) : W.cell? ⟨g, i, none⟩ = A[i]? := by simp [World.cell?, h]
theorem frozen_of_arr {W : World} {g : Nat} {A : Array Value} {ty : TypeId} (h : W.heap[g]? = some (.cells A ty (0, 0))) (i : Nat) : W.frozen? ⟨g, i, none⟩ = false := by simp [World.frozen?, h]
theorem set_arr {W : World} {g : Nat} {A : Array Value} {ty : TypeId} (h : W.heap[g]? = some (.cells A ty (0, 0))) (i : Nat) (u : Value) : (W.setCell ⟨g, i, none⟩ u).heap[g]? = some (.cells (A.setIfInBounds i u) ty (0, 0)) := by
  obtain ⟨hlt, hk⟩ := Array.getElem?_eq_some_iff.1 h
  show (W.heap.modify g _)[g]? = _
  rw [Array.getElem?_eq_getElem (by rw [Array.size_modify]; exact hlt), Array.getElem_modify_self, hk]
  rfl
theorem set2 {W : World} {g : Nat} {x y : Value} {ty : TypeId} (h : W.heap[g]? = some (.cells #[x, y] ty (0, 0))) (a b : Value) :
    ((W.setCell ⟨g, 0, none⟩ a).setCell ⟨g, 1, none⟩ b).heap[g]? = some (.cells #[a, b] ty (0, 0)) := set_arr (set_arr h 0 a) 1 b
theorem results_cell_tmp_row {P : Program} {fn : Func} {p u : Tmp} {ty : TypeId} (h : fn.results = #[.cell p ty, .tmp u]) (tmps : Array Value) (w : World) (g : Nat) (t : TypeId) (cs : Array Value) (fr : Nat × Nat) (d : TypeDesc)
    (hp : tmps.getD p undef = .pointer (some ⟨g, 0, none⟩)) (hg : w.heap[g]? = some (.cells cs t fr))
    (hu : P.underlying ty = some d) (hd : (match d with | .struct _ | .array _ _ => true | _ => false) = true) (hi : (P.info? ty).map (·.size) = some cs.size) :
    (results fn tmps).run P w = .ok (.tuple #[.agg cs, tmps.getD u undef]) w := by
  rw [results_cell_tmp h, hp]
  simp only [asAddr, Sem.run_pure, Result.andThen_ok, run_loadVar_row w g t ty cs fr d hg hu hd hi]
theorem set4 {W : World} {g : Nat} {x y z u : Value} {ty : TypeId} (h : W.heap[g]? = some (.cells #[x, y, z, u] ty (0, 0))) (a b c d : Value) :
    (((((W.setCell ⟨g, 0, none⟩ a).setCell ⟨g, 1, none⟩ b).setCell ⟨g, 2, none⟩ c).setCell ⟨g, 3, none⟩ d).drew).heap[g]? = some (.cells #[a, b, c, d] ty (0, 0)) := by
  have h1 : (W.setCell ⟨g, 0, none⟩ a).heap[g]? = some (.cells #[a, y, z, u] ty (0, 0)) := set_arr h 0 a
  have h2 : ((W.setCell ⟨g, 0, none⟩ a).setCell ⟨g, 1, none⟩ b).heap[g]? = some (.cells #[a, b, z, u] ty (0, 0)) := set_arr h1 1 b
  have h3 : (((W.setCell ⟨g, 0, none⟩ a).setCell ⟨g, 1, none⟩ b).setCell ⟨g, 2, none⟩ c).heap[g]? = some (.cells #[a, b, c, u] ty (0, 0)) := set_arr h2 2 c
  exact set_arr h3 3 d
theorem sizeTk : (Tryz.prog.info? 24).map (·.size) = some 2 := by kernel_rfl
theorem tx_ext (t : Tx) (a b : Nat) : (tx t).extract a b = tx ((t.take b).drop a) := by
  apply ByteArray.ext
  simp [ByteArray.data_extract, List.drop_take]
abbrev tk0 : Array Value := #[.int .u8 0, .int .u64 0]
abbrev paV (t : Tx) : Value := .tuple #[.agg (tkV (parseL t).1 (parseL t).2.1), .int .i64 ((parseL t).2.2 : Nat)]
def GoodL (l : Tx) : Prop := l.all dgt = true ∧ l.length ≤ 19
set_option maxRecDepth 100000 in
set_option maxHeartbeats 6400000 in
theorem parse_any (t : Tx) (w : World) : Calls Tryz.prog 108 #[str t] w fun e w' => e = .returned (paV t) ∧ Below w.heap.size w w' := by
  have hsz : (tx t).size = t.length := tx_size t
  obtain ⟨wb, hwb⟩ : ∃ wb, wb = w.alloc (.cells tk0 24) := ⟨_, rfl⟩
  have hbw : Below w.heap.size w wb := by rw [hwb]; exact (Below.refl _ _).alloc (Nat.le_refl _) _
  have hws : wb.heap.size = w.heap.size + 1 := by rw [hwb, size_a]
  have hb0 : wb.heap[w.heap.size]? = some (.cells tk0 24 (0, 0)) := by rw [hwb]; exact World.alloc_heap_new w _
  have CB : ∀ wz : World, Below wb.heap.size wb wz → wz.heap[w.heap.size]? = some (.cells tk0 24 (0, 0)) := fun wz hz => (hz.block _ (by rw [hws]; exact Nat.lt_succ_self _)).trans hb0
  have HCB := Lib.hid CB
  have hfin : ∀ (wz : World) (a b : Value), Below wb.heap.size wb wz → Below w.heap.size w ((wz.setCell ⟨w.heap.size, 0, none⟩ a).setCell ⟨w.heap.size, 1, none⟩ b) := fun wz a b hz =>
    ((hbw.trans (hz.mono hbw.size)).setCell (p := ⟨w.heap.size, 0, none⟩) (Nat.le_refl _) a).setCell (p := ⟨w.heap.size, 1, none⟩) (Nat.le_refl _) b
  have HFIN := Lib.hid hfin
  have hV : ∀ (l : Tx) (wz : World), GoodL l → Below wb.heap.size wb wz → Calls Tryz.prog 134 #[.string (tx l)] wz fun e w' => e = .returned (.int .u64 (val l : Int)) ∧ Below wb.heap.size wb w' := fun l wz g hz =>
    (value_any l g.1 g.2 wz).mono fun e w' h => ⟨h.1, hz.trans (h.2.mono hz.size)⟩
  have hC : ∀ (l : Tx) (wz : World), GoodL l → Below wb.heap.size wb wz → Calls Tryz.prog 95 #[.string (tx l)] wz fun e w' => e = .returned (.int .u64 (chk l : Int)) ∧ Below wb.heap.size wb w' := fun l wz g hz =>
    (check_any l g.1 (by have := g.2; omega) wz).mono fun e w' h => ⟨h.1, hz.trans (h.2.mono hz.size)⟩
  have HV := Lib.hid hV
  have HC := Lib.hid hC
  have HB0 := Lib.hid (Below.refl wb.heap.size wb)
  clear hb0 hws hbw CB hfin hV hC
  by_cases hl : t.length = 14
  · have hA : ∀ (wz : World), Below wb.heap.size wb wz → Calls Tryz.prog 133 #[str t] wz fun e w' => e = .returned (.bool (t.all dgt)) ∧ Below wb.heap.size wb w' := fun wz hz =>
      (areDigits_any t (by omega) wz).mono fun e w' h => ⟨h.1, hz.trans (h.2.mono hz.size)⟩
    rw [hl] at hsz
    cases ha : t.all dgt
    · have HP := Lib.hid (show parseL t = (0, 0, 90) by unfold parseL; rw [if_pos (.inr ha)])
      rw [ha] at hA
      have HA := Lib.hid hA
      have hli : (t.length : Int) = 14 := by omega
      clear hA ha hl
      go_enter Tryz.func108, Tryz.ntmps108
      go_wp2_with (go_at_call 133; rw [← hwb]; refine (HA.out _ HB0.out).mono ?_; rintro e w1 ⟨rfl, hb1⟩; have HB1 := Lib.hid hb1; have hR := HCB.out _ hb1; have r0 : w1.cell? ⟨w.heap.size, 0, none⟩ = some (.int .u8 0) := cell_of_arr hR 0; have r1 : w1.cell? ⟨w.heap.size, 1, none⟩ = some (.int .u64 0) := cell_of_arr hR 1; have f0 := frozen_of_arr hR 0; have f1 := frozen_of_arr hR 1; clear hb1 hR)
      go_wp2
      (try simp only [Exit.inBlock, Exit.then])
      refine bodyPost_ret (results_cell_tmp_row rfl _ _ w.heap.size 24 _ (0, 0) _ rfl (set2 (HCB.out _ HB1.out) _ _) Tryz.underlying24 rfl sizeTk) rfl ?_
      exact ⟨by unfold paV; rw [HP.out]; rfl, HFIN.out _ _ _ HB1.out⟩
    · have hmem : ∀ l : Tx, (∀ x ∈ l, x ∈ t) → l.all dgt = true := fun l h => List.all_eq_true.2 fun x hx => List.all_eq_true.1 ha x (h x hx)
      have G1 := Lib.hid (show GoodL (t.drop 13) from ⟨hmem _ fun x hx => List.mem_of_mem_drop hx, by rw [List.length_drop]; omega⟩)
      have G2 := Lib.hid (show GoodL (t.take 13) from ⟨hmem _ fun x hx => List.mem_of_mem_take hx, by rw [List.length_take]; omega⟩)
      have G3 := Lib.hid (show GoodL (t.take 3) from ⟨hmem _ fun x hx => List.mem_of_mem_take hx, by rw [List.length_take]; omega⟩)
      have G4 := Lib.hid (show GoodL ((t.take 13).drop 3) from ⟨hmem _ fun x hx => List.mem_of_mem_take (List.mem_of_mem_drop hx), by rw [List.length_drop, List.length_take]; omega⟩)
      have x1 : (tx t).extract 13 14 = tx (t.drop 13) := by rw [tx_ext, List.take_of_length_le (by omega)]
      have x2 : (tx t).extract 0 13 = tx (t.take 13) := by rw [tx_ext]; rfl
      have x3 : (tx t).extract 0 3 = tx (t.take 3) := by rw [tx_ext]; rfl
      have x4 : (tx t).extract 3 13 = tx ((t.take 13).drop 3) := by rw [tx_ext]
      rw [ha] at hA
      have HA := Lib.hid hA
      have hli : (t.length : Int) = 14 := by omega
      have HPP := Lib.hid (show parseL t = _ from by unfold parseL; rw [if_neg (by simp [hl, ha])])
      clear hA ha hl hmem
      go_enter Tryz.func108, Tryz.ntmps108
      go_wp2_with (go_at_call 133; rw [← hwb]; refine (HA.out _ HB0.out).mono ?_; rintro e w1 ⟨rfl, hb1⟩; have HB1 := Lib.hid hb1; clear hb1)
      have HD1 := Lib.hid (show Below wb.heap.size wb w1.drew from HB1.out.drew)
      go_region_law (first
        | (go_simp
           with_reducible refine (HV.out _ _ G1.out HD1.out).mono ?_
           rintro e w2 ⟨rfl, hb2⟩
           have HB2 := Lib.hid hb2
           clear hb2)
        | (go_simp
           with_reducible refine (HC.out _ _ G2.out HB2.out).mono ?_
           rintro e w3 ⟨rfl, hb3⟩
           have HB3 := Lib.hid hb3
           clear hb3))
      all_goals
        by_cases hk : val (t.drop 13) = chk (t.take 13)
        · have hkb : ((val (t.drop 13) : Int) != (chk (t.take 13) : Int)) = false := by rw [hk]; simp
          have HPP2 := Lib.hid (HPP.out.trans (if_neg (by simp [hk])))
          have HD3 := Lib.hid (show Below wb.heap.size wb w3.drew from HB3.out.drew)
          clear hk
          go_wp2
          go_region_law (first
            | (go_simp
               with_reducible refine (HV.out _ _ G3.out HD3.out).mono ?_
               rintro e w4 ⟨rfl, hb4⟩
               have HB4 := Lib.hid hb4
               clear hb4)
            | (go_simp
               with_reducible refine (HV.out _ _ G4.out HB4.out).mono ?_
               rintro e w5 ⟨rfl, hb5⟩
               have HB5 := Lib.hid hb5
               clear hb5))
          all_goals
            have HMB := Lib.hid (mayBe_any (val (t.take 3)) (val ((t.take 13).drop 3)) w5)
            have hR := HCB.out _ HB5.out
            have r0 : w5.cell? ⟨w.heap.size, 0, none⟩ = some (.int .u8 0) := cell_of_arr hR 0
            have r1 : w5.cell? ⟨w.heap.size, 1, none⟩ = some (.int .u64 0) := cell_of_arr hR 1
            have f0 := frozen_of_arr hR 0
            have f1 := frozen_of_arr hR 1
            clear hR
            by_cases hm : may (val (t.take 3)) (val ((t.take 13).drop 3))
            · have hdm : decide (may (val (t.take 3)) (val ((t.take 13).drop 3))) = true := decide_eq_true hm
              have HP := Lib.hid (HPP2.out.trans (if_pos hm))
              have hc0 : (0 : Int) ≤ (val (t.take 3) : Int) := Int.natCast_nonneg _
              have hc1 : (val (t.take 3) : Int) < 256 := by have := hm.1; omega
              clear hm
              go_wp2_with (go_at_call 93; refine (HMB.out).mono ?_; rintro e w' ⟨rfl, rfl⟩; simp only [hdm])
              (try simp only [Exit.inBlock, Exit.then])
              refine bodyPost_ret (results_cell_tmp_row rfl _ _ w.heap.size 24 _ (0, 0) _ rfl (set2 (HCB.out _ HB5.out) _ _) Tryz.underlying24 rfl sizeTk) rfl ?_
              exact ⟨by unfold paV; rw [HP.out]; rfl, HFIN.out _ _ _ HB5.out⟩
            · have hdm : decide (may (val (t.take 3)) (val ((t.take 13).drop 3))) = false := decide_eq_false hm
              have HP := Lib.hid (HPP2.out.trans (if_neg hm))
              clear hm
              go_wp2_with (go_at_call 93; refine (HMB.out).mono ?_; rintro e w' ⟨rfl, rfl⟩; simp only [hdm])
              (try simp only [Exit.inBlock, Exit.then])
              refine bodyPost_ret (results_cell_tmp_row rfl _ _ w.heap.size 24 _ (0, 0) _ rfl (set2 (HCB.out _ HB5.out) _ _) Tryz.underlying24 rfl sizeTk) rfl ?_
              exact ⟨by unfold paV; rw [HP.out]; rfl, HFIN.out _ _ _ HB5.out⟩
        · have hkb : ((val (t.drop 13) : Int) != (chk (t.take 13) : Int)) = true := by rw [bne_iff_ne]; omega
          have HP := Lib.hid (HPP.out.trans (if_pos hk))
          clear hk
          have hR := HCB.out _ HB3.out
          have r0 : w3.cell? ⟨w.heap.size, 0, none⟩ = some (.int .u8 0) := cell_of_arr hR 0
          have r1 : w3.cell? ⟨w.heap.size, 1, none⟩ = some (.int .u64 0) := cell_of_arr hR 1
          have f0 := frozen_of_arr hR 0
          have f1 := frozen_of_arr hR 1
          clear hR
          go_wp2
          (try simp only [Exit.inBlock, Exit.then])
          refine bodyPost_ret (results_cell_tmp_row rfl _ _ w.heap.size 24 _ (0, 0) _ rfl (set2 (HCB.out _ HB3.out) _ _) Tryz.underlying24 rfl sizeTk) rfl ?_
          exact ⟨by unfold paV; rw [HP.out]; rfl, HFIN.out _ _ _ HB3.out⟩
  · have HP := Lib.hid (show parseL t = (0, 0, 90) by unfold parseL; rw [if_pos (.inl hl)])
    have hne : ((t.length : Int) != 14) = true := by rw [bne_iff_ne]; omega
    have hB := Lib.hid (show Below w.heap.size w (w.alloc (.cells tk0 24)) by rw [← hwb]; exact (Below.refl _ _).trans (by rw [hwb]; exact (Below.refl _ _).alloc (Nat.le_refl _) _))
    have hR := Lib.hid (World.alloc_heap_new w (.cells tk0 24))
    clear hl hwb
    go_enter Tryz.func108, Tryz.ntmps108
    go_wp2
    (try simp only [Exit.inBlock, Exit.then])
    refine bodyPost_ret (results_cell_tmp_row rfl _ _ w.heap.size 24 _ (0, 0) _ rfl hR.out Tryz.underlying24 rfl sizeTk) rfl ?_
    exact ⟨by unfold paV; rw [HP.out]; rfl, hB.out⟩
end Go.Proofs.YtgaoeljdlpemnaaGreatDoor.Nu
/- Contract: the key that a segment tells. -/
namespace Go.Proofs.YtgaoeljdlpemnaaGreatDoor
open Go.RowKit Go.Edi Go.Wrap Go.Lib

def RyP (o : Option Ms × Nat) (b : Nat) (ty : TypeId) (pre : List Value) (w : World) (e : Ending) (w' : World) : Prop :=
  w.grownBy w' (some b) ∧ e = .returned (.int .i64 ((o.2 : Nat) : Int)) ∧ ∀ m', o.1 = some m' → MsgAt w' b ty pre m'
theorem key_none {m : Ms} {s : Sg} (h : elsOf s keyT = none) : keyOf' m s = (none, 101) := by unfold keyOf'; rw [h]
theorem key_len {m : Ms} {s : Sg} {l : List Tx} (h : elsOf s keyT = some l) (hl : l.length ≠ 2) : keyOf' m s = (none, 101) := by
  unfold keyOf'; rw [h]
  match l, hl with
  | [], _ => rfl
  | [_], _ => rfl
  | [_, _], hl => exact absurd rfl hl
  | _ :: _ :: _ :: _, _ => rfl
theorem key_two {m : Ms} {s : Sg} {a c : Tx} (h : elsOf s keyT = some [a, c]) : keyOf' m s = if (Number.parseL a).2.2 = 0 then
      (match valL c with
       | some n => if inB n 0 3 then (some { m with car := (Number.parseL a).1, ser := (Number.parseL a).2.1, at_ := n.toNat }, 0) else (none, 101)
       | none => (none, 101))
    else (none, (Number.parseL a).2.2) := by unfold keyOf'; rw [h]; rfl
theorem list2 (l : List Tx) (h : l.length = 2) : ∃ a b, l = [a, b] := by
  match l, h with
  | [a, b], _ => exact ⟨a, b, rfl⟩
theorem below_of_grown {w w' : World} {B b : Nat} (h : w.grownBy w' (some b)) (hb : B ≤ b) (hB : B ≤ w.heap.size) : Below B w w' := (Below.refl B w).grown h hB (fun k e => by cases e; exact hb)
set_option maxRecDepth 100000 in
set_option maxHeartbeats 1600000 in
theorem readKey_any (s : Sg) (ve : Value) (b : Nat) (ty : TypeId) (pre : List Value) (m : Ms) (B : Nat) (w : World) (hm : MsgAt w b ty pre m) (hv : ElsF w (· < w.heap.size) ve s.els) (hl : s.els.length ≤ 1000) (hsz : ∀ e ∈ s.els, ∀ t ∈ e, t.length ≤ 281474976710656) (he : Env B w) (hB : B ≤ w.heap.size) (hbB : B ≤ b) :
    Calls Tryz.prog 88 #[.pointer (some ⟨b, pre.length, none⟩), .agg #[str s.tag, ve]] w (RyP (keyOf' m s) b ty pre w) := by
  obtain ⟨w0, hw0⟩ : ∃ w0, w0 = w.alloc (.cells #[str s.tag, ve] 112) := ⟨_, rfl⟩
  have hb0 : Below w.heap.size w w0 := by rw [hw0]; exact (Below.refl _ _).alloc (Nat.le_refl _) _
  have hs0 : w0.heap.size = w.heap.size + 1 := by rw [hw0, size_a]
  have HEL := Lib.hid (elementsOf_any s ve keyT w0 (hv.kept (fun b hb => ⟨by rw [hs0]; omega, hb0.block b hb⟩)) hl)
  have HB0 := Lib.hid hb0
  have HM := Lib.hid hm
  have HE := Lib.hid (fun W (h : Below w.heap.size w W) => he.on (h.mono hB))
  have HBB := Lib.hid hB
  have c0 : w0.cell? ⟨w.heap.size, 0, none⟩ = some (str s.tag) := by rw [hw0]; exact cell_of_arr (at_last _ _) 0
  have c1 : w0.cell? ⟨w.heap.size, 1, none⟩ = some ve := by rw [hw0]; exact cell_of_arr (at_last _ _) 1
  unfold keyT at HEL
  rcases hN : elsOf s keyT with _ | l
  · rw [key_none hN]
    unfold keyT at hN
    rw [hN] at HEL
    clear hm hv hl hsz he hB hb0 hs0 hN
    go_enter Tryz.func88, Tryz.ntmps88
    go_wp2_with fail
    rw [← hw0]
    clear hw0
    refine (HEL.out).mono ?_
    rintro e w1 ⟨hb1, ⟨l, v, hx, _⟩ | ⟨_, rfl⟩⟩
    · cases hx
    · have HX1 := Lib.hid (HB0.out.trans (hb1.mono HB0.out.size))
      clear hb1
      go_wp2
      go_ret
      exact ⟨grown_below HX1.out, rfl, fun m' h => by cases h⟩
  · by_cases h2 : l.length = 2
    · obtain ⟨a, c, rfl⟩ := list2 l h2
      obtain ⟨R, hR⟩ : ∃ R, R = keyOf' m s := ⟨_, rfl⟩
      rw [← hR]
      rw [key_two hN] at hR
      have hse := elsOf_some hN
      have hcs : c.length ≤ 281474976710656 := hsz [c] (by rw [hse]; simp [sgL]) c (by simp)
      have HCS := Lib.hid hcs
      unfold keyT at hN
      rw [hN] at HEL
      obtain ⟨pc, ps, pe, hpa⟩ : ∃ pc ps pe, Number.parseL a = (pc, ps, pe) := ⟨_, _, _, rfl⟩
      have HPA := Lib.hid (fun W => Nu.parse_any a W)
      obtain ⟨E, hE⟩ : ∃ E : Int, E = (pe : Int) := ⟨_, rfl⟩
      have hpv : Nu.paV a = .tuple #[.agg #[.int .u8 (pc : Int), .int .u64 (ps : Int)], .int .i64 E] := by unfold Nu.paV; rw [hpa, hE]
      have HEE := Lib.hid hE
      rw [hpv] at HPA
      rw [hpa] at hR
      simp only at hR
      have HR := Lib.hid hR
      have HBb := Lib.hid hbB
      clear hm hv hl hsz he hB hb0 hs0 hN hse hcs h2 hpa hpv hE hR hbB
      go_enter Tryz.func88, Tryz.ntmps88
      go_wp2_with fail
      rw [← hw0]
      clear hw0
      refine (HEL.out).mono ?_
      rintro e w1 ⟨hb1, ⟨l, v, hx, rfl, hr⟩ | ⟨hx, _⟩⟩
      rotate_left
      · cases hx
      obtain rfl := Option.some.inj hx
      obtain ⟨p, cc, rfl, hnc, hp⟩ := hr
      obtain ⟨nb, no, rfl, hF, hc⟩ := hp (by simp)
      have d0 : w1.cell? ⟨nb, no, none⟩ = some (str a) := hc 0 _ rfl
      have d1 : w1.cell? ⟨nb, no + 1, none⟩ = some (str c) := hc 1 _ rfl
      have hx1 := HB0.out.trans (hb1.mono HB0.out.size)
      have HX1 := Lib.hid hx1
      have HM1 := Lib.hid (HM.out.keep hx1)
      have HNB := Lib.hid (show nb < w1.heap.size ∧ nb ≠ b from ⟨hF.2, by have := HM.out.lt; have := HB0.out.size; have := hF.1; omega⟩)
      have D1 := Lib.hid d1
      clear hb1 hx hp hF hc hx1 d1
      go_wp2_with fail
      refine (HPA.out _).mono ?_
      rintro e w2 ⟨rfl, hb2⟩
      have hm2 := HM1.out.keep hb2
      have f1 := frozen_of_arr hm2 (pre.length + 1)
      have f2 := frozen_of_arr hm2 (pre.length + 2)
      have e1 := msg_cell hm2 1 _ rfl
      have e2 := msg_cell hm2 2 _ rfl
      have HM2 := Lib.hid hm2
      have HB2 := Lib.hid hb2
      clear hb2 hm2 d0
      by_cases hpe : pe = 0
      · obtain rfl : E = 0 := by have := HEE.out; omega
        have HR1 := Lib.hid (HR.out.trans (if_pos hpe))
        clear hpe
        go_upto_region 7 with fail
        have h1 := heap_setCell_same w2 b (pre.length + 1) _ ty (.int .u8 (pc : Int)) HM2.out
        rw [msv_set pre m 1 (.int .u8 (pc : Int)) (msV m) (by simp [msV]) _ rfl] at h1
        have h2 := heap_setCell_same _ b (pre.length + 2) _ ty (.int .u64 (ps : Int)) h1
        rw [msv_set pre m 2 (.int .u64 (ps : Int)) _ (by simp [msV]) _ rfl] at h2
        have hm3 : MsgAt ((w2.setCell ⟨b, pre.length + 1, none⟩ (.int .u8 (pc : Int))).setCell ⟨b, pre.length + 2, none⟩ (.int .u64 (ps : Int))) b ty pre { m with car := pc, ser := ps } := h2
        have hg3 : w2.grownBy ((w2.setCell ⟨b, pre.length + 1, none⟩ (.int .u8 (pc : Int))).setCell ⟨b, pre.length + 2, none⟩ (.int .u64 (ps : Int))) (some b) := grown_trans (grown_set _ _ _ _) (grown_set _ _ _ _)
        clear h1 h2 f1 f2 e1 e2
        generalize ((w2.setCell ⟨b, pre.length + 1, none⟩ (.int .u8 (pc : Int))).setCell ⟨b, pre.length + 2, none⟩ (.int .u64 (ps : Int))) = w3 at *
        have d1 : w3.cell? ⟨nb, no + 1, none⟩ = some (str c) := grown_cell hg3 HNB.out.2 ((World.cell?_of_block (a := ⟨nb, no + 1, none⟩) (HB2.out.block nb HNB.out.1)).trans D1.out)
        have HG3 := Lib.hid (grown_trans (grown_below (g := some b) (HX1.out.trans (HB2.out.mono HX1.out.size))) hg3)
        have HM3 := Lib.hid hm3
        have hw3 := below_of_grown HG3.out HBb.out HBB.out
        have he3 : Env B w3 := (HE.out w (Below.refl _ _)).on hw3
        have HB3 := Lib.hid hw3.size
        have HV := Lib.hid (value_any' c HCS.out B w3 he3 (Nat.le_trans HBB.out hw3.size))
        clear hg3 hm3 hw3 he3 HCS
        go_wp2_with fail
        refine (HV.out).mono ?_
        rintro e w4 (⟨n, hn, rfl, hb4⟩ | ⟨hn, rfl, hb4⟩)
        · have hm4 := HM3.out.keep hb4
          have HG4 := Lib.hid (grown_trans HG3.out (grown_below (g := some b) hb4))
          have HN := Lib.hid hn
          have HT := Lib.hid (takeAt_any n b ty pre _ w4 hm4)
          clear hb4 hm4 hn
          by_cases hin : inB n 0 3 = true
          · have HR2 := Lib.hid (show R = (some { m with car := pc, ser := ps, at_ := n.toNat }, 0) by rw [HR1.out, HN.out]; simp only; rw [if_pos hin])
            rw [hin] at HT
            clear hin
            go_wp2_with fail
            refine (HT.out).mono ?_
            rintro e w5 ⟨rfl, hg5, hm5⟩
            have HG5 := Lib.hid hg5
            have HM5 := Lib.hid (hm5 (by first | rfl | trivial))
            clear hg5 hm5
            go_wp2
            go_ret
            exact ⟨grown_trans HG4.out HG5.out, by rw [HR2.out]; rfl, fun m' h => by rw [HR2.out] at h; cases h; exact HM5.out⟩
          · have hin' : inB n 0 3 = false := by cases hq : inB n 0 3 with | false => rfl | true => exact absurd hq hin
            have HR2 := Lib.hid (show R = (none, 101) by rw [HR1.out, HN.out]; simp only; rw [if_neg hin])
            rw [hin'] at HT
            clear hin hin'
            go_wp2_with fail
            refine (HT.out).mono ?_
            rintro e w5 ⟨rfl, hg5, _⟩
            have HG5 := Lib.hid hg5
            clear hg5
            go_wp2
            go_ret
            exact ⟨grown_trans HG4.out HG5.out, by rw [HR2.out]; rfl, fun m' h => by rw [HR2.out] at h; cases h⟩
        · have HG4 := Lib.hid (grown_trans HG3.out (grown_below (g := some b) hb4))
          have HR2 := Lib.hid (show R = (none, 101) by rw [HR1.out, hn])
          clear hb4 hn
          go_wp2
          go_ret
          exact ⟨HG4.out, by rw [HR2.out]; rfl, fun m' h => by rw [HR2.out] at h; cases h⟩
      · have hE0 : ¬ E = 0 := by have := HEE.out; omega
        have HR1 := Lib.hid (HR.out.trans (if_neg hpe))
        clear hpe
        go_wp2
        go_ret
        refine ⟨grown_trans (grown_below (g := some b) (HX1.out.trans (HB2.out.mono HX1.out.size))) (grown_trans (grown_set _ _ _ _) (grown_set _ _ _ _)), by rw [HR1.out, ← HEE.out]; rfl, fun m' h => by rw [HR1.out] at h; cases h⟩
    · rw [key_len hN h2]
      have h1' : ¬ (l.length : Int) = 2 := by omega
      unfold keyT at hN
      rw [hN] at HEL
      clear hm hv hl hsz he hB hb0 hs0 hN h2
      go_enter Tryz.func88, Tryz.ntmps88
      go_wp2_with fail
      rw [← hw0]
      clear hw0
      refine (HEL.out).mono ?_
      rintro e w1 ⟨hb1, ⟨l2, v, hx, rfl, hr⟩ | ⟨hx, _⟩⟩
      rotate_left
      · cases hx
      obtain rfl := Option.some.inj hx
      obtain ⟨p, cc, rfl, hnc, hp⟩ := hr
      have HX1 := Lib.hid (HB0.out.trans (hb1.mono HB0.out.size))
      clear hb1 hx hp
      go_wp2
      go_ret
      exact ⟨grown_below HX1.out, rfl, fun m' h => by cases h⟩
end Go.Proofs.YtgaoeljdlpemnaaGreatDoor
namespace Go.Proofs.YtgaoeljdlpemnaaGreatDoor
open Go.RowKit Go.Edi Go.Wrap Go.Lib

def ArP (o : Option Ms) (b : Nat) (ty : TypeId) (pre : List Value) (w : World) (e : Ending) (w' : World) : Prop :=
  w.grownBy w' (some b) ∧ e = .returned (.bool o.isSome) ∧ ∀ m', o = some m' → MsgAt w' b ty pre m'
theorem fdv_len (f : Fd) : (fdV f).length = 3 := by cases f <;> rfl
theorem fdv_0 (f : Fd) : (fdV f)[0]? = some (str (tagL f)) := by cases f <;> rfl
theorem fdv_2 (f : Fd) : (fdV f)[2]? = some (.func (.func (takeFn f)) #[] #[]) := by cases f <;> rfl
def tellFn : Fd → Nat
  | .cpn => 110
  | .amt => 116
  | .cod => 118
theorem fdv_1 (f : Fd) : (fdV f)[1]? = some (.func (.func (tellFn f)) #[] #[]) := by cases f <;> rfl
theorem fdv_at : ∀ {fds : List Fd} {k i : Nat} {u : Value} (hk : k < fds.length), (fdV fds[k])[i]? = some u → (fds.flatMap fdV)[k * 3 + i]? = some u
  | f :: r, 0, i, u, _, h => by
    have hi : i < (fdV f).length := (List.getElem?_eq_some_iff.1 h).1
    rw [List.flatMap_cons, Nat.zero_mul, Nat.zero_add, List.getElem?_append_left hi]; exact h
  | f :: r, k + 1, i, u, hk, h => by
    rw [List.flatMap_cons, List.getElem?_append_right (by rw [fdv_len]; omega), fdv_len, show (k + 1) * 3 + i - 3 = k * 3 + i by omega]
    exact fdv_at (by simpa using hk) h
theorem take_enter (f : Fd) : ∀ args w, (callFunc (takeFn f) args).run Tryz.prog w = .ok (.enter (takeFn f) args) w := by
  cases f
  · exact enters_of Tryz.func111 (by kernel_rfl) rfl
  · exact enters_of Tryz.func117 (by kernel_rfl) rfl
  · exact enters_of Tryz.func119 (by kernel_rfl) rfl
theorem drop_cons {α : Type} {l : List α} {k : Nat} (h : k < l.length) : l.drop k = l[k] :: l.drop (k + 1) := List.drop_eq_getElem_cons h
theorem getL {α : Type} {l : List α} {k : Nat} (h : k < l.length) : l[k]? = some l[k] := List.getElem?_eq_getElem h
set_option maxRecDepth 100000 in
set_option maxHeartbeats 3200000 in
theorem areRead_any (fds : List Fd) (vf : Value) (segs : List Sg) (vs : Value) (b : Nat) (ty : TypeId) (pre : List Value) (m : Ms) (B : Nat) (F : Nat → Prop) (w : World) (hm : MsgAt w b ty pre m) (hf : FldsF w F vf fds) (hF : ∀ j, F j → j < w.heap.size ∧ j ≠ b) (hs : SegsF w (· < b) vs segs) (hfl : fds.length ≤ 10) (hsl : segs.length ≤ 1000)
    (hel : ∀ s ∈ segs, s.els.length ≤ 1000) (hsz : ∀ s ∈ segs, ∀ e ∈ s.els, ∀ t ∈ e, t.length ≤ 281474976710656) (he : Env B w) (hB : B ≤ w.heap.size) (hbB : B ≤ b) :
    Calls Tryz.prog 89 #[.pointer (some ⟨b, pre.length, none⟩), vf, vs] w (ArP (arRead m fds segs) b ty pre w) := by
  obtain ⟨pf, cf, rfl, hcf, hpf⟩ := hf
  obtain ⟨ys, ⟨ps, cs, rfl, hcs, hps⟩, hsg⟩ := hs
  have lF : (fds.length : Int) ≤ 10 := by omega
  have lS : (segs.length : Int) ≤ 1000 := by omega
  by_cases hlen : segs.length = fds.length
  · obtain ⟨R, hR⟩ : ∃ R, R = arRead m fds segs := ⟨_, rfl⟩
    rw [← hR]
    have HR := Lib.hid hR
    have HPF := Lib.hid hpf
    have HPS := Lib.hid hps
    have HSG := Lib.hid hsg
    have HFF := Lib.hid hF
    have HEL := Lib.hid hel
    have HSZ := Lib.hid hsz
    have HE := Lib.hid he
    have HBB := Lib.hid hB
    have HBb := Lib.hid hbB
    have HM := Lib.hid hm
    have HLN := Lib.hid hlen
    rw [hlen]
    rw [hlen] at lS
    clear hpf hps hsg hF hel hsz he hB hbB hm hR hcf hcs hsl hfl hlen
    go_enter Tryz.func89, Tryz.ntmps89
    go_wp2
    go_loopw [7, 8, 9, 10, 18] (fun _ _ _ _ i wr => ∃ (k : Nat) (mk : Ms), i = .int .i64 k ∧ k ≤ fds.length ∧ Hid (MsgAt wr b ty pre mk) ∧ Hid (R = arRead mk (fds.drop k) (segs.drop k)) ∧ Hid (w.grownBy wr (some b))) (fun _ _ _ _ i _ => fds.length - (intOf i).toNat)
    case atStart => exact ⟨0, m, rfl, Nat.zero_le _, HM.out, HR.out, grown_refl _ _⟩
    case round =>
      obtain ⟨k, mk, rfl, hk, hmk, hrk, hg⟩ := hrel
      have HMK := Lib.hid hmk.out
      have HRK := Lib.hid hrk.out
      have HG := Lib.hid hg.out
      clear hmk hrk hg
      by_cases hlt : (k : Int) < (fds.length : Int)
      · have hkl : k < fds.length := by omega
        have hks : k < segs.length := by rw [HLN.out]; exact hkl
        have hk0 : (0 : Int) ≤ (k : Int) := Int.natCast_nonneg _
        obtain ⟨fb, fo, rfl, hFb, hfc⟩ := HPF.out (by omega)
        obtain ⟨sb, so, rfl, hsb, hsc⟩ := HPS.out (by have := HLN.out; omega)
        have hfb := HFF.out fb hFb
        have hbw : b < w.heap.size := HM.out.lt
        have FC : ∀ i u, (fdV fds[k])[i]? = some u → wr.cell? ⟨fb, fo + k * 3 + i, none⟩ = some u := fun i u hu => by
          have h := hfc (k * 3 + i) u (fdv_at hkl hu)
          rw [← Nat.add_assoc] at h
          exact grown_cell HG.out hfb.2 h
        obtain ⟨hs0, ve, hs1, hve⟩ := HSG.out.get k hks
        have SC0 : wr.cell? ⟨sb, so + k * 2, none⟩ = some (str (segs[k]).tag) := by
          have h := hsc _ _ hs0
          rw [Nat.mul_comm] at h
          exact grown_cell HG.out (by omega) h
        have SC1 : wr.cell? ⟨sb, so + k * 2 + 1, none⟩ = some ve := by
          have h := hsc _ _ hs1
          rw [Nat.mul_comm, ← Nat.add_assoc] at h
          exact grown_cell HG.out (by omega) h
        have hR2 := HRK.out
        rw [drop_cons hkl, drop_cons hks, ar_step] at hR2
        have hel := HEL.out _ (List.getElem_mem hks)
        have hsz := HSZ.out _ (List.getElem_mem hks)
        obtain ⟨fd, hfd⟩ : ∃ fd, fd = fds[k] := ⟨_, rfl⟩
        rw [← hfd] at FC hR2
        obtain ⟨sg, hsgd⟩ : ∃ sg, sg = segs[k] := ⟨_, rfl⟩
        rw [← hsgd] at SC0 hR2 hel hsz hve
        have f0 := FC 0 _ (fdv_0 fd)
        have f2 := FC 2 _ (fdv_2 fd)
        have f1 := FC 1 _ (fdv_1 fd)
        rw [Nat.add_zero] at f0
        have HVE := Lib.hid hve
        have HR2 := Lib.hid hR2
        have HQ := Lib.hid (And.intro hel hsz)
        have HWB := Lib.hid hbw
        have HKS := Lib.hid hks
        have hent := take_enter fd
        have HTK := Lib.hid (fun l v W F (h1 : MsgAt W b ty pre mk) (h2 : I64R W F v l) (h3 : ∀ nb, F nb → nb ≠ b) => take_any fd l b ty pre mk F v W h1 h2 h3)
        have HSB := Lib.hid (show sb < wr.heap.size from by have := HG.out.size; omega)
        clear hfc hsc hs0 hs1 hve hR2 hel hsz FC hFb hfb hbw hsb hfd hsgd
        generalize takeFn fd = FT at *
        generalize tellFn fd = FG at *
        obtain ⟨tg, htg⟩ : ∃ tg, tg = tagL fd := ⟨_, rfl⟩
        rw [← htg] at f0 HR2
        clear htg
        go_upto_region 6 with fail
        obtain ⟨w1, hw1⟩ : ∃ w1, w1 = wr.alloc (.cells #[str tg, .func (.func FG) #[] #[], .func (.func FT) #[] #[]] 153) := ⟨_, rfl⟩
        rw [← hw1]
        have hb1 : Below wr.heap.size wr w1 := by rw [hw1]; exact (Below.refl _ _).alloc (Nat.le_refl _) _
        have hfr : w1.heap[wr.heap.size]? = some (.cells #[str tg, .func (.func FG) #[] #[], .func (.func FT) #[] #[]] 153 (0, 0)) := by rw [hw1]; exact at_last _ _
        have t0 : w1.cell? ⟨sb, so + k * 2, none⟩ = some (str sg.tag) := (World.cell?_of_block (a := ⟨sb, so + k * 2, none⟩) (hb1.block sb HSB.out)).trans SC0
        have t1 : w1.cell? ⟨sb, so + k * 2 + 1, none⟩ = some ve := (World.cell?_of_block (a := ⟨sb, so + k * 2 + 1, none⟩) (hb1.block sb HSB.out)).trans SC1
        have HFR := Lib.hid hfr
        have HB1 := Lib.hid hb1
        have HT01 := Lib.hid (And.intro t0 t1)
        have hw1s : Below B w w1 := (below_of_grown HG.out HBb.out HBB.out).trans (hb1.mono (Nat.le_trans HBB.out HG.out.size))
        have HNO := Lib.hid (numbersOf_any sg ve tg B w1.drew (HVE.out.kept (fun j hj => ⟨by have h1 := HWB.out; have h2 := HG.out.size; have h3 : wr.heap.size ≤ w1.drew.heap.size := hb1.size; omega, by
          have h1 := HWB.out
          have h2 := HG.out.size
          exact (hb1.block j (by omega)).trans (HG.out.block j (by omega) (fun e => by
            have : j = b := by simpa using e
            omega))⟩)) HQ.out.1 HQ.out.2 ((HE.out.on hw1s).on (Below.refl _ _).drew) (by have := hw1s.size; show B ≤ w1.heap.size; have := HBB.out; omega))
        have HW1 := Lib.hid (hw1s)
        clear hw1 hb1 hfr t0 t1 SC0 SC1 f0 f1 f2 hw1s
        refine wp_region_held (S := fun w' => (w'.cell? ⟨sb, so + k * 2, none⟩ = some (str sg.tag) ∧ w'.cell? ⟨sb, so + k * 2 + 1, none⟩ = some ve) ∧ w'.heap[wr.heap.size]? = some (.cells #[str tg, .func (.func FG) #[] #[], .func (.func FT) #[] #[]] 153 (0, 0))) (by kernel_rfl) ?_
        change wpAnyH _ _ _ _ _ _ _ _ (World.drew _)
        have HS4 := Lib.hid (show (w1.drew.cell? ⟨sb, so + k * 2, none⟩ = some (str sg.tag) ∧ w1.drew.cell? ⟨sb, so + k * 2 + 1, none⟩ = some ve) ∧ w1.drew.heap[wr.heap.size]? = some (.cells #[str tg, .func (.func FG) #[] #[], .func (.func FT) #[] #[]] 153 (0, 0)) from ⟨HT01.out, HFR.out⟩)
        have HLT := Lib.hid hlt
        refine tkH (i := 0) (oi := ⟨some 24, .move (.tmp 2), _, _, _, none⟩) (v := .slice (some ⟨sb, so, none⟩) fds.length cs) rfl qs HS4.out ?_
        simp only [Act.put, zs1, zs2, zs3]
        refine tkH (i := 1) (oi := ⟨some 25, .move (.tmp 7), _, _, _, none⟩) (v := .int .i64 (k : Int)) rfl qs HS4.out ?_
        simp only [Act.put, zs1, zs2, zs3]
        refine tkH (i := 2) (oi := ⟨some 26, .indexAddr 72 (.tmp 24) (.tmp 25), _, _, _, none⟩) (v := .pointer (some ⟨sb, so + k * 2, none⟩)) rfl qs HS4.out ?_
        simp only [Act.put, zs1, zs2, zs3]
        refine tkH (i := 3) (oi := ⟨some 27, .load 112 (.tmp 26), _, _, _, none⟩) (v := .agg #[str sg.tag, ve]) rfl (Or.inl ⟨by rfl, fun w' hS => by have c0 := hS.1.1; have c1 := hS.1.2; go_simp⟩) HS4.out ?_
        simp only [Act.put, zs1, zs2, zs3]
        refine tkH (i := 4) (oi := ⟨some 28, .fieldAddr 153 (.tmp 8) 0, _, _, _, none⟩) (v := .pointer (some ⟨wr.heap.size, 0, none⟩)) rfl qs HS4.out ?_
        simp only [Act.put, zs1, zs2, zs3]
        refine tkH (i := 5) (oi := ⟨some 29, .load 9 (.tmp 28), _, _, _, none⟩) (v := str tg) rfl (Or.inl ⟨by rfl, fun w' hS => by have c := cell_of_arr hS.2 0; go_simp⟩) HS4.out ?_
        simp only [Act.put, zs1, zs2, zs3]
        refine wpAnyH_ready (rs := [6]) (by kernel_rfl) (by simp) (AllReadyH.cons (o := ⟨some 30, .call ⟨.value (.func 105), #[.tmp 27, .tmp 29], _⟩, _, _, _, none⟩) rfl (fun K hK => ?_) AllReadyH.nil)
        go_simp
        refine (HNO.out).mono ?_
        rintro e w5 ⟨hb5, ⟨l, v, hl, rfl, hr⟩ | ⟨hl, rfl⟩⟩
        · have HS5 := Lib.hid (show (w5.cell? ⟨sb, so + k * 2, none⟩ = some (str sg.tag) ∧ w5.cell? ⟨sb, so + k * 2 + 1, none⟩ = some ve) ∧ w5.heap[wr.heap.size]? = some (.cells #[str tg, .func (.func FG) #[] #[], .func (.func FT) #[] #[]] 153 (0, 0)) from
            have hsb : sb < w1.drew.heap.size := Nat.lt_of_lt_of_le HSB.out HB1.out.size
            ⟨⟨(World.cell?_of_block (a := ⟨sb, so + k * 2, none⟩) (hb5.block sb hsb)).trans HS4.out.1.1, (World.cell?_of_block (a := ⟨sb, so + k * 2 + 1, none⟩) (hb5.block sb hsb)).trans HS4.out.1.2⟩, (hb5.block _ (show wr.heap.size < w1.drew.heap.size from lt_of_heap HFR.out)).trans HS4.out.2⟩)
          have HB5 := Lib.hid (show Below wr.heap.size wr w5 from HB1.out.trans ((show Below w1.heap.size w1 w5 from (Below.refl _ _).drew.trans hb5).mono HB1.out.size))
          refine hK.out _ _ HS5.out (fun _ => ?_)
          clear hK K hb5
          have HLL := Lib.hid hl
          have HI5 := Lib.hid hr
          clear hl hr
          refine tkH (i := 7) (oi := ⟨some 23, .move (.tmp 30), _, _, _, none⟩) (v := .tuple #[v, .bool true]) rfl qs HS5.out ?_
          simp only [Act.put, zs1, zs2, zs3]
          refine tkH (i := 8) (oi := ⟨some 31, .extract (.tmp 23) 0, _, _, _, none⟩) (v := v) rfl qs HS5.out ?_
          simp only [Act.put, zs1, zs2, zs3]
          refine tkH (i := 9) (oi := ⟨some 32, .extract (.tmp 23) 1, _, _, _, none⟩) (v := .bool true) rfl qs HS5.out ?_
          simp only [Act.put, zs1, zs2, zs3]
          refine tkH (i := 10) (oi := ⟨some 9, .assign (.tmp 31), _, _, _, none⟩) (v := v) rfl qs HS5.out ?_
          simp only [Act.put, zs1, zs2, zs3]
          refine tkH (i := 11) (oi := ⟨some 10, .assign (.tmp 32), _, _, _, none⟩) (v := .bool true) rfl qs HS5.out ?_
          simp only [Act.put, zs1, zs2, zs3]
          refine wpAnyH_done (by kernel_rfl) ?_ _
          have c2 := cell_of_arr HS5.out.2 2
          have hm5 := HMK.out.keep HB5.out
          have hT := HTK.out l v w5 _ hm5 HI5.out (fun nb hnb e => by
            have h1 := hnb.1
            have h2 : wr.heap.size ≤ w1.drew.heap.size := HB1.out.size
            have h3 := HMK.out.lt
            omega)
          have HT := Lib.hid hT
          simp only [List.getElem?_toArray, List.getElem?_cons_succ, List.getElem?_cons_zero] at c2
          clear hm5 hT
          go_wp2_with fail
          refine (HT.out).mono ?_
          rintro e w6 ⟨rfl, hg6, hm6⟩
          have HG6 := Lib.hid hg6
          have HG7 := Lib.hid (grown_trans (grown_trans HG.out (grown_below (g := some b) HB5.out)) hg6)
          have hR3 := HR2.out
          rw [HLL.out] at hR3
          simp only at hR3
          cases htk : takeL mk fd l with
          | some m' =>
            rw [htk] at hR3
            simp only at hR3
            have HR3 := Lib.hid hR3
            have HM6 := Lib.hid (hm6 m' htk)
            clear hm6 hg6 hR3 c2
            simp only [Option.isSome_some]
            go_wp2
            go_roundw
            case rel => exact ⟨k + 1, m', by go_num, by omega, HM6.out, HR3.out, HG7.out⟩
            case measure => simp [intOf]; have := HLT.out; omega
          | none =>
            rw [htk] at hR3
            simp only at hR3
            have HR3 := Lib.hid hR3
            clear hm6 hg6 hR3 c2
            simp only [Option.isSome_none]
            go_wp2
            go_ret
            exact ⟨HG7.out, by rw [HR3.out]; rfl, fun m' h => by rw [HR3.out] at h; cases h⟩
        · have HS5 := Lib.hid (show (w5.cell? ⟨sb, so + k * 2, none⟩ = some (str sg.tag) ∧ w5.cell? ⟨sb, so + k * 2 + 1, none⟩ = some ve) ∧ w5.heap[wr.heap.size]? = some (.cells #[str tg, .func (.func FG) #[] #[], .func (.func FT) #[] #[]] 153 (0, 0)) from
            have hsb : sb < w1.drew.heap.size := Nat.lt_of_lt_of_le HSB.out HB1.out.size
            ⟨⟨(World.cell?_of_block (a := ⟨sb, so + k * 2, none⟩) (hb5.block sb hsb)).trans HS4.out.1.1, (World.cell?_of_block (a := ⟨sb, so + k * 2 + 1, none⟩) (hb5.block sb hsb)).trans HS4.out.1.2⟩, (hb5.block _ (show wr.heap.size < w1.drew.heap.size from lt_of_heap HFR.out)).trans HS4.out.2⟩)
          have HB5 := Lib.hid (show Below wr.heap.size wr w5 from HB1.out.trans ((show Below w1.heap.size w1 w5 from (Below.refl _ _).drew.trans hb5).mono HB1.out.size))
          refine hK.out _ _ HS5.out (fun _ => ?_)
          clear hK K hb5
          have HLL := Lib.hid hl
          clear hl
          refine tkH (i := 7) (oi := ⟨some 23, .move (.tmp 30), _, _, _, none⟩) (v := .tuple #[.slice none 0 0, .bool false]) rfl qs HS5.out ?_
          simp only [Act.put, zs1, zs2, zs3]
          refine tkH (i := 8) (oi := ⟨some 31, .extract (.tmp 23) 0, _, _, _, none⟩) (v := .slice none 0 0) rfl qs HS5.out ?_
          simp only [Act.put, zs1, zs2, zs3]
          refine tkH (i := 9) (oi := ⟨some 32, .extract (.tmp 23) 1, _, _, _, none⟩) (v := .bool false) rfl qs HS5.out ?_
          simp only [Act.put, zs1, zs2, zs3]
          refine tkH (i := 10) (oi := ⟨some 9, .assign (.tmp 31), _, _, _, none⟩) (v := .slice none 0 0) rfl qs HS5.out ?_
          simp only [Act.put, zs1, zs2, zs3]
          refine tkH (i := 11) (oi := ⟨some 10, .assign (.tmp 32), _, _, _, none⟩) (v := .bool false) rfl qs HS5.out ?_
          simp only [Act.put, zs1, zs2, zs3]
          refine wpAnyH_done (by kernel_rfl) ?_ _
          have hR3 := HR2.out
          rw [HLL.out] at hR3
          simp only at hR3
          have HR3 := Lib.hid hR3
          clear hR3
          go_wp2
          go_ret
          exact ⟨grown_trans HG.out (grown_below (g := some b) HB5.out), by rw [HR3.out]; rfl, fun m' h => by rw [HR3.out] at h; cases h⟩
      · obtain rfl : k = fds.length := by omega
        have hR2 := HRK.out
        rw [List.drop_length, ← HLN.out, List.drop_length, ar_done] at hR2
        have HR2 := Lib.hid hR2
        clear hR2
        go_wp2
        go_ret
        exact ⟨HG.out, by rw [HR2.out]; rfl, fun m' h => by rw [HR2.out] at h; cases h; exact HMK.out⟩
  · have hN : arRead m fds segs = none := by
      cases hq : arRead m fds segs with
      | none => rfl
      | some m' => exact absurd (ar_len hq) hlen
    rw [hN]
    have hl' : ¬ (segs.length : Int) = (fds.length : Int) := by omega
    clear hpf hps hsg hF hel hsz he hB hbB hm hN hcf hcs hsl hfl hlen
    go_enter Tryz.func89, Tryz.ntmps89
    go_wp2
    go_ret
    exact ⟨grown_refl _ _, rfl, fun m' h => by cases h⟩
end Go.Proofs.YtgaoeljdlpemnaaGreatDoor
