/- The walk of the law ShaPieces, over the translated program. -/
import Derived.Test.YtppbdjgpkcpppaaDoorShaW9
import Derived.Maps.AppendAt
import Derived.Deep.RegionHeld
namespace Go.Proofs.YtppbdjgpkcpppaaDoor
open Go.RowKit Go.Sha

/-- where a walk is to stand still -/
def Stp (p : Prop) : Prop := p
theorem stp {p : Prop} (h : Stp p) : p := h
/-- a slice of ints in memory -/
def Ints (w : World) (p : Option Addr) (cs : List Int) : Prop := 0 < cs.length → ∃ b o, p = some ⟨b, o, none⟩ ∧ b < w.heap.size ∧ ∀ j, j < cs.length → w.cell? ⟨b, o + j, none⟩ = some (.int .i64 (cs.getD j 0))
theorem byt_of_owns {w : World} {base n g : Nat} {v : Value} {x : List Nat} (h : w.ownsRow base 5 1 v n (bl x)) (hg : g < base) : Byt w g v x ∧ x.length = n ∧
    ∃ p cap, v = .slice p n cap ∧ (0 < n → ∃ b, p = some ⟨b, 0, none⟩ ∧ base ≤ b ∧ ∃ cur : Array Value, w.heap[b]? = some (.cells cur 5 (0, 0)) ∧ n ≤ cur.size) := by
  obtain ⟨h1, h2⟩ := h
  rw [bl_len, Nat.mul_one] at h1
  rcases h2 with ⟨rfl, rfl⟩ | ⟨b, cap, cur, rfl, hb, hh, hn, hm, hsz, htk⟩
  · exact ⟨⟨none, 0, by rw [h1], by omega, fun h => by omega⟩, h1, none, 0, rfl, fun h => by omega⟩
  · rw [Nat.mul_one] at hsz htk
    refine ⟨⟨some ⟨b, 0, none⟩, cap, by rw [h1], by omega, fun _ => ⟨b, 0, rfl, by omega, (Array.getElem?_eq_some_iff.1 hh).1, fun j hj => ?_⟩⟩, h1, some ⟨b, 0, none⟩, cap, rfl, fun _ => ⟨b, rfl, hb, cur, hh, by omega⟩⟩
    rw [Nat.zero_add, cell_of_row w b j cur _ _ hh, ← bv_get x j hj, ← bl_get, ← htk]
    rw [List.getElem?_take, if_pos (by omega)]
    simp
theorem parts5p : (Tryd.prog.info? 5).map (fun i => (i.zero, i.size, i.bytes)) = some (some (.int .u8 0), 1, 1) := by kernel_rfl
/-- the number of bytes of a piece -/
theorem tmod_abs (c : Int) (L k : Nat) (hk : k ≤ L) : ∃ n : Nat, n ≤ L - k ∧ (c.tmod ((L : Int) - (k : Int) + 1) = (n : Int) ∨ (c.tmod ((L : Int) - (k : Int) + 1) = -(n : Int) ∧ 0 < n)) := by
  refine ⟨(c.tmod ((L : Int) - (k : Int) + 1)).natAbs, ?_, ?_⟩
  · rw [Int.natAbs_tmod]
    have : ((L : Int) - (k : Int) + 1).natAbs = L - k + 1 := by omega
    rw [this]
    have := Nat.mod_lt c.natAbs (show 0 < L - k + 1 by omega)
    omega
  · omega
/-- what the drawn regions of ShaPieces lean on -/
def TP (w : World) (g : Nat) (s : HS) (w' : World) : Prop := w'.heap[g]? = some (.cells s.cells 45 (0, 0)) ∧ Below w.heap.size w w' ∧ Gl w'
theorem TP_below {w w1 w2 : World} {g : Nat} {s : HS} (h : TP w g s w1) (hb : Below w1.heap.size w1 w2) : TP w g s w2 :=
  ⟨(hb.block _ (Array.getElem?_eq_some_iff.1 h.1).1).trans h.1, h.2.1.trans (hb.mono h.2.1.size), h.2.2.below h.2.2.size hb⟩
theorem yi_neq_same {P : Program} {ops : Array Oper} {S : World → Prop} {o : Oper} {a : Act} (hw : Region.wanted o (yielded ops a.tmps) = true) (ty ty2 : TypeId) (x y : Operand) (ho : o.op = .binOp .neq ty x y ty2)
    (e : TypeId) (n : Nat) (l : List Nat) (hu : P.underlying ty = some (.array n e)) (he : P.underlying e = some (.int .u8)) (hc : P.cellsOf e = 1) (hm : P.eqGuardType P.depth ty = false)
    (hx : a.eval x = .agg (bv l)) (hy : a.eval y = .agg (bv l)) (hl : l.length = n) : YieldsIf P ops S o (.bool false) a :=
  .inl ⟨hw, fun w _ => by
    unfold execOp
    simp only [ho, hx, hy, Sem.run_bind, run_eqGuard_agg w .neq ty x y (bv l) (bv l) hm, Result.andThen_ok, run_neq_bytes w hu he hc l l hl hl, Sem.run_pure, decide_true, Bool.not_true]⟩
def TQ (w : World) (g : Nat) (s : HS) (x : Nat) (D : List Nat) (w' : World) : Prop := w'.heap[x]? = some (.cells (bv D) 25 (0, 0)) ∧ TP w g s w'
theorem TQ_below {w w1 w2 : World} {g x : Nat} {s : HS} {D : List Nat} (h : TQ w g s x D w1) (hb : Below w1.heap.size w1 w2) : TQ w g s x D w2 :=
  ⟨(hb.block _ (Array.getElem?_eq_some_iff.1 h.1).1).trans h.1, TP_below h.2 hb⟩
theorem yi_row' {P : Program} {ops : Array Oper} {S : World → Prop} {o : Oper} {a : Act} (hw : Region.wanted o (yielded ops a.tmps) = true) (ty : TypeId) (x : Operand) (ho : o.op = .load ty x)
    (g : Nat) (A : Array Value) (n : Nat) (el : TypeId) (hu : P.underlying ty = some (.array n el)) (hi : (P.info? ty).map (·.size) = some A.size) (hx : a.eval x = .pointer (some ⟨g, 0, none⟩))
    (hS : ∀ w, S w → ∃ t fr, w.heap[g]? = some (.cells A t fr)) : YieldsIf P ops S o (.agg A) a :=
  .inl ⟨hw, fun w h => by
    obtain ⟨t, fr, hg⟩ := hS w h
    unfold execOp
    simp only [ho, hx, Instr.loadAt, Instr.sureAddr, Sem.run_bind, Sem.run_pure, Result.andThen_ok, run_loadVar_row w g t ty A fr _ hg hu rfl hi]⟩
theorem yi_eql_same {P : Program} {ops : Array Oper} {S : World → Prop} {o : Oper} {a : Act} (hw : Region.wanted o (yielded ops a.tmps) = true) (ty ty2 : TypeId) (x y : Operand) (ho : o.op = .binOp .eql ty x y ty2)
    (e : TypeId) (n : Nat) (l : List Nat) (hu : P.underlying ty = some (.array n e)) (he : P.underlying e = some (.int .u8)) (hc : P.cellsOf e = 1) (hm : P.eqGuardType P.depth ty = false)
    (hx : a.eval x = .agg (bv l)) (hy : a.eval y = .agg (bv l)) (hl : l.length = n) : YieldsIf P ops S o (.bool true) a :=
  .inl ⟨hw, fun w _ => by
    unfold execOp
    simp only [ho, hx, hy, Sem.run_bind, run_eqGuard_agg w .eql ty x y (bv l) (bv l) hm, Result.andThen_ok, run_eql_bytes w hu he hc l l hl hl, Sem.run_pure, decide_true]⟩
/-- the piece lies in memory of the call's own -/
def PieceOk (n : Nat) (p : Option Addr) (g : Nat) (w : World) : Prop := 0 < n → ∃ b, p = some ⟨b, 0, none⟩ ∧ g < b ∧ ∃ cur : Array Value, w.heap[b]? = some (.cells cur 5 (0, 0)) ∧ n ≤ cur.size
/-- the loop of ShaPieces: what was written so far -/
def PRel (w : World) (l : List Nat) (at_ i : Value) (n : Nat) (wr : World) : Prop :=
  ∃ k j : Nat, k ≤ l.length ∧ j ≤ n ∧ at_ = .int .i64 k ∧ i = .int .i64 j ∧ wr.heap[w.heap.size]? = some (.cells (putL hs0 (l.take k)).cells 45 (0, 0)) ∧ Below w.heap.size w wr

@[local go_sem high, local simp high] theorem z25p (w : World) : (zeroValue 25).run Tryd.prog w = .ok (.agg (bv (zl 32))) w := by kernel_rfl

set_option maxRecDepth 100000 in
set_option maxHeartbeats 3200000 in
theorem pieces_some (l : List Nat) (cs : List Int) (blk o cap capc : Nat) (pc : Option Addr) (w : World) (hG : Gl w) (hl : Lt 256 l) (hcap : l.length ≤ cap) (hcm : cap ≤ maxLen) (_hcc : cs.length ≤ capc) (_hccm : capc ≤ maxLen)
    (hblk : blk < w.heap.size) (hcell : ∀ j, j < l.length → w.cell? ⟨blk, o + j, none⟩ = some (.int .u8 (at0 l j : Nat))) (hci : Ints w pc cs) (hcb : ∀ j, -9223372036854775808 ≤ cs.getD j 0 ∧ cs.getD j 0 ≤ 9223372036854775807)
    (h1 : l.length ≤ 16384) (h2 : cs.length ≤ 400) :
    Calls Tryd.prog 7 #[.slice (some ⟨blk, o, none⟩) l.length cap, .slice pc cs.length capc] w fun e w' => e = .returned (.bool true) ∧ Below w.heap.size w w' := by
  have HG := Lib.hid hG; clear hG
  have HL := Lib.hid hl; clear hl
  have HCELL := Lib.hid hcell; clear hcell
  have HCI := Lib.hid hci; clear hci
  have HCB := Lib.hid hcb; clear hcb
  have hs := HG.out.size
  unfold maxLen at hcm _hccm
  obtain ⟨L, hL⟩ : ∃ L, L = l.length := ⟨_, rfl⟩
  obtain ⟨N, hN⟩ : ∃ N, N = cs.length := ⟨_, rfl⟩
  rw [← hL] at hcap h1 ⊢
  rw [← hN] at _hcc h2 ⊢
  have HLL := Lib.hid hL; clear hL
  have HN := Lib.hid hN; clear hN
  have t1 : ¬ ((16384 : Int) < (L : Int)) := by omega
  have t2 : ¬ ((400 : Int) < (N : Int)) := by omega
  have t1b : decide ((16384 : Int) < (L : Int)) = false := by simp; omega
  have t2b : decide ((400 : Int) < (N : Int)) = false := by simp; omega
  go_enter Tryd.func7, Tryd.ntmps7
  go_wp2_with fail
  refine (new_any _ HG.out).mono ?_
  rintro e w1 ⟨rfl, rfl⟩
  go_wp2_with fail
  go_loopw [6, 7, 8, 9, 10] (fun at_ i _ _ _ wr => PRel w l at_ i N wr) (fun _ i _ _ _ _ => N - (intOf i).toNat)
  case atStart => exact ⟨0, 0, Nat.zero_le _, Nat.zero_le _, rfl, rfl, by rw [List.take_zero, putL_nil]; exact heap_last _ _ _ rfl, (Below.refl _ _).alloc (Nat.le_refl _) _⟩
  case round =>
    obtain ⟨k, j, hk, hj, rfl, rfl, hh, hb⟩ := hrel
    rw [← HLL.out] at hk
    have HH := Lib.hid hh; clear hh
    have HB := Lib.hid hb; clear hb
    have HB0 := HB
    by_cases hjn : j < N
    · obtain ⟨cb, co, rfl, hcb1, hcb2⟩ := HCI.out (by rw [← HN.out]; omega)
      have c0 : wr.cell? ⟨cb, co + j, none⟩ = some (.int .i64 (cs.getD j 0)) := (HB.out.cell (p := ⟨cb, co + j, none⟩) hcb1).trans (hcb2 j (by rw [← HN.out]; exact hjn))
      obtain ⟨b1, b2⟩ := HCB.out j
      have HC2 := Lib.hid hcb2; clear hcb2
      generalize cs.getD j 0 = c at *
      obtain ⟨n, hn, hq⟩ := tmod_abs c L k hk
      obtain ⟨i0, hi0, hz0, hz1, hz2⟩ := info_parts parts5p
      have HI0 := Lib.hid hi0; clear hi0
      have HZ0 := Lib.hid hz0; clear hz0
      have HZ1 := Lib.hid hz1; clear hz1
      have HZ2 := Lib.hid hz2; clear hz2
      have HXL := Lib.hid (show ((l.drop k).take n).length = n by rw [List.length_take, List.length_drop, ← HLL.out]; omega)
      have hkn : k + n ≤ cap := by omega
      have hwr : w.heap.size < wr.heap.size := (Array.getElem?_eq_some_iff.1 HH.out).1
      have HNEWS := Lib.hid (show ∀ j u, (bl ((l.drop k).take n))[j]? = some u → wr.cell? ((if cap = k then (⟨blk, o, none⟩ : Addr) else ⟨blk, o + k, none⟩).add j) = some u from by
        intro t u hu
        have ht : t < n := by have := (List.getElem?_eq_some_iff.1 hu).1; rw [bl_len, HXL.out] at this; exact this
        rw [if_neg (by omega), Addr.add_mid, show o + k + t = o + (k + t) by omega]
        rw [HB.out.cell (p := ⟨blk, o + (k + t), none⟩) hblk, HCELL.out (k + t) (by rw [← HLL.out]; omega), ← hu, bl_get, bv_get _ _ (by rw [HXL.out]; exact ht)]
        unfold at0
        rw [List.getD_eq_getElem?_getD, List.getD_eq_getElem?_getD, List.getElem?_take, if_pos ht, List.getElem?_drop])
      have HX1 := Lib.hid (show Lt 256 ((l.drop k).take n) from fun x hx => HL.out x (List.mem_of_mem_drop (List.mem_of_mem_take hx)))
      have HX2 := Lib.hid (show l.take k ++ (l.drop k).take n = l.take (k + n) from (List.take_add ..).symm)
      have HKC := Lib.hid (show (putL hs0 (l.take k)).c = k by rw [putL_c, List.length_take, ← HLL.out]; show 0 + min k L = k; omega)
      have HOK := Lib.hid (show (putL hs0 (l.take k)).Ok from putL_ok hs0_ok (fun x hx => HL.out x (List.mem_of_mem_take hx)))
      have HLE := Lib.hid hn
      generalize (l.drop k).take n = x at *
      have hnn : decide ((n : Int) < 0) = false := by simp
      generalize hqq : c.tmod ((L : Int) - (k : Int) + 1) = qq at hq
      have hq3 : (qq = (n : Int) ∧ cap ≤ k) ∨ (qq = (n : Int) ∧ k < cap) ∨ (qq = -(n : Int) ∧ 0 < n ∧ k < cap) := by omega
      subst hqq
      clear hq
      rcases hq3 with ⟨hq, hck⟩ | ⟨hq, hck⟩ | ⟨hq, hn0, hck⟩
      all_goals
        go_wp2_with (at_builtin; refine stp ?_)
        unfold Stp
        with_reducible refine wpList_append_own_at _ ?_ (.const (.slice none 0 0)) (.tmp 47) 22 ?_ wr.heap.size 5 i0 (.int .u8 0) 1 1 Tryd.underlying22 HI0.out HZ0.out HZ1.out HZ2.out ?_ ?_ (.slice none 0 0) 0 [] ?_ ?_ (if cap = k then ⟨blk, o, none⟩ else ⟨blk, o + k, none⟩) n (cap - k) (bl x) ?_ ?_ ?_ ?_ ?_ ?_ ?_ ?_
        · rfl
        · rfl
        · rfl
        · decide
        · rfl
        · exact World.ownsRow_nil _ _ _ _
        · simp [Act.eval]
          omega
        · rw [bl_len, HXL.out]; omega
        · exact HNEWS.out
        · exact bl_one _
        · unfold maxLen; omega
        · omega
        · exact Nat.le_refl _
        intro v' w2 hown hgr _ _
        rw [Nat.zero_add, List.nil_append] at hown
        obtain ⟨hbyt, _, p', cap', rfl, hpiece⟩ := byt_of_owns hown hwr
        have HBYT := Lib.hid hbyt; clear hbyt hown
        have HPIECE := Lib.hid hpiece; clear hpiece
        have HGR := Lib.hid hgr; clear hgr
        have HH2 := Lib.hid (show w2.heap[w.heap.size]? = some (.cells (putL hs0 (l.take k)).cells 45 (0, 0)) from (HGR.out.block _ hwr (by simp [Value.ownBlock])).trans HH.out)
        have HB2 := Lib.hid (show Below w.heap.size w w2 from HB.out.trans ⟨HGR.out.os, HGR.out.tape, HGR.out.output, HGR.out.size, fun q hq => HGR.out.block q (by omega) (by simp [Value.ownBlock])⟩)
        go_wp2_with fail
        refine (write_any w.heap.size (putL hs0 (l.take k)) x _ w2 HOK.out HX1.out (by rw [HKC.out, HXL.out]; omega) (HG.out.below hs HB2.out) (by omega) HH2.out HBYT.out).mono ?_
        rw [← putL_append, HX2.out]
        rintro e w3 ⟨rfl, hh3, hgr3⟩
        have HH3 := Lib.hid hh3; clear hh3
        have HGR3 := Lib.hid hgr3; clear hgr3
        have HB3 := Lib.hid (show Below w.heap.size w w3 from HB2.out.trans ⟨HGR3.out.os, HGR3.out.tape, HGR3.out.output, HGR3.out.size, fun q hq => HGR3.out.block q (by have := HB2.out.size; omega) (by simp; omega)⟩)
        have HPO := Lib.hid (show PieceOk n p' w.heap.size w3 from fun h0 => by
          obtain ⟨b, e1, e2, cur, e3, e4⟩ := HPIECE.out h0
          exact ⟨b, e1, by omega, cur, (HGR3.out.block b (Array.getElem?_eq_some_iff.1 e3).1 (by simp; omega)).trans e3, e4⟩)
        clear HPIECE HBYT HGR HGR3 HB2 HH2 HNEWS HOK HKC
        go_wp2_with fail
        go_loopw [10] (fun i wr2 => ∃ t : Nat, t ≤ n ∧ i = .int .i64 t ∧ wr2.heap[w.heap.size]? = some (.cells (putL hs0 (l.take (k + n))).cells 45 (0, 0)) ∧ Below w.heap.size w wr2 ∧ PieceOk n p' w.heap.size wr2) (fun i _ => n - (intOf i).toNat)
        case atStart => exact ⟨0, Nat.zero_le _, rfl, HH3.out, HB3.out, HPO.out⟩
        case round =>
          clear HH3 HB3 HPO
          obtain ⟨t, ht, rfl, hh, hb, hpo⟩ := hrel
          have HH4 := Lib.hid hh; clear hh
          have HB4 := Lib.hid hb; clear hb
          have HPO := Lib.hid hpo; clear hpo
          by_cases htn : t < n
          · first
              | (exfalso; omega)
              | (obtain ⟨b, rfl, hbg, cur, hcur, hcs⟩ := HPO.out (by omega)
                 have HCUR := Lib.hid hcur; clear hcur
                 have ct : (wr.cell? ⟨b, t, none⟩) = some (cur[t]'(by omega)) := by rw [cell_of_row _ _ t _ _ _ HCUR.out]; exact Array.getElem?_eq_getElem (by omega)
                 have cf : wr.frozen? ⟨b, t, none⟩ = false := frozen_of_row _ _ _ _ _ HCUR.out
                 go_wp2_with fail
                 refine ⟨⟨t + 1, by omega, by go_num, ?_, ?_, ?_⟩, by simp [intOf]; omega⟩
                 · exact (heap_setCell_other _ _ _ _ (by show w.heap.size ≠ b; omega)).trans HH4.out
                 · exact HB4.out.setCell (by show w.heap.size ≤ b; omega) _
                 · exact fun _ => ⟨b, rfl, hbg, _, heap_setCell_same _ _ _ _ _ _ HCUR.out, by simpa using hcs⟩)
          · have hk2 : k + n ≤ L := by omega
            have HSH := Lib.hid (show sumL (putL hs0 (l.take (k + n))) = shaL (l.take (k + n)) from by unfold shaL; rfl)
            have HOK2 := Lib.hid (show (putL hs0 (l.take (k + n))).Ok from putL_ok hs0_ok (fun x hx => HL.out x (List.mem_of_mem_take hx)))
            have HLT2 := Lib.hid (show Lt 256 (l.take (k + n)) from fun x hx => HL.out x (List.mem_of_mem_take hx))
            have HKC2 := Lib.hid (show (putL hs0 (l.take (k + n))).c + 72 < 1152921504606846976 by rw [putL_c, List.length_take, ← HLL.out]; show 0 + min (k + n) L + 72 < _; omega)
            have HLN := Lib.hid (show (l.take (k + n)).length = k + n by rw [List.length_take, ← HLL.out]; omega)
            have HC3 := Lib.hid (show ∀ w', Below w.heap.size w w' → w'.cell? ⟨cb, co + j, none⟩ = some (.int .i64 c) from fun w' hb => (hb.cell (p := ⟨cb, co + j, none⟩) hcb1).trans ((HB0.out.cell (p := ⟨cb, co + j, none⟩) hcb1).symm.trans c0))
            have HBYT2 := Lib.hid (show Byt w w.heap.size (.slice (some ⟨blk, o, none⟩) (k + n) cap) (l.take (k + n)) from ⟨some ⟨blk, o, none⟩, cap, by rw [HLN.out], by rw [HLN.out]; omega, fun _ => ⟨blk, o, rfl, by omega, hblk, fun j hj => by
              rw [HLN.out] at hj
              rw [HCELL.out j (by rw [← HLL.out]; omega)]
              unfold at0
              rw [List.getD_eq_getElem?_getD, List.getD_eq_getElem?_getD, List.getElem?_take, if_pos hj]⟩⟩)
            clear c0
            go_wp2_with fail
            by_cases h3 : c.tmod 3 = 0
            · refine wp_region_held (S := TP w (w.heap.size) (putL hs0 (l.take (k + n)))) (by kernel_rfl) ?_
              change wpAnyH _ _ _ _ _ _ _ _ (World.drew _)
              have HS0 := Lib.hid (show TP w (w.heap.size) (putL hs0 (l.take (k + n))) wr.drew from ⟨HH4.out, HB4.out.drew, HG.out.below hs HB4.out.drew⟩)
              generalize wr.drew = w0 at *
              refine wpAnyH_take (i := 0) (oi := ⟨some 64, .move (.tmp 1), _, _, _, none⟩) (v := .slice (some ⟨cb, co, none⟩) N capc) rfl (by kernel_rfl) (by kernel_rfl) (by kernel_rfl) (fun _ _ _ h => h) (Or.inl ⟨by rfl, fun w' hS => by go_simp⟩) HS0.out ?_
              simp only [Act.put, List.setIfInBounds_toArray, List.set_cons_zero, List.set_cons_succ]
              refine wpAnyH_take (i := 1) (oi := ⟨some 65, .move (.tmp 7), _, _, _, none⟩) (v := .int .i64 j) rfl (by kernel_rfl) (by kernel_rfl) (by kernel_rfl) (fun _ _ _ h => h) (Or.inl ⟨by rfl, fun w' hS => by go_simp⟩) HS0.out ?_
              simp only [Act.put, List.setIfInBounds_toArray, List.set_cons_zero, List.set_cons_succ]
              refine wpAnyH_take (i := 2) (oi := ⟨some 66, .indexAddr 34 (.tmp 64) (.tmp 65), _, _, _, none⟩) (v := .pointer (some ⟨cb, co + j, none⟩)) rfl (by kernel_rfl) (by kernel_rfl) (by kernel_rfl) (fun _ _ _ h => h) (Or.inl ⟨by rfl, fun w' hS => by go_simp⟩) HS0.out ?_
              simp only [Act.put, List.setIfInBounds_toArray, List.set_cons_zero, List.set_cons_succ]
              refine wpAnyH_take (i := 3) (oi := ⟨some 67, .load 3 (.tmp 66), _, _, _, none⟩) (v := .int .i64 c) rfl (by kernel_rfl) (by kernel_rfl) (by kernel_rfl) (fun _ _ _ h => h) (Or.inl ⟨by rfl, fun w' hS => by have hc3 := HC3.out w' hS.2.1; go_simp⟩) HS0.out ?_
              simp only [Act.put, List.setIfInBounds_toArray, List.set_cons_zero, List.set_cons_succ]
              refine wpAnyH_take (i := 4) (oi := ⟨some 68, .binOp .rem 3 (.tmp 67) (.const (.int .i64 3)) 3, _, _, _, none⟩) (v := .int .i64 (c.tmod 3)) rfl (by kernel_rfl) (by kernel_rfl) (by kernel_rfl) (fun _ _ _ h => h) (Or.inl ⟨by rfl, fun w' hS => by go_simp⟩) HS0.out ?_
              simp only [Act.put, List.setIfInBounds_toArray, List.set_cons_zero, List.set_cons_succ]
              refine wpAnyH_take (i := 5) (oi := ⟨some 69, .binOp .eql 3 (.tmp 68) (.const (.int .i64 0)) 3, _, _, _, none⟩) (v := .bool true) rfl (by kernel_rfl) (by kernel_rfl) (by kernel_rfl) (fun _ _ _ h => h) (Or.inl ⟨by rfl, fun w' hS => by rw [h3]; go_simp⟩) HS0.out ?_
              simp only [Act.put, List.setIfInBounds_toArray, List.set_cons_zero, List.set_cons_succ]
              refine wpAnyH_take (i := 6) (oi := ⟨some 70, .move (.tmp 69), _, _, _, none⟩) (v := .bool true) rfl (by kernel_rfl) (by kernel_rfl) (by kernel_rfl) (fun _ _ _ h => h) (Or.inl ⟨by rfl, fun w' hS => by go_simp⟩) HS0.out ?_
              simp only [Act.put, List.setIfInBounds_toArray, List.set_cons_zero, List.set_cons_succ]
              refine wpAnyH_take (i := 7) (oi := ⟨some 71, .move (.tmp 5), _, _, _, some (6, true)⟩) (v := .pointer (some ⟨w.heap.size, 0, none⟩)) rfl (by kernel_rfl) (by kernel_rfl) (by kernel_rfl) (fun _ _ _ h => h) (Or.inl ⟨by rfl, fun w' hS => by go_simp⟩) HS0.out ?_
              simp only [Act.put, List.setIfInBounds_toArray, List.set_cons_zero, List.set_cons_succ]
              refine wpAnyH_take (i := 9) (oi := ⟨some 73, .move (.tmp 0), _, _, _, some (6, true)⟩) (v := .slice (some ⟨blk, o, none⟩) L cap) rfl (by kernel_rfl) (by kernel_rfl) (by kernel_rfl) (fun _ _ _ h => h) (Or.inl ⟨by rfl, fun w' hS => by go_simp⟩) HS0.out ?_
              simp only [Act.put, List.setIfInBounds_toArray, List.set_cons_zero, List.set_cons_succ]
              refine wpAnyH_take (i := 10) (oi := ⟨some 74, .move (.tmp 6), _, _, _, some (6, true)⟩) (v := .int .i64 (↑k + ↑n)) rfl (by kernel_rfl) (by kernel_rfl) (by kernel_rfl) (fun _ _ _ h => h) (Or.inl ⟨by rfl, fun w' hS => by go_simp⟩) HS0.out ?_
              simp only [Act.put, List.setIfInBounds_toArray, List.set_cons_zero, List.set_cons_succ]
              refine wpAnyH_take (i := 11) (oi := ⟨some 75, .slice 22 (.tmp 73) none (some (.tmp 74)) none, _, _, _, some (6, true)⟩) (v := .slice (some ⟨blk, o, none⟩) (k + n) cap) rfl (by kernel_rfl) (by kernel_rfl) (by kernel_rfl) (fun _ _ _ h => h) (Or.inl ⟨by rfl, fun w' hS => by have e1 : ((k : Int) + (n : Int)).toNat = k + n := (by omega); have e2 : (0 : Int) ≤ (k : Int) + (n : Int) := (by omega); have e3 : (k : Int) + (n : Int) ≤ (cap : Int) := (by omega); go_simp⟩) HS0.out ?_
              simp only [Act.put, List.setIfInBounds_toArray, List.set_cons_zero, List.set_cons_succ]
              refine wpAnyH_ready (rs := [8]) (by kernel_rfl) (by simp) (AllReadyH.cons (o := ⟨some 72, .call ⟨.value (.func 15), #[.tmp 71], _⟩, _, _, _, some (6, true)⟩) rfl (fun K hK => ?_) AllReadyH.nil)
              go_simp
              refine (sum_any w.heap.size _ _ HOK2.out HKC2.out HS0.out.2.2 HS0.out.1).mono ?_
              rintro e w1 ⟨rfl, hbel⟩
              have HS1 := Lib.hid (TP_below HS0.out hbel)
              clear hbel
              refine hK.out _ _ HS1.out (fun _ => ?_)
              clear hK K
              refine wpAnyH_ready (rs := [12]) (by kernel_rfl) (by simp) (AllReadyH.cons (o := ⟨some 76, .call ⟨.value (.func 9), #[.tmp 75], _⟩, _, _, _, some (6, true)⟩) rfl (fun K hK => ?_) AllReadyH.nil)
              go_simp
              refine (of_any (l.take (k + n)) _ _ HLT2.out (by rw [HLN.out]; omega) HS1.out.2.2 (HBYT2.out.grown HS1.out.2.1 (fun b h => by have := HS1.out.2.1.size; omega))).mono ?_
              rintro e w2 ⟨rfl, hbel⟩
              have HS2 := Lib.hid (TP_below HS1.out hbel)
              clear hbel
              refine hK.out _ _ HS2.out (fun _ => ?_)
              clear hK K
              rw [HSH.out]
              refine wpAnyH_take (i := 13) (oi := ⟨some 77, .binOp .neq 25 (.tmp 72) (.tmp 76) 25, _, _, _, some (6, true)⟩) (v := .bool false) rfl (by kernel_rfl) (by kernel_rfl) (by kernel_rfl) (fun _ _ _ h => h) (yi_neq_same (by rfl) 25 25 (.tmp 72) (.tmp 76) rfl 5 32 (shaL (l.take (k + n))) Tryd.underlying25 Tryd.underlying5 cells5 guard25 rfl rfl (shaL_len _)) HS2.out ?_
              simp only [Act.put, List.setIfInBounds_toArray, List.set_cons_zero, List.set_cons_succ]
              refine wpAnyH_take (i := 14) (oi := ⟨some 78, .pick (.tmp 70) (.tmp 77) (.const (.bool false)), _, _, _, none⟩) (v := .bool false) rfl (by kernel_rfl) (by kernel_rfl) (by kernel_rfl) (fun _ _ _ h => h) (Or.inl ⟨by rfl, fun w' hS => by go_simp⟩) HS2.out ?_
              simp only [Act.put, List.setIfInBounds_toArray, List.set_cons_zero, List.set_cons_succ]
              refine wpAnyH_done (by kernel_rfl) ?_ _
              go_wp2_with fail
              exact ⟨⟨k + n, j + 1, by rw [← HLL.out]; omega, by omega, by go_num, by go_num, HS2.out.1, HS2.out.2.1⟩, by simp [intOf]; omega⟩
            · refine wp_region_held (S := TP w (w.heap.size) (putL hs0 (l.take (k + n)))) (by kernel_rfl) ?_
              change wpAnyH _ _ _ _ _ _ _ _ (World.drew _)
              have HS0 := Lib.hid (show TP w (w.heap.size) (putL hs0 (l.take (k + n))) wr.drew from ⟨HH4.out, HB4.out.drew, HG.out.below hs HB4.out.drew⟩)
              generalize wr.drew = w0 at *
              refine wpAnyH_take (i := 0) (oi := ⟨some 64, .move (.tmp 1), _, _, _, none⟩) (v := .slice (some ⟨cb, co, none⟩) N capc) rfl (by kernel_rfl) (by kernel_rfl) (by kernel_rfl) (fun _ _ _ h => h) (Or.inl ⟨by rfl, fun w' hS => by go_simp⟩) HS0.out ?_
              simp only [Act.put, List.setIfInBounds_toArray, List.set_cons_zero, List.set_cons_succ]
              refine wpAnyH_take (i := 1) (oi := ⟨some 65, .move (.tmp 7), _, _, _, none⟩) (v := .int .i64 j) rfl (by kernel_rfl) (by kernel_rfl) (by kernel_rfl) (fun _ _ _ h => h) (Or.inl ⟨by rfl, fun w' hS => by go_simp⟩) HS0.out ?_
              simp only [Act.put, List.setIfInBounds_toArray, List.set_cons_zero, List.set_cons_succ]
              refine wpAnyH_take (i := 2) (oi := ⟨some 66, .indexAddr 34 (.tmp 64) (.tmp 65), _, _, _, none⟩) (v := .pointer (some ⟨cb, co + j, none⟩)) rfl (by kernel_rfl) (by kernel_rfl) (by kernel_rfl) (fun _ _ _ h => h) (Or.inl ⟨by rfl, fun w' hS => by go_simp⟩) HS0.out ?_
              simp only [Act.put, List.setIfInBounds_toArray, List.set_cons_zero, List.set_cons_succ]
              refine wpAnyH_take (i := 3) (oi := ⟨some 67, .load 3 (.tmp 66), _, _, _, none⟩) (v := .int .i64 c) rfl (by kernel_rfl) (by kernel_rfl) (by kernel_rfl) (fun _ _ _ h => h) (Or.inl ⟨by rfl, fun w' hS => by have hc3 := HC3.out w' hS.2.1; go_simp⟩) HS0.out ?_
              simp only [Act.put, List.setIfInBounds_toArray, List.set_cons_zero, List.set_cons_succ]
              refine wpAnyH_take (i := 4) (oi := ⟨some 68, .binOp .rem 3 (.tmp 67) (.const (.int .i64 3)) 3, _, _, _, none⟩) (v := .int .i64 (c.tmod 3)) rfl (by kernel_rfl) (by kernel_rfl) (by kernel_rfl) (fun _ _ _ h => h) (Or.inl ⟨by rfl, fun w' hS => by go_simp⟩) HS0.out ?_
              simp only [Act.put, List.setIfInBounds_toArray, List.set_cons_zero, List.set_cons_succ]
              refine wpAnyH_take (i := 5) (oi := ⟨some 69, .binOp .eql 3 (.tmp 68) (.const (.int .i64 0)) 3, _, _, _, none⟩) (v := .bool false) rfl (by kernel_rfl) (by kernel_rfl) (by kernel_rfl) (fun _ _ _ h => h) (Or.inl ⟨by rfl, fun w' hS => by have h3b : (c.tmod 3 == 0) = false := (by simpa using h3); go_simp⟩) HS0.out ?_
              simp only [Act.put, List.setIfInBounds_toArray, List.set_cons_zero, List.set_cons_succ]
              refine wpAnyH_take (i := 6) (oi := ⟨some 70, .move (.tmp 69), _, _, _, none⟩) (v := .bool false) rfl (by kernel_rfl) (by kernel_rfl) (by kernel_rfl) (fun _ _ _ h => h) (Or.inl ⟨by rfl, fun w' hS => by go_simp⟩) HS0.out ?_
              simp only [Act.put, List.setIfInBounds_toArray, List.set_cons_zero, List.set_cons_succ]
              refine wpAnyH_take (i := 7) (oi := ⟨some 71, .move (.tmp 5), _, _, _, some (6, true)⟩) (v := undef) rfl (by kernel_rfl) (by kernel_rfl) (by kernel_rfl) (fun _ _ _ h => h) (Or.inr ⟨by rfl, rfl⟩) HS0.out ?_
              simp only [Act.put, List.setIfInBounds_toArray, List.set_cons_zero, List.set_cons_succ]
              refine wpAnyH_take (i := 8) (oi := ⟨some 72, .call ⟨.value (.func 15), #[.tmp 71], _⟩, _, _, _, some (6, true)⟩) (v := undef) rfl (by kernel_rfl) (by kernel_rfl) (by kernel_rfl) (fun _ _ _ h => h) (Or.inr ⟨by rfl, rfl⟩) HS0.out ?_
              simp only [Act.put, List.setIfInBounds_toArray, List.set_cons_zero, List.set_cons_succ]
              refine wpAnyH_take (i := 9) (oi := ⟨some 73, .move (.tmp 0), _, _, _, some (6, true)⟩) (v := undef) rfl (by kernel_rfl) (by kernel_rfl) (by kernel_rfl) (fun _ _ _ h => h) (Or.inr ⟨by rfl, rfl⟩) HS0.out ?_
              simp only [Act.put, List.setIfInBounds_toArray, List.set_cons_zero, List.set_cons_succ]
              refine wpAnyH_take (i := 10) (oi := ⟨some 74, .move (.tmp 6), _, _, _, some (6, true)⟩) (v := undef) rfl (by kernel_rfl) (by kernel_rfl) (by kernel_rfl) (fun _ _ _ h => h) (Or.inr ⟨by rfl, rfl⟩) HS0.out ?_
              simp only [Act.put, List.setIfInBounds_toArray, List.set_cons_zero, List.set_cons_succ]
              refine wpAnyH_take (i := 11) (oi := ⟨some 75, .slice 22 (.tmp 73) none (some (.tmp 74)) none, _, _, _, some (6, true)⟩) (v := undef) rfl (by kernel_rfl) (by kernel_rfl) (by kernel_rfl) (fun _ _ _ h => h) (Or.inr ⟨by rfl, rfl⟩) HS0.out ?_
              simp only [Act.put, List.setIfInBounds_toArray, List.set_cons_zero, List.set_cons_succ]
              refine wpAnyH_take (i := 12) (oi := ⟨some 76, .call ⟨.value (.func 9), #[.tmp 75], _⟩, _, _, _, some (6, true)⟩) (v := undef) rfl (by kernel_rfl) (by kernel_rfl) (by kernel_rfl) (fun _ _ _ h => h) (Or.inr ⟨by rfl, rfl⟩) HS0.out ?_
              simp only [Act.put, List.setIfInBounds_toArray, List.set_cons_zero, List.set_cons_succ]
              refine wpAnyH_take (i := 13) (oi := ⟨some 77, .binOp .neq 25 (.tmp 72) (.tmp 76) 25, _, _, _, some (6, true)⟩) (v := undef) rfl (by kernel_rfl) (by kernel_rfl) (by kernel_rfl) (fun _ _ _ h => h) (Or.inr ⟨by rfl, rfl⟩) HS0.out ?_
              simp only [Act.put, List.setIfInBounds_toArray, List.set_cons_zero, List.set_cons_succ]
              refine wpAnyH_take (i := 14) (oi := ⟨some 78, .pick (.tmp 70) (.tmp 77) (.const (.bool false)), _, _, _, none⟩) (v := .bool false) rfl (by kernel_rfl) (by kernel_rfl) (by kernel_rfl) (fun _ _ _ h => h) (Or.inl ⟨by rfl, fun w' hS => by go_simp⟩) HS0.out ?_
              simp only [Act.put, List.setIfInBounds_toArray, List.set_cons_zero, List.set_cons_succ]
              refine wpAnyH_done (by kernel_rfl) ?_ _
              go_wp2_with fail
              exact ⟨⟨k + n, j + 1, by rw [← HLL.out]; omega, by omega, by go_num, by go_num, HS0.out.1, HS0.out.2.1⟩, by simp [intOf]; omega⟩
    · have HDL := Lib.hid (show (l.drop k).length = L - k by rw [List.length_drop, ← HLL.out])
      have HOK1 := Lib.hid (show (putL hs0 (l.take k)).Ok from putL_ok hs0_ok (fun x hx => HL.out x (List.mem_of_mem_take hx)))
      have HKC := Lib.hid (show (putL hs0 (l.take k)).c = k by rw [putL_c, List.length_take, ← HLL.out]; show 0 + min k L = k; omega)
      have HOK := Lib.hid (show (putL hs0 l).Ok from putL_ok hs0_ok HL.out)
      have HC72 := Lib.hid (show (putL hs0 l).c + 72 < 1152921504606846976 by rw [putL_c, ← HLL.out]; show 0 + L + 72 < _; omega)
      have HL72 := Lib.hid (show l.length + 72 < 1152921504606846976 by rw [← HLL.out]; omega)
      have HSH := Lib.hid (show sumL (putL hs0 l) = shaL l from by unfold shaL; rfl)
      have HI25 := Lib.hid (show (Tryd.prog.info? 25).map (·.size) = some (bv (shaL l)).size by rw [bv_size, shaL_len]; exact info25)
      have HBYTL := Lib.hid (show Byt w w.heap.size (.slice (some ⟨blk, o, none⟩) L cap) l from ⟨some ⟨blk, o, none⟩, cap, by rw [HLL.out], by rw [← HLL.out]; exact hcap, fun _ => ⟨blk, o, rfl, by omega, hblk, HCELL.out⟩⟩)
      have HBD := Lib.hid (show ∀ (p : Option Addr) (c' : Nat), L - k ≤ c' → (0 < L - k → p = some ⟨blk, o + k, none⟩) → Byt wr w.heap.size (.slice p (L - k) c') (l.drop k) from fun p c' h1 h2 => ⟨p, c', by rw [HDL.out], by rw [HDL.out]; exact h1, fun h => ⟨blk, o + k, h2 (by rw [HDL.out] at h; exact h), by omega, Nat.lt_of_lt_of_le hblk HB.out.size, fun i hi => by
        rw [HDL.out] at hi
        rw [show o + k + i = o + (k + i) by omega, HB.out.cell (p := ⟨blk, o + (k + i), none⟩) hblk, HCELL.out (k + i) (by rw [← HLL.out]; omega)]
        unfold at0
        rw [List.getD_eq_getElem?_getD, List.getD_eq_getElem?_getD, List.getElem?_drop]⟩⟩)
      have hwr : w.heap.size < wr.heap.size := (Array.getElem?_eq_some_iff.1 HH.out).1
      rcases Nat.lt_or_ge k cap with hck | hck
      all_goals
        go_wp2_with fail
        refine (write_any w.heap.size (putL hs0 (l.take k)) (l.drop k) _ wr HOK1.out (fun x hx => HL.out x (List.mem_of_mem_drop hx)) (by rw [HKC.out, HDL.out]; omega) (HG.out.below hs HB.out) (by omega) HH.out (HBD.out _ _ (by omega) (by first | exact fun _ => rfl | omega))).mono ?_
        rw [← putL_append, List.take_append_drop]
        rintro e w3 ⟨rfl, hh3, hgr3⟩
        have HH3 := Lib.hid hh3; clear hh3
        have HB3 := Lib.hid (show Below w.heap.size w w3 from HB.out.trans ⟨hgr3.os, hgr3.tape, hgr3.output, hgr3.size, fun q hq => hgr3.block q (by omega) (by simp; omega)⟩)
        clear hgr3 HBD
        go_wp2_with fail
        refine (sum_any w.heap.size _ w3 HOK.out HC72.out (HG.out.below hs HB3.out) HH3.out).mono ?_
        rw [HSH.out]
        rintro e w4 ⟨rfl, hb4⟩
        have HB4 := Lib.hid (HB3.out.trans (hb4.mono HB3.out.size))
        have HH4 := Lib.hid ((hb4.block _ (Array.getElem?_eq_some_iff.1 HH3.out).1).trans HH3.out)
        clear hb4
        go_wp2_with (first
          | ((with_reducible refine wl_storeL (ty := 25) w4.heap.size (bv (shaL l)) ?_ ?_ ?_ ?_ ?_ ?_ ?_); (· rfl); (· rfl); (· rfl); (· exact HI25.out); (· rw [bv_size, bv_size, shaL_len, zl_len]); (· exact bv_one _)))
        refine wp_region_held (S := TQ w w.heap.size (putL hs0 l) w4.heap.size (shaL l)) (by kernel_rfl) ?_
        change wpAnyH _ _ _ _ _ _ _ _ (World.drew _)
        have HS0 := Lib.hid (show TQ w w.heap.size (putL hs0 l) w4.heap.size (shaL l) (w4.alloc (.cells (bv (shaL l)) 25)).drew from ⟨heap_last _ _ _ rfl, (heap_prev _ _ _ (Array.getElem?_eq_some_iff.1 HH4.out).1).trans HH4.out, (HB4.out.alloc HB4.out.size _).drew, HG.out.below hs (HB4.out.alloc HB4.out.size _).drew⟩)
        generalize (w4.alloc (.cells (bv (shaL l)) 25)).drew = w0 at *
        generalize w4.heap.size = x0 at *
        refine wpAnyH_take (i := 0) (oi := ⟨some 86, .load 25 (.tmp 11), _, _, _, none⟩) (v := .agg (bv (shaL l))) rfl (by kernel_rfl) (by kernel_rfl) (by kernel_rfl) (fun _ _ _ h => h) (yi_row' (by rfl) 25 (.tmp 11) rfl x0 (bv (shaL l)) 32 5 Tryd.underlying25 HI25.out rfl (fun _ h => ⟨_, _, h.1⟩)) HS0.out ?_
        simp only [Act.put, List.setIfInBounds_toArray, List.set_cons_zero, List.set_cons_succ]
        refine wpAnyH_take (i := 1) (oi := ⟨some 87, .move (.tmp 5), _, _, _, none⟩) (v := .pointer (some ⟨w.heap.size, 0, none⟩)) rfl (by kernel_rfl) (by kernel_rfl) (by kernel_rfl) (fun _ _ _ h => h) (Or.inl ⟨by rfl, fun w' hS => by go_simp⟩) HS0.out ?_
        simp only [Act.put, List.setIfInBounds_toArray, List.set_cons_zero, List.set_cons_succ]
        refine wpAnyH_ready (rs := [2]) (by kernel_rfl) (by simp) (AllReadyH.cons (o := ⟨some 88, .call ⟨.value (.func 15), #[.tmp 87], _⟩, _, _, _, none⟩) rfl (fun K hK => ?_) AllReadyH.nil)
        go_simp
        refine (sum_any w.heap.size _ _ HOK.out HC72.out HS0.out.2.2.2 HS0.out.2.1).mono ?_
        rw [HSH.out]
        rintro e w1 ⟨rfl, hbel⟩
        have HS1 := Lib.hid (TQ_below HS0.out hbel)
        clear hbel
        refine hK.out _ _ HS1.out (fun _ => ?_)
        clear hK K
        refine wpAnyH_take (i := 3) (oi := ⟨some 89, .binOp .eql 25 (.tmp 86) (.tmp 88) 25, _, _, _, none⟩) (v := .bool true) rfl (by kernel_rfl) (by kernel_rfl) (by kernel_rfl) (fun _ _ _ h => h) (yi_eql_same (by rfl) 25 25 (.tmp 86) (.tmp 88) rfl 5 32 (shaL l) Tryd.underlying25 Tryd.underlying5 cells5 guard25 rfl rfl (shaL_len _)) HS1.out ?_
        simp only [Act.put, List.setIfInBounds_toArray, List.set_cons_zero, List.set_cons_succ]
        refine wpAnyH_take (i := 4) (oi := ⟨some 90, .move (.tmp 89), _, _, _, none⟩) (v := .bool true) rfl (by kernel_rfl) (by kernel_rfl) (by kernel_rfl) (fun _ _ _ h => h) (Or.inl ⟨by rfl, fun w' hS => by go_simp⟩) HS1.out ?_
        simp only [Act.put, List.setIfInBounds_toArray, List.set_cons_zero, List.set_cons_succ]
        refine wpAnyH_take (i := 5) (oi := ⟨some 91, .load 25 (.tmp 11), _, _, _, some (4, true)⟩) (v := .agg (bv (shaL l))) rfl (by kernel_rfl) (by kernel_rfl) (by kernel_rfl) (fun _ _ _ h => h) (yi_row' (by rfl) 25 (.tmp 11) rfl x0 (bv (shaL l)) 32 5 Tryd.underlying25 HI25.out rfl (fun _ h => ⟨_, _, h.1⟩)) HS1.out ?_
        simp only [Act.put, List.setIfInBounds_toArray, List.set_cons_zero, List.set_cons_succ]
        refine wpAnyH_take (i := 6) (oi := ⟨some 92, .move (.tmp 0), _, _, _, some (4, true)⟩) (v := .slice (some ⟨blk, o, none⟩) L cap) rfl (by kernel_rfl) (by kernel_rfl) (by kernel_rfl) (fun _ _ _ h => h) (Or.inl ⟨by rfl, fun w' hS => by go_simp⟩) HS1.out ?_
        simp only [Act.put, List.setIfInBounds_toArray, List.set_cons_zero, List.set_cons_succ]
        refine wpAnyH_ready (rs := [7]) (by kernel_rfl) (by simp) (AllReadyH.cons (o := ⟨some 93, .call ⟨.value (.func 9), #[.tmp 92], _⟩, _, _, _, some (4, true)⟩) rfl (fun K hK => ?_) AllReadyH.nil)
        go_simp
        refine (of_any l _ _ HL.out HL72.out HS1.out.2.2.2 (HBYTL.out.grown HS1.out.2.2.1 (fun b h => by have := HS1.out.2.2.1.size; omega))).mono ?_
        rintro e w2 ⟨rfl, hbel⟩
        have HS2 := Lib.hid (TQ_below HS1.out hbel)
        clear hbel
        refine hK.out _ _ HS2.out (fun _ => ?_)
        clear hK K
        refine wpAnyH_take (i := 8) (oi := ⟨some 94, .binOp .eql 25 (.tmp 91) (.tmp 93) 25, _, _, _, some (4, true)⟩) (v := .bool true) rfl (by kernel_rfl) (by kernel_rfl) (by kernel_rfl) (fun _ _ _ h => h) (yi_eql_same (by rfl) 25 25 (.tmp 91) (.tmp 93) rfl 5 32 (shaL l) Tryd.underlying25 Tryd.underlying5 cells5 guard25 rfl rfl (shaL_len _)) HS2.out ?_
        simp only [Act.put, List.setIfInBounds_toArray, List.set_cons_zero, List.set_cons_succ]
        refine wpAnyH_take (i := 9) (oi := ⟨some 95, .pick (.tmp 90) (.tmp 94) (.const (.bool false)), _, _, _, none⟩) (v := .bool true) rfl (by kernel_rfl) (by kernel_rfl) (by kernel_rfl) (fun _ _ _ h => h) (Or.inl ⟨by rfl, fun w' hS => by go_simp⟩) HS2.out ?_
        simp only [Act.put, List.setIfInBounds_toArray, List.set_cons_zero, List.set_cons_succ]
        refine wpAnyH_take (i := 10) (oi := ⟨some 96, .move (.tmp 95), _, _, _, none⟩) (v := .bool true) rfl (by kernel_rfl) (by kernel_rfl) (by kernel_rfl) (fun _ _ _ h => h) (Or.inl ⟨by rfl, fun w' hS => by go_simp⟩) HS2.out ?_
        simp only [Act.put, List.setIfInBounds_toArray, List.set_cons_zero, List.set_cons_succ]
        refine wpAnyH_ready (rs := [11]) (by kernel_rfl) (by simp) (AllReadyH.cons (o := ⟨some 97, .call ⟨.value (.func 8), #[], _⟩, _, _, _, some (10, true)⟩) rfl (fun K hK => ?_) AllReadyH.nil)
        go_simp
        refine (wakes_any _ HS2.out.2.2.2).mono ?_
        rintro e w3 ⟨rfl, hbel⟩
        have HS3 := Lib.hid (TQ_below HS2.out hbel)
        clear hbel
        refine hK.out _ _ HS3.out (fun _ => ?_)
        clear hK K
        refine wpAnyH_take (i := 12) (oi := ⟨some 98, .pick (.tmp 96) (.tmp 97) (.const (.bool false)), _, _, _, none⟩) (v := .bool true) rfl (by kernel_rfl) (by kernel_rfl) (by kernel_rfl) (fun _ _ _ h => h) (Or.inl ⟨by rfl, fun w' hS => by go_simp⟩) HS3.out ?_
        simp only [Act.put, List.setIfInBounds_toArray, List.set_cons_zero, List.set_cons_succ]
        refine wpAnyH_take (i := 13) (oi := ⟨some 4, .assign (.tmp 98), _, _, _, none⟩) (v := .bool true) rfl (by kernel_rfl) (by kernel_rfl) (by kernel_rfl) (fun _ _ _ h => h) (Or.inl ⟨by rfl, fun w' hS => by go_simp⟩) HS3.out ?_
        simp only [Act.put, List.setIfInBounds_toArray, List.set_cons_zero, List.set_cons_succ]
        refine wpAnyH_done (by kernel_rfl) ?_ _
        go_wp2_with fail
        go_ret
        exact ⟨rfl, HS3.out.2.2.1⟩
end Go.Proofs.YtppbdjgpkcpppaaDoor
