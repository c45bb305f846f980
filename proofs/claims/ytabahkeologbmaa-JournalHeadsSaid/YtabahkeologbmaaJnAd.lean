/- Contracts of Add. -/
import Derived.Test.YtabahkeologbmaaJnCo
namespace Go.Proofs.Ytabahkeologbmaa.Jn
open Go.RowKit Go.Shelf Go.Dk Go.Jn Go.Sha Go.Proofs.Ytabahkeologbmaa.Dk

set_option maxRecDepth 100000 in
theorem add_nil (p : Option Addr) (n cap : Nat) (w : World) : Calls Try.prog 15 #[.pointer none, .slice p n cap] w fun e w' => e = .returned (.int .i64 8) ∧ w = w' := by
  go_enter Try.func15, Try.ntmps15
  go_wp2
  go_ret
  exact ⟨rfl, rfl⟩
set_option maxRecDepth 100000 in
theorem add_long (J : Nat) (p : Option Addr) (n cap : Nat) (hn : 65536 < n) (hn2 : n ≤ 1000000) (w : World) : Calls Try.prog 15 #[pJ J, .slice p n cap] w fun e w' => e = .returned (.int .i64 2) ∧ w = w' := by
  have i1 : decide ((65536 : Int) < (n : Int)) = true := decide_eq_true (by omega)
  go_enter Try.func15, Try.ntmps15
  go_wp2
  go_ret
  exact ⟨rfl, rfl⟩
set_option maxRecDepth 100000 in
theorem add_full {w : World} {J D L M base : Nat} {v : Value} {rs : List By} {num : Nat} {dead : Bool} {d : Dk} (hj : JnAt w J D base v rs num dead) (h : DkAt w D L M d) (h4 : 4 ≤ d.n) (hl : (dat rs).length ≤ 64 * (d.n - 2)) (p : Option Addr) (n cap : Nat) (hn : n ≤ 65536) (hf : 64 * (d.n - 2) < (dat rs).length + 4 + n) :
    Calls Try.prog 15 #[pJ J, .slice p n cap] w fun e w' => e = .returned (.int .i64 3) ∧ w' = w.drew := by
  have HL := Lib.hid (left_any hj h h4 hl)
  have hn2 := h.ok.n2
  have i1 : decide ((65536 : Int) < (n : Int)) = false := decide_eq_false (by omega)
  have n0 : (0 : Int) ≤ (n : Int) := Int.natCast_nonneg _
  have n1 : (n : Int) ≤ 65536 := by omega
  obtain ⟨x, hx⟩ : ∃ x : Int, ((64 * (d.n - 2) : Nat) : Int) - ((dat rs).length : Int) = x := ⟨_, rfl⟩
  rw [hx] at HL
  have i2 : decide (x < 4 + (n : Int)) = true := decide_eq_true (by omega)
  clear hj h hx
  go_enter Try.func15, Try.ntmps15
  go_wp2_with (go_at_call 35; refine (HL.out).mono ?_; rintro e w1 ⟨rfl, rfl⟩)
  go_ret
  exact ⟨rfl, rfl⟩
set_option maxRecDepth 100000 in
theorem add_dead {w : World} {J D L M base : Nat} {v : Value} {rs : List By} {num : Nat} {d : Dk} (hj : JnAt w J D base v rs num true) (h : DkAt w D L M d) (h4 : 4 ≤ d.n) (hl : (dat rs).length ≤ 64 * (d.n - 2)) (hnum : num + 1 < 18446744073709551616) (p : Option Addr) (n cap : Nat) (hn : n ≤ 65536) (hf : (dat rs).length + 4 + n ≤ 64 * (d.n - 2)) :
    Calls Try.prog 15 #[pJ J, .slice p n cap] w fun e w' => e = .returned (.int .i64 120) ∧ w' = w.drew := by
  have HL := Lib.hid (left_any hj h h4 hl)
  have hn2 := h.ok.n2
  have i1 : decide ((65536 : Int) < (n : Int)) = false := decide_eq_false (by omega)
  have n0 : (0 : Int) ≤ (n : Int) := Int.natCast_nonneg _
  have n1 : (n : Int) ≤ 65536 := by omega
  obtain ⟨x, hx⟩ : ∃ x : Int, ((64 * (d.n - 2) : Nat) : Int) - ((dat rs).length : Int) = x := ⟨_, rfl⟩
  rw [hx] at HL
  have i2 : decide (x < 4 + (n : Int)) = false := decide_eq_false (by omega)
  have c1 : w.cell? ⟨J, 1, none⟩ = some (.int .u64 (num : Int)) := cell_of_arr hj.hj 1
  have c3 : w.cell? ⟨J, 3, none⟩ = some (.bool true) := cell_of_arr hj.hj 3
  have i3 : ((num : Int) == 18446744073709551615) = false := by rw [beq_eq_false_iff_ne]; omega
  clear hj h hx hnum
  go_enter Try.func15, Try.ntmps15
  go_wp2_with (go_at_call 35; refine (HL.out).mono ?_; rintro e w1 ⟨rfl, rfl⟩)
  go_ret
  exact ⟨rfl, rfl⟩
/-- the blocks that an Add may change -/
def AdG (D L M J : Nat) (v : Value) (k : Nat) : Prop := (k = D ∨ k = L ∨ k = M) ∨ k = J ∨ some k = v.ownBlock
def AddP (D L M J base : Nat) (v : Value) (rs : List By) (num : Nat) (b : By) (r : Int × Dk) (w : World) (e : Ending) (w' : World) : Prop :=
  e = .returned (.int .i64 r.1) ∧ DkAt w' D L M r.2 ∧ Frq (AdG D L M J v) w w' ∧
  (if r.1 = 0 then ∃ v', JnAt w' J D base v' (rs ++ [b]) (num + 1) false ∧ (v'.ownBlock = v.ownBlock ∨ ∃ g, v'.ownBlock = some g ∧ w.heap.size ≤ g) else JnAt w' J D base v rs num true)
theorem jn_ne {w : World} {J D L M base : Nat} {v : Value} {rs : List By} {num : Nat} {dead : Bool} {d : Dk} (hj : JnAt w J D base v rs num dead) (h : DkAt w D L M d) : J ≠ D ∧ J ≠ L ∧ J ≠ M := by
  refine ⟨fun e => ?_, fun e => ?_, fun e => ?_⟩
  · have := hj.hj; rw [e, h.hd] at this; cases this
  · have := hj.hj
    rw [e, h.hl] at this
    simp only [Option.some.injEq, Obj.cells.injEq] at this
    exact absurd this.2.1 (by decide)
  · obtain ⟨es, c, hm⟩ := h.hm.obj
    have := hj.hj; rw [e, hm] at this; cases this
theorem own_ne {w : World} {D L M base n : Nat} {v : Value} {xs : List Value} {d : Dk} (hv : w.ownsRow base 5 1 v n xs) (h : DkAt w D L M d) : ∀ k, some k = v.ownBlock → k < w.heap.size ∧ k ≠ D ∧ k ≠ L ∧ k ≠ M := by
  intro k e
  refine ⟨(own_lt hv e.symm).2, fun e2 => ?_, fun e2 => ?_, fun e2 => ?_⟩
  · exact own_not hv h.hd (by decide) (by rw [← e2]; exact e)
  · exact own_not hv h.hl (by decide) (by rw [← e2]; exact e)
  · obtain ⟨es, c, hm⟩ := h.hm.obj
    obtain ⟨cs, hcs⟩ := own_cells hv e.symm
    rw [e2, hm] at hcs; cases hcs
theorem first_lt (rs : List By) (b : By) : (dat rs).length < (dat rs ++ (beL 4 b.length ++ b)).length := by simp [beL_len]; omega
set_option maxRecDepth 100000 in
set_option maxHeartbeats 1600000 in
theorem add_go {w : World} {J D L M base : Nat} {v u : Value} {rs : List By} {num : Nat} {d : Dk} (hj : JnAt w J D base v rs num false) (h : DkAt w D L M d) (h4 : 4 ≤ d.n) (hnum : num + 1 < 18446744073709551616) (hbase : base ≤ w.heap.size)
    (b : By) (F : Nat → Prop) (hu : BysF w F u b) (hF : ∀ x, F x → x < w.heap.size ∧ some x ≠ v.ownBlock) (hn : b.length ≤ 65536) (hf : (dat rs).length + 4 + b.length ≤ 64 * (d.n - 2))
    (r : Int × Dk) (hr : cmt d (2 + (((dat rs).length / 64 : Nat) : Int)) (padS ((dat (rs ++ [b])).drop (64 * ((dat rs).length / 64)))) (((num + 1) % 2 : Nat) : Int) (headB (num + 1) (dat (rs ++ [b])).length) = r) :
    Calls Try.prog 15 #[pJ J, u] w (AddP D L M J base v rs num b r w) := by
  have HJ := Lib.hid hj
  have HD := Lib.hid h
  have hn2 := h.ok.n2
  have HL := Lib.hid (left_any hj h h4 (by omega))
  have hwt := with_any base v u (dat rs) b F w.drew hbase (by omega) (by omega) hj.row hu hF
  unfold WithP at hwt
  have HNE := Lib.hid (jn_ne hj h)
  have i1 : decide ((65536 : Int) < (b.length : Int)) = false := decide_eq_false (by omega)
  have n0 : (0 : Int) ≤ (b.length : Int) := Int.natCast_nonneg _
  have n1 : (b.length : Int) ≤ 65536 := by omega
  obtain ⟨x, hx⟩ : ∃ x : Int, ((64 * (d.n - 2) : Nat) : Int) - ((dat rs).length : Int) = x := ⟨_, rfl⟩
  rw [hx] at HL
  have i2 : decide (x < 4 + (b.length : Int)) = false := decide_eq_false (by omega)
  have c1 : w.cell? ⟨J, 1, none⟩ = some (.int .u64 (num : Int)) := cell_of_arr hj.hj 1
  have c2 : w.cell? ⟨J, 2, none⟩ = some v := cell_of_arr hj.hj 2
  have c3 : w.cell? ⟨J, 3, none⟩ = some (.bool false) := cell_of_arr hj.hj 3
  have i3 : ((num : Int) == 18446744073709551615) = false := by rw [beq_eq_false_iff_ne]; omega
  obtain ⟨up, uc, rfl, _, _⟩ := hu
  obtain ⟨vp, vc, rfl⟩ := own_slice hj.row
  rw [dat_snoc] at hr
  have hlt := first_lt rs b
  obtain ⟨dn, hdn⟩ : ∃ dn, dat rs ++ (beL 4 b.length ++ b) = dn := ⟨_, rfl⟩
  have HDN := Lib.hid hdn
  have HF2 := Lib.hid (show dn.length ≤ 300000 from by rw [← hdn]; simp [beL_len]; omega)
  rw [hdn] at hr hwt hlt
  have HWT := Lib.hid hwt
  have HLT := Lib.hid hlt
  have HR := Lib.hid hr
  have HN := Lib.hid hnum
  clear hj h hx hF hr hnum hdn hwt hlt
  go_enter Try.func15, Try.ntmps15
  go_wp2_with (first
    | (go_at_call 35; refine (HL.out).mono ?_; rintro e w1 ⟨rfl, rfl⟩)
    | (go_at_call 36; refine (HWT.out).mono ?_; rintro e w1 ⟨v', rfl, ho, hfr, hob, hkp⟩; obtain ⟨np, nc, rfl⟩ := own_slice ho))
  have hb0 : Below w.heap.size w w.drew := ⟨rfl, rfl, rfl, Nat.le_refl _, fun _ _ => rfl⟩
  have hown := own_ne HJ.out.row HD.out
  have hJb : some J ≠ (Value.slice vp (dat rs).length vc).ownBlock := own_not HJ.out.row HJ.out.hj (by decide)
  have same : ∀ k, k < w.heap.size → some k ≠ (Value.slice vp (dat rs).length vc).ownBlock → w1.heap[k]? = w.heap[k]? := fun k hk hne => hfr.block k hk hne
  have hh := HD.out
  have HD1 := Lib.hid (show DkAt w1 D L M d from hh.kept (same D hh.ltD (fun e => (hown D e).2.1 rfl)) (same L hh.ltL (fun e => (hown L e).2.2.1 rfl)) (same M hh.ltM (fun e => (hown M e).2.2.2 rfl)))
  have HJ1 := Lib.hid (show JnAt w1 J D base (.slice vp (dat rs).length vc) rs num false from ⟨(same J (lt_of_heap HJ.out.hj) hJb).trans HJ.out.hj, hkp⟩)
  have hown1 := own_ne ho HD1.out
  have HCM := Lib.hid (commit_any HJ1.out HD1.out HNE.out np nc dn (fun k => some k = (Value.slice np dn.length nc).ownBlock) (row_own ho (fun k e => e.symm)) hown1 HN.out HLT.out HF2.out r HR.out)
  have HO := Lib.hid ho
  have HFR := Lib.hid (show Frq (fun k => some k = (Value.slice vp (dat rs).length vc).ownBlock) w w1 from ⟨hfr.os, hfr.tape, hfr.output, hfr.size, hfr.block⟩)
  have HOB := Lib.hid hob
  clear hfr hob hkp hb0 hown hJb same hh hown1 ho c1 c2 c3
  go_wp2_with fail
  refine (HCM.out).mono ?_
  rintro e w2 ⟨rfl, hd2, hf2⟩
  have hJ2 : w2.heap[J]? = some (.cells #[pD D, .int .u64 (num : Int), .slice vp (dat rs).length vc, .bool false] 57 (0, 0)) := (hf2.block J (lt_of_heap HJ1.out.hj) (fun e => by have := HNE.out; omega)).trans HJ1.out.hj
  have HJ2 := Lib.hid hJ2
  have HO2 := Lib.hid (show OwnB w2 base (.slice np dn.length nc) dn from own_keep HO.out (fun g cs e hg => (hf2.block g (lt_of_heap hg) (fun e2 => by have := own_ne HO.out HD1.out g e.symm; omega)).trans hg))
  have HK2 := Lib.hid (show OwnB w2 base (.slice vp (dat rs).length vc) (dat rs) from own_keep HJ1.out.row (fun g cs e hg => (hf2.block g (lt_of_heap hg) (fun e2 => by have := own_ne HJ1.out.row HD1.out g e.symm; omega)).trans hg))
  have HD2 := Lib.hid hd2
  have HF12 := Lib.hid hf2
  have c1 : w2.cell? ⟨J, 1, none⟩ = some (.int .u64 (num : Int)) := cell_of_arr hJ2 1
  have c2 : w2.cell? ⟨J, 2, none⟩ = some (.slice vp (dat rs).length vc) := cell_of_arr hJ2 2
  have c3 : w2.cell? ⟨J, 3, none⟩ = some (.bool false) := cell_of_arr hJ2 3
  have f1 : w2.frozen? ⟨J, 1, none⟩ = false := froz_of_arr hJ2 1
  have f2 : w2.frozen? ⟨J, 2, none⟩ = false := froz_of_arr hJ2 2
  have f3 : w2.frozen? ⟨J, 3, none⟩ = false := froz_of_arr hJ2 3
  have HFa := Lib.hid (show Frq (AdG D L M J (.slice vp (dat rs).length vc)) w w2 from (HFR.out.mono (fun k e => .inr (.inr e))).trans (hf2.mono (fun k e => .inl e)))
  clear hJ2 hd2 hf2
  have HT := Lib.hid (HD1.out.ltD)
  by_cases h0 : r.1 = 0
  · have HN0 := Lib.hid h0
    have hnw : IntKind.u64.wrap ((num : Int) + 1) = (num : Int) + 1 := u64_in (by omega) (by have := HN.out; omega)
    rw [h0]
    go_wp2
    go_ret
    have hj3 : ((w2.setCell ⟨J, 1, none⟩ (.int .u64 ((num : Int) + 1))).setCell ⟨J, 2, none⟩ (.slice np dn.length nc)).heap[J]? = some (.cells #[pD D, .int .u64 ((num : Int) + 1), .slice np dn.length nc, .bool false] 57 (0, 0)) := by
      have e1 := set_heap HJ2.out 1 (.int .u64 ((num : Int) + 1))
      rw [set_heap e1]; rfl
    have same : ∀ k, k ≠ J → ((w2.setCell ⟨J, 1, none⟩ (.int .u64 ((num : Int) + 1))).setCell ⟨J, 2, none⟩ (.slice np dn.length nc)).heap[k]? = w2.heap[k]? := fun k hk => (Below.heap_setCell _ _ _ _ hk).trans (Below.heap_setCell _ _ _ _ hk)
    have ne := HNE.out
    refine ⟨by rw [HN0.out]; rfl, HD2.out.kept (same D (by omega)) (same L (by omega)) (same M (by omega)), (HFa.out.setCell (p := ⟨J, 1, none⟩) (.inl (.inr (.inl rfl))) _).setCell (p := ⟨J, 2, none⟩) (.inl (.inr (.inl rfl))) _, (if_pos HN0.out).mpr ⟨.slice np dn.length nc, ⟨?_, ?_⟩, HOB.out⟩⟩
    · rw [hj3]; rfl
    · rw [dat_snoc, HDN.out]
      exact own_keep HO2.out (fun g cs e hg => (same g (fun e2 => by rw [e2, HJ2.out] at hg; simp only [Option.some.injEq, Obj.cells.injEq] at hg; exact absurd hg.2.1 (by decide))).trans hg)
  · have i0 : (r.1 != 0) = true := by simp [h0]
    have HN0 := Lib.hid h0
    go_wp2
    go_ret
    have same : ∀ k, k ≠ J → (w2.setCell ⟨J, 3, none⟩ (.bool true)).heap[k]? = w2.heap[k]? := fun k hk => Below.heap_setCell _ _ _ _ hk
    have ne := HNE.out
    refine ⟨rfl, HD2.out.kept (same D (by omega)) (same L (by omega)) (same M (by omega)), HFa.out.setCell (p := ⟨J, 3, none⟩) (.inl (.inr (.inl rfl))) _, (if_neg HN0.out).mpr ⟨?_, ?_⟩⟩
    · rw [set_heap HJ2.out]; rfl
    · exact own_keep HK2.out (fun g cs e hg => (same g (fun e2 => by rw [e2, HJ2.out] at hg; simp only [Option.some.injEq, Obj.cells.injEq] at hg; exact absurd hg.2.1 (by decide))).trans hg)
end Go.Proofs.Ytabahkeologbmaa.Jn
