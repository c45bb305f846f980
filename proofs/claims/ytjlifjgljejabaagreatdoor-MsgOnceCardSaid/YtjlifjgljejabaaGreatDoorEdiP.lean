/- Contract of edi.Parse: what the plain reader answers, in memory of its own. -/
import Derived.Test.YtjlifjgljejabaaGreatDoorEdiR6
import Derived.Laws.IdiomStrings
namespace Go.Proofs.YtjlifjgljejabaaGreatDoor
open Go.RowKit Go.Edi

theorem tx_size (t : Tx) : (tx t).size = t.length := by simp [tx, ByteArray.size]
theorem Bd.of_good {s : RS} (h : good s) : Bd s := by
  obtain ⟨_, h2, h3⟩ := h
  cases hmd : s.md <;> rw [hmd] at h3
  · rw [h3]; simp [Bd, rest]; omega
  · obtain ⟨_, _, e1, e2, e3, _, _⟩ := h3; simp [Bd, e1, e2]; omega
  · obtain ⟨_, _, e1, e2, e3, _⟩ := h3; simp [Bd, e1, e2, e3]; omega
  · have := h3.wdl; have := h3.ell; have := h3.elsl; simp [Bd]; omega
  · have := h3.wdl; have := h3.ell; have := h3.elsl; simp [Bd]; omega
set_option maxRecDepth 100000 in
set_option maxHeartbeats 800000 in
theorem newReader_v (w : World) : Calls Tryz.prog 62 #[] w fun e w' => e = .returned (.pointer (some ⟨w.heap.size, 0, none⟩)) ∧ RdAt w.heap.size w.heap.size s0 w' ∧ Below w.heap.size w w' := by
  have hmf : ∀ (fn : Fn) (first cap : Array Value) (w : World), (Instr.makeFunc fn first cap).run Tryz.prog w = .ok (.func fn first cap) w := fun _ _ _ _ => rfl
  go_enter Tryz.func62, Tryz.ntmps62
  go_wp2
  go_ret
  refine ⟨rfl, ⟨fun _ => False, nx w.heap.size .out, .slice none 0 0, .slice none 0 0, .slice none 0 0, .slice none 0 0, ?_⟩, (Below.refl _ _).alloc (Nat.le_refl _) _⟩
  exact ⟨Nat.le_refl _, at_last _ _, rfl, ⟨[], World.ownsRow_nil _ _ _ _, True.intro⟩, ⟨[], World.ownsRow_nil _ _ _ _, True.intro⟩, World.ownsRow_nil _ _ _ _, World.ownsRow_nil _ _ _ _, ⟨fun _ => (0, 0), [], [], World.ownsRow_nil _ _ _ _, ⟨rfl, fun k hk => by simp [s0] at hk⟩, World.ownsRow_nil _ _ _ _, rfl, fun k hk => by simp [s0] at hk⟩, fun b hb => hb.elim⟩
/-- segments in memory of one's own, each row in a block of its own -/
def SegsO (w : World) (B : Nat) (F : Nat → Prop) (v : Value) (sl : List Sg) : Prop := ∃ φ xs, w.ownsRow B 59 2 v sl.length xs ∧ (∀ b, v.ownBlock = some b → F b) ∧ SO w B F φ sl xs
theorem segso_nil (w : World) (B : Nat) (F : Nat → Prop) : SegsO w B F (.slice none 0 0) [] := ⟨fun _ => (0, 0), [], World.ownsRow_nil _ _ _ _, fun b hb => by simp [Value.ownBlock] at hb, rfl, fun k hk => by simp at hk⟩
/-- what Parse answers -/
def PaAt (B : Nat) (t : Tx) (e : Ending) (w w' : World) : Prop :=
  (∃ v F, e = .returned (.tuple #[v, .int .i64 ((parseL t).2.1 : Nat), .int .i64 ((parseL t).2.2 : Nat)]) ∧ SegsF w' F v (parseL t).1 ∧ ∀ b, F b → B ≤ b ∧ b < w'.heap.size) ∧ Below B w w'
/-- what Parse answers, and that it is one's own -/
def PaO (B : Nat) (t : Tx) (e : Ending) (w w' : World) : Prop :=
  (∃ v F, e = .returned (.tuple #[v, .int .i64 ((parseL t).2.1 : Nat), .int .i64 ((parseL t).2.2 : Nat)]) ∧ SegsF w' F v (parseL t).1 ∧ SegsO w' B F v (parseL t).1 ∧ ∀ b, F b → B ≤ b ∧ b < w'.heap.size) ∧ Below B w w'
theorem PaO.weak {B : Nat} {t : Tx} {e : Ending} {w w' : World} (h : PaO B t e w w') : PaAt B t e w w' := by
  obtain ⟨⟨v, F, h1, h2, _, h3⟩, h4⟩ := h
  exact ⟨⟨v, F, h1, h2, h3⟩, h4⟩
theorem segs_nil (w : World) (F : Nat → Prop) : SegsF w F (.slice none 0 0) [] := ⟨[], ⟨none, 0, rfl, Nat.le_refl _, fun h => absurd h (by simp)⟩, True.intro⟩
theorem drop_at (t : Tx) (k : Nat) (h : k < t.length) : t.drop k = t[k] :: t.drop (k + 1) := List.drop_eq_getElem_cons h
theorem runL_cons_ok {s : RS} {k : Nat} {c : UInt8} {r : Tx} (h : (Go.Edi.step s c).1 = 0) : runL s k (c :: r) = runL (Go.Edi.step s c).2 (k + 1) r := by
  show (if _ then _ else _) = _
  rw [if_pos h]
theorem runL_cons_bad {s : RS} {k : Nat} {c : UInt8} {r : Tx} (h : ¬ (Go.Edi.step s c).1 = 0) : runL s k (c :: r) = (k, Go.Edi.step s c) := by
  show (if _ then _ else _) = _
  rw [if_neg h]
/-- where the reader stands behind k bytes -/
def PaR (B : Nat) (t : Tx) (w : World) (k : Nat) (wr : World) : Prop := ∃ s, runL s0 0 t = runL s k (t.drop k) ∧ good s ∧ RdAt B B s wr ∧ Below B w wr
set_option maxRecDepth 100000 in
set_option maxHeartbeats 3200000 in
theorem parse_own (t : Tx) (w : World) : Calls Tryz.prog 46 #[str t] w fun e w' => PaO w.heap.size t e w w' := by
  have hsz := tx_size t
  by_cases hl : (65536 : Int) < (t.length : Int)
  · have HP := Lib.hid (show parseL t = ([], 0, 2) by unfold parseL; rw [if_pos (by omega)])
    go_enter Tryz.func46, Tryz.ntmps46
    go_wp2
    go_ret3
    unfold PaO
    rw [HP.out]
    exact ⟨⟨_, fun _ => False, rfl, segs_nil _ _, segso_nil _ _ _, fun b hb => hb.elim⟩, Below.refl _ _⟩
  · go_enter Tryz.func46, Tryz.ntmps46
    go_wp2_with (go_at_call 62; refine (newReader_v _).mono ?_)
    first | rintro e w1 rfl hr hb | rintro e w1 ⟨rfl, hr, hb⟩
    have HST := Lib.hid (show PaR w.heap.size t w 0 w1 from ⟨s0, rfl, good_s0, hr, hb⟩)
    have HW := Lib.hid hb
    clear hr hb
    go_wp2
    go_loopw [14] (fun i wr => ∃ k : Nat, i = .int .i64 k ∧ k ≤ t.length ∧ PaR w.heap.size t w k wr) (fun i _ => t.length - (intOf i).toNat)
    case atStart => exact ⟨0, rfl, Nat.zero_le _, HST.out⟩
    case round =>
      obtain ⟨k, rfl, hk, s, hrun, hgood, ⟨F, vn, vs, ve, vl, vw, hR⟩, hb⟩ := hrel
      by_cases hlt : (k : Int) < (t.length : Int)
      · obtain ⟨f, hvn, hf, hd⟩ := next_v t[k] _ hR.drew (show w.heap.size ≤ wr.heap.size from hb.size) (Bd.of_good hgood)
        have hrun2 : (Go.Edi.step s t[k]).1 = 0 → runL s0 0 t = runL (Go.Edi.step s t[k]).2 (k + 1) (t.drop (k + 1)) := fun e => by
          rw [hrun, drop_at t k (by omega), runL_cons_ok e]
        have hrun3 : ¬ (Go.Edi.step s t[k]).1 = 0 → parseL t = ([], k, (Go.Edi.step s t[k]).1) := fun e => by
          have : runL s0 0 t = (k, Go.Edi.step s t[k]) := by rw [hrun, drop_at t k (by omega), runL_cons_bad e]
          unfold parseL
          rw [if_neg (by omega), this, if_neg e]
        have hgood2 : (Go.Edi.step s t[k]).1 = 0 → good (Go.Edi.step s t[k]).2 := fun e => (step_inv hgood (show Go.Edi.step s t[k] = (0, (Go.Edi.step s t[k]).2) by rw [← e])).1
        generalize Go.Edi.step s t[k] = r at *
        obtain ⟨code, s'⟩ := r
        have c0 : wr.cell? ⟨w.heap.size, 0, none⟩ = some vn := (hR.cell 0).trans rfl
        subst hvn
        have HD := Lib.hid hd
        have HR2 := Lib.hid hrun2
        have HR3 := Lib.hid hrun3
        have HG2 := Lib.hid hgood2
        have HB := Lib.hid (show Below w.heap.size w wr.drew from hb.drew)
        have hk0 : (0 : Int) ≤ (k : Int) := Int.natCast_nonneg _
        clear hd hrun2 hrun3 hgood2 hb hR hgood hrun
        have hen : ∀ args w, (callFunc f args).run Tryz.prog w = .ok (.enter f args) w := by
          rcases hf with rfl | rfl | rfl | rfl | rfl
          · exact enters_of Tryz.func91 (by kernel_rfl) rfl
          · exact enters_of Tryz.func120 (by kernel_rfl) rfl
          · exact enters_of Tryz.func136 (by kernel_rfl) rfl
          · exact enters_of Tryz.func165 (by kernel_rfl) rfl
          · exact enters_of Tryz.func170 (by kernel_rfl) rfl
        clear hf
        by_cases h0 : (code : Int) = 0
        · go_wp2
          go_region_law
            (go_simp
             refine (HD.out).mono ?_
             first | rintro e w2 rfl hr hb2 | rintro e w2 ⟨rfl, hr, hb2⟩
             have H2 := Lib.hid hr
             have HB2 := Lib.hid hb2
             clear hr hb2)
          all_goals
            go_wp2
            go_roundw
            case rel =>
              exact ⟨k + 1, by go_num, by omega, s', HR2.out (by omega), HG2.out (by omega), H2.out, HB.out.trans HB2.out⟩
            case measure => simp [intOf]; omega
        · go_wp2
          go_region_law
            (go_simp
             refine (HD.out).mono ?_
             first | rintro e w2 rfl hr hb2 | rintro e w2 ⟨rfl, hr, hb2⟩
             have H2 := Lib.hid hr
             have HB2 := Lib.hid hb2
             clear hr hb2)
          all_goals
            go_wp2
            go_ret3
            unfold PaO
            rw [HR3.out (by omega)]
            exact ⟨⟨_, fun _ => False, rfl, segs_nil _ _, segso_nil _ _ _, fun b hb => hb.elim⟩, HB.out.trans HB2.out⟩
      · obtain rfl : k = t.length := by omega
        have hend : runL s0 0 t = (t.length, 0, s) := by rw [hrun, List.drop_length]; rfl
        have HB := Lib.hid hb
        have c6 : wr.cell? ⟨w.heap.size, 6, none⟩ = some (.bool s.wi) := (hR.cell 6).trans rfl
        have c1 : wr.cell? ⟨w.heap.size, 1, none⟩ = some vs := (hR.cell 1).trans rfl
        obtain ⟨xs, hvs, hxs⟩ := hR.segs
        obtain ⟨ps, caps, rfl⟩ := own_slice hvs
        have HR := Lib.hid hR
        have HVS := Lib.hid hvs
        have HXS := Lib.hid hxs
        clear hb hR hgood hrun hvs hxs
        by_cases hw : s.wi = true
        · have HP := Lib.hid (show parseL t = ([], t.length, 31) by unfold parseL; rw [if_neg (by omega), hend, if_pos rfl, if_pos hw])
          rw [hw] at c6
          clear hend
          go_wp2
          go_ret3
          unfold PaO
          rw [HP.out]
          exact ⟨⟨_, fun _ => False, rfl, segs_nil _ _, segso_nil _ _ _, fun b hb => hb.elim⟩, HB.out⟩
        · have HP := Lib.hid (show parseL t = (s.segs, 0, 0) by unfold parseL; rw [if_neg (by omega), hend, if_pos rfl, if_neg hw])
          rw [show s.wi = false by simpa using hw] at c6
          clear hend
          go_wp2
          go_ret3
          unfold PaO
          rw [HP.out]
          refine ⟨⟨_, fun b => F b ∨ (Value.slice ps s.segs.length caps).ownBlock = some b, rfl, ⟨xs, row_own HVS.out (fun b e => Or.inr e), HXS.out.kept (fun b hb => ⟨Or.inl hb, rfl⟩)⟩, ?_, fun b hb => ?_⟩, HB.out⟩
          · obtain ⟨φ, xs', ys', o1, o2, o3, o4⟩ := HR.out.ow
            exact ⟨φ, xs', o1, fun b hb => Or.inr hb, o2.kept (fun b hb => ⟨Or.inl hb, rfl⟩) (fun _ _ => rfl)⟩
          · rcases hb with hb | hb
            · exact ⟨(HR.out.fz b hb).1, (HR.out.fz b hb).2.1⟩
            · exact HVS.out.lt b hb
theorem parse_any (t : Tx) (w : World) : Calls Tryz.prog 46 #[str t] w fun e w' => PaAt w.heap.size t e w w' := (parse_own t w).mono fun _ _ h => h.weak
end Go.Proofs.YtjlifjgljejabaaGreatDoor
