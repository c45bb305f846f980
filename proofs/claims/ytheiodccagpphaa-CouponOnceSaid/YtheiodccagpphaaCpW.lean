/- A region whose operations come in any order, walked by what holds whichever come first; the map of the ways. -/
import Derived.Test.YtheiodccagpphaaCpPure
import Derived.Test.YtheiodccagpphaaProg
import Derived.WalkKit
import Derived.Outline
import Derived.KernelRfl
import Derived.DeepKeys4
import Derived.Below
import Derived.Lib.Hide
namespace Go.Proofs.Ytheiodccagpphaa
open Go.RowKit Go.Coupon
open Go.Maps (Keyed)

/-- A REGION BY WHAT HOLDS ON THE WAY: in each state that meets 'Inv' either the rest is walked at once, or whichever operation comes next leads to such a state. -/
theorem wpAny_while {P : Program} {ops : Array Oper} {Q : Exit → Act → World → Prop} {md : Region.Mode} (Inv : Nat → Array Bool → Act → World → Prop)
    (step : ∀ fuel listed a w, Inv fuel listed a w → wpAny P md ops Q fuel listed a w ∨
      ∃ f, fuel = f + 1 ∧ Region.ready md ops listed ≠ [] ∧ ∀ i ∈ Region.ready md ops listed, wpOp P ops Q i (fun a' w' => Inv f (listed.setIfInBounds i true) a' w') a w) :
    ∀ (fuel : Nat) (listed : Array Bool) (a : Act) (w : World), Inv fuel listed a w → wpAny P md ops Q fuel listed a w := by
  intro fuel
  induction fuel with
  | zero =>
    intro listed a w h
    rcases step _ _ _ _ h with h | ⟨f, hf, _⟩
    · exact h
    · cases hf
  | succ fuel ih =>
    intro listed a w h
    rcases step _ _ _ _ h with h | ⟨f, hf, hne, hs⟩
    · exact h
    · cases hf
      exact ⟨fun h0 => absurd h0 hne, fun i hi => wpOp_mono (fun a' w' h' => ih _ a' w' h') (hs i hi)⟩

theorem wpOp_made {P : Program} {w : World} {ops : Array Oper} {o : Oper} {a : Act} {Q : Exit → Act → World → Prop} {i : Nat} {K : Act → World → Prop} (hi : ops[i]? = some o)
    (hg : o.guard = none) (t : TypeId) (hop : o.op = Op.makeMap t none) (h : K (a.put o.dst (.map (some w.heap.size))) (w.alloc (.map #[] 0))) : wpOp P ops Q i K a w := by
  unfold wpOp
  simp only [hi]
  have hw : Region.wanted o (yielded ops a.tmps) = true := by simp [Region.wanted, hg]
  rw [if_pos hw]
  refine .inl ?_
  unfold Oper.wp
  simp [execOp, hop, run_makeMap, Result.andThen, Oper.upon]
  exact h
/-- an entry of a map's literal is laid -/
theorem wpOp_insert {H : Type} {P : Program} {w : World} {ops : Array Oper} {o : Oper} {a : Act} {Q : Exit → Act → World → Prop} {i : Nat} {K : Act → World → Prop} (hi : ops[i]? = some o)
    (hg : o.guard = none) (m x v : Operand) (t : TypeId) (hop : o.op = Op.insert t m x v) (hd : o.dst = none)
    (k e : TypeId) (KK : Keyed P k) (ht : P.underlying t = some (.map k e)) (R : Value → Option (DataW H × List MemPlace)) (b n : Nat) (D : DataW H)
    (hm : a.eval m = .map (some b)) (hown : w.ownsMap P k R b n D) (hn : n < maxLen) (key val : Value) (kl : Lit) (hx : a.eval x = key) (hv : a.eval v = val) (hkey : keyOf P k key = some kl)
    (d : DataW H) (ps : List MemPlace) (hval : R val = some (d, ps))
    (hK : ∀ w', w'.ownsMap P k R b (n + 1) (D.put kl d) → w.grownBy w' (some b) → K a w') : wpOp P ops Q i K a w := by
  obtain ⟨w', hrun, r1, r2⟩ := hown.update KK ht hn hkey hval
  unfold wpOp
  simp only [hi]
  have hw : Region.wanted o (yielded ops a.tmps) = true := by simp [Region.wanted, hg]
  rw [if_pos hw]
  refine .inl ?_
  unfold Oper.wp
  simp [execOp, hop, hm, hx, hv, hrun, Result.andThen, Oper.upon, hd]
  exact hK w' r1 r2

theorem laidOut' : laidOutB Try.prog = true := by kernel_rfl
theorem law : Keyed Try.prog 38 := Keyed.of_law (deep_law_laid laidOut' (m := 2) (by omega) (of_decide_eq_true (by kernel_rfl)) (by kernel_rfl) (by rw [Try.underlying38]))
def kv (s c : Nat) : Value := .agg #[.int .u8 (s : Int), .int .u8 (c : Int)]
theorem cellsWay : Try.prog.cellsOf 38 = 2 := by kernel_rfl
theorem keyTypeWay : Try.prog.keyType 38 = true := by kernel_rfl
theorem cellsSt : Try.prog.cellsOf 22 = 1 := by kernel_rfl
theorem cellsU8 : Try.prog.cellsOf 5 = 1 := by kernel_rfl
theorem wf8 {n : Nat} (h : n < 256) : (Lit.int .u8 (n : Int)).wf = true := by
  have e1 : IntKind.u8.min = 0 := rfl
  have e2 : IntKind.u8.max = 255 := rfl
  simp only [Lit.wf, e1, e2, Bool.and_eq_true, decide_eq_true_eq]
  omega
theorem kb8 {n : Nat} (h : n < 256) : (Lit.int .u8 (n : Int)).keyBytes = [UInt8.ofNat n] := by
  have e1 : ((n : Int) % 2 ^ IntKind.u8.bits).toNat = n := by show ((n : Int) % 256).toNat = n; omega
  simp only [Lit.keyBytes]
  rw [e1]
  show bytesBE 1 n = _
  simp [bytesBE, bytesLE, Nat.mod_eq_of_lt h]
theorem kl8 {t : TypeId} (ht : Try.prog.underlying t = some (.int .u8)) (d : Nat) {n : Nat} (h : n < 256) : Try.prog.keyLits (d + 1) t [.int .u8 (n : Int)] = some [.int .u8 (n : Int)] := by
  unfold Program.keyLits
  rw [ht]
  simp only [wf8 h, and_self, if_true]
theorem hkey {s c : Nat} (hs : s < 256) (hc : c < 256) : keyOf Try.prog 38 (kv s c) = some (ks s c) := by
  have hf : (kv s c).formed Try.prog 38 = true := by simp [kv, Value.formed, Try.underlying38, cellsWay]
  unfold keyOf
  rw [Try.underlying38]
  simp only [keyTypeWay, hf, Bool.and_self, if_true]
  obtain ⟨m, hm⟩ : ∃ m, Try.prog.types.size + 1 = m + 1 + 1 := ⟨Try.prog.types.size - 1, by
    have : 0 < Try.prog.types.size := of_decide_eq_true (by kernel_rfl)
    omega⟩
  rw [hm]
  have e : Try.prog.keyLits (m + 1 + 1) 38 (kv s c).cells.toList = some [.int .u8 (s : Int), .int .u8 (c : Int)] := by
    unfold Program.keyLits
    rw [Try.underlying38]
    simp only [kv, Value.cells]
    simp [cellsWay, cellsSt, cellsU8, kl8 Try.underlying22 m hs, kl8 Try.underlying5 m hc]
  rw [e]
  simp [keyBytes, kb8 hs, kb8 hc, ks]
theorem law_inj {s c : Nat} (hs : s < 256) (hc : c < 256) {v : Value} (h : keyOf Try.prog 38 v = some (ks s c)) : v = kv s c := law.inj h (hkey hs hc)
noncomputable abbrev RS : Value → Option (D0 × List MemPlace) := plainElem Try.prog 22
theorem rs_mk {t : Nat} (h : t < 256) : RS (.int .u8 (t : Int)) = some (vs t, []) := plainElem_int Try.underlying22 (wf8 h)
/-- the ways are laid in whatever order -/
def cn (b : Bool) : Nat := if b then 0 else 1
theorem cn_le (b : Bool) : cn b ≤ 1 := by cases b <;> decide
def WInv (a0 : Act) (w0 : World) (B fuel : Nat) (listed : Array Bool) (a : Act) (w : World) : Prop :=
  ∃ b0 b1 b2 b3 b4 b5 b6 : Bool, listed = #[true, true, b0, true, b1, true, b2, true, b3, true, b4, true, b5, true, b6, false, false] ∧ a = a0 ∧
    fuel = cn b0 + cn b1 + cn b2 + cn b3 + cn b4 + cn b5 + cn b6 + 2 ∧ w.ownsMap Try.prog 38 RS B (9 - fuel) (Dl b0 b1 b2 b3 b4 b5 b6) ∧ Below B w0 w
theorem all_or {b0 b1 b2 b3 b4 b5 b6 : Bool} : (b0 = true ∧ b1 = true ∧ b2 = true ∧ b3 = true ∧ b4 = true ∧ b5 = true ∧ b6 = true) ∨ (b0 = false ∨ b1 = false ∨ b2 = false ∨ b3 = false ∨ b4 = false ∨ b5 = false ∨ b6 = false) := by
  cases b0 <;> cases b1 <;> cases b2 <;> cases b3 <;> cases b4 <;> cases b5 <;> cases b6 <;> simp
set_option maxRecDepth 100000 in
theorem ways_any (w : World) : Calls Try.prog 16 #[] w fun e w' => e = .returned (.map (some w.heap.size)) ∧ w'.ownsMap Try.prog 38 RS w.heap.size 7 D7 ∧ Below w.heap.size w w' := by
  have hmk := @run_makeMap Try.prog
  go_enter Try.func16, Try.ntmps16
  go_wp2
  refine wp_region_any (by kernel_rfl) ?_
  refine wpAny_take (i := 1) (oi := ⟨some 2, .build 38 #[(0, .const (.int .u8 1)), (1, .const (.int .u8 9))], _, _, _, none⟩) (v := .agg #[.int .u8 1, .int .u8 9]) rfl (by kernel_rfl) (by kernel_rfl) (by kernel_rfl) (fun _ _ _ h => h) (Or.inl ⟨by rfl, fun w' => by go_simp⟩) ?_
  simp only [Act.put, List.setIfInBounds_toArray, List.set_cons_zero, List.set_cons_succ]
  refine wpAny_take (i := 3) (oi := ⟨some 3, .build 38 #[(0, .const (.int .u8 2)), (1, .const (.int .u8 10))], _, _, _, none⟩) (v := .agg #[.int .u8 2, .int .u8 10]) rfl (by kernel_rfl) (by kernel_rfl) (by kernel_rfl) (fun _ _ _ h => h) (Or.inl ⟨by rfl, fun w' => by go_simp⟩) ?_
  simp only [Act.put, List.setIfInBounds_toArray, List.set_cons_zero, List.set_cons_succ]
  refine wpAny_take (i := 5) (oi := ⟨some 4, .build 38 #[(0, .const (.int .u8 2)), (1, .const (.int .u8 11))], _, _, _, none⟩) (v := .agg #[.int .u8 2, .int .u8 11]) rfl (by kernel_rfl) (by kernel_rfl) (by kernel_rfl) (fun _ _ _ h => h) (Or.inl ⟨by rfl, fun w' => by go_simp⟩) ?_
  simp only [Act.put, List.setIfInBounds_toArray, List.set_cons_zero, List.set_cons_succ]
  refine wpAny_take (i := 7) (oi := ⟨some 5, .build 38 #[(0, .const (.int .u8 3)), (1, .const (.int .u8 12))], _, _, _, none⟩) (v := .agg #[.int .u8 3, .int .u8 12]) rfl (by kernel_rfl) (by kernel_rfl) (by kernel_rfl) (fun _ _ _ h => h) (Or.inl ⟨by rfl, fun w' => by go_simp⟩) ?_
  simp only [Act.put, List.setIfInBounds_toArray, List.set_cons_zero, List.set_cons_succ]
  refine wpAny_take (i := 9) (oi := ⟨some 6, .build 38 #[(0, .const (.int .u8 1)), (1, .const (.int .u8 3))], _, _, _, none⟩) (v := .agg #[.int .u8 1, .int .u8 3]) rfl (by kernel_rfl) (by kernel_rfl) (by kernel_rfl) (fun _ _ _ h => h) (Or.inl ⟨by rfl, fun w' => by go_simp⟩) ?_
  simp only [Act.put, List.setIfInBounds_toArray, List.set_cons_zero, List.set_cons_succ]
  refine wpAny_take (i := 11) (oi := ⟨some 7, .build 38 #[(0, .const (.int .u8 1)), (1, .const (.int .u8 4))], _, _, _, none⟩) (v := .agg #[.int .u8 1, .int .u8 4]) rfl (by kernel_rfl) (by kernel_rfl) (by kernel_rfl) (fun _ _ _ h => h) (Or.inl ⟨by rfl, fun w' => by go_simp⟩) ?_
  simp only [Act.put, List.setIfInBounds_toArray, List.set_cons_zero, List.set_cons_succ]
  refine wpAny_take (i := 13) (oi := ⟨some 8, .build 38 #[(0, .const (.int .u8 1)), (1, .const (.int .u8 5))], _, _, _, none⟩) (v := .agg #[.int .u8 1, .int .u8 5]) rfl (by kernel_rfl) (by kernel_rfl) (by kernel_rfl) (fun _ _ _ h => h) (Or.inl ⟨by rfl, fun w' => by go_simp⟩) ?_
  simp only [Act.put, List.setIfInBounds_toArray, List.set_cons_zero, List.set_cons_succ]
  refine wpAny_all (rs := [0]) (by kernel_rfl) (by simp) (fun i hi => ?_)
  obtain rfl : i = 0 := by simpa using hi
  refine wpOp_made (o := ⟨some 1, .makeMap 33 none, _, _, _, none⟩) rfl rfl _ rfl ?_
  refine wpAny_while (WInv _ w w.heap.size) ?_ _ _ _ _ ⟨false, false, false, false, false, false, false, by kernel_rfl, rfl, by kernel_rfl, World.ownsMap_made _ _ _ _, ((Below.refl _ _).drew).alloc (Nat.le_refl _) _⟩
  rintro fuel listed a wz ⟨b0, b1, b2, b3, b4, b5, b6, rfl, rfl, hf, hown, hbel⟩
  rcases all_or (b0 := b0) (b1 := b1) (b2 := b2) (b3 := b3) (b4 := b4) (b5 := b5) (b6 := b6) with ⟨rfl, rfl, rfl, rfl, rfl, rfl, rfl⟩ | hno
  · left
    obtain rfl : fuel = 2 := hf
    refine wpAny_take (i := 15) (oi := ⟨some 9, .move (.tmp 1), _, _, _, none⟩) (v := .map (some w.heap.size)) rfl (by kernel_rfl) (by kernel_rfl) (by kernel_rfl) (fun _ _ _ h => h) (Or.inl ⟨by rfl, fun w' => by go_simp⟩) ?_
    simp only [Act.put, List.setIfInBounds_toArray, List.set_cons_zero, List.set_cons_succ]
    refine wpAny_take (i := 16) (oi := ⟨some 0, .assign (.tmp 9), _, _, _, none⟩) (v := .map (some w.heap.size)) rfl (by kernel_rfl) (by kernel_rfl) (by kernel_rfl) (fun _ _ _ h => h) (Or.inl ⟨by rfl, fun w' => by go_simp⟩) ?_
    simp only [Act.put, List.setIfInBounds_toArray, List.set_cons_zero, List.set_cons_succ]
    refine wpAny_done (by kernel_rfl) ?_ _
    go_wp2
    go_ret
    exact ⟨rfl, hown, hbel⟩
  · right
    obtain ⟨f, rfl⟩ : ∃ f, fuel = f + 1 := ⟨_, hf⟩
    have hf9 : f + 1 ≤ 9 := by
      have := cn_le b0; have := cn_le b1; have := cn_le b2; have := cn_le b3; have := cn_le b4; have := cn_le b5; have := cn_le b6
      omega
    refine ⟨f, rfl, ?_, fun i hi => ?_⟩
    · rcases hno with rfl | rfl | rfl | rfl | rfl | rfl | rfl
      · exact List.ne_nil_of_mem (a := 2) ((mem_ready (j := 2)).2 ⟨rfl, _, rfl, by intro e he _; simp at he; rcases he with rfl | rfl <;> rfl⟩)
      · exact List.ne_nil_of_mem (a := 4) ((mem_ready (j := 4)).2 ⟨rfl, _, rfl, by intro e he _; simp at he; rcases he with rfl | rfl <;> rfl⟩)
      · exact List.ne_nil_of_mem (a := 6) ((mem_ready (j := 6)).2 ⟨rfl, _, rfl, by intro e he _; simp at he; rcases he with rfl | rfl <;> rfl⟩)
      · exact List.ne_nil_of_mem (a := 8) ((mem_ready (j := 8)).2 ⟨rfl, _, rfl, by intro e he _; simp at he; rcases he with rfl | rfl <;> rfl⟩)
      · exact List.ne_nil_of_mem (a := 10) ((mem_ready (j := 10)).2 ⟨rfl, _, rfl, by intro e he _; simp at he; rcases he with rfl | rfl <;> rfl⟩)
      · exact List.ne_nil_of_mem (a := 12) ((mem_ready (j := 12)).2 ⟨rfl, _, rfl, by intro e he _; simp at he; rcases he with rfl | rfl <;> rfl⟩)
      · exact List.ne_nil_of_mem (a := 14) ((mem_ready (j := 14)).2 ⟨rfl, _, rfl, by intro e he _; simp at he; rcases he with rfl | rfl <;> rfl⟩)
    · obtain ⟨h0, hrest⟩ := mem_ready.1 hi
      have hlt : i < 17 := by
        obtain ⟨o, ho, _⟩ := hrest
        exact (Array.getElem?_eq_some_iff.1 ho).1
      clear hi
      rcases i with _ | _ | _ | _ | _ | _ | _ | _ | _ | _ | _ | _ | _ | _ | _ | _ | _ | i
      · exact Bool.noConfusion h0
      · exact Bool.noConfusion h0
      · obtain rfl : b0 = false := h0
        refine wpOp_insert (o := ⟨none, .insert 33 (.tmp 1) (.tmp 2) (.const (.int .u8 2)), 0, _, _, none⟩) rfl rfl _ _ _ _ rfl rfl 38 22 law Try.underlying33 RS w.heap.size _ _ rfl hown (by unfold maxLen; omega) _ _ (ks 1 9) rfl rfl (hkey (by decide) (by decide)) (vs 2) [] (rs_mk (by decide)) ?_
        intro w2 hown2 hg2
        rw [Dl_0] at hown2
        refine ⟨true, b1, b2, b3, b4, b5, b6, rfl, rfl, ?_, ?_, hbel.grown hg2 hbel.size (fun k hk => by cases hk; exact Nat.le_refl _)⟩
        · simp only [cn] at hf ⊢; simp at hf ⊢; omega
        · have e : 9 - (f + 1) + 1 = 9 - f := by omega
          rw [e] at hown2; exact hown2
      · exact Bool.noConfusion h0
      · obtain rfl : b1 = false := h0
        refine wpOp_insert (o := ⟨none, .insert 33 (.tmp 1) (.tmp 3) (.const (.int .u8 1)), 0, _, _, none⟩) rfl rfl _ _ _ _ rfl rfl 38 22 law Try.underlying33 RS w.heap.size _ _ rfl hown (by unfold maxLen; omega) _ _ (ks 2 10) rfl rfl (hkey (by decide) (by decide)) (vs 1) [] (rs_mk (by decide)) ?_
        intro w2 hown2 hg2
        rw [Dl_1] at hown2
        refine ⟨b0, true, b2, b3, b4, b5, b6, rfl, rfl, ?_, ?_, hbel.grown hg2 hbel.size (fun k hk => by cases hk; exact Nat.le_refl _)⟩
        · simp only [cn] at hf ⊢; simp at hf ⊢; omega
        · have e : 9 - (f + 1) + 1 = 9 - f := by omega
          rw [e] at hown2; exact hown2
      · exact Bool.noConfusion h0
      · obtain rfl : b2 = false := h0
        refine wpOp_insert (o := ⟨none, .insert 33 (.tmp 1) (.tmp 4) (.const (.int .u8 3)), 0, _, _, none⟩) rfl rfl _ _ _ _ rfl rfl 38 22 law Try.underlying33 RS w.heap.size _ _ rfl hown (by unfold maxLen; omega) _ _ (ks 2 11) rfl rfl (hkey (by decide) (by decide)) (vs 3) [] (rs_mk (by decide)) ?_
        intro w2 hown2 hg2
        rw [Dl_2] at hown2
        refine ⟨b0, b1, true, b3, b4, b5, b6, rfl, rfl, ?_, ?_, hbel.grown hg2 hbel.size (fun k hk => by cases hk; exact Nat.le_refl _)⟩
        · simp only [cn] at hf ⊢; simp at hf ⊢; omega
        · have e : 9 - (f + 1) + 1 = 9 - f := by omega
          rw [e] at hown2; exact hown2
      · exact Bool.noConfusion h0
      · obtain rfl : b3 = false := h0
        refine wpOp_insert (o := ⟨none, .insert 33 (.tmp 1) (.tmp 5) (.const (.int .u8 4)), 0, _, _, none⟩) rfl rfl _ _ _ _ rfl rfl 38 22 law Try.underlying33 RS w.heap.size _ _ rfl hown (by unfold maxLen; omega) _ _ (ks 3 12) rfl rfl (hkey (by decide) (by decide)) (vs 4) [] (rs_mk (by decide)) ?_
        intro w2 hown2 hg2
        rw [Dl_3] at hown2
        refine ⟨b0, b1, b2, true, b4, b5, b6, rfl, rfl, ?_, ?_, hbel.grown hg2 hbel.size (fun k hk => by cases hk; exact Nat.le_refl _)⟩
        · simp only [cn] at hf ⊢; simp at hf ⊢; omega
        · have e : 9 - (f + 1) + 1 = 9 - f := by omega
          rw [e] at hown2; exact hown2
      · exact Bool.noConfusion h0
      · obtain rfl : b4 = false := h0
        refine wpOp_insert (o := ⟨none, .insert 33 (.tmp 1) (.tmp 6) (.const (.int .u8 5)), 0, _, _, none⟩) rfl rfl _ _ _ _ rfl rfl 38 22 law Try.underlying33 RS w.heap.size _ _ rfl hown (by unfold maxLen; omega) _ _ (ks 1 3) rfl rfl (hkey (by decide) (by decide)) (vs 5) [] (rs_mk (by decide)) ?_
        intro w2 hown2 hg2
        rw [Dl_4] at hown2
        refine ⟨b0, b1, b2, b3, true, b5, b6, rfl, rfl, ?_, ?_, hbel.grown hg2 hbel.size (fun k hk => by cases hk; exact Nat.le_refl _)⟩
        · simp only [cn] at hf ⊢; simp at hf ⊢; omega
        · have e : 9 - (f + 1) + 1 = 9 - f := by omega
          rw [e] at hown2; exact hown2
      · exact Bool.noConfusion h0
      · obtain rfl : b5 = false := h0
        refine wpOp_insert (o := ⟨none, .insert 33 (.tmp 1) (.tmp 7) (.const (.int .u8 6)), 0, _, _, none⟩) rfl rfl _ _ _ _ rfl rfl 38 22 law Try.underlying33 RS w.heap.size _ _ rfl hown (by unfold maxLen; omega) _ _ (ks 1 4) rfl rfl (hkey (by decide) (by decide)) (vs 6) [] (rs_mk (by decide)) ?_
        intro w2 hown2 hg2
        rw [Dl_5] at hown2
        refine ⟨b0, b1, b2, b3, b4, true, b6, rfl, rfl, ?_, ?_, hbel.grown hg2 hbel.size (fun k hk => by cases hk; exact Nat.le_refl _)⟩
        · simp only [cn] at hf ⊢; simp at hf ⊢; omega
        · have e : 9 - (f + 1) + 1 = 9 - f := by omega
          rw [e] at hown2; exact hown2
      · exact Bool.noConfusion h0
      · obtain rfl : b6 = false := h0
        refine wpOp_insert (o := ⟨none, .insert 33 (.tmp 1) (.tmp 8) (.const (.int .u8 7)), 0, _, _, none⟩) rfl rfl _ _ _ _ rfl rfl 38 22 law Try.underlying33 RS w.heap.size _ _ rfl hown (by unfold maxLen; omega) _ _ (ks 1 5) rfl rfl (hkey (by decide) (by decide)) (vs 7) [] (rs_mk (by decide)) ?_
        intro w2 hown2 hg2
        rw [Dl_6] at hown2
        refine ⟨b0, b1, b2, b3, b4, b5, true, rfl, rfl, ?_, ?_, hbel.grown hg2 hbel.size (fun k hk => by cases hk; exact Nat.le_refl _)⟩
        · simp only [cn] at hf ⊢; simp at hf ⊢; omega
        · have e : 9 - (f + 1) + 1 = 9 - f := by omega
          rw [e] at hown2; exact hown2
      · obtain ⟨o, ho, hall⟩ := hrest
        exact absurd hno (by
          cases ho
          have g0 : b0 = true := hall ⟨2, .data⟩ (by simp) rfl
          have g1 : b1 = true := hall ⟨4, .data⟩ (by simp) rfl
          have g2 : b2 = true := hall ⟨6, .data⟩ (by simp) rfl
          have g3 : b3 = true := hall ⟨8, .data⟩ (by simp) rfl
          have g4 : b4 = true := hall ⟨10, .data⟩ (by simp) rfl
          have g5 : b5 = true := hall ⟨12, .data⟩ (by simp) rfl
          have g6 : b6 = true := hall ⟨14, .data⟩ (by simp) rfl
          simp [g0, g1, g2, g3, g4, g5, g6])
      · obtain ⟨o, ho, hall⟩ := hrest
        cases ho
        exact Bool.noConfusion (hall ⟨15, .data⟩ (by simp) rfl)
      · exact absurd hlt (by omega)
end Go.Proofs.Ytheiodccagpphaa
