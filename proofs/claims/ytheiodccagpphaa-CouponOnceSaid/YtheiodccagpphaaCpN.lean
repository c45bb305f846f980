/- Contracts: which commands lead on (a loop over the map of the ways, in whatever order), where a command leads, what a status is. -/
import Derived.Test.YtheiodccagpphaaCpW
import Derived.Deep.QuietTactic
import Derived.BigQuiet
import Derived.WalkSmall
import Derived.RegionTactic
namespace Go.Proofs.Ytheiodccagpphaa
open Go.RowKit Go.Coupon
open Go.Maps (Keyed)

theorem next_ways {ops : Array Oper} {rest : List Oper} {o : Oper} {a : Act} {Q : Exit → Act → World → Prop} (w : World) (hg : o.guard = none) (it : Operand) (hop : o.op = Op.next it false)
    (b r n : Nat) (left : Lit → Bool) (cnt : Nat) (hit : a.eval it = .pointer (some ⟨r, 0, none⟩)) (h : w.ranges Try.prog 38 RS b r n D7 left cnt) (hsub : ∀ kl, left kl = true → Maps.has D7 kl = true)
    (hDone : (∀ kl, left kl = false) → wpList Try.prog ops Q rest (a.put o.dst (.tuple #[.bool false])) w)
    (hMore : ∀ (x y t : Nat) (v : Value) (w' : World) (cnt' : Nat), (x, y, t) ∈ tab → w'.ranges Try.prog 38 RS b r n D7 (fun z => left z && !z.sameKey (ks x y)) cnt' → cnt' < cnt → w.grownBy w' (some r) → w'.heap.size = w.heap.size →
      (Instr.entry (.pointer (some ⟨r, 0, none⟩))).run Try.prog w' = .ok (.tuple #[.agg #[.int .u8 (x : Int), .int .u8 (y : Int)], v]) w' → wpList Try.prog ops Q rest (a.put o.dst (.tuple #[.bool true, .agg #[.int .u8 (x : Int), .int .u8 (y : Int)], v])) w') :
    wpList Try.prog ops Q (o :: rest) a w :=
  wpList_next_ranges w hg it hop 38 law RS id id (fun key kl _ => ⟨key, rfl⟩) (fun v y _ => ⟨v, rfl⟩) b r n D7 left cnt hit h (fun _ => hDone) (fun x v kl y w' cnt' hkey hlk _ _ hrg hlt hgr hsz hen => by
    obtain ⟨p, q, t, hm, rfl⟩ := has_tab (hsub kl hlk)
    obtain ⟨hp, hq⟩ := tab_lt hm
    obtain rfl := law_inj hp hq hkey
    exact hMore p q t v w' cnt' hm hrg hlt hgr hsz hen)

structure Hd (w w' : World) : Prop where
  out : Below w.heap.size w w'
theorem _root_.Go.World.grownBy.below {w w' : World} {B : Nat} (h : w.grownBy w' none) (hB : B ≤ w.heap.size) : Below B w w' :=
  ⟨h.os, h.tape, h.output, h.size, fun k hk => h.block k (Nat.lt_of_lt_of_le hk hB) (by simp)⟩
set_option maxRecDepth 100000 in
theorem leads_any (c : Nat) (B : Nat) (w : World) (hown : w.ownsMap Try.prog 38 RS B 7 D7) :
    Calls Try.prog 17 #[.map (some B), .int .u8 (c : Int)] w fun e w' => e = .returned (.bool (isC c)) ∧ Below w.heap.size w w' := by
  go_enter Try.func17, Try.ntmps17
  go_wp2_with (first | (at_range; refine wpList_range_own _ rfl _ 33 rfl 38 22 law Try.underlying33 _ B 7 D7 rfl hown ?_; intro w0 hrg0 hg0 hs0) | go_in)
  go_frame
  go_loopw [5] (fun _ wr => ∃ (left : Lit → Bool) (cnt : Nat), wr.ranges Try.prog 38 RS B w.heap.size 7 D7 left cnt ∧ Hd w wr ∧ (∀ kl, left kl = true → Maps.has D7 kl = true) ∧ ∀ x y t, (x, y, t) ∈ tab → left (ks x y) = false → y ≠ c)
    (fun _ wr => wr.rangeLeft B w.heap.size)
  case atStart => exact ⟨_, _, hrg0, ⟨hg0.below (Nat.le_refl _)⟩, fun _ h => h, fun x y t hm hf => by rw [tab_has hm] at hf; cases hf⟩
  case round =>
    obtain ⟨left, cnt, hrg, hgw, hsub, hdone⟩ := hrel
    go_wp2_with (first
      | (at_next; refine next_ways _ rfl _ rfl B w.heap.size 7 _ _ rfl hrg hsub ?_ ?_)
      | go_in)
    · intro hl0
      go_wp2
      go_ret
      exact ⟨by rw [not_isC (fun x y t hm => hdone x y t hm (hl0 _))]; rfl, hgw.out⟩
    · intro x y t v w1 cnt1 hm hrg1 hlt hg1 hs1 hen
      have hxy := tab_lt hm
      have hgw1 : Hd w w1 := ⟨hgw.out.grown hg1 hgw.out.size (fun k hk => by cases hk; exact Nat.le_refl _)⟩
      have hrg2 := hrg1.alloc (.cells #[.int .u8 (x : Int), .int .u8 (y : Int)] 38)
      clear hrg1
      have HF := Lib.hid (show ∀ b : Bool, ((y : Int) == (c : Int)) = b → (b = true ↔ y = c) from fun b hb => by rw [← hb]; simp; omega)
      have hW := Lib.hid (hgw1.out.alloc hgw1.out.size (.cells #[.int .u8 (x : Int), .int .u8 (y : Int)] 38))
      go_wp2
      · rename_i hb
        have hyc : y = c := ((HF.out _ hb).1 rfl)
        go_ret
        exact ⟨by rw [← hyc, isC_of hm]; rfl, hW.out⟩
      · rename_i hb
        have hyc : ¬ y = c := fun h => by have := (HF.out _ hb).2 h; cases this
        refine ⟨⟨_, cnt1, hrg2, ⟨hW.out⟩, fun kl h => hsub kl (by simp at h; exact h.1), fun x' y' t' hm' hl => ?_⟩, by rw [hrg2.left_eq, hrg.left_eq]; exact hlt⟩
        simp only [Bool.and_eq_false_imp, Bool.not_eq_eq_eq_not, Bool.not_false] at hl
        cases hl1 : left (ks x' y')
        · exact hdone x' y' t' hm' hl1
        · have := WideAt.sameKey_eq (hl hl1)
          have hlt' := tab_lt hm'
          have h2 := (ks_inj hlt'.1 hlt'.2 hxy.1 hxy.2 this).2
          omega

theorem ret_bool {a b : Bool} (h : a = b) : Ending.returned (.bool a) = .returned (.bool b) := by rw [h]
theorem is_any (s : Nat) (hs : s < 256) (w : World) : Calls Try.prog 11 #[.int .u8 (s : Int)] w fun e w' => e = .returned (.bool (isS s)) ∧ w = w' := by
  have e : isS s = (decide ((1 : Int) ≤ (s : Int)) && decide ((s : Int) ≤ 7)) := by
    unfold isS; rw [Bool.eq_iff_iff]; simp only [Bool.and_eq_true, decide_eq_true_eq]; omega
  rw [e]
  clear e
  have h1 : (0 : Int) ≤ (s : Int) := Int.natCast_nonneg _
  have h2 : (s : Int) ≤ 255 := by omega
  clear hs
  generalize (s : Int) = x at *
  go_enter Try.func11, Try.ntmps11
  go_wp2
  all_goals go_ret
  all_goals exact ⟨ret_bool (by first | rfl | (simp [*]; done) | (simp [*]; omega) | (simp at *; omega)), rfl⟩

set_option maxRecDepth 100000 in
theorem next_any (s c : Nat) (hs : s < 256) (hc : c < 256) (w : World) :
    Calls Try.prog 6 #[.int .u8 (s : Int), .int .u8 (c : Int)] w fun e w' => e = .returned (.tuple #[.int .u8 ((nextL s c).1 : Int), .int .i64 ((nextL s c).2 : Int)]) ∧ Below w.heap.size w w' := by
  have HI := Lib.hid (fun W => is_any s hs W)
  have HK := Lib.hid (hkey hs hc)
  have HL := Lib.hid (fun B W (h : World.ownsMap W Try.prog 38 RS B 7 D7) => leads_any c B W h)
  have HZ := Lib.hid (show ∀ W, (zeroValue 22).run Try.prog W = .ok (.int .u8 0) W from fun W => by kernel_rfl)
  clear hs hc
  by_cases hS : isS s = true
  · by_cases hC : isC c = true
    · rcases next_look hS hC with ⟨hh, t, hn, hat⟩ | ⟨hh, hn⟩
      · rw [hn]
        rw [hS] at HI
        rw [hC] at HL
        have HA := Lib.hid hat
        clear hn hS hC hat
        go_enter Try.func6, Try.ntmps6
        go_wp2_with fail
        go_at_call 16
        refine (ways_any w).mono ?_
        rintro e w1 ⟨rfl, hown, hb1⟩
        have HO := Lib.hid hown
        have HB1 := Lib.hid hb1
        clear hown hb1
        go_wp2_with (go_at_call 11; refine (HI.out _).mono ?_; rintro e w2 ⟨rfl, rfl⟩)
        go_at_call 17
        refine (HL.out _ _ HO.out).mono ?_
        rintro e w2 ⟨rfl, hb2⟩
        have HO2 := Lib.hid (HO.out.kept (row := none) ⟨hb2.os, hb2.tape, hb2.output, hb2.size, fun k hk _ => hb2.block k hk⟩ (by simp))
        have HB2 := Lib.hid (HB1.out.trans (hb2.mono HB1.out.size))
        clear hb2
        go_wp2_with (at_lookup; refine wpList_lookup_own_ok_int _ rfl _ _ 33 rfl 38 22 .u8 law Try.underlying33 Try.underlying22 (HZ.out _) w.heap.size 7 D7 rfl HO2.out _ (ks s c) rfl HK.out ?_; intro z hat hz; rw [hh])
        all_goals go_ret2
        have hzt : DataW.lit (H := Unit) (.int .u8 z) = vs t := hat.symm.trans HA.out
        have hzt' : z = (t : Int) := by simpa [vs] using hzt
        rw [← hzt']
        exact ⟨rfl, HB2.out⟩
      · rw [hn]
        rw [hS] at HI
        rw [hC] at HL
        clear hn hS hC
        go_enter Try.func6, Try.ntmps6
        go_wp2_with fail
        go_at_call 16
        refine (ways_any w).mono ?_
        rintro e w1 ⟨rfl, hown, hb1⟩
        have HO := Lib.hid hown
        have HB1 := Lib.hid hb1
        clear hown hb1
        go_wp2_with (go_at_call 11; refine (HI.out _).mono ?_; rintro e w2 ⟨rfl, rfl⟩)
        go_at_call 17
        refine (HL.out _ _ HO.out).mono ?_
        rintro e w2 ⟨rfl, hb2⟩
        have HO2 := Lib.hid (HO.out.kept (row := none) ⟨hb2.os, hb2.tape, hb2.output, hb2.size, fun k hk _ => hb2.block k hk⟩ (by simp))
        have HB2 := Lib.hid (HB1.out.trans (hb2.mono HB1.out.size))
        clear hb2
        go_wp2_with (at_lookup; refine wpList_lookup_own_ok_int _ rfl _ _ 33 rfl 38 22 .u8 law Try.underlying33 Try.underlying22 (HZ.out _) w.heap.size 7 D7 rfl HO2.out _ (ks s c) rfl HK.out ?_; intro z hat hz; rw [hh])
        all_goals go_ret2
        exact ⟨rfl, HB2.out⟩
    · have hC' : isC c = false := by simpa using hC
      rw [next_arg (.inr hC')]
      rw [hS] at HI
      rw [hC'] at HL
      clear hS hC hC'
      go_enter Try.func6, Try.ntmps6
      go_wp2_with fail
      go_at_call 16
      refine (ways_any w).mono ?_
      rintro e w1 ⟨rfl, hown, hb1⟩
      have HO := Lib.hid hown
      have HB1 := Lib.hid hb1
      clear hown hb1
      go_wp2_with (go_at_call 11; refine (HI.out _).mono ?_; rintro e w2 ⟨rfl, rfl⟩)
      go_at_call 17
      refine (HL.out _ _ HO.out).mono ?_
      rintro e w2 ⟨rfl, hb2⟩
      have HO2 := Lib.hid (HO.out.kept (row := none) ⟨hb2.os, hb2.tape, hb2.output, hb2.size, fun k hk _ => hb2.block k hk⟩ (by simp))
      have HB2 := Lib.hid (HB1.out.trans (hb2.mono HB1.out.size))
      clear hb2
      go_wp2
      all_goals go_ret2
      exact ⟨rfl, HB2.out⟩
  · have hS' : isS s = false := by simpa using hS
    rw [next_arg (.inl hS')]
    rw [hS'] at HI
    clear hS hS'
    go_enter Try.func6, Try.ntmps6
    go_wp2_with fail
    go_at_call 16
    refine (ways_any w).mono ?_
    rintro e w1 ⟨rfl, hown, hb1⟩
    have HO := Lib.hid hown
    have HB1 := Lib.hid hb1
    clear hown hb1
    go_wp2_with (go_at_call 11; refine (HI.out _).mono ?_; rintro e w2 ⟨rfl, rfl⟩)
    all_goals go_ret2
    exact ⟨rfl, HB1.out⟩
end Go.Proofs.Ytheiodccagpphaa
