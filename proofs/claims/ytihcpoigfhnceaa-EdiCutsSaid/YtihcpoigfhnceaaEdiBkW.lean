/- The walk of EdiBack: what is printed is parsed as it was, what is parsed is printed as the text. -/
import Derived.Test.YtihcpoigfhnceaaEdiRd
import Derived.Test.YtihcpoigfhnceaaEdiSm
import Derived.Test.YtihcpoigfhnceaaEdiHv
namespace Go.Proofs.Ytihcpoigfhnceaa
open Go.RowKit Go.Edi

def flt (t : Tx) : Tx := t.filter (fun c => decide (¬ c = 10))
theorem flt_10 (t : Tx) (k : Nat) (h : k < t.length) (hc : t[k] = 10) : flt (t.take (k + 1)) = flt (t.take k) := by
  unfold flt; rw [← List.take_append_getElem h, List.filter_append]; simp [hc]
theorem flt_no (t : Tx) (k : Nat) (h : k < t.length) (hc : ¬ t[k] = 10) : flt (t.take (k + 1)) = flt (t.take k) ++ [t[k]] := by
  unfold flt; rw [← List.take_append_getElem h, List.filter_append]; simp [hc]
theorem segs_slice {w : World} {F : Nat → Prop} {v : Value} {l : List Sg} (h : SegsF w F v l) : ∃ p cap, v = .slice p l.length cap := by
  obtain ⟨xs, ⟨p, cap, e, _⟩, _⟩ := h
  exact ⟨p, cap, e⟩
theorem sane_short {l : List Sg} (h1 : l.length ≤ 64) (h2 : ∀ s ∈ l, shortS s = true) : sane l := by
  refine ⟨by omega, fun s hs => ?_⟩
  have := h2 s hs
  simp only [shortS, shortE, Bool.and_eq_true, decide_eq_true_eq, List.all_eq_true] at this
  exact ⟨by omega, fun e he => ⟨by have := (this.2 e he).1; omega, fun t ht => by have := (this.2 e he).2 t ht; omega⟩⟩
theorem sane_parse (t : Tx) : sane (parseL t).1 := by
  by_cases h : (parseL t).2.2 = 0
  · obtain ⟨_, h2, _⟩ := parse_ok h
    have hi := run_inv t s0 0 good_s0 (by rw [h2])
    rw [h2] at hi
    exact sane_short hi.1.2.1 (fun s hs => (hi.1.1 s hs).2.2)
  · rw [parse_bad h]; exact ⟨by simp, fun s hs => by simp at hs⟩
set_option maxRecDepth 100000 in
set_option maxHeartbeats 6400000 in
theorem back_walk (l : List Sg) (v : Value) (t : Tx) (w : World) (hv : SegsF w (· < w.heap.size) v l) :
    Calls Try.prog 4 #[v, str t] w fun e w' => e = .returned (.bool true) ∧ Below w.heap.size w w' := by
  have hsz : (tx t).size = t.length := by simp [tx, ByteArray.size]
  have HV := Lib.hid hv
  have HH := Lib.hid (heavy_any l v w hv)
  clear hv
  go_enter Try.func4, Try.ntmps4
  go_wp2_with (go_at_call 10; refine (HH.out).mono ?_)
  rintro e w1 hh
  obtain ⟨⟨r, rfl, hli⟩, hb1⟩ := hh
  have HB1 := Lib.hid hb1
  clear hb1
  cases r with
  | true =>
    go_wp2
    go_ret
    exact ⟨rfl, HB1.out⟩
  | false =>
    have HLI := Lib.hid (hli rfl)
    clear hli
    by_cases hl : (3000 : Int) < (t.length : Int)
    · go_wp2
      go_ret
      exact ⟨rfl, HB1.out⟩
    have HPR := Lib.hid (print_any l v w1 (HV.out.later HB1.out) HLI.out.sane)
    go_wp2_with (go_at_call 12; refine (HPR.out).mono ?_)
    first | rintro e w2 rfl hb2 | rintro e w2 ⟨rfl, hb2⟩
    have HB2 := Lib.hid (HB1.out.trans (hb2.mono HB1.out.size))
    clear hb2
    by_cases hpr : (((printL l).2 : Nat) : Int) = 0
    · have hpo := printL_ok l (by omega)
      have hbk := back l _ hpo
      rw [hpo]
      have Q3 := Lib.hid (parse_any (txT l) w2)
      have HBK := Lib.hid hbk
      have HPO := Lib.hid hpo
      clear hpr hpo hbk
      go_wp2_with (go_at_call 16; refine (Q3.out).mono ?_)
      rintro e w3 hpa3
      unfold PaAt at hpa3
      rw [HBK.out] at hpa3
      obtain ⟨⟨v3, F3, rfl, hs3, hF3⟩, hb3⟩ := hpa3
      have HS3 := Lib.hid (hs3.kept (F' := (· < w3.heap.size)) (fun b hb => ⟨(hF3 b hb).2, rfl⟩))
      obtain ⟨p3, cap3, rfl⟩ := segs_slice hs3
      have HB3 := Lib.hid (HB2.out.trans (hb3.mono HB2.out.size))
      clear hs3 hF3 hb3
      have HSM := Lib.hid (same_any l v _ w3 (HV.out.later HB3.out) HS3.out HLI.out.sane)
      go_wp2_with (go_at_call 14; refine (HSM.out).mono ?_)
      first | rintro e w4 rfl hb4 | rintro e w4 ⟨rfl, hb4⟩
      have HBC := Lib.hid (HB3.out.trans (hb4.mono HB3.out.size))
      clear hb4
      have Q5 := Lib.hid (parse_any t w4)
      go_wp2_with (go_at_call 16; refine (Q5.out).mono ?_)
      rintro e w5 hpa5
      obtain ⟨⟨v5, F5, rfl, hs5, hF5⟩, hb5⟩ := hpa5
      obtain ⟨p5, cap5, rfl⟩ := segs_slice hs5
      have HS5 := Lib.hid (hs5.kept (F' := (· < w5.heap.size)) (fun b hb => ⟨(hF5 b hb).2, rfl⟩))
      have HB5 := Lib.hid (HBC.out.trans (hb5.mono HBC.out.size))
      clear hs5 hF5 hb5
      by_cases hok : (((parseL t).2.2 : Nat) : Int) = 0
      · have HOK := Lib.hid (show (parseL t).2.2 = 0 by omega)
        have HP5 := Lib.hid (print_any (parseL t).1 _ w5 HS5.out (sane_parse t))
        rw [show printL (parseL t).1 = (flt t, 0) from back2 HOK.out] at HP5
        go_wp2_with (go_at_call 12; refine (HP5.out).mono ?_)
        first | rintro e w6 rfl hb6 | rintro e w6 ⟨rfl, hb6⟩
        have HB6 := Lib.hid (HB5.out.trans (hb6.mono HB5.out.size))
        clear hb6
        go_wp2
        go_loopw [15, 16] (fun u i wr => ∃ (k : Nat) (p : Option Addr) (n cap : Nat), i = .int .i64 k ∧ u = .slice p n cap ∧ k ≤ t.length ∧ n ≤ k ∧ wr.ownsRow w.heap.size 5 1 (.slice p n cap) n (Lib.byteCells (flt (t.take k))) ∧ Below w.heap.size w wr) (fun _ i _ => t.length - (intOf i).toNat)
        case atStart => exact ⟨0, none, 0, 0, rfl, rfl, Nat.zero_le _, Nat.le_refl _, World.ownsRow_nil _ _ _ _, HB6.out⟩
        case round =>
          obtain ⟨k, p, n, cap, rfl, rfl, hk, hnk, hown, hbl⟩ := hrel
          have HBR := Lib.hid hbl
          have HO := Lib.hid hown
          by_cases hlt : (k : Int) < (t.length : Int)
          · have hkl : k < t.length := by omega
            have hk0 : (0 : Int) ≤ (k : Int) := Int.natCast_nonneg _
            have hkz : k < (tx t).size := by omega
            clear hbl hown
            by_cases h10 : (((tx t)[k]'hkz).toNat : Int) = 10
            · have HN := Lib.hid (show flt (t.take (k + 1)) = flt (t.take k) from flt_10 t k hkl ((eq8' 10 _).2 h10))
              go_wp2
              go_roundw
              case rel => exact ⟨k + 1, p, n, cap, by go_num, rfl, by omega, by omega, by rw [HN.out]; exact HO.out, HBR.out⟩
              case measure => simp [intOf]; omega
            · have HN := Lib.hid (show flt (t.take (k + 1)) = flt (t.take k) ++ [(tx t)[k]'hkz] from flt_no t k hkl (fun e => h10 ((eq8' 10 _).1 e)))
              generalize hck : (tx t)[k]'hkz = c at *
              go_wp2_with (at_builtin; refine wl_app1 32 5 (.int .u8 0) 1 1 par_u8 Try.underlying32 rfl (by decide) (by decide) w.heap.size (.slice p n cap) n (Lib.byteCells (flt (t.take k))) rfl (HO.out.alloc _) wr.heap.size 1 [by8 c] 5 (0, 0) rfl rfl (at_last _ _) (by intro u hu; simp at hu; subst hu; rfl) (by omega) (by have := HBR.out.size; simp; omega) ?_)
              intro v' w2 ho hgr _
              obtain ⟨p', cap', rfl⟩ := own_slice ho
              have HBA := Lib.hid (below_app HBR.out (Nat.le_refl _) hgr (fun k hk => (HO.out.lt k hk).1))
              have HOO := Lib.hid ho
              clear ho hgr hck
              go_wp2
              go_roundw
              case rel => exact ⟨k + 1, p', n + 1, cap', by go_num, rfl, by omega, by omega, by rw [HN.out, ← cellsByte]; exact HOO.out, HBA.out⟩
              case measure => simp [intOf]; omega
          · obtain rfl : k = t.length := by omega
            rw [List.take_length] at hown
            have hnl : (flt t).length = n := by have := hown.1; simpa [Lib.byteCells_length] using this
            subst hnl
            have hcv := run_convW wr w.heap.size _ (flt t) hown
            have HRD := Lib.hid (reads_any wr)
            clear hbl hown
            go_wp2_with (go_at_call 15; refine (HRD.out).mono ?_)
            first | rintro e w7 rfl hb7 | rintro e w7 ⟨rfl, hb7⟩
            have HB7 := Lib.hid (HBR.out.trans (hb7.mono HBR.out.size))
            clear hb7
            go_wp2
            go_ret
            exact ⟨rfl, HB7.out⟩
      · have hz : (parseL t).1.length = 0 := by rw [parse_bad (by omega)]; rfl
        rw [hz]
        have HRD := Lib.hid (reads_any w5)
        clear hz
        go_wp2_with (go_at_call 15; refine (HRD.out).mono ?_)
        first | rintro e w7 rfl hb7 | rintro e w7 ⟨rfl, hb7⟩
        have HB7 := Lib.hid (HB5.out.trans (hb7.mono HB5.out.size))
        clear hb7
        go_wp2
        go_ret
        exact ⟨rfl, HB7.out⟩
    · have hpb := printL_bad l (by omega)
      rw [hpb]
      have HBC := HB2
      have e0 : tx [] = { data := #[] } := rfl
      clear hpb
      have Q5 := Lib.hid (parse_any t w2)
      go_wp2_with (go_at_call 16; refine (Q5.out).mono ?_)
      rintro e w5 hpa5
      obtain ⟨⟨v5, F5, rfl, hs5, hF5⟩, hb5⟩ := hpa5
      obtain ⟨p5, cap5, rfl⟩ := segs_slice hs5
      have HS5 := Lib.hid (hs5.kept (F' := (· < w5.heap.size)) (fun b hb => ⟨(hF5 b hb).2, rfl⟩))
      have HB5 := Lib.hid (HBC.out.trans (hb5.mono HBC.out.size))
      clear hs5 hF5 hb5
      by_cases hok : (((parseL t).2.2 : Nat) : Int) = 0
      · have HOK := Lib.hid (show (parseL t).2.2 = 0 by omega)
        have HP5 := Lib.hid (print_any (parseL t).1 _ w5 HS5.out (sane_parse t))
        rw [show printL (parseL t).1 = (flt t, 0) from back2 HOK.out] at HP5
        go_wp2_with (go_at_call 12; refine (HP5.out).mono ?_)
        first | rintro e w6 rfl hb6 | rintro e w6 ⟨rfl, hb6⟩
        have HB6 := Lib.hid (HB5.out.trans (hb6.mono HB5.out.size))
        clear hb6
        go_wp2
        go_loopw [15, 16] (fun u i wr => ∃ (k : Nat) (p : Option Addr) (n cap : Nat), i = .int .i64 k ∧ u = .slice p n cap ∧ k ≤ t.length ∧ n ≤ k ∧ wr.ownsRow w.heap.size 5 1 (.slice p n cap) n (Lib.byteCells (flt (t.take k))) ∧ Below w.heap.size w wr) (fun _ i _ => t.length - (intOf i).toNat)
        case atStart => exact ⟨0, none, 0, 0, rfl, rfl, Nat.zero_le _, Nat.le_refl _, World.ownsRow_nil _ _ _ _, HB6.out⟩
        case round =>
          obtain ⟨k, p, n, cap, rfl, rfl, hk, hnk, hown, hbl⟩ := hrel
          have HBR := Lib.hid hbl
          have HO := Lib.hid hown
          by_cases hlt : (k : Int) < (t.length : Int)
          · have hkl : k < t.length := by omega
            have hk0 : (0 : Int) ≤ (k : Int) := Int.natCast_nonneg _
            have hkz : k < (tx t).size := by omega
            clear hbl hown
            by_cases h10 : (((tx t)[k]'hkz).toNat : Int) = 10
            · have HN := Lib.hid (show flt (t.take (k + 1)) = flt (t.take k) from flt_10 t k hkl ((eq8' 10 _).2 h10))
              go_wp2
              go_roundw
              case rel => exact ⟨k + 1, p, n, cap, by go_num, rfl, by omega, by omega, by rw [HN.out]; exact HO.out, HBR.out⟩
              case measure => simp [intOf]; omega
            · have HN := Lib.hid (show flt (t.take (k + 1)) = flt (t.take k) ++ [(tx t)[k]'hkz] from flt_no t k hkl (fun e => h10 ((eq8' 10 _).1 e)))
              generalize hck : (tx t)[k]'hkz = c at *
              go_wp2_with (at_builtin; refine wl_app1 32 5 (.int .u8 0) 1 1 par_u8 Try.underlying32 rfl (by decide) (by decide) w.heap.size (.slice p n cap) n (Lib.byteCells (flt (t.take k))) rfl (HO.out.alloc _) wr.heap.size 1 [by8 c] 5 (0, 0) rfl rfl (at_last _ _) (by intro u hu; simp at hu; subst hu; rfl) (by omega) (by have := HBR.out.size; simp; omega) ?_)
              intro v' w2 ho hgr _
              obtain ⟨p', cap', rfl⟩ := own_slice ho
              have HBA := Lib.hid (below_app HBR.out (Nat.le_refl _) hgr (fun k hk => (HO.out.lt k hk).1))
              have HOO := Lib.hid ho
              clear ho hgr hck
              go_wp2
              go_roundw
              case rel => exact ⟨k + 1, p', n + 1, cap', by go_num, rfl, by omega, by omega, by rw [HN.out, ← cellsByte]; exact HOO.out, HBA.out⟩
              case measure => simp [intOf]; omega
          · obtain rfl : k = t.length := by omega
            rw [List.take_length] at hown
            have hnl : (flt t).length = n := by have := hown.1; simpa [Lib.byteCells_length] using this
            subst hnl
            have hcv := run_convW wr w.heap.size _ (flt t) hown
            have HRD := Lib.hid (reads_any wr)
            clear hbl hown
            go_wp2_with (go_at_call 15; refine (HRD.out).mono ?_)
            first | rintro e w7 rfl hb7 | rintro e w7 ⟨rfl, hb7⟩
            have HB7 := Lib.hid (HBR.out.trans (hb7.mono HBR.out.size))
            clear hb7
            go_wp2
            go_ret
            exact ⟨rfl, HB7.out⟩
      · have hz : (parseL t).1.length = 0 := by rw [parse_bad (by omega)]; rfl
        rw [hz]
        have HRD := Lib.hid (reads_any w5)
        clear hz
        go_wp2_with (go_at_call 15; refine (HRD.out).mono ?_)
        first | rintro e w7 rfl hb7 | rintro e w7 ⟨rfl, hb7⟩
        have HB7 := Lib.hid (HB5.out.trans (hb7.mono HB5.out.size))
        clear hb7
        go_wp2
        go_ret
        exact ⟨rfl, HB7.out⟩
end Go.Proofs.Ytihcpoigfhnceaa
