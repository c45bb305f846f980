/- Contracts of the conditions and of Check. -/
import Derived.Test.YtpapcilffkpjjaaTkN
import Derived.Test.YtpapcilffkpjjaaTkP
namespace Go.Proofs.Ytpapcilffkpjjaa
open Go.Shelf Go.RowKit Go.Lib Go.Money Go.Tick

abbrev saV (s : Sl) (lp : Option Addr) (lc : Nat) (tp : Option Addr) (tc : Nat) : Array Value := #[str s.name, .slice lp s.legs.length lc, iv s.fare, .slice tp s.taxes.length tc, iv s.pen]
/-- a sale and a number in boxes, its rows in memory -/
structure CM (Bs Bn : Nat) (s : Sl) (n : Int) (lp : Option Addr) (lc : Nat) (tp : Option Addr) (tc : Nat) (W : World) : Prop where
  a0 : W.heap[Bs]? = some (.cells (saV s lp lc tp tc) 28 (0, 0))
  a1 : W.heap[Bn]? = some (.cells #[iv n] 3 (0, 0))
  lr : Row W 3 lgC lp s.legs
  tr : Row W 2 txC tp s.taxes
theorem lt_heap {w : World} {g : Nat} {o : Obj} (h : w.heap[g]? = some o) : g < w.heap.size := (Array.getElem?_eq_some_iff.1 h).1
theorem CM.keep {Bs Bn : Nat} {s : Sl} {n : Int} {lp : Option Addr} {lc : Nat} {tp : Option Addr} {tc : Nat} {W W' : World} (h : CM Bs Bn s n lp lc tp tc W) (hb : Below W.heap.size W W') : CM Bs Bn s n lp lc tp tc W' :=
  ⟨(hb.block _ (lt_heap h.a0)).trans h.a0, (hb.block _ (lt_heap h.a1)).trans h.a1, h.lr.keep hb, h.tr.keep hb⟩
theorem cell_arr {w : World} {g : Nat} {cs : Array Value} {ty : TypeId} {fr : Nat × Nat} (h : w.heap[g]? = some (.cells cs ty fr)) (i : Nat) : w.cell? ⟨g, i, none⟩ = cs[i]? := by simp [World.cell?, h]
section
variable {Bs Bn : Nat} {s : Sl} {n : Int} {lp : Option Addr} {lc : Nat} {tp : Option Addr} {tc : Nat} {W : World}
theorem cond1_any (h : CM Bs Bn s n lp lc tp tc W) : Calls Try.prog 42 #[.pointer (some ⟨Bn, 0, none⟩)] W fun e w' => e = .returned (.bool (tst s n 0)) ∧ Below W.heap.size W w' := by
  have c := cell_arr h.a1 0
  have c0 : W.cell? ⟨Bn, 0, none⟩ = some (iv n) := c
  clear h c
  simp only [tst]
  by_cases h1 : 2 ≤ n
  · by_cases h2 : n ≤ 8
    all_goals
      go_enter Try.func42, Try.ntmps42
      go_wp2
      go_ret
      exact ⟨ret_bool (by simp [*]), Below.refl _ _⟩
  · go_enter Try.func42, Try.ntmps42
    go_wp2
    go_ret
    exact ⟨ret_bool (by simp [*]; try omega), Below.refl _ _⟩
theorem cond2_any (h : CM Bs Bn s n lp lc tp tc W) : Calls Try.prog 43 #[.pointer (some ⟨Bs, 0, none⟩)] W fun e w' => e = .returned (.bool (tst s n 1)) ∧ Below W.heap.size W w' := by
  have c := cell_arr h.a0 0
  have c0 : W.cell? ⟨Bs, 0, none⟩ = some (str s.name) := c
  have H := Lib.hid (name_any s.name W)
  clear h c
  simp only [tst]
  go_enter Try.func43, Try.ntmps43
  go_wp2_with (go_at_call 44; refine (H.out).mono ?_; rintro e w2 ⟨rfl, hb2⟩)
  go_ret
  exact ⟨rfl, hb2⟩
theorem cond3_any (h : CM Bs Bn s n lp lc tp tc W) : Calls Try.prog 45 #[.pointer (some ⟨Bs, 0, none⟩)] W fun e w' => e = .returned (.bool (tst s n 2)) ∧ Below W.heap.size W w' := by
  have c := cell_arr h.a0 1
  have c0 : W.cell? ⟨Bs, 1, none⟩ = some (.slice lp s.legs.length lc) := c
  clear h c
  simp only [tst]
  generalize s.legs.length = m at *
  by_cases h1 : (1 : Int) ≤ (m : Int)
  · by_cases h2 : (m : Int) ≤ 4
    all_goals
      go_enter Try.func45, Try.ntmps45
      go_wp2
      go_ret
      exact ⟨ret_bool (by simp; omega), Below.refl _ _⟩
  · go_enter Try.func45, Try.ntmps45
    go_wp2
    go_ret
    exact ⟨ret_bool (by simp; omega), Below.refl _ _⟩
theorem cond41_pred (h1 : W.heap[Bn]? = some (.cells #[iv n] 3 (0, 0))) : PredW 48 #[.pointer (some ⟨Bn, 0, none⟩)] (fun x => .agg (lgC x).toArray) (legB n) W := by
  intro W2 x hb
  have h2 := (hb.block _ (lt_heap h1)).trans h1
  have c0 : W2.cell? ⟨Bn, 0, none⟩ = some (iv n) := cell_arr h2 0
  have hlt := lt_heap h2
  have e : legB n x = (decide ((x.c.toNat : Int) < n) && decide ((0 : Int) < (x.wt : Int))) := by
    unfold legB; rw [Bool.eq_iff_iff]; simp only [Bool.and_eq_true, decide_eq_true_eq]; omega
  rw [e]
  have y0 : (0 : Int) ≤ (x.c.toNat : Int) := Int.natCast_nonneg _
  have y1 : (x.c.toNat : Int) ≤ 255 := by have := x.c.toNat_lt; omega
  show Calls Try.prog 48 #[.agg #[.int .u8 (x.c.toNat : Int), .int .u16 (x.f : Int), .int .u32 (x.wt : Int)], .pointer (some ⟨Bn, 0, none⟩)] W2 _
  clear e h2 h1 hb
  generalize (x.c.toNat : Int) = y at *
  generalize (x.wt : Int) = z at *
  by_cases q1 : y < n
  · by_cases q2 : 0 < z
    all_goals
      go_enter Try.func48, Try.ntmps48
      go_wp2
      go_ret
      exact ⟨ret_bool (by simp; try omega), (Below.refl _ _).alloc (Nat.le_refl _) _⟩
  · go_enter Try.func48, Try.ntmps48
    go_wp2
    go_ret
    exact ⟨ret_bool (by simp; try omega), (Below.refl _ _).alloc (Nat.le_refl _) _⟩
theorem cond41_enter : ∀ args w, (callFunc 48 args).run Try.prog w = .ok (.enter 48 args) w := enters_of Try.func48 (by kernel_rfl) rfl
theorem cond4_any (h : CM Bs Bn s n lp lc tp tc W) (hl : s.legs.length ≤ 1000) : Calls Try.prog 46 #[.pointer (some ⟨Bs, 0, none⟩), .pointer (some ⟨Bn, 0, none⟩)] W fun e w' => e = .returned (.bool (tst s n 3)) ∧ Below W.heap.size W w' := by
  have c := cell_arr h.a0 1
  have c0 : W.cell? ⟨Bs, 1, none⟩ = some (.slice lp s.legs.length lc) := c
  have H := Lib.hid (evleg_any (legB n) 48 #[.pointer (some ⟨Bn, 0, none⟩)] cond41_enter lp s.legs lc W h.lr (by omega) (cond41_pred h.a1))
  clear h c
  simp only [tst]
  go_enter Try.func46, Try.ntmps46
  go_wp2_with (go_at_call 47; refine (H.out).mono ?_; rintro e w2 ⟨rfl, hb2⟩)
  go_ret
  exact ⟨rfl, hb2⟩
theorem cond5_any (h : CM Bs Bn s n lp lc tp tc W) : Calls Try.prog 49 #[.pointer (some ⟨Bs, 0, none⟩)] W fun e w' => e = .returned (.bool (tst s n 4)) ∧ Below W.heap.size W w' := by
  have c := cell_arr h.a0 2
  have c0 : W.cell? ⟨Bs, 2, none⟩ = some (iv s.fare) := c
  clear h c
  simp only [tst]
  go_enter Try.func49, Try.ntmps49
  go_wp2_with (go_at_call 50; refine (amount_any _ _).mono ?_; rintro e w2 ⟨rfl, rfl⟩)
  go_ret
  exact ⟨rfl, Below.refl _ _⟩
theorem cond6_any (h : CM Bs Bn s n lp lc tp tc W) : Calls Try.prog 51 #[.pointer (some ⟨Bs, 0, none⟩)] W fun e w' => e = .returned (.bool (tst s n 5)) ∧ Below W.heap.size W w' := by
  have c := cell_arr h.a0 3
  have c0 : W.cell? ⟨Bs, 3, none⟩ = some (.slice tp s.taxes.length tc) := c
  clear h c
  simp only [tst]
  generalize s.taxes.length = m at *
  go_enter Try.func51, Try.ntmps51
  go_wp2
  all_goals go_ret
  all_goals exact ⟨ret_bool (by simp; try omega), Below.refl _ _⟩
theorem cond71_pred : PredW 54 #[] (fun x => .agg (txC x).toArray) taxB W := by
  intro W2 x _
  show Calls Try.prog 54 #[.agg #[str x.code, iv x.am]] W2 _
  obtain ⟨b1, h1⟩ : ∃ b, codeB x.code = b := ⟨_, rfl⟩
  obtain ⟨b2, h2⟩ : ∃ b, amtB x.am = b := ⟨_, rfl⟩
  have HC := Lib.hid (code_any x.code (W2.alloc (.cells #[str x.code, iv x.am] 48)))
  have HA := Lib.hid (amount_any x.am)
  have e : taxB x = (b1 && b2) := by unfold taxB; rw [h1, h2]
  rw [e]
  rw [h1] at HC
  rw [h2] at HA
  clear h1 h2 e
  have hb1 : Below W2.heap.size W2 (W2.alloc (.cells #[str x.code, iv x.am] 48)) := (Below.refl _ _).alloc (Nat.le_refl _) _
  have HB1 := Lib.hid hb1
  have HCL := Lib.hid (show (W2.alloc (.cells #[str x.code, iv x.am] 48)).cell? ⟨W2.heap.size, 1, none⟩ = some (iv x.am) from World.cell?_alloc_at _ _ _ _ rfl)
  have HS := Lib.hid (show W2.heap.size < (W2.alloc (.cells #[str x.code, iv x.am] 48)).heap.size by simp)
  clear hb1
  cases b1
  · go_enter Try.func54, Try.ntmps54
    go_wp2_with (go_at_call 55; refine (HC.out).mono ?_; rintro e w2 ⟨rfl, hb2⟩)
    go_ret
    exact ⟨rfl, HB1.out.trans (hb2.mono HB1.out.size)⟩
  · go_enter Try.func54, Try.ntmps54
    go_wp2_with fail
    refine (HC.out).mono ?_
    rintro e w2 ⟨rfl, hb2⟩
    have c1 := (hb2.cell (p := ⟨W2.heap.size, 1, none⟩) HS.out).trans HCL.out
    have HB2 := Lib.hid (HB1.out.trans (hb2.mono HB1.out.size))
    clear hb2
    go_wp2_with (go_at_call 50; refine (HA.out _).mono ?_; rintro e w3 ⟨rfl, rfl⟩)
    go_ret
    exact ⟨rfl, HB2.out⟩
theorem cond71_enter : ∀ args w, (callFunc 54 args).run Try.prog w = .ok (.enter 54 args) w := enters_of Try.func54 (by kernel_rfl) rfl
theorem cond7_any (h : CM Bs Bn s n lp lc tp tc W) (hl : s.taxes.length ≤ 1000) : Calls Try.prog 52 #[.pointer (some ⟨Bs, 0, none⟩)] W fun e w' => e = .returned (.bool (tst s n 6)) ∧ Below W.heap.size W w' := by
  have c := cell_arr h.a0 3
  have c0 : W.cell? ⟨Bs, 3, none⟩ = some (.slice tp s.taxes.length tc) := c
  have H := Lib.hid (evtax_any taxB 54 #[] cond71_enter tp s.taxes tc W h.tr (by omega) cond71_pred)
  clear h c
  simp only [tst]
  go_enter Try.func52, Try.ntmps52
  go_wp2_with (go_at_call 53; refine (H.out).mono ?_; rintro e w2 ⟨rfl, hb2⟩)
  go_ret
  exact ⟨rfl, hb2⟩
theorem cond8_any (h : CM Bs Bn s n lp lc tp tc W) : Calls Try.prog 56 #[.pointer (some ⟨Bs, 0, none⟩)] W fun e w' => e = .returned (.bool (tst s n 7)) ∧ Below W.heap.size W w' := by
  have c := cell_arr h.a0 4
  have c0 : W.cell? ⟨Bs, 4, none⟩ = some (iv s.pen) := c
  clear h c
  simp only [tst]
  go_enter Try.func56, Try.ntmps56
  go_wp2_with (go_at_call 50; refine (amount_any _ _).mono ?_; rintro e w2 ⟨rfl, rfl⟩)
  go_ret
  exact ⟨rfl, Below.refl _ _⟩
theorem cond9_any (h : CM Bs Bn s n lp lc tp tc W) (hl : s.taxes.length ≤ 1000) (hn : nonneg (amts s)) : Calls Try.prog 57 #[.pointer (some ⟨Bs, 0, none⟩)] W fun e w' => e = .returned (.bool (tst s n 8)) ∧ Below W.heap.size W w' := by
  have c0 : W.cell? ⟨Bs, 0, none⟩ = some (str s.name) := cell_arr h.a0 0
  have c1 : W.cell? ⟨Bs, 1, none⟩ = some (.slice lp s.legs.length lc) := cell_arr h.a0 1
  have c2 : W.cell? ⟨Bs, 2, none⟩ = some (iv s.fare) := cell_arr h.a0 2
  have c3 : W.cell? ⟨Bs, 3, none⟩ = some (.slice tp s.taxes.length tc) := cell_arr h.a0 3
  have c4 : W.cell? ⟨Bs, 4, none⟩ = some (iv s.pen) := cell_arr h.a0 4
  have H := Lib.hid (price_any s lp tp lc tc W h.tr hl)
  have HN := Lib.hid hn
  clear h hn
  go_enter Try.func57, Try.ntmps57
  go_wp2_with fail
  refine (H.out).mono ?_
  rintro e w2 ⟨r, rfl, hr, hb2⟩
  have HR := Lib.hid (hr HN.out)
  have HB := Lib.hid hb2
  clear hr hb2
  cases r with
  | none =>
    simp only [pv, pairV]
    go_wp2
    go_ret
    exact ⟨ret_bool (by show _ = (sumO 0 (amts s)).isSome; rw [← HR.out]; rfl), HB.out⟩
  | some x =>
    simp only [pv, pairV]
    go_wp2
    go_ret
    exact ⟨ret_bool (by show _ = (sumO 0 (amts s)).isSome; rw [← HR.out]; rfl), HB.out⟩
end
end Go.Proofs.Ytpapcilffkpjjaa
