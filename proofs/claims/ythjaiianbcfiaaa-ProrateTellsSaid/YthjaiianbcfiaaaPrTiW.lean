/- The walk of ProrateTimes. -/
import Derived.Test.YthjaiianbcfiaaaPrAp
import Derived.Test.YthjaiianbcfiaaaPrPure3
namespace Go.Proofs.Ythjaiianbcfiaaa
open Go.Shelf Go.RowKit Go.Lib Go.Sort Go.Stb Go.Money Go.Pror

/-- two lists of one's own do not lie in one block -/
def Apart (a b : Value) : Prop := ∀ g, a.ownBlock = some g → b.ownBlock ≠ some g
theorem Apart.sym {a b : Value} (h : Apart a b) : Apart b a := fun g h1 h2 => h g h2 h1
theorem Apart.kept {a b : Value} (h : Apart a b) : b.ownBlock = none ∨ b.ownBlock ≠ a.ownBlock := by
  cases e : b.ownBlock with
  | none => exact Or.inl rfl
  | some g => exact Or.inr (fun e2 => h g e2.symm e)
theorem Apart.next {w : World} {base n : Nat} {ty : TypeId} {xs : List Value} {a a' b : Value} (h : Apart a b) (hb : w.ownsRow base ty 1 b n xs) (hk : a'.ownBlock = a.ownBlock ∨ a'.ownBlock = some w.heap.size) : Apart a' b := by
  intro g h1 h2
  rcases hk with e | e
  · rw [e] at h1; exact h g h1 h2
  · rw [e] at h1
    simp only [Option.some.injEq] at h1
    have := (hb.lt g h2).2
    omega
set_option maxRecDepth 100000 in
set_option maxHeartbeats 3200000 in
theorem prtimes_any (t : Int) (ws : List Nat) (k : Nat) (p : Option Addr) (cap : Nat) (w : World) (hN : Nums w .u16 p (ints ws)) (hw : ∀ x ∈ ws, x ≤ 65535) (hk : (k : Int) ≤ 65535) :
    Calls Try.prog 5 #[.int .i64 t, .slice p ws.length cap, .int .u16 (k : Int)] w fun e w' => e = .returned (.bool true) ∧ Below w.heap.size w w' := by
  by_cases h64 : (64 : Int) < (ws.length : Int)
  · clear hN hw
    go_enter Try.func5, Try.ntmps5
    go_wp2_with (go_at_call 8; refine (prwakes_any _).mono ?_; rintro e w2 ⟨rfl, hb2⟩)
    go_ret
    exact ⟨rfl, hb2⟩
  have h64b : decide ((ws.length : Int) > 64) = false := decide_eq_false h64
  have hl : (ws.length : Int) ≤ 64 := by omega
  by_cases hk0 : k = 0
  · subst hk0
    clear hN hw h64
    go_enter Try.func5, Try.ntmps5
    go_wp2_with (go_at_call 8; refine (prwakes_any _).mono ?_; rintro e w2 ⟨rfl, hb2⟩)
    go_ret
    exact ⟨rfl, hb2⟩
  have HN := Lib.hid hN
  have HW := Lib.hid hw
  have k0 : (0 : Int) ≤ (k : Int) := Int.natCast_nonneg _
  have k0b : ((k : Int) == 0) = false := by rw [beq_eq_false_iff_ne]; omega
  have HK := Lib.hid (show k ≤ 65535 by omega)
  have HK0 := Lib.hid (show 0 < k by omega)
  clear hN hw h64 hk0
  go_enter Try.func5, Try.ntmps5
  go_wp2_with fail
  go_loopw [7, 8, 9] (fun va vb i wr => ∃ (j : Nat), i = .int .i64 j ∧ j ≤ ws.length ∧ Hid (OwN .u32 29 w.heap.size wr va (ws.take j)) ∧ Hid (OwN .u32 29 w.heap.size wr vb ((ws.take j).map (· * k))) ∧ Hid (Apart va vb) ∧ Hid (Below w.heap.size w wr)) (fun _ _ i _ => ws.length - (intOf i).toNat)
  case atStart => exact ⟨0, rfl, Nat.zero_le _, by show OwN _ _ _ _ _ _; unfold OwN; simp only [List.take_zero]; exact World.ownsRow_nil _ _ _ _, by show OwN _ _ _ _ _ _; unfold OwN; simp only [List.take_zero]; exact World.ownsRow_nil _ _ _ _, (show Apart _ _ from fun g h => nomatch h), Below.refl _ _⟩
  case round =>
    obtain ⟨j, rfl, hj, hoa, hob, hap, hb⟩ := hrel
    have HB := Lib.hid hb.out
    have HA := Lib.hid hoa.out
    rename World => wr
    have HL := Lib.hid (show (ws.take j).length = j by rw [List.length_take]; omega)
    have HL2 := Lib.hid (show ((ws.take j).map (· * k)).length = j by rw [List.length_map, List.length_take]; omega)
    obtain ⟨pa, ca, rfl, _, ho2, hn2⟩ := own_at HL.out hoa.out
    obtain ⟨pb, cb, rfl, _, ho3, hn3⟩ := own_at HL2.out hob.out
    have HOA := Lib.hid ho2
    have HNA := Lib.hid hn2
    have HOB := Lib.hid ho3
    have HNB := Lib.hid hn3
    have HAP := Lib.hid hap.out
    clear hoa hob hap hb ho2 hn2 ho3 hn3
    by_cases hlt : (j : Int) < (ws.length : Int)
    · have hj0 : (0 : Int) ≤ (j : Int) := Int.natCast_nonneg _
      have hjl : j < ws.length := by omega
      obtain ⟨b, o, rfl, hbl, hcell⟩ := kcell HN.out hjl
      have HC := Lib.hid (show ∀ wx, Below w.heap.size w wx → wx.cell? ⟨b, o + j, none⟩ = some (.int .u16 ((ws.getD j 0 : Nat) : Int)) from fun wx hbx => (hbx.cell (p := ⟨b, o + j, none⟩) hbl).trans hcell)
      have hc1 := HC.out wr HB.out
      obtain ⟨y, hy⟩ : ∃ y, y = ws.getD j 0 * k := ⟨_, rfl⟩
      have ab := HW.out _ (getD_mem (l := ws) (k := j) hjl)
      have yb : y ≤ 65535 * 65535 := by rw [hy]; exact Nat.mul_le_mul ab HK.out
      have ey : ((ws.getD j 0 : Nat) : Int) * (k : Int) = (y : Int) := by rw [hy, Int.natCast_mul]
      have b1 : ((ws.getD j 0 : Nat) : Int) ≤ 65535 := by omega
      have y1 : (y : Int) ≤ 4294836225 := by omega
      have y0 : (0 : Int) ≤ (y : Int) := Int.natCast_nonneg _
      have HT := Lib.hid (take_snoc ws j hjl)
      have HT2 := Lib.hid (show (ws.take (j + 1)).map (· * k) = (ws.take j).map (· * k) ++ [y] by rw [take_snoc ws j hjl, List.map_append, hy]; rfl)
      clear hcell hy ab yb
      generalize ws.getD j 0 = a at *
      have a0 : (0 : Int) ≤ (a : Int) := Int.natCast_nonneg _
      go_wp2_with (at_builtin; refine wl_appF 22 29 (.int .u32 0) 1 4 par_u32 Try.underlying22 rfl (by decide) (by decide) w.heap.size (.slice pa j ca) j ((ints (ws.take j)).map (Value.int .u32)) (by rfl) (HOA.out.alloc _) (.slice (some ⟨wr.heap.size, 0, none⟩) 1 1) (fun _ => True) 1 [.int .u32 (a : Int)] rfl (row1 _ _ _) rfl (one_int _ _) (by omega) (by have := HB.out.size; simp; omega) ?_)
      intro va' w3 ho hgr hbk
      have HOA3 := Lib.hid (own_snoc (x := a) HL.out.symm ho)
      have HB3 := Lib.hid ((HB.out.alloc HB.out.size _).grown hgr (by have := HB.out.size; simp; omega) (fun k hk => (HOA.out.lt k hk).1))
      have HOB3 := Lib.hid ((HOB.out.alloc (.cells #[.int .u32 (a : Int)] 29)).kept hgr HAP.out.kept)
      have HAP3 := Lib.hid (HAP.out.next (HOB.out.alloc (.cells #[.int .u32 (a : Int)] 29)) (hbk.imp id (fun e => e.trans (by simp))))
      have hc3 := HC.out w3 HB3.out
      clear ho hgr hbk hc1
      go_wp2_with (at_builtin; refine wl_appF 22 29 (.int .u32 0) 1 4 par_u32 Try.underlying22 rfl (by decide) (by decide) w.heap.size (.slice pb j cb) j ((ints ((ws.take j).map (· * k))).map (Value.int .u32)) (by rfl) (HOB3.out.alloc _) (.slice (some ⟨w3.heap.size, 0, none⟩) 1 1) (fun _ => True) 1 [.int .u32 (y : Int)] rfl (row1 _ _ _) rfl (one_int _ _) (by omega) (by have := HB3.out.size; simp; omega) ?_)
      intro vb' w4 ho hgr hbk
      have HOB4 := Lib.hid (own_snoc (x := y) HL2.out.symm ho)
      have HB4 := Lib.hid ((HB3.out.alloc HB3.out.size _).grown hgr (by have := HB3.out.size; simp; omega) (fun k hk => (HOB3.out.lt k hk).1))
      have HOA4 := Lib.hid ((World.ownsRow.alloc HOA3.out (.cells #[.int .u32 (y : Int)] 29)).kept hgr HAP3.out.sym.kept)
      have HAP4 := Lib.hid (HAP3.out.sym.next (World.ownsRow.alloc HOA3.out (.cells #[.int .u32 (y : Int)] 29)) (hbk.imp id (fun e => e.trans (by simp)))).sym
      clear ho hgr hbk
      go_wp2
      go_roundw
      case rel => exact ⟨j + 1, by go_num, by omega, by rw [HT.out]; exact HOA4.out, by rw [HT2.out]; exact HOB4.out, HAP4.out, HB4.out⟩
      case measure => simp [intOf]; omega
    · obtain rfl : j = ws.length := by omega
      have hna := HNA.out
      have hnb := HNB.out
      rw [List.take_length] at hna hnb
      have HNA2 := Lib.hid hna
      have HNB2 := Lib.hid hnb
      clear hna hnb HNA HNB HOA HOB HAP HL HL2 HA
      have htr := times_shareR t k HK0.out ws
      obtain ⟨L, c, hr⟩ : ∃ L c, shareR t ws = (L, c) := ⟨_, _, rfl⟩
      have HLB := Lib.hid (show L.length ≤ 64 by
        have h0 : (shareR t ws).1.length ≤ 64 := by
          unfold shareR
          split
          · simp
          · split
            · simp
            · split
              · simp
              · rw [ints_len]; unfold shareL; rw [given_len]; omega
        rw [hr] at h0; exact h0)
      have HS := Lib.hid (fun w hN => share_is hr pa ca w hN (fun x hx => by have := HW.out x hx; omega))
      have HS2 := Lib.hid (fun w hN => by
        have := share_is (htr.trans hr) pb cb w hN (fun x hx => by
          obtain ⟨z, hz, rfl⟩ := List.mem_map.1 hx
          have := Nat.mul_le_mul (HW.out z hz) HK.out
          omega)
        rw [List.length_map] at this; exact this)
      have lb : (L.length : Int) ≤ 64 := by have := HLB.out; omega
      clear htr hr
      go_wp2_with fail
      refine (HS.out _ HNA2.out).mono ?_
      rintro e w3 ⟨q, c3, rfl, hc3, hn3, hb3⟩
      have HB3 := Lib.hid (HB.out.trans (hb3.mono HB.out.size))
      have HN3 := Lib.hid hn3
      have HNB3 := Lib.hid (HNB2.out.keep hb3)
      clear hc3 hn3 hb3
      go_wp2_with fail
      refine (HS2.out _ HNB3.out).mono ?_
      rintro e w4 ⟨q2, c4, rfl, hc4, hn4, hb4⟩
      have HB4 := Lib.hid (HB3.out.trans (hb4.mono HB3.out.size))
      have HN3' := Lib.hid (HN3.out.keep hb4)
      have HN4 := Lib.hid hn4
      clear hc4 hn4 hb4
      go_wp2_with fail
      go_loopw [14] (fun i wx => ∃ (m n : Nat), i = .int .i64 m ∧ m ≤ L.length ∧ wx = w4.drewN n) (fun i _ => L.length - (intOf i).toNat)
      case atStart => exact ⟨0, 0, rfl, Nat.zero_le _, (World.drewN_zero w4).symm⟩
      case round =>
        obtain ⟨m, n, rfl, hm, rfl⟩ := hrel
        by_cases hlt2 : (m : Int) < (L.length : Int)
        · have hml : m < L.length := by omega
          have hm0 : (0 : Int) ≤ (m : Int) := Int.natCast_nonneg _
          obtain ⟨b1, o1, rfl, _, c1⟩ := HN3'.out.cell hml
          obtain ⟨b2, o2, rfl, _, c2⟩ := HN4.out.cell hml
          have c1' : (w4.drewN n).cell? ⟨b1, o1 + m, none⟩ = some (.int .i64 (L.getD m 0)) := c1
          have c2' : (w4.drewN n).cell? ⟨b2, o2 + m, none⟩ = some (.int .i64 (L.getD m 0)) := c2
          clear c1 c2
          generalize L.getD m 0 = x at *
          generalize hwq : w4.drewN n = wq at c1' c2' ⊢
          have HWQ : Hid (wq = w4.drewN n) := hwq.symm
          clear hwq
          go_wp2_with fail
          go_quiet (fail)
          go_wp2_with fail
          go_roundw
          case rel => exact ⟨m + 1, n + nq, by go_num, by omega, by rw [HWQ.out, World.drewN_drewN]⟩
          case measure => simp [intOf]; omega
        · have HBD := Lib.hid (below_drewN HB4.out n)
          generalize w4.drewN n = wq at *
          go_wp2_with (go_at_call 8; refine (prwakes_any _).mono ?_; rintro e w5 ⟨rfl, hb5⟩)
          go_ret
          exact ⟨rfl, HBD.out.trans (hb5.mono HBD.out.size)⟩
end Go.Proofs.Ythjaiianbcfiaaa
