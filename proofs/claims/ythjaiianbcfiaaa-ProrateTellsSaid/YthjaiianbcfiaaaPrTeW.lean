/- The walks of Index and of ProrateTells. -/
import Derived.Test.YthjaiianbcfiaaaPrRf
namespace Go.Proofs.Ythjaiianbcfiaaa
open Go.Shelf Go.RowKit Go.Lib Go.Sort Go.Stb Go.Money Go.Pror

/-- what Index tells -/
def idxV (L : List Int) (c i : Int) : Int × Int := if c ≠ 0 then (0, c) else if i < 0 ∨ (L.length : Int) ≤ i then (0, 1) else (L.getD i.toNat 0, 0)
theorem shareR_len (t : Int) (ws : List Nat) : (shareR t ws).1.length ≤ 64 := by
  unfold shareR
  split
  · simp
  · split
    · simp
    · split
      · simp
      · rw [ints_len, share_len]; omega
set_option maxRecDepth 100000 in
set_option maxHeartbeats 1600000 in
theorem index_any {t : Int} {ws : List Nat} {L : List Int} {c : Int} (hr : shareR t ws = (L, c)) (i : Int) (p : Option Addr) (cap : Nat) (w : World) (hN : Nums w .u32 p (ints ws)) (hw : ∀ x ∈ ws, x ≤ 4294967295) :
    Calls Try.prog 12 #[iv t, .slice p ws.length cap, iv i] w fun e w' => e = .returned (.tuple #[iv (idxV L c i).1, iv (idxV L c i).2]) ∧ Below w.heap.size w w' := by
  have HS := Lib.hid (share_is hr p cap w hN hw)
  have HLB := Lib.hid (show L.length ≤ 64 by have := shareR_len t ws; rw [hr] at this; exact this)
  have lb : (L.length : Int) ≤ 64 := by have := HLB.out; omega
  clear hN hw hr
  by_cases hc : c = 0
  · subst hc
    by_cases hi : i < 0
    · have HI := Lib.hid (show idxV L 0 i = (0, 1) by unfold idxV; rw [if_neg (by simp), if_pos (Or.inl hi)])
      have q1 : decide (i < 0) = true := decide_eq_true hi
      rw [HI.out]
      go_enter Try.func12, Try.ntmps12
      go_wp2_with fail
      refine (HS.out).mono ?_
      rintro e w3 ⟨q, c3, rfl, hc3, hn3, hb3⟩
      have HB3 := Lib.hid hb3
      clear hc3 hn3 hb3
      go_wp2_with fail
      go_ret2
      exact ⟨rfl, HB3.out⟩
    · have q1 : decide (i < 0) = false := decide_eq_false hi
      by_cases hl : (L.length : Int) ≤ i
      · have HI := Lib.hid (show idxV L 0 i = (0, 1) by unfold idxV; rw [if_neg (by simp), if_pos (Or.inr hl)])
        have q2 : decide (i ≥ (L.length : Int)) = true := decide_eq_true (by omega)
        rw [HI.out]
        go_enter Try.func12, Try.ntmps12
        go_wp2_with fail
        refine (HS.out).mono ?_
        rintro e w3 ⟨q, c3, rfl, hc3, hn3, hb3⟩
        have HB3 := Lib.hid hb3
        clear hc3 hn3 hb3
        go_wp2_with fail
        go_ret2
        exact ⟨rfl, HB3.out⟩
      · obtain ⟨k, rfl⟩ : ∃ k : Nat, i = (k : Int) := ⟨i.toNat, by omega⟩
        have hk : k < L.length := by omega
        obtain ⟨X, hX⟩ : ∃ X, X = L.getD k 0 := ⟨_, rfl⟩
        have HI := Lib.hid (show idxV L 0 (k : Int) = (X, 0) by unfold idxV; rw [if_neg (by simp), if_neg (by omega), hX]; rfl)
        have HX := Lib.hid hX
        clear hX
        have q2 : decide ((k : Int) ≥ (L.length : Int)) = false := decide_eq_false (by omega)
        have q3 : decide (L.length ≤ k) = false := decide_eq_false (by omega)
        have k1 : (k : Int) < (L.length : Int) := by omega
        have k0 : (0 : Int) ≤ (k : Int) := Int.natCast_nonneg _
        have HK := Lib.hid hk
        rw [HI.out]
        clear hl hk hi
        go_enter Try.func12, Try.ntmps12
        go_wp2_with fail
        refine (HS.out).mono ?_
        rintro e w3 ⟨q, c3, rfl, hc3, hn3, hb3⟩
        have HB3 := Lib.hid hb3
        obtain ⟨b, o, rfl, _, hcell⟩ := hn3.cell HK.out
        rw [← HX.out] at hcell
        clear hc3 hn3 hb3
        go_wp2_with fail
        go_ret2
        exact ⟨rfl, HB3.out⟩
  · have HI := Lib.hid (show idxV L c i = (0, c) by unfold idxV; rw [if_pos hc])
    have q1 : (c == 0) = false := by rw [beq_eq_false_iff_ne]; exact hc
    have q2 : (c != 0) = true := by rw [bne_iff_ne]; exact hc
    rw [HI.out]
    clear hc
    go_enter Try.func12, Try.ntmps12
    go_wp2_with fail
    refine (HS.out).mono ?_
    rintro e w3 ⟨q, c3, rfl, hc3, hn3, hb3⟩
    have HB3 := Lib.hid hb3
    clear hc3 hn3 hb3
    go_wp2_with fail
    go_ret2
    exact ⟨rfl, HB3.out⟩
theorem rshare_is {t : Int} {ws : List Nat} {L : List Int} {c : Int} (hr : shareR t ws = (L, c)) (p : Option Addr) (cap : Nat) (w : World) (hN : Nums w .u32 p (ints ws)) (hw : ∀ x ∈ ws, x ≤ 4294967295) :
    Calls Try.prog 10 #[iv t, .slice p ws.length cap] w fun e w' => ∃ q cap', e = .returned (.tuple #[.slice q L.length cap', iv c]) ∧ L.length ≤ cap' ∧ Nums w' .i64 q L ∧ Below w.heap.size w w' := by
  have := rshare_any t ws p cap w hN hw
  unfold ShareP at this
  rw [hr] at this
  exact this
theorem nums_row32 {w : World} {p : Option Addr} {l : List Int} {cap : Nat} (h : Nums w .u32 p l) (hc : l.length ≤ cap) : RowF w (· < w.heap.size) (.slice p l.length cap) l.length (l.map (Value.int .u32)) := by
  refine ⟨p, cap, rfl, hc, fun h0 => ?_⟩
  obtain ⟨b, o, h1, h2, h3⟩ := h.at_ h0
  refine ⟨b, o, h1, h2, fun j u hu => ?_⟩
  have hj : j < l.length := by have := (List.getElem?_eq_some_iff.1 hu).1; simpa using this
  rw [h3 j hj, ← hu, List.getElem?_map, List.getElem?_eq_getElem hj, List.getD_eq_getElem?_getD, List.getElem?_eq_getElem hj]
  rfl
theorem one_u32 (l : List Int) : ∀ u ∈ l.map (Value.int .u32), u.oneCell' = true := by
  intro u hu
  rw [List.mem_map] at hu
  obtain ⟨t, _, rfl⟩ := hu
  rfl
set_option maxRecDepth 100000 in
set_option maxHeartbeats 3200000 in
theorem prtells_any (t : Int) (ws : List Nat) (i : Int) (p : Option Addr) (cap : Nat) (w : World) (hN : Nums w .u32 p (ints ws)) (hw : ∀ x ∈ ws, x ≤ 4294967295) (hcap : ws.length ≤ cap) :
    Calls Try.prog 3 #[.int .i64 t, .slice p ws.length cap, .int .i64 i] w fun e w' => e = .returned (.bool true) ∧ Below w.heap.size w w' := by
  by_cases h300 : (300 : Int) < (ws.length : Int)
  · clear hN hw
    go_enter Try.func3, Try.ntmps3
    go_wp2_with (go_at_call 8; refine (prwakes_any _).mono ?_; rintro e w2 ⟨rfl, hb2⟩)
    go_ret
    exact ⟨rfl, hb2⟩
  have h300b : decide ((ws.length : Int) > 300) = false := decide_eq_false h300
  have hl : (ws.length : Int) ≤ 300 := by omega
  have HN := Lib.hid hN
  have HW := Lib.hid hw
  have HR := Lib.hid (nums_row32 hN (cap := cap) (by rw [ints_len]; exact hcap))
  rw [ints_len] at HR
  obtain ⟨L, c, hr⟩ : ∃ L c, shareR t ws = (L, c) := ⟨_, _, rfl⟩
  have HLB := Lib.hid (show L.length ≤ 64 by have := shareR_len t ws; rw [hr] at this; exact this)
  have lb : (L.length : Int) ≤ 64 := by have := HLB.out; omega
  have HRR := Lib.hid hr
  clear hN hw h300 hr hcap
  go_enter Try.func3, Try.ntmps3
  go_wp2_with (at_builtin; refine wl_appF 22 29 (.int .u32 0) 1 4 par_u32 Try.underlying22 rfl (by decide) (by decide) w.heap.size (.slice none 0 0) 0 [] rfl (World.ownsRow_nil _ _ _ _) (.slice p ws.length cap) _ ws.length ((ints ws).map (Value.int .u32)) rfl HR.out (by simp [ints_len]) (one_u32 _) (by omega) (Nat.le_refl _) ?_)
  intro v1 w1 ho hg _
  rw [Nat.zero_add, List.nil_append] at ho
  obtain ⟨p1, cap1, rfl, _, _, hn1⟩ := own_at (k := .u32) (L := ws) rfl ho
  have HN1 := Lib.hid hn1
  have HB1 := Lib.hid (show Below w.heap.size w w1 from (Below.refl _ _).grown hg (Nat.le_refl _) (fun k hk => by cases hk))
  clear ho hg hn1
  go_wp2_with fail
  refine (share_is HRR.out p1 cap1 w1 HN1.out HW.out).mono ?_
  rintro e w2 ⟨q2, c2, rfl, _, hn2, hb2⟩
  have HB2 := Lib.hid (HB1.out.trans (hb2.mono HB1.out.size))
  have HQ2 := Lib.hid hn2
  have HN2 := Lib.hid (HN1.out.keep hb2)
  clear hn2 hb2
  go_wp2_with fail
  refine (rshare_is HRR.out p cap w2 (HN.out.keep HB2.out) HW.out).mono ?_
  rintro e w3 ⟨q3, c3, rfl, _, hn3, hb3⟩
  have HB3 := Lib.hid (HB2.out.trans (hb3.mono HB2.out.size))
  have HQ3 := Lib.hid hn3
  have HQ23 := Lib.hid (HQ2.out.keep hb3)
  have HN3 := Lib.hid (HN2.out.keep hb3)
  clear hn3 hb3
  have hcc : (c != c) = false := by simp
  go_wp2_with fail
  refine (rsame_any L L q2 q3 c2 c3 w3 (by have := HLB.out; omega) (by have := HLB.out; omega) HQ23.out HQ3.out).mono ?_
  rintro e w4 ⟨rfl, n4, rfl⟩
  have HB4 := Lib.hid (below_drewN HB3.out n4)
  have HN4 := Lib.hid (show Nums (w3.drewN n4) .u32 p1 (ints ws) from ⟨HN3.out.at_⟩)
  have HQ4 := Lib.hid (show Nums (w3.drewN n4) .i64 q3 L from ⟨HQ3.out.at_⟩)
  have HNN4 := Lib.hid (HN.out.keep HB4.out)
  generalize w3.drewN n4 = w4 at *
  have hdd : decide (L = L) = true := decide_eq_true rfl
  rw [hdd]
  clear hdd
  go_wp2_with fail
  go_loopw [12] (fun i wx => ∃ (m n : Nat), i = .int .i64 m ∧ m ≤ ws.length ∧ wx = w4.drewN n) (fun i _ => ws.length - (intOf i).toNat)
  case atStart => exact ⟨0, 0, rfl, Nat.zero_le _, (World.drewN_zero w4).symm⟩
  case round =>
    obtain ⟨m, n, rfl, hm, rfl⟩ := hrel
    by_cases hlt : (m : Int) < (ws.length : Int)
    · have hml : m < ws.length := by omega
      have hm0 : (0 : Int) ≤ (m : Int) := Int.natCast_nonneg _
      obtain ⟨b1, o1, rfl, _, e1⟩ := kcell HN4.out hml
      obtain ⟨b2, o2, rfl, _, e2⟩ := kcell HNN4.out hml
      have c1' : (w4.drewN n).cell? ⟨b1, o1 + m, none⟩ = some (.int .u32 ((ws.getD m 0 : Nat) : Int)) := e1
      have c2' : (w4.drewN n).cell? ⟨b2, o2 + m, none⟩ = some (.int .u32 ((ws.getD m 0 : Nat) : Int)) := e2
      clear e1 e2
      generalize ((ws.getD m 0 : Nat) : Int) = x at *
      generalize hwq : w4.drewN n = wq at c1' c2' ⊢
      have HWQ : Hid (wq = w4.drewN n) := hwq.symm
      clear hwq
      go_wp2_with fail
      go_quiet (fail)
      go_wp2_with fail
      go_roundw
      case rel => exact ⟨m + 1, n + nq, by go_num, by omega, by rw [HWQ.out, World.drewN_drewN]⟩
      case measure => simp [intOf]; omega
    · have HBD := Lib.hid (below_drewN HB4.out n)
      have HNX := Lib.hid (show Nums (w4.drewN n) .u32 p1 (ints ws) from ⟨HN4.out.at_⟩)
      have HQX := Lib.hid (show Nums (w4.drewN n) .i64 q3 L from ⟨HQ4.out.at_⟩)
      generalize w4.drewN n = wx at *
      go_wp2_with fail
      refine (index_any HRR.out i p1 cap1 wx HNX.out HW.out).mono ?_
      rintro e w5 ⟨rfl, hb5⟩
      have HB5 := Lib.hid (HBD.out.trans (hb5.mono HBD.out.size))
      have HQ5 := Lib.hid (HQX.out.keep hb5)
      clear hb5
      by_cases hc : c = 0
      · subst hc
        by_cases hi : i < 0
        · rw [show idxV L 0 i = (0, 1) by unfold idxV; rw [if_neg (by simp), if_pos (Or.inl hi)]]
          have q1 : decide (i < 0) = true := decide_eq_true hi
          go_wp2_with (go_at_call 8; refine (prwakes_any _).mono ?_; rintro e w6 ⟨rfl, hb6⟩)
          go_ret
          exact ⟨rfl, HB5.out.trans (hb6.mono HB5.out.size)⟩
        · have q1 : decide (i < 0) = false := decide_eq_false hi
          by_cases hl : (L.length : Int) ≤ i
          · rw [show idxV L 0 i = (0, 1) by unfold idxV; rw [if_neg (by simp), if_pos (Or.inr hl)]]
            have q2 : decide (i ≥ (L.length : Int)) = true := decide_eq_true (by omega)
            go_wp2_with (go_at_call 8; refine (prwakes_any _).mono ?_; rintro e w6 ⟨rfl, hb6⟩)
            go_ret
            exact ⟨rfl, HB5.out.trans (hb6.mono HB5.out.size)⟩
          · obtain ⟨k, rfl⟩ : ∃ k : Nat, i = (k : Int) := ⟨i.toNat, by omega⟩
            have hk : k < L.length := by omega
            rw [show idxV L 0 (k : Int) = (L.getD k 0, 0) by unfold idxV; rw [if_neg (by simp), if_neg (by omega)]; rfl]
            have q2 : decide ((k : Int) ≥ (L.length : Int)) = false := decide_eq_false (by omega)
            have q3 : decide (L.length ≤ k) = false := decide_eq_false (by omega)
            have k1 : (k : Int) < (L.length : Int) := by omega
            have k0 : (0 : Int) ≤ (k : Int) := Int.natCast_nonneg _
            obtain ⟨b, o, rfl, _, hcell⟩ := HQ5.out.cell hk
            clear hl hk hi
            generalize L.getD k 0 = X at *
            go_wp2_with (go_at_call 8; refine (prwakes_any _).mono ?_; rintro e w6 ⟨rfl, hb6⟩)
            go_ret
            exact ⟨rfl, HB5.out.trans (hb6.mono HB5.out.size)⟩
      · rw [show idxV L c i = (0, c) by unfold idxV; rw [if_pos hc]]
        have q1 : (c == 0) = false := by rw [beq_eq_false_iff_ne]; exact hc
        have q2 : (c != 0) = true := by rw [bne_iff_ne]; exact hc
        clear hc
        go_wp2_with (go_at_call 8; refine (prwakes_any _).mono ?_; rintro e w6 ⟨rfl, hb6⟩)
        go_ret
        exact ⟨rfl, HB5.out.trans (hb6.mono HB5.out.size)⟩
end Go.Proofs.Ythjaiianbcfiaaa
