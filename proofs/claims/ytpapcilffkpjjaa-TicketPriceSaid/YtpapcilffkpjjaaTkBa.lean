/- Contracts of great and Balance, the document's too. -/
import Derived.Test.YtpapcilffkpjjaaTkWk
namespace Go.Proofs.Ytpapcilffkpjjaa
open Go.Shelf Go.RowKit Go.Lib Go.Money Go.Pror Go.Tick

def grB (s : Sl) : Bool := decide (60 < s.legs.length) || decide (60 < s.taxes.length) || decide (200 < s.name.length)
theorem great_any (s : Sl) (lp : Option Addr) (lc : Nat) (tp : Option Addr) (tc : Nat) (w : World) : Calls Try.prog 8 #[.agg (saV s lp lc tp tc)] w fun e w' => e = .returned (.bool (grB s)) ∧ Below w.heap.size w w' := by
  have hsz : (⟨s.name.toArray⟩ : ByteArray).size = s.name.length := by simp [ByteArray.size]
  have e : grB s = (decide ((60 : Int) < (s.legs.length : Int)) || decide ((60 : Int) < (s.taxes.length : Int)) || decide ((200 : Int) < (s.name.length : Int))) := by
    unfold grB; rw [Bool.eq_iff_iff]; simp only [Bool.or_eq_true, decide_eq_true_eq]; omega
  rw [e]
  clear e
  by_cases h1 : (60 : Int) < (s.legs.length : Int)
  · go_enter Try.func8, Try.ntmps8
    go_wp2
    go_ret
    exact ⟨ret_bool (by simp; try omega), (Below.refl _ _).alloc (Nat.le_refl _) _⟩
  by_cases h2 : (60 : Int) < (s.taxes.length : Int)
  · go_enter Try.func8, Try.ntmps8
    go_wp2
    go_ret
    exact ⟨ret_bool (by simp; try omega), (Below.refl _ _).alloc (Nat.le_refl _) _⟩
  by_cases h3 : (200 : Int) < (s.name.length : Int)
  all_goals
    go_enter Try.func8, Try.ntmps8
    go_wp2
    go_ret
    exact ⟨ret_bool (by simp; try omega), (Below.refl _ _).alloc (Nat.le_refl _) _⟩
abbrev dcV (x0 x1 x2 x3 x4 x5 x6 : Value) (vp : Option Addr) (n vc : Nat) (y8 y9 y10 y11 : Value) (cr pd bk kp lf : Int) : Array Value :=
  #[x0, x1, x2, x3, x4, x5, x6, .slice vp n vc, y8, y9, y10, y11, iv cr, iv pd, iv bk, iv kp, iv lf]
def ng (x : Int) : Int := wrap64 (-x)
/-- what of the first k coupons is worth its value still, taken away -/
def wl (V : List Int) (S : List Nat) : Nat → List Int
  | 0 => []
  | k + 1 => wl V S k ++ if wthB (S.getD k 0) then [ng (V.getD k 0)] else []
def b5 (cr pd bk kp lf : Int) : List Int := [pd, cr, ng bk, ng kp, ng lf]
/-- what of a document is not accounted for -/
def balL (V : List Int) (S : List Nat) (np : Nat) (cr pd bk kp lf : Int) : Int × Int :=
  if S.length ≠ V.length ∨ np ≠ V.length ∨ S.all isS = false then (0, 1) else pairV (sumO 0 (b5 cr pd bk kp lf ++ wl V S V.length))
theorem wl_len (V : List Int) (S : List Nat) : ∀ k, (wl V S k).length ≤ k
  | 0 => Nat.le_refl _
  | k + 1 => by
    have := wl_len V S k
    unfold wl
    rw [List.length_append]
    split <;> simp <;> omega
theorem bal_arg {V : List Int} {S : List Nat} {np : Nat} {cr pd bk kp lf : Int} (h : S.length ≠ V.length ∨ np ≠ V.length ∨ S.all isS = false) : balL V S np cr pd bk kp lf = (0, 1) := by unfold balL; rw [if_pos h]
theorem bal_sum {V : List Int} {S : List Nat} {np : Nat} {cr pd bk kp lf : Int} (h1 : S.length = V.length) (h2 : np = V.length) (h3 : S.all isS = true) : balL V S np cr pd bk kp lf = pairV (sumO 0 (b5 cr pd bk kp lf ++ wl V S V.length)) := by
  unfold balL; rw [if_neg]; rintro (h | h | h)
  · exact h h1
  · exact h h2
  · rw [h3] at h; cases h
theorem all_false {S : List Nat} {k : Nat} (hk : k < S.length) (h : isS (S.getD k 0) = false) : S.all isS = false := by
  rw [List.all_eq_false]
  refine ⟨S.getD k 0, getD_mem hk, by rw [h]; decide⟩
theorem all_true {S : List Nat} (h : ∀ j, j < S.length → isS (S.getD j 0) = true) : S.all isS = true := by
  rw [List.all_eq_true]
  intro x hx
  obtain ⟨j, hj, rfl⟩ := List.getElem_of_mem hx
  have := h j hj
  rw [List.getD_eq_getElem?_getD, List.getElem?_eq_getElem hj] at this
  exact this
set_option maxRecDepth 100000 in
set_option maxHeartbeats 1600000 in
theorem bal_any (V : List Int) (S : List Nat) (np pc : Nat) (pp sp : Option Addr) (sc : Nat) (x0 x1 x2 x3 x4 x5 x6 : Value) (vp : Option Addr) (vc : Nat) (y8 y9 y10 y11 : Value) (cr pd bk kp lf : Int) (w : World)
    (hV : Nums w .i64 vp V) (hS : Nums w .u8 sp (ints S)) (hlt : ∀ x ∈ S, x < 256) (hl : S.length ≤ 1000) (hvl : V.length ≤ 1000000) (hnp : np ≤ 1000000) :
    Calls Try.prog 12 #[.agg (dcV x0 x1 x2 x3 x4 x5 x6 vp V.length vc y8 y9 y10 y11 cr pd bk kp lf), .slice sp S.length sc, .slice pp np pc] w fun e w' =>
      e = .returned (.tuple #[iv (balL V S np cr pd bk kp lf).1, iv (balL V S np cr pd bk kp lf).2]) ∧ Below w.heap.size w w' := by
  by_cases h1 : S.length = V.length
  rotate_left
  · rw [bal_arg (.inl h1)]
    have hb : ((S.length : Int) != (V.length : Int)) = true := by rw [bne_iff_ne]; omega
    have hb' : (S.length != V.length) = true := by rw [bne_iff_ne]; exact h1
    clear hV hS hlt hl hvl hnp h1
    go_enter Try.func12, Try.ntmps12
    go_wp2
    go_ret2
    exact ⟨rfl, (Below.refl _ _).alloc (Nat.le_refl _) _⟩
  by_cases h2 : np = V.length
  rotate_left
  · rw [bal_arg (.inr (.inl h2))]
    have hb : ((np : Int) != (V.length : Int)) = true := by rw [bne_iff_ne]; omega
    have hb' : (np != V.length) = true := by rw [bne_iff_ne]; exact h2
    rw [h1]
    clear hV hS hlt hl hvl hnp h1 h2
    go_enter Try.func12, Try.ntmps12
    go_wp2
    go_ret2
    exact ⟨rfl, (Below.refl _ _).alloc (Nat.le_refl _) _⟩
  subst h2
  obtain ⟨wb, hwb⟩ : ∃ wb, wb = w.alloc (.cells (dcV x0 x1 x2 x3 x4 x5 x6 vp V.length vc y8 y9 y10 y11 cr pd bk kp lf) 31) := ⟨_, rfl⟩
  have hb1 : Below w.heap.size w wb := by rw [hwb]; exact (Below.refl _ _).alloc (Nat.le_refl _) _
  have hz1 : wb.heap.size = w.heap.size + 1 := by rw [hwb]; simp
  have hbD : wb.heap[w.heap.size]? = some (.cells (dcV x0 x1 x2 x3 x4 x5 x6 vp V.length vc y8 y9 y10 y11 cr pd bk kp lf) 31 (0, 0)) := by rw [hwb]; exact heap_last _ _ _ rfl
  have HV := Lib.hid (hV.keep hb1)
  have HSN := Lib.hid (hS.keep hb1)
  have HXD := Lib.hid (fun wz (hz : Below wb.heap.size wb wz) => (hz.block _ (lt_heap hbD)).trans hbD)
  have HLT := Lib.hid hlt
  have HSV := Lib.hid h1
  have lI : (V.length : Int) ≤ 1000 := by omega
  have HL := Lib.hid (show V.length ≤ 1000 by omega)
  have HB1 := Lib.hid hb1
  have HZ1 := Lib.hid hz1
  obtain ⟨r, hr⟩ : ∃ r, r = balL V S V.length cr pd bk kp lf := ⟨_, rfl⟩
  rw [← hr]
  have HR := Lib.hid hr
  rw [h1]
  clear hV hS hlt hl hvl hnp h1 hr hb1 hz1 hbD
  go_enter Try.func12, Try.ntmps12
  go_wp2_with fail
  rw [← hwb]
  clear hwb
  go_loopw [8, 9, 10, 41] (fun vl _ _ i wr => ∃ (k n : Nat), i = .int .i64 k ∧ k ≤ V.length ∧ Hid (n = (b5 cr pd bk kp lf ++ wl V S k).length) ∧ Hid (∀ j, j < k → isS (S.getD j 0) = true) ∧ Hid (wr.ownsRow wb.heap.size 2 1 vl n ((b5 cr pd bk kp lf ++ wl V S k).map fun x => .int .i64 x)) ∧ Hid (Below wb.heap.size wb wr)) (fun _ _ _ i _ => V.length - (intOf i).toNat)
  case atStart =>
    refine ⟨0, 5, rfl, Nat.zero_le _, (show _ = _ from rfl), (fun j hj => absurd hj (Nat.not_lt_zero _)), ?_, (Below.refl _ _).alloc (Nat.le_refl _) _⟩
    have := World.ownsRow_lit (base := wb.heap.size) (e := 2) (size := 1) wb #[iv pd, iv cr, iv (ng bk), iv (ng kp), iv (ng lf)] 5 (Nat.le_refl _) (by unfold maxLen; omega) rfl
    rw [HZ1.out] at this ⊢
    exact this
  case round =>
    obtain ⟨k, n, rfl, hk, hn, ha, ho, hb⟩ := hrel
    have HN := Lib.hid hn.out
    have HA := Lib.hid ha.out
    have HO := Lib.hid ho.out
    have HB := Lib.hid hb.out
    have hn5 : 5 ≤ n ∧ n ≤ 5 + k := by
      have h1 := hn.out
      have h2 := wl_len V S k
      rw [List.length_append] at h1
      have h3 : (b5 cr pd bk kp lf).length = 5 := rfl
      omega
    clear hn ha ho hb
    obtain ⟨g, cap, rfl, hg1, hg2, hg3⟩ := own_pos HO.out (by omega)
    by_cases hlt : (k : Int) < (V.length : Int)
    · have hkl : k < V.length := by omega
      have hk0 : (0 : Int) ≤ (k : Int) := Int.natCast_nonneg _
      obtain ⟨b, o, rfl, hbl, hcell⟩ := kcell HSN.out (j := k) (by rw [HSV.out]; exact hkl)
      obtain ⟨b', o', rfl, hbl', hcell'⟩ := HV.out.cell hkl
      have c0 := (HB.out.cell (p := ⟨b, o + k, none⟩) hbl).trans hcell
      have c1 := (HB.out.cell (p := ⟨b', o' + k, none⟩) hbl').trans hcell'
      have c2 : wr.cell? ⟨w.heap.size, 7, none⟩ = some (.slice (some ⟨b', o', none⟩) V.length vc) := loadL (HXD.out _ HB.out) 7 rfl
      have hs256 := HLT.out _ (getD_mem (l := S) (k := k) (by rw [HSV.out]; exact hkl))
      have HI := Lib.hid (fun W => is_any (S.getD k 0) hs256 W)
      have HWT := Lib.hid (fun W => worth_any (S.getD k 0) W)
      obtain ⟨bi, hbi⟩ : ∃ bi, isS (S.getD k 0) = bi := ⟨_, rfl⟩
      obtain ⟨bw, hbw⟩ : ∃ bw, wthB (S.getD k 0) = bw := ⟨_, rfl⟩
      rw [hbi] at HI
      rw [hbw] at HWT
      have HWLt := Lib.hid (show bw = true → wl V S (k + 1) = wl V S k ++ [ng (V.getD k 0)] from fun h => by
        show wl V S k ++ (if wthB (S.getD k 0) then [ng (V.getD k 0)] else []) = _
        rw [hbw, h]; rfl)
      have HWLf := Lib.hid (show bw = false → wl V S (k + 1) = wl V S k from fun h => by
        show wl V S k ++ (if wthB (S.getD k 0) then [ng (V.getD k 0)] else []) = _
        rw [hbw, h]; exact List.append_nil _)
      have HBI := Lib.hid hbi
      clear hcell hcell' hbi hbw hs256
      generalize S.getD k 0 = sk at c0 HI HWT
      generalize V.getD k 0 = vk at *
      cases bi
      · go_wp2_with (go_at_call 23; refine (HI.out _).mono ?_; rintro e w2 ⟨rfl, rfl⟩)
        go_ret2
        rw [HR.out, bal_arg (.inr (.inr (all_false (by rw [HSV.out]; exact hkl) HBI.out)))]
        exact ⟨rfl, HB1.out.trans (HB.out.mono HB1.out.size)⟩
      · have HA2 := Lib.hid (show ∀ j, j < k + 1 → isS (S.getD j 0) = true from fun j hj => by
          by_cases e : j = k
          · rw [e]; exact HBI.out
          · exact HA.out j (by omega))
        cases bw
        · go_wp2_with (first | (go_at_call 23; refine (HI.out _).mono ?_; rintro e w2 ⟨rfl, rfl⟩) | (go_at_call 24; refine (HWT.out _).mono ?_; rintro e w2 ⟨rfl, rfl⟩))
          go_roundw
          case rel => exact ⟨k + 1, n, by go_num, by omega, (by rw [HWLf.out (by first | trivial | rfl)]; exact HN.out), HA2.out, (by rw [HWLf.out (by first | trivial | rfl)]; exact HO.out), HB.out⟩
          case measure => simp [intOf]; omega
        · have HR1 := Lib.hid (row1 wr (iv (ng vk)) 2)
          have hng : wrap64 (-vk) = ng vk := rfl
          go_wp2_with (first
            | (go_at_call 23; refine (HI.out _).mono ?_; rintro e w2 ⟨rfl, rfl⟩)
            | (go_at_call 24; refine (HWT.out _).mono ?_; rintro e w2 ⟨rfl, rfl⟩)
            | (at_builtin; refine wl_appF 29 2 (.int .i64 0) 1 8 par_i64 Try.underlying29 rfl (by decide) (by decide) wb.heap.size (.slice (some ⟨g, 0, none⟩) n cap) n ((b5 cr pd bk kp lf ++ wl V S k).map fun x => .int .i64 x) (by rfl) (HO.out.alloc _) (.slice (some ⟨wr.heap.size, 0, none⟩) 1 1) (fun _ => True) 1 [.int .i64 (ng vk)] rfl HR1.out rfl (one_int _ _) (by omega) (by have := HB.out.size; simp; omega) ?_))
          intro v2 w3 ho hgr hbk
          have HO3 := Lib.hid ho
          have HB3 := Lib.hid ((HB.out.alloc HB.out.size _).grown hgr (by have := HB.out.size; simp; omega) (fun k hk => (HO.out.lt k hk).1))
          clear ho hgr hbk
          go_wp2
          go_roundw
          case rel =>
            refine ⟨k + 1, n + 1, by go_num, by omega, ?_, HA2.out, ?_, HB3.out⟩
            · rw [HWLt.out (by first | trivial | rfl)]; show n + 1 = _; rw [← List.append_assoc, List.length_append, ← HN.out]; rfl
            · rw [HWLt.out (by first | trivial | rfl), ← List.append_assoc, List.map_append]; exact HO3.out
          case measure => simp [intOf]; omega
    · obtain rfl : k = V.length := by omega
      obtain ⟨p2, c2, hp2, hc2, hnm⟩ := own_nums (l := b5 cr pd bk kp lf ++ wl V S V.length) (by rw [← HN.out]; exact HO.out)
      rw [← HN.out] at hp2
      simp only [Value.slice.injEq, true_and] at hp2
      obtain ⟨rfl, rfl⟩ := hp2
      have hs := sum_any (b5 cr pd bk kp lf ++ wl V S V.length) (some ⟨g, 0, none⟩) cap wr hnm (by rw [← HN.out]; omega)
      rw [← HN.out] at hs
      have HSM := Lib.hid hs
      have HRR := Lib.hid (HR.out.trans (bal_sum HSV.out rfl (all_true (by rw [HSV.out]; exact HA.out))))
      clear hs hnm hc2
      go_wp2_with (go_at_call 15; refine (HSM.out).mono ?_; rintro e w2 ⟨rfl, rfl⟩; simp only [pv])
      go_ret2
      rw [HRR.out]
      exact ⟨rfl, HB1.out.trans (HB.out.mono HB1.out.size)⟩
end Go.Proofs.Ytpapcilffkpjjaa
