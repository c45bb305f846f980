/- The walk of TicketAlone, up to both documents. -/
import Derived.Test.YtkdfhmlamjhedaaTkAlP
import Derived.BigQuiet
namespace Go.Proofs.Ytkdfhmlamjhedaa
open Go.Shelf Go.RowKit Go.Lib Go.Money Go.Pror Go.Tick

set_option maxRecDepth 100000 in
set_option maxHeartbeats 6400000 in
theorem tkalone_good (c1 sr1 c2 sr2 : Nat) (s : Sl) (lp : Option Addr) (lc : Nat) (tp : Option Addr) (tc : Nat) (o : Sl) (lp2 : Option Addr) (lc2 : Nat) (tp2 : Option Addr) (tc2 : Nat) (n : Int) (w : World) (hc1 : c1 < 256) (hc2 : c2 < 256) (hP : SaP w s lp lc tp tc) (hP2 : SaP w o lp2 lc2 tp2 tc2) (hg : grB s = false) (hg2 : grB o = false) (hlen : o.legs.length = s.legs.length) :
    Calls Try.prog 6 #[.agg (tkV c1 sr1), .agg (tkV c2 sr2), .agg (saV s lp lc tp tc), .agg (saV o lp2 lc2 tp2 tc2), iv n] w fun e w' => e = .returned (.bool true) ∧ Below w.heap.size w w' := by
  have hl1 := grB_len hg
  have hl2 := grB_len hg2
  have HW := Lib.hid (fun W => tkwakes_any W)
  have HG1 := Lib.hid (fun W => great_any s lp lc tp tc W)
  have HG2 := Lib.hid (fun W => great_any o lp2 lc2 tp2 tc2 W)
  rw [hg] at HG1
  rw [hg2] at HG2
  obtain ⟨wb, hwb⟩ : ∃ wb, wb = (((w.alloc (.cells (tkV c1 sr1) 24)).alloc (.cells (tkV c2 sr2) 24)).alloc (.cells (saV s lp lc tp tc) 28)).alloc (.cells (saV o lp2 lc2 tp2 tc2) 28) := ⟨_, rfl⟩
  have hb0 : Below w.heap.size w wb := by rw [hwb]; exact ((((Below.refl _ _).alloc (Nat.le_refl _) _).alloc (by simp) _).alloc (by simp; omega) _).alloc (by simp; omega) _
  have hws : wb.heap.size = w.heap.size + 4 := by rw [hwb]; simp
  have h1 : wb.heap[w.heap.size]? = some (.cells (tkV c1 sr1) 24 (0, 0)) := by rw [hwb, Below.heap_alloc _ _ _ (by simp; omega), Below.heap_alloc _ _ _ (by simp; omega), Below.heap_alloc _ _ _ (by simp)]; exact heap_last _ _ _ rfl
  have h2 : wb.heap[w.heap.size + 1]? = some (.cells (tkV c2 sr2) 24 (0, 0)) := by rw [hwb, Below.heap_alloc _ _ _ (by simp), Below.heap_alloc _ _ _ (by simp)]; exact heap_last _ _ _ (by simp)
  have h3 : wb.heap[w.heap.size + 1 + 1]? = some (.cells (saV s lp lc tp tc) 28 (0, 0)) := by rw [hwb, Below.heap_alloc _ _ _ (by simp)]; exact heap_last _ _ _ (by simp)
  have h4 : wb.heap[w.heap.size + 1 + 1 + 1]? = some (.cells (saV o lp2 lc2 tp2 tc2) 28 (0, 0)) := by rw [hwb]; exact heap_last _ _ _ (by simp)
  have HXO := Lib.hid (fun wz (hz : Below wb.heap.size wb wz) => (hz.block _ (lt_heap h4)).trans h4)
  have HXQ := Lib.hid (fun wz (hz : Below wb.heap.size wb wz) => And.intro ((hz.block _ (lt_heap h1)).trans h1) (And.intro ((hz.block _ (lt_heap h2)).trans h2) ((hz.block _ (lt_heap h3)).trans h3)))
  have HP1 := Lib.hid hP
  have HP2 := Lib.hid hP2
  have HLN := Lib.hid hlen
  have HC := Lib.hid (And.intro hc1 hc2)
  have HLL := Lib.hid (And.intro hl1 hl2)
  have hne : ((o.legs.length : Int) != (s.legs.length : Int)) = false := by rw [hlen]; simp
  have heq : ((s.legs.length : Int) == (o.legs.length : Int)) = true := by rw [hlen]; simp
  have hfe : (s.fare == s.fare) = true := by simp
  have HFL := Lib.hid (fun W (h : Below w.heap.size w W) => flat_row (enc := lgC) (k := 3) (fun _ => rfl) (hP2.lr.keep h) hP2.lc_)
  have HLG := Lib.hid (flat_len (enc := lgC) (k := 3) (fun _ => rfl) o.legs)
  have HB0 := Lib.hid hb0
  have HWS := Lib.hid hws
  have HR0 := Lib.hid (Below.refl wb.heap.size wb)
  clear hP hP2 hg hg2 hlen hl1 hl2 hb0 hws h1 h2 h3 h4 hc1 hc2
  go_enter Try.func6, Try.ntmps6
  go_wp2_with fail
  rw [← hwb]
  clear hwb
  refine (HG1.out _).mono ?_
  rintro e w2 ⟨rfl, hb2⟩
  have HB2 := Lib.hid (HR0.out.trans (hb2.mono HR0.out.size))
  clear hb2
  have hO2 := HXO.out _ HB2.out
  have o0 : w2.cell? ⟨w.heap.size + 1 + 1 + 1, 0, none⟩ = some (str o.name) := loadL hO2 0 rfl
  have o1 : w2.cell? ⟨w.heap.size + 1 + 1 + 1, 1, none⟩ = some (.slice lp2 o.legs.length lc2) := loadL hO2 1 rfl
  have o2 : w2.cell? ⟨w.heap.size + 1 + 1 + 1, 2, none⟩ = some (iv o.fare) := loadL hO2 2 rfl
  have o3 : w2.cell? ⟨w.heap.size + 1 + 1 + 1, 3, none⟩ = some (.slice tp2 o.taxes.length tc2) := loadL hO2 3 rfl
  have o4 : w2.cell? ⟨w.heap.size + 1 + 1 + 1, 4, none⟩ = some (iv o.pen) := loadL hO2 4 rfl
  clear hO2
  go_wp2_with (first
    | (at_builtin; refine wl_appF 25 58 (.agg #[.int .u8 0, .int .u16 0, .int .u32 0]) 3 8 par_leg Try.underlying25 rfl (by decide) (by decide) (w3.setCell ⟨w.heap.size + 1 + 1 + 1, 2, none⟩ (iv s.fare)).heap.size (.slice none 0 0) 0 [] rfl (World.ownsRow_nil _ _ _ _) (.slice lp2 o.legs.length lc2) _ o.legs.length (o.legs.flatMap lgC) rfl (HFL.out _ HX4.out) HLG.out (one_lg _) (by have := HLL.out.2.1; omega) (Nat.le_refl _) ?_)
    | (go_at_call 8; refine (HG2.out _).mono ?_; rintro e w3 ⟨rfl, hb3⟩
       have hbx := HB2.out.trans (hb3.mono HB2.out.size)
       have hO3 := HXO.out _ hbx
       have hS3 := (HXQ.out _ hbx).2.2
       have e2 : w3.cell? ⟨w.heap.size + 1 + 1, 2, none⟩ = some (iv s.fare) := loadL hS3 2 rfl
       have e3 : w3.cell? ⟨w.heap.size + 1 + 1 + 1, 2, none⟩ = some (iv o.fare) := loadL hO3 2 rfl
       have f3 : w3.frozen? ⟨w.heap.size + 1 + 1 + 1, 2, none⟩ = false := frozen_of_row _ _ _ _ _ hO3
       have hO4 : (w3.setCell ⟨w.heap.size + 1 + 1 + 1, 2, none⟩ (iv s.fare)).heap[w.heap.size + 1 + 1 + 1]? = some (.cells #[str o.name, .slice lp2 o.legs.length lc2, iv s.fare, .slice tp2 o.taxes.length tc2, iv o.pen] 28 (0, 0)) := heap_setCell_same w3 _ 2 _ 28 _ hO3
       have e4 : (w3.setCell ⟨w.heap.size + 1 + 1 + 1, 2, none⟩ (iv s.fare)).cell? ⟨w.heap.size + 1 + 1 + 1, 1, none⟩ = some (.slice lp2 o.legs.length lc2) := loadL hO4 1 rfl
       have HX4 := Lib.hid (show Below w.heap.size w (w3.setCell ⟨w.heap.size + 1 + 1 + 1, 2, none⟩ (iv s.fare)) from (HB0.out.trans (hbx.mono HB0.out.size)).setCell (p := ⟨w.heap.size + 1 + 1 + 1, 2, none⟩) (by show _ ≤ w.heap.size + 1 + 1 + 1; omega) _)
       have HO4 := Lib.hid hO4
       have HB3 := Lib.hid hbx
       have HK4 := Lib.hid (show ∀ b, b ≠ w.heap.size + 1 + 1 + 1 → (w3.setCell ⟨w.heap.size + 1 + 1 + 1, 2, none⟩ (iv s.fare)).heap[b]? = w3.heap[b]? from fun b hb => Below.heap_setCell _ _ _ _ hb)
       have HS4 := Lib.hid (show (w3.setCell ⟨w.heap.size + 1 + 1 + 1, 2, none⟩ (iv s.fare)).heap.size = w3.heap.size by simp [World.setCell])
       clear hb3 hbx hO3 hS3 hO4))
  intro v5 w5 ho hg _
  rw [Nat.zero_add, List.nil_append] at ho
  obtain ⟨p5, q5, rfl, hq5, hr5⟩ := row_of_own (enc := lgC) (k := 3) (fun _ => rfl) rfl ho
  have hnl := newL_of rfl ho
  have hb5 := (Below.refl (w3.setCell ⟨w.heap.size + 1 + 1 + 1, 2, none⟩ (iv s.fare)).heap.size (w3.setCell ⟨w.heap.size + 1 + 1 + 1, 2, none⟩ (iv s.fare))).grown hg (Nat.le_refl _) (fun k hk => by cases hk)
  have hO5 := (hb5.block _ (lt_heap HO4.out)).trans HO4.out
  have e5 : w5.cell? ⟨w.heap.size + 1 + 1 + 1, 1, none⟩ = some (.slice lp2 o.legs.length lc2) := loadL hO5 1 rfl
  have f5 : w5.frozen? ⟨w.heap.size + 1 + 1 + 1, 1, none⟩ = false := frozen_of_row _ _ _ _ _ hO5
  have hO6 : (w5.setCell ⟨w.heap.size + 1 + 1 + 1, 1, none⟩ (.slice p5 o.legs.length q5)).heap[w.heap.size + 1 + 1 + 1]? = some (.cells #[str o.name, .slice p5 o.legs.length q5, iv s.fare, .slice tp2 o.taxes.length tc2, iv o.pen] 28 (0, 0)) := heap_setCell_same w5 _ 1 _ 28 _ hO5
  have hk6 : ∀ b, b ≠ w.heap.size + 1 + 1 + 1 → (w5.setCell ⟨w.heap.size + 1 + 1 + 1, 1, none⟩ (.slice p5 o.legs.length q5)).heap[b]? = w5.heap[b]? := fun b hb => Below.heap_setCell _ _ _ _ hb
  have hz3 : w.heap.size + 4 ≤ w3.heap.size := by have := HB3.out.size; have := HWS.out; omega
  have hb56 : ∀ b, b < w3.heap.size → b ≠ w.heap.size + 1 + 1 + 1 → (w5.setCell ⟨w.heap.size + 1 + 1 + 1, 1, none⟩ (.slice p5 o.legs.length q5)).heap[b]? = w3.heap[b]? := fun b h1 h2 =>
    (hk6 b h2).trans ((hb5.block b (by rw [HS4.out]; exact h1)).trans (HK4.out b h2))
  have hQ6 := HXQ.out _ HB3.out
  have hQ1 := (hb56 w.heap.size (by omega) (by omega)).trans hQ6.1
  have hQ2 := (hb56 (w.heap.size + 1) (by omega) (by omega)).trans hQ6.2.1
  have hQ3 := (hb56 (w.heap.size + 1 + 1) (by omega) (by omega)).trans hQ6.2.2
  have HX6 := Lib.hid (show Below w.heap.size w (w5.setCell ⟨w.heap.size + 1 + 1 + 1, 1, none⟩ (.slice p5 o.legs.length q5)) from (HX4.out.trans (hb5.mono HX4.out.size)).setCell (p := ⟨w.heap.size + 1 + 1 + 1, 1, none⟩) (by show _ ≤ w.heap.size + 1 + 1 + 1; omega) _)
  have HNL := Lib.hid (show NewL (w5.setCell ⟨w.heap.size + 1 + 1 + 1, 1, none⟩ (.slice p5 o.legs.length q5)) (w.heap.size + 4) p5 o.legs from fun h0 => by
    obtain ⟨g, h1, h2⟩ := hnl h0
    have h3 := h2.ge
    rw [HS4.out] at h3
    exact ⟨g, h1, (OL.keepA (w := w5) ⟨by omega, h2.at_⟩ (hk6 g (by omega)))⟩)
  have HQ5 := Lib.hid hq5
  have e6 : (w5.setCell ⟨w.heap.size + 1 + 1 + 1, 1, none⟩ (.slice p5 o.legs.length q5)).cell? ⟨w.heap.size + 1 + 1 + 1, 1, none⟩ = some (.slice p5 o.legs.length q5) := loadL hO6 1 rfl
  have e7 : (w5.setCell ⟨w.heap.size + 1 + 1 + 1, 1, none⟩ (.slice p5 o.legs.length q5)).cell? ⟨w.heap.size + 1 + 1, 1, none⟩ = some (.slice lp s.legs.length lc) := loadL hQ3 1 rfl
  have HO6 := Lib.hid hO6
  have HQ6 := Lib.hid (And.intro hQ1 (And.intro hQ2 hQ3))
  have hz6 : w.heap.size + 4 ≤ (w5.setCell ⟨w.heap.size + 1 + 1 + 1, 1, none⟩ (.slice p5 o.legs.length q5)).heap.size := by
    have := hb5.size; rw [HS4.out] at this; simp [World.setCell]; omega
  have HZ6 := Lib.hid hz6
  clear ho hg hq5 hr5 hnl hb5 hO5 hO6 hk6 hz3 hb56 hQ6 hQ1 hQ2 hQ3 hz6 e2 e3 f3 e4
  go_wp2_with fail
  clear e5 f5 e6 e7 o0 o1 o2 o3 o4
  have HLR := Lib.hid (fun W (h : Below w.heap.size w W) => HP1.out.lr.keep h)
  clear HK4 HO4 HX4 HS4 HB3 HB2 HG1 HG2 HFL HLG HR0
  generalize w5.setCell ⟨w.heap.size + 1 + 1 + 1, 1, none⟩ (.slice p5 o.legs.length q5) = w6 at *
  have hlo : (o.legs.length : Int) ≤ 1000 := by have := HLL.out.2.1; omega
  go_loopw [11] (fun iv' wr => ∃ k : Nat, iv' = .int .i64 k ∧ k ≤ o.legs.length ∧ Hid (NewL wr (w.heap.size + 4) p5 (mixL o.legs s.legs k)) ∧ Hid (Below (w.heap.size + 4) w6 wr)) (fun iv' _ => o.legs.length - (intOf iv').toNat)
  case atStart => exact ⟨0, rfl, Nat.zero_le _, (by rw [mix_zero]; exact HNL.out), Below.refl _ _⟩
  case round =>
    obtain ⟨k, rfl, hk, hN, hB⟩ := hrel
    have HN := Lib.hid hN.out
    have HB := Lib.hid hB.out
    clear hN hB
    have hb := HB.out
    have hO := (hb.block (w.heap.size + 1 + 1 + 1) (by omega)).trans HO6.out
    have hT1 := (hb.block w.heap.size (by omega)).trans HQ6.out.1
    have hT2 := (hb.block (w.heap.size + 1) (by omega)).trans HQ6.out.2.1
    have hS := (hb.block (w.heap.size + 1 + 1) (by omega)).trans HQ6.out.2.2
    have d8 : wr.cell? ⟨w.heap.size + 1 + 1 + 1, 1, none⟩ = some (.slice p5 o.legs.length q5) := loadL hO 1 rfl
    have d7 : wr.cell? ⟨w.heap.size + 1 + 1, 1, none⟩ = some (.slice lp s.legs.length lc) := loadL hS 1 rfl
    have HXR := Lib.hid (HX6.out.trans (hb.mono (by omega)))
    have HZR := Lib.hid (Nat.le_trans HZ6.out hb.size)
    by_cases hlt : (k : Int) < (o.legs.length : Int)
    · have hkl : k < o.legs.length := by omega
      have hkl2 : k < s.legs.length := by have := HLN.out; omega
      have hks : (k : Int) < (s.legs.length : Int) := by omega
      have hk0 : (0 : Int) ≤ (k : Int) := Int.natCast_nonneg _
      obtain ⟨b, oo, rfl, hbl, hcell⟩ := (HLR.out _ HXR.out).at_ (by omega)
      obtain ⟨g, rfl, hol⟩ := HN.out (by rw [mix_len]; omega)
      have cq := hcell k hkl2 2 (.int .u32 ((s.legs[k]!).wt : Int)) rfl
      have cw := hol.c2 (j := k) (by rw [mix_len]; exact hkl)
      have fw := hol.fr (k * 3 + 2)
      have HOL := Lib.hid hol
      have HGE := Lib.hid hol.ge
      have HKL := Lib.hid hkl
      have HBZ := Lib.hid hb.size
      have HXW := Lib.hid (show (.int .u32 ((s.legs[k]!).wt : Int) : Value) = .int .u32 ((s.legs[k]!).wt : Int) from rfl)
      obtain ⟨xw, hxw⟩ : ∃ x : Int, x = ((s.legs[k]!).wt : Int) := ⟨_, rfl⟩
      rw [← hxw] at cq
      have HXX := Lib.hid hxw
      generalize ((mixL o.legs s.legs k)[k]!).wt = old at *
      clear hcell hol hb hO hT1 hT2 hS HXW hxw hkl hkl2 HN
      go_wp2_with fail
      go_region
      go_wp2_with fail
      go_roundw
      case rel => exact ⟨k + 1, by go_num, by have := HKL.out; omega, fun _ => ⟨g, rfl, (HOL.out.next HKL.out _ (by rw [HXX.out])).keepA rfl⟩, (HB.out.setCell (p := ⟨g, k * 3 + 2, none⟩) HGE.out _).drew⟩
      case measure => simp [intOf]; have := HKL.out; omega
    · obtain rfl : k = o.legs.length := by omega
      have hHPo : SaP wr (alo s o o.legs.length) p5 q5 tp2 tc2 := ⟨HN.out.row, HP2.out.tr.keep HXR.out, (by rw [show (alo s o o.legs.length).legs.length = o.legs.length from mix_len _ _ _]; exact HQ5.out), HP2.out.tc_, alo_wt HP1.out.wt HP2.out.wt HLN.out _, HP1.out.fb⟩
      have hHPs : SaP wr s lp lc tp tc := HP1.out.keep HXR.out
      have hO' : wr.heap[w.heap.size + 1 + 1 + 1]? = some (.cells (saV (alo s o o.legs.length) p5 q5 tp2 tc2) 28 (0, 0)) := by rw [saV_alo]; exact hO
      have hvv := alo_vals s o HLN.out
      have hnn : (alo s o o.legs.length).legs.length = o.legs.length := mix_len _ _ _
      have hoL : (alo s o o.legs.length).legs.length ≤ 1000 := by rw [hnn]; exact HLL.out.2.1
      have hoT : (alo s o o.legs.length).taxes.length ≤ 1000 := HLL.out.2.2
      have HQR := Lib.hid (fun W (h : Below wr.heap.size wr W) => And.intro ((h.block _ (lt_heap hT1)).trans hT1) (And.intro ((h.block _ (lt_heap hT2)).trans hT2) (And.intro ((h.block _ (lt_heap hS)).trans hS) ((h.block _ (lt_heap hO')).trans hO'))))
      have HRR := Lib.hid (Below.refl wr.heap.size wr)
      clear hO hO' hT1 hT2 hS hb d7 hk HN HB HNL HO6 HQ6 HX6 HZ6 HXQ HXO HLR
      by_cases hg1 : tkB c1 sr1 n = true ∧ chkL s n = 0
      · have HM1 := Lib.hid (make_good c1 sr1 s n lp lc tp tc wr HC.out.1 hg1.1 hHPs.lr hHPs.tr hHPs.lc_ hHPs.tc_ hHPs.wt HLL.out.1.1 HLL.out.1.2 hg1.2)
        by_cases hg2 : tkB c2 sr2 n = true ∧ chkL (alo s o o.legs.length) n = 0
        · as_aux_lemma =>
            have HM2 := Lib.hid (fun W (h : Below wr.heap.size wr W) => show Calls Try.prog 14 #[.agg (tkV c2 sr2), .agg (saV (alo s o o.legs.length) p5 q5 tp2 tc2), iv n] W (fun e w' => ∃ lp' lc' tp' tc' vp vc, e = .returned (.tuple #[.agg (docV c2 sr2 (alo s o o.legs.length) lp' lc' tp' tc' vp o.legs.length vc), iv 0]) ∧ o.legs.length ≤ vc ∧ Nums w' .i64 vp (vals s) ∧ Below W.heap.size W w') from by
              have := make_good c2 sr2 (alo s o o.legs.length) n p5 q5 tp2 tc2 W HC.out.2 hg2.1 (hHPo.lr.keep h) (hHPo.tr.keep h) hHPo.lc_ hHPo.tc_ hHPo.wt hoL hoT hg2.2
              rw [hvv, hnn] at this
              refine this.mono ?_
              rintro e w' ⟨a1, a2, a3, a4, a5, a6, he, _, _, h6, _, _, h9, h10⟩
              exact ⟨a1, a2, a3, a4, a5, a6, he, h6, h9, h10⟩)
            clear hHPo hHPs hvv hnn hoL hoT hg1 hg2
            have hfa : (alo s o o.legs.length).fare = s.fare := rfl
            generalize alo s o o.legs.length = al at *
            clear hlt
            have hlt : ¬ ((o.legs.length : Int) < (o.legs.length : Int)) := by omega
            go_wp2_with (first
              | (refine wpList_load_row rfl 24 _ rfl w.heap.size rfl 24 (tkV c1 sr1) (0, 0) _ (HQR.out _ HRR.out).1 Try.underlying24 rfl (by kernel_rfl) ?_)
              | (refine wpList_load_row rfl 28 _ rfl (w.heap.size + 1 + 1) rfl 28 (saV s lp lc tp tc) (0, 0) _ (HQR.out _ HRR.out).2.2.1 Try.underlying28 rfl sizeSale ?_))
            refine HM1.out.mono ?_
            rintro e w9 ⟨lp', lc', tp', tc', vp1, vc1, rfl, _, _, hvc1, _, _, hn9, hb9⟩
            have HN9 := Lib.hid hn9
            have HX9 := Lib.hid (HRR.out.trans (hb9.mono HRR.out.size))
            have hx10 : Below w9.heap.size w9 (w9.alloc (.cells (docV c1 sr1 s lp' lc' tp' tc' vp1 s.legs.length vc1) 31)) := (Below.refl _ _).alloc (Nat.le_refl _) _
            have HX10 := Lib.hid (HX9.out.trans (hx10.mono HX9.out.size))
            have HN10 := Lib.hid (HN9.out.keep hx10)
            have HD10 := Lib.hid (heap_last w9 (.cells (docV c1 sr1 s lp' lc' tp' tc' vp1 s.legs.length vc1) 31) w9.heap.size rfl)
            clear hn9 hb9 hvc1 hx10
            go_wp2_with (first
              | (refine wpList_load_row rfl 24 _ rfl (w.heap.size + 1) rfl 24 (tkV c2 sr2) (0, 0) _ (HQR.out _ HX10.out).2.1 Try.underlying24 rfl (by kernel_rfl) ?_)
              | (refine wpList_load_row rfl 28 _ rfl (w.heap.size + 1 + 1 + 1) rfl 28 (saV al p5 q5 tp2 tc2) (0, 0) _ (HQR.out _ HX10.out).2.2.2 Try.underlying28 rfl sizeSale ?_))
            refine (HM2.out _ HX10.out).mono ?_
            rintro e w11 ⟨la', lb', ta', tb', vp2, vc2, rfl, _, hn11, hb11⟩
            have hd2 : (w11.alloc (.cells (docV c2 sr2 al la' lb' ta' tb' vp2 o.legs.length vc2) 31)).heap[w11.heap.size]? = some (.cells (docV c2 sr2 al la' lb' ta' tb' vp2 o.legs.length vc2) 31 (0, 0)) := heap_last _ _ _ rfl
            have hx12 : Below w11.heap.size w11 (w11.alloc (.cells (docV c2 sr2 al la' lb' ta' tb' vp2 o.legs.length vc2) 31)) := (Below.refl _ _).alloc (Nat.le_refl _) _
            have hd11 := (hb11.block _ (lt_heap HD10.out)).trans HD10.out
            have hd1 := (hx12.block _ (lt_heap hd11)).trans hd11
            have a7 := loadL hd1 7 (v := .slice vp1 s.legs.length vc1) rfl
            have a13 := loadL hd1 13 (v := iv s.fare) rfl
            have b7 := loadL hd2 7 (v := .slice vp2 o.legs.length vc2) rfl
            have b13 := loadL hd2 13 (v := iv s.fare) (by rw [← hfa]; rfl)
            have HN12 := Lib.hid ((HN10.out.keep hb11).keep hx12)
            have HM12 := Lib.hid (hn11.keep hx12)
            have HX12 := Lib.hid ((HX10.out.trans (hb11.mono HX10.out.size)).trans (hx12.mono (by have := HX10.out.size; have := hb11.size; omega)))
            clear hn11 hb11 hd2 hx12 hd11 hd1 HN9 HN10 HX9 HD10 HM1 HM2 d8 hlt hfa
            go_wp2_with fail
            generalize w11.alloc (.cells (docV c2 sr2 al la' lb' ta' tb' vp2 o.legs.length vc2) 31) = w12 at *
            generalize w9.heap.size = D1 at *
            generalize w11.heap.size = D2 at *
            have hll : (o.legs.length : Int) = (s.legs.length : Int) := by have := HLN.out; omega
            have HLO := Lib.hid hll
            clear hll
            go_loopw [16] (fun i wr' => ∃ (k : Nat), i = .int .i64 k ∧ k ≤ s.legs.length ∧ Hid (∃ m, wr' = w12.drewN m)) (fun i _ => s.legs.length - (intOf i).toNat)
            case atStart => exact ⟨0, rfl, Nat.zero_le _, 0, (World.drewN_zero _).symm⟩
            case round =>
              obtain ⟨k, rfl, hk, hwr⟩ := hrel
              obtain ⟨m, rfl⟩ := hwr.out
              clear hwr
              have hls : (s.legs.length : Int) ≤ 1000 := by have := HLL.out.1.1; omega
              have a7' : (w12.drewN m).cell? ⟨D1, 7, none⟩ = some (.slice vp1 s.legs.length vc1) := a7
              have a13' : (w12.drewN m).cell? ⟨D1, 13, none⟩ = some (iv s.fare) := a13
              have b7' : (w12.drewN m).cell? ⟨D2, 7, none⟩ = some (.slice vp2 o.legs.length vc2) := b7
              have b13' : (w12.drewN m).cell? ⟨D2, 13, none⟩ = some (iv s.fare) := b13
              by_cases hlt : (k : Int) < (s.legs.length : Int)
              · have hkl : k < (vals s).length := by rw [vals_len]; omega
                have hk0 : (0 : Int) ≤ (k : Int) := Int.natCast_nonneg _
                have hko : (k : Int) < (o.legs.length : Int) := by have := HLO.out; omega
                have hd : decide ((o.legs.length : Int) ≤ (k : Int)) = false := by simp; omega
                have hd5 : decide (o.legs.length ≤ k) = false := decide_eq_false (by omega)
                obtain ⟨b, o1, rfl, hb, hcell⟩ := HN12.out.cell hkl
                obtain ⟨b1, o2, rfl, hb1, hcell1⟩ := HM12.out.cell hkl
                have hcell' : (w12.drewN m).cell? ⟨b, o1 + k, none⟩ = some (.int .i64 ((vals s).getD k 0)) := hcell
                have hcell1' : (w12.drewN m).cell? ⟨b1, o2 + k, none⟩ = some (.int .i64 ((vals s).getD k 0)) := hcell1
                generalize (vals s).getD k 0 = x at *
                have hxx : (x != x) = false := by simp
                go_wp2_with fail
                go_quiet (fail)
                go_wp2_with fail
                go_roundw
                case rel => exact ⟨k + 1, by go_num, by omega, _, rfl⟩
                case measure => simp [intOf]; omega
              · obtain rfl : k = s.legs.length := by omega
                go_wp2_with (go_at_call 9; refine (HW.out _).mono ?_; rintro e w14 ⟨rfl, hb14⟩)
                go_ret
                have hx := below_drewN HX12.out m
                exact ⟨rfl, HXR.out.trans ((hx.mono HXR.out.size).trans (hb14.mono (by have := HXR.out.size; have := hx.size; omega)))⟩
        · as_aux_lemma =>
            have HM2 := Lib.hid (fun W (h : Below wr.heap.size wr W) => make_not c2 sr2 (alo s o o.legs.length) n p5 q5 tp2 tc2 W HC.out.2 (hHPo.keep h) hoL hoT (by
            by_cases h : tkB c2 sr2 n = true
            · exact Or.inr (fun h2 => hg2 ⟨h, h2⟩)
            · exact Or.inl (by simpa using h)))
            clear hHPo hHPs hvv hnn hoL hoT hg1 hg2
            generalize alo s o o.legs.length = al at *
            clear hlt
            have hlt : ¬ ((o.legs.length : Int) < (o.legs.length : Int)) := by omega
            go_wp2_with (first
              | (refine wpList_load_row rfl 24 _ rfl w.heap.size rfl 24 (tkV c1 sr1) (0, 0) _ (HQR.out _ HRR.out).1 Try.underlying24 rfl (by kernel_rfl) ?_)
              | (refine wpList_load_row rfl 28 _ rfl (w.heap.size + 1 + 1) rfl 28 (saV s lp lc tp tc) (0, 0) _ (HQR.out _ HRR.out).2.2.1 Try.underlying28 rfl sizeSale ?_))
            refine HM1.out.mono ?_
            rintro e w9 ⟨lp', lc', tp', tc', vp1, vc1, rfl, _, _, _, _, _, _, hb9⟩
            have HX9 := Lib.hid (HRR.out.trans (hb9.mono HRR.out.size))
            have hx10 : Below w9.heap.size w9 (w9.alloc (.cells (docV c1 sr1 s lp' lc' tp' tc' vp1 s.legs.length vc1) 31)) := (Below.refl _ _).alloc (Nat.le_refl _) _
            have HX10 := Lib.hid (HX9.out.trans (hx10.mono HX9.out.size))
            clear hb9 hx10 HX9 HM1
            go_wp2_with (first
              | (refine wpList_load_row rfl 24 _ rfl (w.heap.size + 1) rfl 24 (tkV c2 sr2) (0, 0) _ (HQR.out _ HX10.out).2.1 Try.underlying24 rfl (by kernel_rfl) ?_)
              | (refine wpList_load_row rfl 28 _ rfl (w.heap.size + 1 + 1 + 1) rfl 28 (saV al p5 q5 tp2 tc2) (0, 0) _ (HQR.out _ HX10.out).2.2.2 Try.underlying28 rfl sizeSale ?_))
            refine (HM2.out _ HX10.out).mono ?_
            rintro e w11 ⟨ec2, hec2, rfl, hb11⟩
            have hx12 : Below w11.heap.size w11 (w11.alloc (.cells zDoc 31)) := (Below.refl _ _).alloc (Nat.le_refl _) _
            have HX12 := Lib.hid ((HX10.out.trans (hb11.mono HX10.out.size)).trans (hx12.mono (by have := HX10.out.size; have := hb11.size; omega)))
            clear hb11 hx12 HX10 HM2 d8 hlt
            go_wp2_with (go_at_call 9; refine (HW.out _).mono ?_; rintro e w14 ⟨rfl, hb14⟩)
            go_ret
            exact ⟨rfl, HXR.out.trans ((HX12.out.mono HXR.out.size).trans (hb14.mono (Nat.le_trans HXR.out.size HX12.out.size)))⟩
      · have HM1 := Lib.hid (make_not c1 sr1 s n lp lc tp tc wr HC.out.1 hHPs HLL.out.1.1 HLL.out.1.2 (by
          by_cases h : tkB c1 sr1 n = true
          · exact Or.inr (fun h2 => hg1 ⟨h, h2⟩)
          · exact Or.inl (by simpa using h)))
        by_cases hg2 : tkB c2 sr2 n = true ∧ chkL (alo s o o.legs.length) n = 0
        · as_aux_lemma =>
            have HM2 := Lib.hid (fun W (h : Below wr.heap.size wr W) => show Calls Try.prog 14 #[.agg (tkV c2 sr2), .agg (saV (alo s o o.legs.length) p5 q5 tp2 tc2), iv n] W (fun e w' => ∃ lp' lc' tp' tc' vp vc, e = .returned (.tuple #[.agg (docV c2 sr2 (alo s o o.legs.length) lp' lc' tp' tc' vp o.legs.length vc), iv 0]) ∧ o.legs.length ≤ vc ∧ Nums w' .i64 vp (vals s) ∧ Below W.heap.size W w') from by
              have := make_good c2 sr2 (alo s o o.legs.length) n p5 q5 tp2 tc2 W HC.out.2 hg2.1 (hHPo.lr.keep h) (hHPo.tr.keep h) hHPo.lc_ hHPo.tc_ hHPo.wt hoL hoT hg2.2
              rw [hvv, hnn] at this
              refine this.mono ?_
              rintro e w' ⟨a1, a2, a3, a4, a5, a6, he, _, _, h6, _, _, h9, h10⟩
              exact ⟨a1, a2, a3, a4, a5, a6, he, h6, h9, h10⟩)
            clear hHPo hHPs hvv hnn hoL hoT hg1 hg2
            generalize alo s o o.legs.length = al at *
            clear hlt
            have hlt : ¬ ((o.legs.length : Int) < (o.legs.length : Int)) := by omega
            go_wp2_with (first
              | (refine wpList_load_row rfl 24 _ rfl w.heap.size rfl 24 (tkV c1 sr1) (0, 0) _ (HQR.out _ HRR.out).1 Try.underlying24 rfl (by kernel_rfl) ?_)
              | (refine wpList_load_row rfl 28 _ rfl (w.heap.size + 1 + 1) rfl 28 (saV s lp lc tp tc) (0, 0) _ (HQR.out _ HRR.out).2.2.1 Try.underlying28 rfl sizeSale ?_))
            refine HM1.out.mono ?_
            rintro e w9 ⟨ec, hec, rfl, hb9⟩
            have HX9 := Lib.hid (HRR.out.trans (hb9.mono HRR.out.size))
            have hx10 : Below w9.heap.size w9 (w9.alloc (.cells zDoc 31)) := (Below.refl _ _).alloc (Nat.le_refl _) _
            have HX10 := Lib.hid (HX9.out.trans (hx10.mono HX9.out.size))
            clear hb9 hx10 HX9 HM1
            go_wp2_with (first
              | (refine wpList_load_row rfl 24 _ rfl (w.heap.size + 1) rfl 24 (tkV c2 sr2) (0, 0) _ (HQR.out _ HX10.out).2.1 Try.underlying24 rfl (by kernel_rfl) ?_)
              | (refine wpList_load_row rfl 28 _ rfl (w.heap.size + 1 + 1 + 1) rfl 28 (saV al p5 q5 tp2 tc2) (0, 0) _ (HQR.out _ HX10.out).2.2.2 Try.underlying28 rfl sizeSale ?_))
            refine (HM2.out _ HX10.out).mono ?_
            rintro e w11 ⟨la', lb', ta', tb', vp2, vc2, rfl, _, _, hb11⟩
            have hx12 : Below w11.heap.size w11 (w11.alloc (.cells (docV c2 sr2 al la' lb' ta' tb' vp2 o.legs.length vc2) 31)) := (Below.refl _ _).alloc (Nat.le_refl _) _
            have HX12 := Lib.hid ((HX10.out.trans (hb11.mono HX10.out.size)).trans (hx12.mono (by have := HX10.out.size; have := hb11.size; omega)))
            clear hb11 hx12 HX10 HM2 d8 hlt
            go_wp2_with (go_at_call 9; refine (HW.out _).mono ?_; rintro e w14 ⟨rfl, hb14⟩)
            go_ret
            exact ⟨rfl, HXR.out.trans ((HX12.out.mono HXR.out.size).trans (hb14.mono (Nat.le_trans HXR.out.size HX12.out.size)))⟩
        · as_aux_lemma =>
            have HM2 := Lib.hid (fun W (h : Below wr.heap.size wr W) => make_not c2 sr2 (alo s o o.legs.length) n p5 q5 tp2 tc2 W HC.out.2 (hHPo.keep h) hoL hoT (by
            by_cases h : tkB c2 sr2 n = true
            · exact Or.inr (fun h2 => hg2 ⟨h, h2⟩)
            · exact Or.inl (by simpa using h)))
            clear hHPo hHPs hvv hnn hoL hoT hg1 hg2
            generalize alo s o o.legs.length = al at *
            clear hlt
            have hlt : ¬ ((o.legs.length : Int) < (o.legs.length : Int)) := by omega
            go_wp2_with (first
              | (refine wpList_load_row rfl 24 _ rfl w.heap.size rfl 24 (tkV c1 sr1) (0, 0) _ (HQR.out _ HRR.out).1 Try.underlying24 rfl (by kernel_rfl) ?_)
              | (refine wpList_load_row rfl 28 _ rfl (w.heap.size + 1 + 1) rfl 28 (saV s lp lc tp tc) (0, 0) _ (HQR.out _ HRR.out).2.2.1 Try.underlying28 rfl sizeSale ?_))
            refine HM1.out.mono ?_
            rintro e w9 ⟨ec, hec, rfl, hb9⟩
            have HX9 := Lib.hid (HRR.out.trans (hb9.mono HRR.out.size))
            have hx10 : Below w9.heap.size w9 (w9.alloc (.cells zDoc 31)) := (Below.refl _ _).alloc (Nat.le_refl _) _
            have HX10 := Lib.hid (HX9.out.trans (hx10.mono HX9.out.size))
            clear hb9 hx10 HX9 HM1
            go_wp2_with (first
              | (refine wpList_load_row rfl 24 _ rfl (w.heap.size + 1) rfl 24 (tkV c2 sr2) (0, 0) _ (HQR.out _ HX10.out).2.1 Try.underlying24 rfl (by kernel_rfl) ?_)
              | (refine wpList_load_row rfl 28 _ rfl (w.heap.size + 1 + 1 + 1) rfl 28 (saV al p5 q5 tp2 tc2) (0, 0) _ (HQR.out _ HX10.out).2.2.2 Try.underlying28 rfl sizeSale ?_))
            refine (HM2.out _ HX10.out).mono ?_
            rintro e w11 ⟨ec2, hec2, rfl, hb11⟩
            have hx12 : Below w11.heap.size w11 (w11.alloc (.cells zDoc 31)) := (Below.refl _ _).alloc (Nat.le_refl _) _
            have HX12 := Lib.hid ((HX10.out.trans (hb11.mono HX10.out.size)).trans (hx12.mono (by have := HX10.out.size; have := hb11.size; omega)))
            clear hb11 hx12 HX10 HM2 d8 hlt
            go_wp2_with (go_at_call 9; refine (HW.out _).mono ?_; rintro e w14 ⟨rfl, hb14⟩)
            go_ret
            exact ⟨rfl, HXR.out.trans ((HX12.out.mono HXR.out.size).trans (hb14.mono (Nat.le_trans HXR.out.size HX12.out.size)))⟩
end Go.Proofs.Ytkdfhmlamjhedaa
