/- The walk of EdiWhole: a segment is made of any components, printed twice, read back. -/
import Derived.Test.YtpimjoikoiollaaEdiOw
import Derived.Test.YtpimjoikoiollaaEdiW9
import Derived.Test.YtpimjoikoiollaaEdiP
import Derived.Test.YtpimjoikoiollaaEdiSm
import Derived.Test.YtpimjoikoiollaaEdiRd
import Derived.Test.YtpimjoikoiollaaEdiSn
import Derived.Test.YtpimjoikoiollaaEdiWhP
namespace Go.Proofs.Ytpimjoikoiollaa
open Go.RowKit Go.Edi

theorem wh_nil : Wh [] := ⟨by simp, by simp, by simp [szL]⟩
theorem wh_take {l : List (List Tx)} {k : Nat} (hk : k < l.length) (h : Wh (l.take k)) (h16 : l.length ≤ 16) (h2 : ∀ t ∈ (l[k]).take 7, t.length ≤ 256) (h3 : szL (l.take k) + szE l[k] ≤ 2000) : Wh (l.take (k + 1)) ∧ szL (l.take (k + 1)) = szL (l.take k) + szE l[k] := by
  have e : l.take (k + 1) = l.take k ++ [l[k]] := (List.take_append_getElem hk).symm
  have es : szL (l.take (k + 1)) = szL (l.take k) + szE l[k] := by
    unfold szL
    rw [e, List.map_append, List.sum_append]
    simp only [List.map_cons, List.map_nil, List.sum_cons, List.sum_nil, Nat.add_zero]
  refine ⟨⟨by rw [List.length_take]; omega, fun x hx => ?_, by rw [es]; exact h3⟩, es⟩
  rw [e, List.mem_append] at hx
  rcases hx with hx | hx
  · exact h.c x hx
  · obtain rfl : x = l[k] := by simpa using hx
    exact h2
/-- the lengths of the first components -/
def szK (e : List Tx) (k : Nat) : Nat := ((e.take k).map List.length).sum
theorem szK_succ {e : List Tx} {k : Nat} (h : k < e.length) : szK e (k + 1) = szK e k + e[k].length := by
  unfold szK
  rw [show e.take (k + 1) = e.take k ++ [e[k]] from (List.take_append_getElem h).symm, List.map_append, List.sum_append]
  simp only [List.map_cons, List.map_nil, List.sum_cons, List.sum_nil, Nat.add_zero]
structure InE (e : List Tx) (n0 k : Nat) : Prop where
  k7 : k ≤ 7
  ke : k ≤ e.length
  c : ∀ t ∈ e.take k, t.length ≤ 256
  s : n0 + szK e k ≤ 2000
theorem InE.next {e : List Tx} {n0 k : Nat} (h : InE e n0 k) (h1 : k < e.length) (h2 : k < 7) (h3 : e[k].length ≤ 256) (h4 : n0 + szK e k + e[k].length ≤ 2000) : InE e n0 (k + 1) := by
  refine ⟨by omega, by omega, fun t ht => ?_, by rw [szK_succ h1]; omega⟩
  rw [show e.take (k + 1) = e.take k ++ [e[k]] from (List.take_append_getElem h1).symm, List.mem_append] at ht
  rcases ht with ht | ht
  · exact h.c t ht
  · obtain rfl : t = e[k] := by simpa using ht
    exact h3
theorem InE.done {e : List Tx} {n0 k : Nat} (h : InE e n0 k) (hd : k = e.length ∨ k = 7) : e.take k = e.take 7 := by
  rcases hd with rfl | rfl
  · rw [List.take_length, List.take_of_length_le h.k7]
  · rfl
theorem str_cell {w wr : World} {F : Nat → Prop} {p : Option Addr} {cap k : Nat} {e : List Tx} (h : StrsF w F (.slice p e.length cap) e) (hb : ∀ b, F b → wr.heap[b]? = w.heap[b]?) (hk : k < e.length) :
    ∃ b o, p = some ⟨b, o, none⟩ ∧ F b ∧ wr.cell? ⟨b, o + k, none⟩ = some (str e[k]) := by
  obtain ⟨p', cap', h1, _, h3⟩ := h
  simp only [Value.slice.injEq, true_and] at h1
  obtain ⟨rfl, rfl⟩ := h1
  obtain ⟨b, o, rfl, hF, hc⟩ := h3 (by omega)
  exact ⟨b, o, rfl, hF, (World.cell?_of_block (a := ⟨b, o + k, none⟩) (hb b hF)).trans (hc k _ (by simp [hk]))⟩
theorem mkc_take {t : Tx} {j : Nat} (h : j < t.length) : mkc (t.take (j + 1)) = mkc (t.take j) ++ [wb t[j]] := by
  unfold mkc
  rw [show t.take (j + 1) = t.take j ++ [t[j]] from (List.take_append_getElem h).symm, List.map_append]; rfl
theorem own_some {w : World} {B : Nat} {e : TypeId} {size n : Nat} {v : Value} {xs : List Value} (h : w.ownsRow B e size v n xs) (hn : 0 < n) : ∃ b, v.ownBlock = some b ∧ B ≤ b := by
  rcases h.2 with ⟨_, rfl⟩ | ⟨g, cap, cur, rfl, hb, _⟩
  · exact absurd hn (by omega)
  · exact ⟨g, rfl, hb⟩
theorem own_base {w : World} {B B' : Nat} {e : TypeId} {size n : Nat} {v : Value} {xs : List Value} (h : w.ownsRow B e size v n xs) (hB : B' ≤ B) : w.ownsRow B' e size v n xs := by
  obtain ⟨h1, h2⟩ := h
  refine ⟨h1, h2.imp id ?_⟩
  rintro ⟨b, cap, cur, rfl, e2, e3⟩
  exact ⟨b, cap, cur, rfl, Nat.le_trans hB e2, e3⟩
theorem two_segs {w : World} {ve : Value} {tg : Tx} {es : List (List Tx)} (h : ElsF w (· < w.heap.size) ve es) :
    SegsF (w.alloc (.cells #[str tg, ve, str tg, ve] 24)) (· < (w.alloc (.cells #[str tg, ve, str tg, ve] 24)).heap.size) (.slice (some ⟨w.heap.size, 0, none⟩) 2 2) [⟨tg, es⟩, ⟨tg, es⟩] := by
  have h' : ElsF (w.alloc (.cells #[str tg, ve, str tg, ve] 24)) (· < (w.alloc (.cells #[str tg, ve, str tg, ve] 24)).heap.size) ve es := h.kept (old_kept ((Below.refl _ _).alloc (Nat.le_refl _) _) (Nat.le_refl _))
  exact ⟨[str tg, ve, str tg, ve], row_lit (at_last _ _) (by simp) (Nat.le_refl _), rfl, h', rfl, h', True.intro⟩
theorem OwI.els_in {B g : Nat} {F : Nat → Prop} {l0 : List Sg} {tg : Tx} {es : List (List Tx)} {vo ve : Value} {w : World} (h : OwI B g F l0 tg es vo ve w) : ElsF w (· < w.heap.size) ve es := by
  obtain ⟨ys, b1, b2⟩ := h.els
  exact ⟨ys, row_own b1 (fun b e => (b1.lt b e).2), b2.kept (fun b hb => ⟨(h.fz b hb).2.1, rfl⟩)⟩
theorem wh_sane {l : List (List Tx)} (h : Wh l) : sane [whS l, whS l] := by
  have h3 := whS_short h
  exact sane_short (by simp) (by intro s hs; simp at hs; rw [hs]; exact h3)
theorem tx_cat (a b : Tx) : tx a ++ tx b = tx (a ++ b) := by
  apply ByteArray.ext
  simp [tx, ByteArray.data_append]
theorem tx_drop' (t : Tx) (k : Nat) : (tx t).extract k (tx t).size = tx (t.drop k) := by
  have h : (t.drop k).take (t.length - k) = t.drop k := List.take_of_length_le (by simp)
  simp [tx, ByteArray.ext_iff, ByteArray.size, h]
theorem ok_cat {w : World} {a b c : Tx} {y : ByteArray} (hy : y = tx b) (h : a ++ b = c) (hs : (tx a).size + y.size ≤ 9223372036854775807) {r : Result Next} :
    (if 9223372036854775807 < (tx a).size + y.size then r else Result.ok (Next.value (Value.string (tx a ++ y))) w) = Result.ok (Next.value (str c)) w := by
  subst hy
  rw [if_neg (by omega), tx_cat, h]
theorem wb_int (c : UInt8) : (32 + (c.toNat : Int) % 95) = ((wb c).toNat : Int) := by
  have h : ∀ n : Fin 256, 32 + (((UInt8.ofNat n).toNat : Int)) % 95 = ((wb (UInt8.ofNat n)).toNat : Int) := by decide +kernel
  have := h ⟨c.toNat, c.toNat_lt⟩
  simpa using this
set_option maxRecDepth 100000 in
set_option maxHeartbeats 6400000 in
theorem whole_walk (l : List (List Tx)) (v : Value) (w : World) (hv : ElsF w (· < w.heap.size) v l) :
    Calls Try.prog 3 #[v] w fun e w' => e = .returned (.bool true) ∧ Below w.heap.size w w' := by
  obtain ⟨xa, ⟨pa, capa, rfl, hna, hpa⟩, hxa⟩ := hv
  have HPA := Lib.hid hpa
  have HXA := Lib.hid hxa
  clear hpa hxa
  by_cases h16 : (16 : Int) < (l.length : Int)
  · go_enter Try.func3, Try.ntmps3
    go_wp2
    go_ret
    exact ⟨rfl, Below.refl _ _⟩
  have H16 := Lib.hid (show l.length ≤ 16 by omega)
  go_enter Try.func3, Try.ntmps3
  have HI0 := Lib.hid ((OwO.begin0 w.heap.size w).begin (Nat.le_refl _) [88, 57, 90])
  have HB0 := Lib.hid ((Below.refl w.heap.size w).alloc (Nat.le_refl _) (.cells #[str [88, 57, 90], .slice none 0 0] 24))
  go_wp2
  go_loopw [3, 5] (fun nv iv wr => ∃ (i : Nat) (F : Nat → Prop) (ve : Value), iv = .int .i64 i ∧ nv = .int .i64 ((szL (l.take i) : Nat) : Int) ∧ i ≤ l.length ∧ Hid (OwI w.heap.size w.heap.size F [] [88, 57, 90] ((l.take i).map mke) (.slice none 0 0) ve wr) ∧ Hid (Below w.heap.size w wr) ∧ Hid (Wh (l.take i)))
    (fun _ iv _ => l.length - (intOf iv).toNat)
  case atStart => exact ⟨0, _, _, rfl, rfl, Nat.zero_le _, HI0, HB0, Lib.hid wh_nil⟩
  case round =>
    clear HI0 HB0
    obtain ⟨i, F, ve, rfl, rfl, hi, HI, HB, HWH⟩ := hrel
    by_cases hlt : (i : Int) < (l.length : Int)
    · have hil : i < l.length := by omega
      have hi0 : (0 : Int) ≤ (i : Int) := Int.natCast_nonneg _
      obtain ⟨ba, oa, rfl, hFa, hca⟩ := HPA.out (by omega)
      obtain ⟨pe, cape, a1, _, hste⟩ := el_cell (wr := wr) hca HXA.out (HB.out.block ba hFa) hil
      have A1 : ∀ wz : World, Below w.heap.size w wz → wz.cell? ⟨ba, oa + i, none⟩ = some (.slice pe (l[i]'hil).length cape) := fun wz hz =>
        (World.cell?_of_block (a := ⟨ba, oa + i, none⟩) ((hz.block ba hFa).trans (HB.out.block ba hFa).symm)).trans a1
      have HA1 := Lib.hid A1
      have HSTE := Lib.hid hste
      have HWT := Lib.hid (fun h2 h3 => wh_take hil HWH.out H16.out h2 h3)
      have HTK := Lib.hid (show (l.take (i + 1)).map mke = (l.take i).map mke ++ [mke (l[i]'hil)] by rw [show l.take (i + 1) = l.take i ++ [l[i]'hil] from (List.take_append_getElem hil).symm, List.map_append]; rfl)
      have hsz : szL (l.take i) ≤ 2000 := HWH.out.s
      generalize l[i]'hil = e at *
      generalize szL (l.take i) = n0 at *
      clear A1 hste hca
      by_cases h8 : (8 : Int) < (e.length : Int)
      · go_wp2
        go_ret
        exact ⟨rfl, HB.out⟩
      have he8 : e.length ≤ 8 := by omega
      have HINE := Lib.hid (show InE e n0 0 from ⟨by omega, by omega, by simp, by simp [szK]; omega⟩)
      obtain ⟨wo, rfl⟩ : ∃ wo : World, wo = wr := ⟨_, rfl⟩
      have HS1 := Lib.hid (show wo.heap.size + 1 = (wo.alloc (.cells #[.string ⟨#[102, 105, 114, 115, 116]⟩] 9)).heap.size by simp)
      have HE0 := Lib.hid (World.ownsRow_lit (base := wo.heap.size) (e := 9) (size := 1) wo #[str fst5] 1 (Nat.le_refl _) (by decide) rfl)
      have HBE := Lib.hid ((Below.refl wo.heap.size wo).alloc (Nat.le_refl _) (.cells #[str fst5] 9))
      go_wp2
      go_loopw [3, 6, 7] (fun nv ev kv wk => ∃ (k m : Nat) (p : Option Addr) (cap : Nat), kv = .int .i64 k ∧ nv = .int .i64 (m : Int) ∧ ev = .slice p (k + 1) cap ∧ k ≤ e.length ∧ Hid (m = n0 + szK e k) ∧ Hid (InE e n0 k) ∧ Hid (wk.ownsRow wo.heap.size 9 1 (.slice p (k + 1) cap) (k + 1) ((fst5 :: (e.take k).map mkc).map str)) ∧ Hid (Below wo.heap.size wo wk))
        (fun _ _ kv _ => e.length - (intOf kv).toNat)
      case atStart => exact ⟨0, n0, _, _, rfl, rfl, rfl, Nat.zero_le _, Lib.hid (by simp [szK]), HINE, HE0, HBE⟩
      case round =>
        clear HINE HE0 HBE HS1
        obtain ⟨k, m, p, cap, rfl, rfl, rfl, hke, HM, HIN, HE, HBK⟩ := hrel
        have hk0 : (0 : Int) ≤ (k : Int) := Int.natCast_nonneg _
        have a2 := HA1.out wr (HB.out.trans (HBK.out.mono HB.out.size))
        by_cases hlk : (k : Int) < (e.length : Int)
        · have hkl : k < e.length := by omega
          by_cases hk7 : (k : Int) < 7
          · have hm2 : (m : Int) ≤ 2000 := by have := HM.out; have := HIN.out.s; omega
            have hm0 : (0 : Int) ≤ (m : Int) := Int.natCast_nonneg _
            obtain ⟨be, oe, rfl, hFe, b1⟩ := str_cell (wr := wr) HSTE.out (fun b hF => (HB.out.trans (HBK.out.mono HB.out.size)).block b hF) hkl
            have B1 : ∀ wz : World, Below w.heap.size w wz → wz.cell? ⟨be, oe + k, none⟩ = some (str (e[k]'hkl)) := fun wz hz =>
              (World.cell?_of_block (a := ⟨be, oe + k, none⟩) ((hz.block be hFe).trans ((HB.out.trans (HBK.out.mono HB.out.size)).block be hFe).symm)).trans b1
            have HB1 := Lib.hid B1
            have HNX := Lib.hid (fun h3 h4 => HIN.out.next hkl (by omega) h3 h4)
            have HSU := Lib.hid (szK_succ hkl)
            have HTE := Lib.hid (show (e.take (k + 1)) = e.take k ++ [e[k]'hkl] from (List.take_append_getElem hkl).symm)
            generalize e[k]'hkl = c at *
            clear B1
            have hsz2 : (tx c).size = c.length := tx_size c
            by_cases hc1 : (256 : Int) < (c.length : Int)
            · go_wp2
              go_ret
              exact ⟨rfl, HB.out.trans (HBK.out.mono HB.out.size)⟩
            by_cases hc2 : (2000 : Int) - (m : Int) < (c.length : Int)
            · go_wp2
              go_ret
              exact ⟨rfl, HB.out.trans (HBK.out.mono HB.out.size)⟩
            have hcl0 : (0 : Int) ≤ (c.length : Int) := Int.natCast_nonneg _
            have HN2 := Lib.hid (HNX.out (by omega) (by have := HM.out; omega))
            obtain ⟨mm, hmm⟩ : ∃ mm : Nat, (m : Int) + (c.length : Int) = (mm : Int) := ⟨m + c.length, by omega⟩
            have HMM := Lib.hid (show mm = n0 + szK e (k + 1) by have := HM.out; have := HSU.out; omega)
            go_wp2
            obtain ⟨wq, rfl⟩ : ∃ wq : World, wq = wr := ⟨_, rfl⟩
            have HBQ := Lib.hid (HB.out.trans (HBK.out.mono HB.out.size))
            go_loopw [8, 9] (fun bv jv wj => ∃ (j : Nat) (pj : Option Addr) (capj : Nat), jv = .int .i64 j ∧ bv = .slice pj j capj ∧ j ≤ c.length ∧ Hid (wj.ownsRow wq.heap.size 5 1 (.slice pj j capj) j (Lib.byteCells (mkc (c.take j)))) ∧ Hid (Below wq.heap.size wq wj))
              (fun _ jv _ => c.length - (intOf jv).toNat)
            case atStart => exact ⟨0, none, 0, rfl, rfl, Nat.zero_le _, Lib.hid (World.ownsRow_nil _ _ _ _), Lib.hid (Below.refl _ _)⟩
            case round =>
              obtain ⟨j, pj, capj, rfl, rfl, hjc, HJ, HBJ⟩ := hrel
              have hj0 : (0 : Int) ≤ (j : Int) := Int.natCast_nonneg _
              have a3 := HA1.out wr (HBQ.out.trans (HBJ.out.mono HBQ.out.size))
              have b3 := HB1.out wr (HBQ.out.trans (HBJ.out.mono HBQ.out.size))
              by_cases hlj : (j : Int) < (c.length : Int)
              · have hjl : j < c.length := by omega
                have hjz : j < (tx c).size := by omega
                have HKC := Lib.hid (mkc_take hjl)
                go_wp2_with (at_builtin; refine wl_app1 26 5 (.int .u8 0) 1 1 par_u8 Try.underlying26 rfl (by decide) (by decide) wq.heap.size (.slice pj j capj) j (Lib.byteCells (mkc (c.take j))) rfl (HJ.out.alloc _) wr.heap.size 1 [.int .u8 (32 + (((c[j]'hjl).toNat : Nat) : Int) % 95)] 5 (0, 0) rfl rfl (at_last _ _) (by intro u hu; simp at hu; subst hu; rfl) (by omega) (by have := HBJ.out.size; simp; omega) ?_)
                intro v' w2 ho hgr _
                obtain ⟨p', cap', rfl⟩ := own_slice ho
                have HBA := Lib.hid (below_app HBJ.out (Nat.le_refl _) hgr (fun k hk => (HJ.out.lt k hk).1))
                rw [wb_int] at ho
                have HOO := Lib.hid ho
                clear ho hgr
                go_wp2
                go_roundw
                case rel => exact ⟨j + 1, p', cap', by go_num, rfl, by omega, Lib.hid (by rw [HKC.out, ← cellsByte]; exact HOO.out), HBA⟩
                case measure => simp [intOf]; omega
              · obtain rfl : j = c.length := by omega
                have HBJ2 := Lib.hid (HBK.out.trans (HBJ.out.mono HBK.out.size))
                have hj2 := HJ.out
                rw [List.take_length] at hj2
                have hlm : (mkc c).length = c.length := by simp [mkc]
                rw [← hlm] at hj2
                have hcv := run_convW wr wq.heap.size _ (mkc c) hj2
                rw [hlm] at hcv
                have HE2 := Lib.hid (own_keep HE.out (fun b hb => HBJ.out.block b (HE.out.lt b hb).2))
                have hkn : k ≤ 7 := by omega
                clear hj2 hlm HBJ HJ
                go_wp2_with (at_builtin; refine wl_app1 25 9 (.string ⟨#[]⟩) 1 16 par_str Try.underlying25 rfl (by decide) (by decide) wo.heap.size (.slice p (k + 1) cap) (k + 1) ((fst5 :: (e.take k).map mkc).map str) rfl (HE2.out.alloc _) wr.heap.size 1 [str (mkc c)] 9 (0, 0) rfl rfl (at_last _ _) (by intro u hu; simp at hu; subst hu; rfl) (by omega) (by have := HBJ2.out.size; simp; omega) ?_)
                intro v' w2 ho hgr _
                obtain ⟨p', cap', rfl⟩ := own_slice ho
                have HBA := Lib.hid (below_app HBJ2.out (Nat.le_refl _) hgr (fun k hk => (HE2.out.lt k hk).1))
                have HOO := Lib.hid ho
                clear ho hgr
                go_wp2
                go_roundw
                case rel => exact ⟨k + 1, mm, p', cap', by go_num, rfl, rfl, by omega, HMM, HN2, Lib.hid (by rw [HTE.out]; simpa using HOO.out), HBA⟩
                case measure => simp [intOf]; omega
          · have HD := Lib.hid (show k = e.length ∨ k = 7 from .inr (by have := HIN.out.k7; omega))
            have hdn := HIN.out.done HD.out
            have hse : szE e = szK e k := by unfold szE szK; rw [hdn]
            obtain ⟨hw1, hw2⟩ := HWT.out (fun t ht => HIN.out.c t (by rw [hdn]; exact ht)) (by rw [hse]; exact HIN.out.s)
            have HW1 := Lib.hid hw1
            have HMS := Lib.hid (show m = szL (l.take (i + 1)) by rw [hw2, hse]; exact HM.out)
            have HME := Lib.hid (show mke e = fst5 :: (e.take k).map mkc by unfold mke; rw [hdn])
            have HEL := Lib.hid (show wr.ownsRow w.heap.size 9 1 (.slice p (k + 1) cap) (mke e).length ((mke e).map str) by
              have e9 : (fst5 :: (e.take k).map mkc).length = k + 1 := by simp; omega
              rw [HME.out, e9]; exact own_base HE.out HB.out.size)
            clear hw1 hw2 hse hdn
            obtain ⟨ys, hys, hyc⟩ := HI.out.els
            obtain ⟨pv, capv, rfl⟩ := own_slice hys
            have hnl : ((l.take i).map mke).length = i := by rw [List.length_map, List.length_take]; omega
            rw [hnl] at hys
            have HNL := Lib.hid hnl
            have HYS := Lib.hid hys
            have HYC := Lib.hid hyc
            obtain ⟨_, cg, fg, hglt⟩ := HI.out.cells
            have HGL := Lib.hid hglt
            have HG := Lib.hid (HBK.out.block w.heap.size hglt)
            have cgr : wr.cell? ⟨w.heap.size, 1, none⟩ = some (.slice pv i capv) := by have := (World.cell?_of_block (a := ⟨w.heap.size, 1, none⟩) HG.out).trans cg; rw [HNL.out] at this; exact this
            have HNG := Lib.hid (own_not HYS.out HI.out.hg (by decide))
            have HFG := Lib.hid fg
            have HYS2 := Lib.hid (own_keep HYS.out (fun b hb => HBK.out.block b (HYS.out.lt b hb).2))
            clear hys hyc cg fg hglt hnl
            go_wp2_with (at_builtin; refine wl_app1 22 25 (.slice none 0 0) 1 24 par_strs Try.underlying22 rfl (by decide) (by decide) w.heap.size (.slice pv i capv) i ys rfl (HYS2.out.alloc _) wr.heap.size 1 [.slice p (k + 1) cap] 25 (0, 0) rfl rfl (at_last _ _) (by intro u hu; simp at hu; subst hu; rfl) (by have := H16.out; omega) (by have := HB.out.size; have := HBK.out.size; simp; omega) ?_)
            intro v' w4 ho hgr hbk
            obtain ⟨p', cap', rfl⟩ := own_slice ho
            have hg4 : w4.heap[w.heap.size]? = wo.heap[w.heap.size]? := (hgr.block _ (by have := HGL.out; have := HBK.out.size; simp; omega) HNG.out).trans ((Below.heap_alloc _ _ _ (by have := HGL.out; have := HBK.out.size; omega)).trans HG.out)
            have C5 : w4.cell? ⟨w.heap.size, 1, none⟩ = some (.slice pv i capv) := by have := (World.cell?_of_block (a := ⟨w.heap.size, 1, none⟩) (hg4.trans HG.out.symm)).trans cgr; exact this
            have F5 : w4.frozen? ⟨w.heap.size, 1, none⟩ = false := (World.frozen?_of_block (a := ⟨w.heap.size, 1, none⟩) hg4).trans HFG.out
            obtain ⟨k1, hk1, hk1b⟩ := own_some HE.out (Nat.succ_pos k)
            have HSZ := Lib.hid (show (wr.alloc (.cells #[.slice p (k + 1) cap] 25)).heap.size = wr.heap.size + 1 by simp)
            have HOI := Lib.hid (HI.out.elem (e := mke e) (by rw [HNL.out]; exact HYS.out) HYC.out hk1 hk1b HEL.out (fun b hb => HBK.out.block b hb) HBK.out.size (by rw [HNL.out]; exact ho) (by rw [HNL.out]; exact hgr) (by rw [HNL.out, HSZ.out]; exact hbk))
            have HB4 := Lib.hid (show Below w.heap.size w (w4.setCell ⟨w.heap.size, 1, none⟩ (.slice p' (i + 1) cap')) from (((HB.out.trans (HBK.out.mono HB.out.size)).alloc (by have := HB.out.size; have := HBK.out.size; omega) _).grown hgr (by have := HB.out.size; have := HBK.out.size; simp; omega) (fun k hk => (HYS.out.lt k hk).1)).setCell (Nat.le_refl w.heap.size) _)
            clear ho hgr hbk hk1 hk1b hg4
            go_wp2
            go_roundw
            case rel => exact ⟨i + 1, _, _, by go_num, by rw [HMS.out], by omega, Lib.hid (by rw [HTK.out]; exact HOI.out), HB4, HW1⟩
            case measure => simp [intOf]; omega
        · have HD := Lib.hid (show k = e.length ∨ k = 7 from .inl (by omega))
          have hdn := HIN.out.done HD.out
          have hse : szE e = szK e k := by unfold szE szK; rw [hdn]
          obtain ⟨hw1, hw2⟩ := HWT.out (fun t ht => HIN.out.c t (by rw [hdn]; exact ht)) (by rw [hse]; exact HIN.out.s)
          have HW1 := Lib.hid hw1
          have HMS := Lib.hid (show m = szL (l.take (i + 1)) by rw [hw2, hse]; exact HM.out)
          have HME := Lib.hid (show mke e = fst5 :: (e.take k).map mkc by unfold mke; rw [hdn])
          have HEL := Lib.hid (show wr.ownsRow w.heap.size 9 1 (.slice p (k + 1) cap) (mke e).length ((mke e).map str) by
            have e9 : (fst5 :: (e.take k).map mkc).length = k + 1 := by simp; omega
            rw [HME.out, e9]; exact own_base HE.out HB.out.size)
          clear hw1 hw2 hse hdn
          obtain ⟨ys, hys, hyc⟩ := HI.out.els
          obtain ⟨pv, capv, rfl⟩ := own_slice hys
          have hnl : ((l.take i).map mke).length = i := by rw [List.length_map, List.length_take]; omega
          rw [hnl] at hys
          have HNL := Lib.hid hnl
          have HYS := Lib.hid hys
          have HYC := Lib.hid hyc
          obtain ⟨_, cg, fg, hglt⟩ := HI.out.cells
          have HGL := Lib.hid hglt
          have HG := Lib.hid (HBK.out.block w.heap.size hglt)
          have cgr : wr.cell? ⟨w.heap.size, 1, none⟩ = some (.slice pv i capv) := by have := (World.cell?_of_block (a := ⟨w.heap.size, 1, none⟩) HG.out).trans cg; rw [HNL.out] at this; exact this
          have HNG := Lib.hid (own_not HYS.out HI.out.hg (by decide))
          have HFG := Lib.hid fg
          have HYS2 := Lib.hid (own_keep HYS.out (fun b hb => HBK.out.block b (HYS.out.lt b hb).2))
          clear hys hyc cg fg hglt hnl
          go_wp2_with (at_builtin; refine wl_app1 22 25 (.slice none 0 0) 1 24 par_strs Try.underlying22 rfl (by decide) (by decide) w.heap.size (.slice pv i capv) i ys rfl (HYS2.out.alloc _) wr.heap.size 1 [.slice p (k + 1) cap] 25 (0, 0) rfl rfl (at_last _ _) (by intro u hu; simp at hu; subst hu; rfl) (by have := H16.out; omega) (by have := HB.out.size; have := HBK.out.size; simp; omega) ?_)
          intro v' w4 ho hgr hbk
          obtain ⟨p', cap', rfl⟩ := own_slice ho
          have hg4 : w4.heap[w.heap.size]? = wo.heap[w.heap.size]? := (hgr.block _ (by have := HGL.out; have := HBK.out.size; simp; omega) HNG.out).trans ((Below.heap_alloc _ _ _ (by have := HGL.out; have := HBK.out.size; omega)).trans HG.out)
          have C5 : w4.cell? ⟨w.heap.size, 1, none⟩ = some (.slice pv i capv) := by have := (World.cell?_of_block (a := ⟨w.heap.size, 1, none⟩) (hg4.trans HG.out.symm)).trans cgr; exact this
          have F5 : w4.frozen? ⟨w.heap.size, 1, none⟩ = false := (World.frozen?_of_block (a := ⟨w.heap.size, 1, none⟩) hg4).trans HFG.out
          obtain ⟨k1, hk1, hk1b⟩ := own_some HE.out (Nat.succ_pos k)
          have HSZ := Lib.hid (show (wr.alloc (.cells #[.slice p (k + 1) cap] 25)).heap.size = wr.heap.size + 1 by simp)
          have HOI := Lib.hid (HI.out.elem (e := mke e) (by rw [HNL.out]; exact HYS.out) HYC.out hk1 hk1b HEL.out (fun b hb => HBK.out.block b hb) HBK.out.size (by rw [HNL.out]; exact ho) (by rw [HNL.out]; exact hgr) (by rw [HNL.out, HSZ.out]; exact hbk))
          have HB4 := Lib.hid (show Below w.heap.size w (w4.setCell ⟨w.heap.size, 1, none⟩ (.slice p' (i + 1) cap')) from (((HB.out.trans (HBK.out.mono HB.out.size)).alloc (by have := HB.out.size; have := HBK.out.size; omega) _).grown hgr (by have := HB.out.size; have := HBK.out.size; simp; omega) (fun k hk => (HYS.out.lt k hk).1)).setCell (Nat.le_refl w.heap.size) _)
          clear ho hgr hbk hk1 hk1b hg4
          go_wp2
          go_roundw
          case rel => exact ⟨i + 1, _, _, by go_num, by rw [HMS.out], by omega, Lib.hid (by rw [HTK.out]; exact HOI.out), HB4, HW1⟩
          case measure => simp [intOf]; omega
    · obtain rfl : i = l.length := by omega
      rw [List.take_length] at HI HWH
      obtain ⟨ys, hys, _⟩ := HI.out.els
      rw [List.length_map] at hys
      obtain ⟨pv, capv, rfl⟩ := own_slice hys
      obtain ⟨cg0, cg, fg, hglt⟩ := HI.out.cells
      have HPR := Lib.hid (wh_print HWH.out)
      have HPA2 := Lib.hid (show parseL (whT l ++ 10 :: 10 :: (whT l ++ [10])) = ([whS l, whS l], 0, 0) by have := wh_parse HWH.out; simpa using this)
      have HHA := Lib.hid (wh_half l)
      have HSN := Lib.hid (wh_sane HWH.out)
      have HTS := Lib.hid (two_segs (tg := [88, 57, 90]) HI.out.els_in)
      have HEI := Lib.hid HI.out.els_in
      have HTL := Lib.hid (whT_len HWH.out)
      have HGL := Lib.hid hglt
      clear hys hglt fg
      have HB1 := Lib.hid (HB.out.alloc HB.out.size (.cells #[str [88, 57, 90], .slice pv l.length capv, str [88, 57, 90], .slice pv l.length capv] 24))
      have HPC := Lib.hid (print_any [whS l, whS l] _ _ HTS.out HSN.out)
      rw [HPR.out] at HPC
      go_wp2_with fail
      go_at_call 5
      refine (HPC.out).mono ?_
      rintro e w1 ⟨rfl, hb1⟩
      have HB2 := Lib.hid (HB1.out.trans (hb1.mono HB1.out.size))
      have HKW := Lib.hid (show ∀ b, b < wr.heap.size → w1.heap[b]? = wr.heap[b]? from fun b hb => (hb1.block b (by simp; omega)).trans (Below.heap_alloc _ _ _ hb))
      have HSW := Lib.hid (show wr.heap.size ≤ w1.heap.size by have := hb1.size; simp at this; omega)
      clear hb1
      go_wp2
      have hn : (whT l).length ≤ 5000 := HTL.out
      obtain ⟨n, hnl⟩ : ∃ n, n = (whT l).length := ⟨_, rfl⟩
      have HNL := Lib.hid hnl
      have HSZ := Lib.hid (show (tx (whT l ++ whT l)).size = 2 * n by rw [tx_size, List.length_append, hnl]; omega)
      have hn5 : (n : Int) ≤ 5000 := by omega
      have hn0 : (0 : Int) ≤ (n : Int) := Int.natCast_nonneg _
      clear hn hnl
      have hwn : IntKind.i64.wrap (n : Int) = (n : Int) := by rw [IntKind.wrap_i64]; omega
      have HT1 := Lib.hid (show (tx (whT l ++ whT l)).extract 0 n = tx (whT l) by rw [tx_take, HNL.out, HHA.out.2.1])
      have HT2 := Lib.hid (show (tx (whT l ++ whT l)).extract n (tx (whT l ++ whT l)).size = tx (whT l) by rw [tx_drop', HNL.out, HHA.out.2.2])
      have HS1 := Lib.hid (show (tx (whT l)).size + (tx [10, 10]).size ≤ 9223372036854775807 by rw [tx_size, tx_size, ← HNL.out]; simp; omega)
      have HS2 := Lib.hid (show (tx (whT l ++ [10, 10])).size + (tx (whT l)).size ≤ 9223372036854775807 by rw [tx_size, tx_size, List.length_append, ← HNL.out]; simp; omega)
      have HS3 := Lib.hid (show (tx (whT l ++ 10 :: 10 :: whT l)).size + (tx [10]).size ≤ 9223372036854775807 by rw [tx_size, tx_size]; simp; rw [← HNL.out]; omega)
      refine wp_region_held (S := fun _ => True) (by kernel_rfl) ?_
      refine wpAnyH_take (i := 0) (oi := ⟨some 122, .move (.tmp 10), _, _, _, none⟩) (v := str (whT l ++ whT l)) rfl (by kernel_rfl) (by kernel_rfl) (by kernel_rfl) (fun _ _ _ h => h) (Or.inl ⟨by rfl, fun w' _ => by go_simp⟩) True.intro ?_
      simp only [Act.put, List.setIfInBounds_toArray, List.set_cons_zero, List.set_cons_succ]
      refine wpAnyH_take (i := 1) (oi := ⟨some 123, .move (.tmp 10), _, _, _, none⟩) (v := str (whT l ++ whT l)) rfl (by kernel_rfl) (by kernel_rfl) (by kernel_rfl) (fun _ _ _ h => h) (Or.inl ⟨by rfl, fun w' _ => by go_simp⟩) True.intro ?_
      simp only [Act.put, List.setIfInBounds_toArray, List.set_cons_zero, List.set_cons_succ]
      refine wpAnyH_take (i := 2) (oi := ⟨some 124, .call ⟨.builtin .len, #[.tmp 123], _⟩, _, _, _, none⟩) (v := .int .i64 (2 * (n : Int))) rfl (by kernel_rfl) (by kernel_rfl) (by kernel_rfl) (fun _ _ _ h => h) (Or.inl ⟨by rfl, fun w' _ => by go_simp; rw [HSZ.out]; rfl⟩) True.intro ?_
      simp only [Act.put, List.setIfInBounds_toArray, List.set_cons_zero, List.set_cons_succ]
      refine wpAnyH_take (i := 3) (oi := ⟨some 125, .binOp .quo 3 (.tmp 124) (.const (.int .i64 2)) 3, _, _, _, none⟩) (v := .int .i64 (n : Int)) rfl (by kernel_rfl) (by kernel_rfl) (by kernel_rfl) (fun _ _ _ h => h) (Or.inl ⟨by rfl, fun w' _ => by go_simp⟩) True.intro ?_
      simp only [Act.put, List.setIfInBounds_toArray, List.set_cons_zero, List.set_cons_succ]
      refine wpAnyH_take (i := 4) (oi := ⟨some 126, .slice 9 (.tmp 122) none (some (.tmp 125)) none, _, _, _, none⟩) (v := str (whT l)) rfl (by kernel_rfl) (by kernel_rfl) (by kernel_rfl) (fun _ _ _ h => h) (Or.inl ⟨by rfl, fun w' _ => by go_simp; rw [if_pos (by rw [HSZ.out]; omega), HT1.out]⟩) True.intro ?_
      simp only [Act.put, List.setIfInBounds_toArray, List.set_cons_zero, List.set_cons_succ]
      refine wpAnyH_take (i := 5) (oi := ⟨some 127, .binOp .add 9 (.tmp 126) (.const (.string ⟨#[10, 10]⟩)) 9, _, _, _, none⟩) (v := str (whT l ++ [10, 10])) rfl (by kernel_rfl) (by kernel_rfl) (by kernel_rfl) (fun _ _ _ h => h) (Or.inl ⟨by rfl, fun w' _ => by go_simp; exact ok_cat (b := [10, 10]) rfl rfl HS1.out⟩) True.intro ?_
      simp only [Act.put, List.setIfInBounds_toArray, List.set_cons_zero, List.set_cons_succ]
      refine wpAnyH_take (i := 6) (oi := ⟨some 128, .move (.tmp 10), _, _, _, none⟩) (v := str (whT l ++ whT l)) rfl (by kernel_rfl) (by kernel_rfl) (by kernel_rfl) (fun _ _ _ h => h) (Or.inl ⟨by rfl, fun w' _ => by go_simp⟩) True.intro ?_
      simp only [Act.put, List.setIfInBounds_toArray, List.set_cons_zero, List.set_cons_succ]
      refine wpAnyH_take (i := 7) (oi := ⟨some 129, .move (.tmp 10), _, _, _, none⟩) (v := str (whT l ++ whT l)) rfl (by kernel_rfl) (by kernel_rfl) (by kernel_rfl) (fun _ _ _ h => h) (Or.inl ⟨by rfl, fun w' _ => by go_simp⟩) True.intro ?_
      simp only [Act.put, List.setIfInBounds_toArray, List.set_cons_zero, List.set_cons_succ]
      refine wpAnyH_take (i := 8) (oi := ⟨some 130, .call ⟨.builtin .len, #[.tmp 129], _⟩, _, _, _, none⟩) (v := .int .i64 (2 * (n : Int))) rfl (by kernel_rfl) (by kernel_rfl) (by kernel_rfl) (fun _ _ _ h => h) (Or.inl ⟨by rfl, fun w' _ => by go_simp; rw [HSZ.out]; rfl⟩) True.intro ?_
      simp only [Act.put, List.setIfInBounds_toArray, List.set_cons_zero, List.set_cons_succ]
      refine wpAnyH_take (i := 9) (oi := ⟨some 131, .binOp .quo 3 (.tmp 130) (.const (.int .i64 2)) 3, _, _, _, none⟩) (v := .int .i64 (n : Int)) rfl (by kernel_rfl) (by kernel_rfl) (by kernel_rfl) (fun _ _ _ h => h) (Or.inl ⟨by rfl, fun w' _ => by go_simp⟩) True.intro ?_
      simp only [Act.put, List.setIfInBounds_toArray, List.set_cons_zero, List.set_cons_succ]
      refine wpAnyH_take (i := 10) (oi := ⟨some 132, .slice 9 (.tmp 128) (some (.tmp 131)) none none, _, _, _, none⟩) (v := str (whT l)) rfl (by kernel_rfl) (by kernel_rfl) (by kernel_rfl) (fun _ _ _ h => h) (Or.inl ⟨by rfl, fun w' _ => by go_simp; rw [if_pos (by rw [HSZ.out]; omega), HT2.out]⟩) True.intro ?_
      simp only [Act.put, List.setIfInBounds_toArray, List.set_cons_zero, List.set_cons_succ]
      refine wpAnyH_take (i := 11) (oi := ⟨some 133, .binOp .add 9 (.tmp 127) (.tmp 132) 9, _, _, _, none⟩) (v := str (whT l ++ 10 :: 10 :: whT l)) rfl (by kernel_rfl) (by kernel_rfl) (by kernel_rfl) (fun _ _ _ h => h) (Or.inl ⟨by rfl, fun w' _ => by go_simp; exact ok_cat (b := whT l) rfl (by simp) HS2.out⟩) True.intro ?_
      simp only [Act.put, List.setIfInBounds_toArray, List.set_cons_zero, List.set_cons_succ]
      refine wpAnyH_take (i := 12) (oi := ⟨some 134, .binOp .add 9 (.tmp 133) (.const (.string ⟨#[10]⟩)) 9, _, _, _, none⟩) (v := str (whT l ++ 10 :: 10 :: (whT l ++ [10]))) rfl (by kernel_rfl) (by kernel_rfl) (by kernel_rfl) (fun _ _ _ h => h) (Or.inl ⟨by rfl, fun w' _ => by go_simp; exact ok_cat (b := [10]) rfl (by simp) HS3.out⟩) True.intro ?_
      simp only [Act.put, List.setIfInBounds_toArray, List.set_cons_zero, List.set_cons_succ]
      refine wpAnyH_ready (rs := [13]) (by kernel_rfl) (by simp) (AllReadyH.cons (o := ⟨some 135, .call ⟨.value (.func 6), #[.tmp 134], _⟩, _, _, _, none⟩) rfl (fun K hK => ?_) AllReadyH.nil)
      go_simp
      refine (parse_any _ _).mono ?_
      rintro e w2 hpa3
      unfold PaAt at hpa3
      rw [HPA2.out] at hpa3
      obtain ⟨⟨v3, F3, rfl, hs3, hF3⟩, hb3⟩ := hpa3
      obtain ⟨p3, cap3, rfl⟩ := segs_slice hs3
      have HS3 := Lib.hid (hs3.kept (F' := (· < w2.heap.size)) (fun b hb => ⟨(hF3 b hb).2, rfl⟩))
      have HB3 := Lib.hid (HB2.out.trans (Below.mono (w := w1) ⟨hb3.os, hb3.tape, hb3.output, hb3.size, hb3.block⟩ HB2.out.size))
      have HK2 := Lib.hid (show ∀ b, b < wr.heap.size → w2.heap[b]? = wr.heap[b]? from fun b hb => (hb3.block b (Nat.lt_of_lt_of_le hb HSW.out)).trans (HKW.out b hb))
      have HSZ2 := Lib.hid (show wr.heap.size ≤ w2.heap.size from Nat.le_trans HSW.out hb3.size)
      clear hs3 hF3 hb3
      refine hK.out _ _ True.intro (fun _ => ?_)
      clear hK K
      refine wpAnyH_take (i := 14) (oi := ⟨some 121, .move (.tmp 135), _, _, _, none⟩) (v := .tuple #[.slice p3 2 cap3, .int .i64 0, .int .i64 0]) rfl (by kernel_rfl) (by kernel_rfl) (by kernel_rfl) (fun _ _ _ h => h) (Or.inl ⟨by rfl, fun w' _ => by go_simp⟩) True.intro ?_
      simp only [Act.put, List.setIfInBounds_toArray, List.set_cons_zero, List.set_cons_succ]
      refine wpAnyH_take (i := 15) (oi := ⟨some 136, .extract (.tmp 121) 0, _, _, _, none⟩) (v := .slice p3 2 cap3) rfl (by kernel_rfl) (by kernel_rfl) (by kernel_rfl) (fun _ _ _ h => h) (Or.inl ⟨by rfl, fun w' _ => by go_simp⟩) True.intro ?_
      simp only [Act.put, List.setIfInBounds_toArray, List.set_cons_zero, List.set_cons_succ]
      refine wpAnyH_take (i := 16) (oi := ⟨some 137, .extract (.tmp 121) 1, _, _, _, none⟩) (v := .int .i64 0) rfl (by kernel_rfl) (by kernel_rfl) (by kernel_rfl) (fun _ _ _ h => h) (Or.inl ⟨by rfl, fun w' _ => by go_simp⟩) True.intro ?_
      simp only [Act.put, List.setIfInBounds_toArray, List.set_cons_zero, List.set_cons_succ]
      refine wpAnyH_take (i := 17) (oi := ⟨some 138, .extract (.tmp 121) 2, _, _, _, none⟩) (v := .int .i64 0) rfl (by kernel_rfl) (by kernel_rfl) (by kernel_rfl) (fun _ _ _ h => h) (Or.inl ⟨by rfl, fun w' _ => by go_simp⟩) True.intro ?_
      simp only [Act.put, List.setIfInBounds_toArray, List.set_cons_zero, List.set_cons_succ]
      refine wpAnyH_take (i := 18) (oi := ⟨some 12, .assign (.tmp 136), _, _, _, none⟩) (v := .slice p3 2 cap3) rfl (by kernel_rfl) (by kernel_rfl) (by kernel_rfl) (fun _ _ _ h => h) (Or.inl ⟨by rfl, fun w' _ => by go_simp⟩) True.intro ?_
      simp only [Act.put, List.setIfInBounds_toArray, List.set_cons_zero, List.set_cons_succ]
      refine wpAnyH_take (i := 19) (oi := ⟨some 13, .assign (.tmp 137), _, _, _, none⟩) (v := .int .i64 0) rfl (by kernel_rfl) (by kernel_rfl) (by kernel_rfl) (fun _ _ _ h => h) (Or.inl ⟨by rfl, fun w' _ => by go_simp⟩) True.intro ?_
      simp only [Act.put, List.setIfInBounds_toArray, List.set_cons_zero, List.set_cons_succ]
      refine wpAnyH_take (i := 20) (oi := ⟨some 14, .assign (.tmp 138), _, _, _, none⟩) (v := .int .i64 0) rfl (by kernel_rfl) (by kernel_rfl) (by kernel_rfl) (fun _ _ _ h => h) (Or.inl ⟨by rfl, fun w' _ => by go_simp⟩) True.intro ?_
      simp only [Act.put, List.setIfInBounds_toArray, List.set_cons_zero, List.set_cons_succ]
      refine wpAnyH_done (by kernel_rfl) ?_ _
      have d0 : w2.cell? ⟨w.heap.size, 0, none⟩ = some (str [88, 57, 90]) := (World.cell?_of_block (a := ⟨w.heap.size, 0, none⟩) (HK2.out _ HGL.out)).trans cg0
      have d1 : w2.cell? ⟨w.heap.size, 1, none⟩ = some (.slice pv l.length capv) := (World.cell?_of_block (a := ⟨w.heap.size, 1, none⟩) (HK2.out _ HGL.out)).trans cg
      have HEI2 := Lib.hid (ElsF.kept (F' := (· < w2.heap.size)) (w' := w2) HEI.out (fun b hb => ⟨Nat.lt_of_lt_of_le hb HSZ2.out, HK2.out b hb⟩))
      have HTS2 := Lib.hid (two_segs (tg := [88, 57, 90]) HEI2.out)
      have HS4 := Lib.hid (HS3.out.later ((Below.refl w2.heap.size w2).alloc (Nat.le_refl _) (.cells #[str [88, 57, 90], .slice pv l.length capv, str [88, 57, 90], .slice pv l.length capv] 24)))
      have HSM := Lib.hid (same_any [whS l, whS l] _ _ _ HS4.out HTS2.out HSN.out)
      have HB4 := Lib.hid (HB3.out.alloc HB3.out.size (.cells #[str [88, 57, 90], .slice pv l.length capv, str [88, 57, 90], .slice pv l.length capv] 24))
      clear cg0 cg
      go_wp2_with fail
      go_at_call 7
      refine (HSM.out).mono ?_
      rintro e w3 ⟨rfl, hb5⟩
      have HB5 := Lib.hid (HB4.out.trans (hb5.mono HB4.out.size))
      clear hb5
      have HRD := Lib.hid (reads_any w3)
      go_wp2_with (go_at_call 8; refine (HRD.out).mono ?_; rintro e w4 ⟨rfl, hb6⟩)
      go_ret
      exact ⟨rfl, HB5.out.trans (hb6.mono HB5.out.size)⟩
end Go.Proofs.Ytpimjoikoiollaa
