/- The walk of EdiOwn: what is told is spoilt; what was told again is not touched by it. -/
import Derived.Test.YtmhmjbjkbnnmhaaEdiP
import Derived.Test.YtmhmjbjkbnnmhaaEdiOw
import Derived.Test.YtmhmjbjkbnnmhaaEdiSm
import Derived.Test.YtmhmjbjkbnnmhaaEdiRd
import Derived.Test.YtmhmjbjkbnnmhaaEdiSn
import Derived.Deep.RegionLaw
namespace Go.Proofs.Ytmhmjbjkbnnmhaa
open Go.RowKit Go.Edi

theorem small_told (t : Tx) : small (parseL t).1 := by
  by_cases h : (parseL t).2.2 = 0
  · obtain ⟨_, h2, _⟩ := parse_ok h
    have hi := run_inv t s0 0 good_s0 (by rw [h2])
    rw [h2] at hi
    have h1 : (parseL t).1.length ≤ 64 := hi.1.2.1
    refine ⟨by omega, fun s hs => ?_⟩
    have := (hi.1.1 s hs).2.2
    simp only [shortS, shortE, Bool.and_eq_true, decide_eq_true_eq, List.all_eq_true] at this
    exact ⟨by omega, fun e he => by have := (this.2 e he).1; omega⟩
  · rw [parse_bad h]; exact ⟨by simp, fun s hs => by simp at hs⟩
/-- while what was told first is spoilt: what was told next is as it was, the first one's segments still lead to their elements, and the blocks of R are untouched -/
structure OI (h0 h1 h2 : Nat) (w w1 w2 : World) (va : Value) (n : Nat) (xs : List Value) (R : Nat → Prop) (wr : World) : Prop where
  ord : h0 ≤ h1 ∧ h1 ≤ h2
  bel : Below h0 w wr
  new : ∀ b, h1 ≤ b → b < h2 → wr.heap[b]? = w2.heap[b]?
  size : h2 ≤ wr.heap.size
  seg : ∃ xs', wr.ownsRow h0 28 2 va n xs' ∧ ∀ i, xs'[2 * i + 1]? = xs[2 * i + 1]?
  rest : ∀ b, R b → b < h1 ∧ wr.heap[b]? = w1.heap[b]?
section
variable {h0 h1 h2 n : Nat} {w w1 w2 wr wr' : World} {va : Value} {xs : List Value} {R R' : Nat → Prop}
theorem OI.grown (h : OI h0 h1 h2 w w1 w2 va n xs R wr) {row : Option Nat} (hg : wr.grownBy wr' row) (hrow : ∀ c, row = some c → h0 ≤ c ∧ c < h1 ∧ ¬ R' c ∧ va.ownBlock ≠ some c) (hR : ∀ b, R' b → R b) : OI h0 h1 h2 w w1 w2 va n xs R' wr' := by
  have ho := h.ord
  have hs := h.size
  refine ⟨ho, h.bel.grown hg (by omega) (fun k hk => (hrow k hk).1), fun b b1 b2 => (hg.block b (by omega) (fun e => ?_)).trans (h.new b b1 b2), Nat.le_trans hs hg.size, ?_, fun b hb => ⟨(h.rest b (hR b hb)).1, (hg.block b ?_ (fun e => ?_)).trans (h.rest b (hR b hb)).2⟩⟩
  · have := (hrow b e.symm).2.1; omega
  · obtain ⟨xs', a1, a2⟩ := h.seg
    refine ⟨xs', a1.kept hg ?_, a2⟩
    cases hv : va.ownBlock with
    | none => exact .inl rfl
    | some c => exact .inr (fun e => (hrow c e.symm).2.2.2 hv)
  · have := (h.rest b (hR b hb)).1; omega
  · exact (hrow b e.symm).2.2.1 hb
theorem OI.drew (h : OI h0 h1 h2 w w1 w2 va n xs R wr) : OI h0 h1 h2 w w1 w2 va n xs R wr.drew := by
  obtain ⟨xs', a1, a2⟩ := h.seg
  exact ⟨h.ord, h.bel.drew, h.new, h.size, ⟨xs', own_keep a1 (fun _ _ => rfl), a2⟩, h.rest⟩
theorem OI.alloc (h : OI h0 h1 h2 w w1 w2 va n xs R wr) (o : Obj) : OI h0 h1 h2 w w1 w2 va n xs R (wr.alloc o) := by
  have ho := h.ord
  have hs := h.size
  obtain ⟨xs', a1, a2⟩ := h.seg
  refine ⟨ho, h.bel.alloc (by omega) o, fun b b1 b2 => (Below.heap_alloc _ _ _ (by omega)).trans (h.new b b1 b2), by simp; omega, ⟨xs', a1.alloc o, a2⟩, fun b hb => ⟨(h.rest b hb).1, (Below.heap_alloc _ _ _ (by have := (h.rest b hb).1; omega)).trans (h.rest b hb).2⟩⟩
theorem OI.less (h : OI h0 h1 h2 w w1 w2 va n xs R wr) (hR : ∀ b, R' b → R b) : OI h0 h1 h2 w w1 w2 va n xs R' wr :=
  ⟨h.ord, h.bel, h.new, h.size, h.seg, fun b hb => h.rest b (hR b hb)⟩
theorem OI.cell {bs cap i : Nat} {ve : Value} (h : OI h0 h1 h2 w w1 w2 (.slice (some ⟨bs, 0, none⟩) n cap) n xs R wr) (hi : i < n) (hx : xs[2 * i + 1]? = some ve) : wr.cell? ⟨bs, i * 2 + 1, none⟩ = some ve := by
  obtain ⟨xs', a1, a2⟩ := h.seg
  rw [a1.cellAt (i * 2 + 1) (by omega), Nat.mul_comm i 2, a2, hx]
theorem own_has {w : World} {B : Nat} {e : TypeId} {size n g cap : Nat} {xs : List Value} (h : w.ownsRow B e size (.slice (some ⟨g, 0, none⟩) n cap) n xs) (j : Nat) (hj : j < n * size) : ∃ u, w.cell? ⟨g, j, none⟩ = some u :=
  ⟨_, (h.cellAt j hj).trans (List.getElem?_eq_getElem (by rw [h.1]; exact hj))⟩
theorem OI.has {bs cap i : Nat} (h : OI h0 h1 h2 w w1 w2 (.slice (some ⟨bs, 0, none⟩) n cap) n xs R wr) (hi : i < n) : ∃ u, wr.cell? ⟨bs, i * 2, none⟩ = some u := by
  obtain ⟨xs', a1, a2⟩ := h.seg
  exact own_has a1 (i * 2) (by omega)
theorem OI.frozen {bs cap : Nat} (h : OI h0 h1 h2 w w1 w2 (.slice (some ⟨bs, 0, none⟩) n cap) n xs R wr) (j : Nat) : wr.frozen? ⟨bs, j, none⟩ = false := by
  obtain ⟨xs', a1, _⟩ := h.seg
  exact a1.frozenAt j
theorem OI.tag {bs cap : Nat} (h : OI h0 h1 h2 w w1 w2 (.slice (some ⟨bs, 0, none⟩) n cap) n xs R wr) (i : Nat) (u : Value) (hbs : h0 ≤ bs ∧ bs < h1) (hR : ∀ b, R' b → R b ∧ b ≠ bs) : OI h0 h1 h2 w w1 w2 (.slice (some ⟨bs, 0, none⟩) n cap) n xs R' (wr.setCell ⟨bs, i * 2, none⟩ u) := by
  obtain ⟨xs', a1, a2⟩ := h.seg
  obtain ⟨s1, s2⟩ := a1.stored (i * 2) u
  have ho := h.ord
  have hs := h.size
  refine ⟨ho, h.bel.setCell hbs.1 u, fun b b1 b2 => (s2.block b (by omega) (fun e => ?_)).trans (h.new b b1 b2), Nat.le_trans hs s2.size, ⟨_, s1, fun k => ?_⟩, fun b hb => ⟨(h.rest b (hR b hb).1).1, (s2.block b ?_ (fun e => ?_)).trans (h.rest b (hR b hb).1).2⟩⟩
  · simp only [Option.some.injEq] at e; omega
  · rw [List.getElem?_set_ne (by omega)]; exact a2 k
  · have := (h.rest b (hR b hb).1).1; omega
  · simp only [Option.some.injEq] at e; exact (hR b hb).2 e
end
/-- the blocks that are still untouched ahead of segment i; ahead of its element k -/
def R0 (F : Nat → Prop) (φ : Nat → Nat × Nat) (va : Value) (i b : Nat) : Prop := F b ∧ va.ownBlock ≠ some b ∧ i ≤ (φ b).1
def R1 (F : Nat → Prop) (φ : Nat → Nat × Nat) (va : Value) (i k b : Nat) : Prop := F b ∧ va.ownBlock ≠ some b ∧ (i + 1 ≤ (φ b).1 ∨ ((φ b).1 = i ∧ k + 1 ≤ (φ b).2))
/-- an element's row, from k on as it was -/
def Er (h0 : Nat) (ve : Value) (m : Nat) (ys : List Value) (k : Nat) (wr : World) : Prop := ∃ ys', wr.ownsRow h0 29 1 ve m ys' ∧ ∀ j, k ≤ j → ys'[j]? = ys[j]?
def Cr (h0 : Nat) (vc : Value) (l : Nat) (wr : World) : Prop := ∃ zs, wr.ownsRow h0 9 1 vc l zs
theorem Er.kept {h0 m k : Nat} {ve : Value} {ys : List Value} {wr wr' : World} (h : Er h0 ve m ys k wr) {row : Option Nat} (hg : wr.grownBy wr' row) (hne : ve.ownBlock = none ∨ ve.ownBlock ≠ row) : Er h0 ve m ys k wr' := by
  obtain ⟨ys', a, b⟩ := h
  exact ⟨ys', a.kept hg hne, b⟩
theorem Er.alloc {h0 m k : Nat} {ve : Value} {ys : List Value} {wr : World} (h : Er h0 ve m ys k wr) (o : Obj) : Er h0 ve m ys k (wr.alloc o) := by
  obtain ⟨ys', a, b⟩ := h
  exact ⟨ys', a.alloc o, b⟩
theorem Er.drew {h0 m k : Nat} {ve : Value} {ys : List Value} {wr : World} (h : Er h0 ve m ys k wr) : Er h0 ve m ys k wr.drew := by
  obtain ⟨ys', a, b⟩ := h
  exact ⟨ys', own_keep a (fun _ _ => rfl), b⟩
theorem Er.frozen {h0 m k be cape : Nat} {ys : List Value} {wr : World} (h : Er h0 (.slice (some ⟨be, 0, none⟩) m cape) m ys k wr) (j : Nat) : wr.frozen? ⟨be, j, none⟩ = false := by
  obtain ⟨ys', a, _⟩ := h
  exact a.frozenAt j
theorem Er.set {h0 m k be cape : Nat} {ys : List Value} {wr : World} (h : Er h0 (.slice (some ⟨be, 0, none⟩) m cape) m ys k wr) (u : Value) : Er h0 (.slice (some ⟨be, 0, none⟩) m cape) m ys (k + 1) (wr.setCell ⟨be, k, none⟩ u) ∧ wr.grownBy (wr.setCell ⟨be, k, none⟩ u) (some be) := by
  obtain ⟨ys', a, b⟩ := h
  obtain ⟨s1, s2⟩ := a.stored k u
  exact ⟨⟨_, s1, fun j hj => by rw [List.getElem?_set_ne (by omega)]; exact b j (by omega)⟩, s2⟩
theorem Er.cell {h0 m k be cape : Nat} {ys : List Value} {wr : World} {vc : Value} (h : Er h0 (.slice (some ⟨be, 0, none⟩) m cape) m ys k wr) (hk : k < m) (hy : ys[k]? = some vc) : wr.cell? ⟨be, k, none⟩ = some vc := by
  obtain ⟨ys', a, b⟩ := h
  rw [a.cellAt k (by omega), b k (Nat.le_refl _), hy]
theorem own_at {w : World} {B : Nat} {e : TypeId} {size n : Nat} {v : Value} {xs : List Value} (h : w.ownsRow B e size v n xs) (hn : 0 < n) : ∃ b cap, v = .slice (some ⟨b, 0, none⟩) n cap := by
  rcases h.2 with ⟨_, h0⟩ | ⟨g, cap, cur, e, _⟩
  · omega
  · exact ⟨g, cap, e⟩
theorem ne_of_apart {v v' : Value} (h : v.ownBlock = none ∨ v.ownBlock ≠ v'.ownBlock) {b : Nat} (hb : v.ownBlock = some b) : v'.ownBlock ≠ some b := by
  rcases h with h | h
  · rw [h] at hb; cases hb
  · intro e; exact h (by rw [hb, e])
def PaO2 (B : Nat) (la : List Sg) (pl pe : Nat) (e : Ending) (w w' : World) : Prop :=
  (∃ v F, e = .returned (.tuple #[v, .int .i64 (pl : Nat), .int .i64 (pe : Nat)]) ∧ SegsF w' F v la ∧ SegsO w' B F v la ∧ ∀ b, F b → B ≤ b ∧ b < w'.heap.size) ∧ Below B w w'
def PaA2 (B : Nat) (la : List Sg) (pl pe : Nat) (e : Ending) (w w' : World) : Prop :=
  (∃ v F, e = .returned (.tuple #[v, .int .i64 (pl : Nat), .int .i64 (pe : Nat)]) ∧ SegsF w' F v la ∧ ∀ b, F b → B ≤ b ∧ b < w'.heap.size) ∧ Below B w w'
set_option maxRecDepth 100000 in
set_option maxHeartbeats 6400000 in
theorem ediown_walk (t : Tx) (w : World) : Calls Try.prog 3 #[str t] w fun e w' => e = .returned (.bool true) ∧ Below w.heap.size w w' := by
  have hsz : (tx t).size = t.length := tx_size t
  by_cases hl : (3000 : Int) < (t.length : Int)
  · go_enter Try.func3, Try.ntmps3
    go_wp2
    go_ret
    exact ⟨rfl, Below.refl _ _⟩
  · have Q1 := Lib.hid (show Calls Try.prog 4 #[str t] w (fun e w' => PaO2 w.heap.size (parseL t).1 (parseL t).2.1 (parseL t).2.2 e w w') from parse_own t w)
    have HSM := Lib.hid (small_told t)
    have HSN := Lib.hid (sane_parse t)
    have QP := Lib.hid (show ∀ wz : World, Calls Try.prog 4 #[str t] wz (fun e w' => PaA2 wz.heap.size (parseL t).1 (parseL t).2.1 (parseL t).2.2 e wz w') from fun wz => parse_any t wz)
    generalize (parseL t).2.1 = pl at *
    generalize (parseL t).2.2 = pe at *
    generalize (parseL t).1 = la at *
    have hla := HSM.out.1
    go_enter Try.func3, Try.ntmps3
    go_wp2_with (go_at_call 4; refine (Q1.out).mono ?_)
    rintro e w1 hq1
    obtain ⟨⟨va, F, rfl, hs1, hso1, hF1⟩, hb1⟩ := hq1
    obtain ⟨φ, xs, hva, hvaF, hso⟩ := hso1
    have HF1 := Lib.hid hF1
    have HVF := Lib.hid hvaF
    have HSO := Lib.hid hso
    have HVA := Lib.hid hva
    have HB1 := Lib.hid hb1
    have Q2 := Lib.hid (QP.out w1)
    obtain ⟨pa, capa, rfl⟩ := own_slice hva
    clear hs1 hF1 hvaF hso hva hb1 Q1
    go_wp2_with (go_at_call 4; refine (Q2.out).mono ?_)
    rintro e w2 ⟨⟨vb, F2, rfl, hs2, hF2⟩, hb2⟩
    have HS2 := Lib.hid hs2
    have HF2 := Lib.hid hF2
    have HB2 := Lib.hid hb2
    obtain ⟨pb, capb, rfl⟩ := segs_slice hs2
    clear hs2 hF2 hb2 Q2
    have HST := Lib.hid (show OI w.heap.size w1.heap.size w2.heap.size w w1 w2 (.slice pa la.length capa) la.length xs (R0 F φ (.slice pa la.length capa) 0) w2 from
      ⟨⟨HB1.out.size, HB2.out.size⟩, HB1.out.trans (HB2.out.mono HB1.out.size), fun _ _ _ => rfl, Nat.le_refl _, ⟨xs, own_keep HVA.out (fun b e => HB2.out.block b (HVA.out.lt b e).2), fun _ => rfl⟩, fun b hb => ⟨(HF1.out b hb.1).2, HB2.out.block b (HF1.out b hb.1).2⟩⟩)
    go_wp2
    go_loopw [9] (fun u wr => ∃ i : Nat, u = .int .i64 i ∧ i ≤ la.length ∧ OI w.heap.size w1.heap.size w2.heap.size w w1 w2 (.slice pa la.length capa) la.length xs (R0 F φ (.slice pa la.length capa) i) wr) (fun u _ => la.length - (intOf u).toNat)
    case atStart => exact ⟨0, rfl, Nat.zero_le _, HST.out⟩
    case round =>
      clear HST
      obtain ⟨i, rfl, hi, hoi⟩ := hrel
      by_cases hlt : (i : Int) < (la.length : Int)
      · have hil : i < la.length := by omega
        have hi0 : (0 : Int) ≤ (i : Int) := Int.natCast_nonneg _
        obtain ⟨bs, caps, hpa⟩ := own_at HVA.out (show 0 < la.length by omega)
        simp only [Value.slice.injEq, true_and] at hpa
        obtain ⟨rfl, rfl⟩ := hpa
        have HBS := Lib.hid (HVA.out.lt bs rfl)
        obtain ⟨ve, ys, hx, hrow, hlab, heo⟩ := HSO.out.2 i hil
        have hsm := HSM.out.2 _ (List.getElem_mem hil)
        generalize la[i]'hil = sg at *
        obtain ⟨pe2, cape, rfl⟩ := own_slice hrow
        have hne := own_apart hrow HVA.out (by decide)
        have HLAB := Lib.hid hlab
        have HEO := Lib.hid heo
        have HX := Lib.hid hx
        have HROW := Lib.hid hrow
        have HSG := Lib.hid hsm
        have HNE := Lib.hid hne
        have hmb := hsm.1
        have HIN := Lib.hid (show Er w.heap.size (.slice pe2 sg.els.length cape) sg.els.length ys 0 wr from
          ⟨ys, own_keep hrow (fun b e => (hoi.rest b ⟨(hlab b e).1, ne_of_apart hne e, by rw [(hlab b e).2]; exact Nat.le_refl _⟩).2), fun _ _ => rfl⟩)
        have HO1 := Lib.hid (hoi.less (R' := R1 F φ (.slice (some ⟨bs, 0, none⟩) la.length capa) i 0) (fun b hb => ⟨hb.1, hb.2.1, by rcases hb.2.2 with h | h <;> omega⟩))
        clear hoi hx hrow hlab heo hsm hne
        go_wp2
        obtain ⟨wo, rfl⟩ : ∃ wo : World, wo = wr := ⟨_, rfl⟩
        go_loopw [10] (fun u wr => ∃ k : Nat, u = .int .i64 k ∧ k ≤ sg.els.length ∧ OI w.heap.size w1.heap.size w2.heap.size w w1 w2 (.slice (some ⟨bs, 0, none⟩) la.length capa) la.length xs (R1 F φ (.slice (some ⟨bs, 0, none⟩) la.length capa) i k) wr ∧ Er w.heap.size (.slice pe2 sg.els.length cape) sg.els.length ys k wr) (fun u _ => sg.els.length - (intOf u).toNat)
        case atStart => exact ⟨0, rfl, Nat.zero_le _, HO1.out, HIN.out⟩
        case round =>
          clear HO1 HIN
          obtain ⟨k, rfl, hk, hoi, her⟩ := hrel
          have cs := hoi.cell hil HX.out
          by_cases hlt2 : (k : Int) < (sg.els.length : Int)
          · have hkl : k < sg.els.length := by omega
            have hk0 : (0 : Int) ≤ (k : Int) := Int.natCast_nonneg _
            obtain ⟨be, cape', hpe⟩ := own_at HROW.out (show 0 < sg.els.length by omega)
            simp only [Value.slice.injEq, true_and] at hpe
            obtain ⟨rfl, rfl⟩ := hpe
            obtain ⟨vc, hy, hrc, hlc⟩ := HEO.out.2 k hkl
            have hcl := HSG.out.2 _ (List.getElem_mem hkl)
            generalize sg.els[k]'hkl = z at *
            obtain ⟨pc, capc, rfl⟩ := own_slice hrc
            have hnv := own_apart hrc HVA.out (by decide)
            have hne := own_apart hrc HROW.out (by decide)
            have hlab := HLAB.out be rfl
            have HY := Lib.hid hy
            have HRC := Lib.hid hrc
            have HLC := Lib.hid hlc
            have HNV := Lib.hid hnv
            have HNC := Lib.hid hne
            have HCI := Lib.hid (show Cr w.heap.size (.slice pc z.length capc) z.length wr from
              ⟨_, own_keep hrc (fun b e => (hoi.rest b ⟨(hlc b e).1, ne_of_apart hnv e, .inr (by rw [(hlc b e).2]; exact ⟨rfl, Nat.le_refl _⟩)⟩).2)⟩)
            have HO1 := Lib.hid (hoi.less (R' := R1 F φ (.slice (some ⟨bs, 0, none⟩) la.length capa) i (k + 1)) (fun b hb => ⟨hb.1, hb.2.1, by rcases hb.2.2 with h | h; exact .inl h; exact .inr ⟨h.1, by omega⟩⟩))
            have HER := Lib.hid her
            clear hoi her hy hrc hlc hnv hne
            go_wp2
            obtain ⟨wo2, rfl⟩ : ∃ wo2 : World, wo2 = wr := ⟨_, rfl⟩
            go_loopw [11] (fun u wr => ∃ j : Nat, u = .int .i64 j ∧ j ≤ z.length ∧ OI w.heap.size w1.heap.size w2.heap.size w w1 w2 (.slice (some ⟨bs, 0, none⟩) la.length capa) la.length xs (R1 F φ (.slice (some ⟨bs, 0, none⟩) la.length capa) i (k + 1)) wr ∧ Er w.heap.size (.slice (some ⟨be, 0, none⟩) sg.els.length cape) sg.els.length ys k wr ∧ Cr w.heap.size (.slice pc z.length capc) z.length wr) (fun u _ => z.length - (intOf u).toNat)
            case atStart => exact ⟨0, rfl, Nat.zero_le _, HO1.out, HER.out, HCI.out⟩
            case round =>
              clear HO1 HER HCI
              obtain ⟨j, rfl, hj, hoi, her, hcr⟩ := hrel
              have cs := hoi.cell hil HX.out
              have ck := her.cell hkl HY.out
              by_cases hlt3 : (j : Int) < (z.length : Int)
              · have hjl : j < z.length := by omega
                have hj0 : (0 : Int) ≤ (j : Int) := Int.natCast_nonneg _
                obtain ⟨bc, capc', hpc⟩ := own_at HRC.out (show 0 < z.length by omega)
                simp only [Value.slice.injEq, true_and] at hpc
                obtain ⟨rfl, rfl⟩ := hpc
                obtain ⟨zs, hzs⟩ := hcr
                have ff := hzs.frozenAt j
                obtain ⟨uz, cz⟩ := own_has hzs j (by omega)
                obtain ⟨st1, st2⟩ := hzs.stored j (.string { data := #[115, 112, 111, 105, 108, 116] })
                have hlc := HLC.out bc rfl
                have hO := hoi.grown (R' := R1 F φ (.slice (some ⟨bs, 0, none⟩) la.length capa) i (k + 1)) st2 (fun c e => by
                  simp only [Option.some.injEq] at e
                  subst e
                  exact ⟨(HF1.out _ hlc.1).1, (HF1.out _ hlc.1).2, fun hr => by have h3 := hr.2.2; rw [hlc.2] at h3; simp only at h3; omega, ne_of_apart HNV.out rfl⟩) (fun _ h => h)
                have HNEW := Lib.hid (And.intro hO (And.intro (her.kept st2 (.inr (ne_of_apart HNC.out rfl))) (show Cr w.heap.size (.slice (some ⟨bc, 0, none⟩) z.length capc) z.length _ from ⟨_, st1⟩)))
                clear hoi her hzs st1 st2 hO
                go_wp2
                go_roundw
                case rel => exact ⟨j + 1, by go_num, by omega, HNEW.out⟩
                case measure => simp [intOf]; omega
              · obtain rfl : j = z.length := by omega
                obtain ⟨zs, hzs⟩ := hcr
                have HZS := Lib.hid hzs
                have HOI := Lib.hid hoi
                have HEI := Lib.hid her
                have D1 : ∀ o : Obj, (wr.alloc o).cell? ⟨bs, i * 2 + 1, none⟩ = some (.slice (some ⟨be, 0, none⟩) sg.els.length cape) := fun o => (HOI.out.alloc o).cell hil HX.out
                have D2 : ∀ o : Obj, (wr.alloc o).cell? ⟨be, k, none⟩ = some (.slice pc z.length capc) := fun o => (HEI.out.alloc o).cell hkl HY.out
                have hwl : w.heap.size ≤ wr.heap.size := HOI.out.bel.size
                have HWL := Lib.hid hwl
                clear hzs hoi her hwl
                go_wp2
                go_region_law
                  (rw [if_pos (by rfl)]
                   refine st_app1 29 9 (.string ⟨#[]⟩) 1 16 par_str Try.underlying29 rfl (by decide) (by decide) w.heap.size (.slice pc z.length capc) z.length zs rfl (own_keep HZS.out (fun b e => Below.heap_alloc _ _ _ (HZS.out.lt b e).2)) wr.heap.size 1 [.string { data := #[109, 111, 114, 101] }] 9 (0, 0) rfl rfl (by first | exact at_last _ _ | exact at_last_d _ _) (by intro u hu; simp at hu; subst hu; rfl) (by have := hcl; omega) (by first | (have := HWL.out; simp; omega) | exact size_alloc_d _ HWL.out) ?_
                   intro v' w7 ho hgr _
                   obtain ⟨p', cap', rfl⟩ := own_slice ho
                   have hO := OI.grown (R' := R1 F φ (.slice (some ⟨bs, 0, none⟩) la.length capa) i (k + 1)) (by first | exact HOI.out.alloc _ | exact (HOI.out.alloc _).drew | exact HOI.out.drew.alloc _) hgr (fun c e => by
                     have hlc := HLC.out c e
                     exact ⟨(HF1.out _ hlc.1).1, (HF1.out _ hlc.1).2, fun hr => by have h3 := hr.2.2; rw [hlc.2] at h3; simp only at h3; omega, ne_of_apart HNV.out e⟩) (fun _ h => h)
                   have hE := Er.kept (k := k) (ys := ys) (h0 := w.heap.size) (ve := .slice (some ⟨be, 0, none⟩) sg.els.length cape) (m := sg.els.length) (by first | exact HEI.out.alloc _ | exact (HEI.out.alloc _).drew | exact HEI.out.drew.alloc _) hgr (by
                     rcases HNC.out with h | h
                     · exact .inr (by rw [h]; simp [Value.ownBlock])
                     · exact .inr (fun e => h e.symm))
                   have C1 : w7.cell? ⟨bs, i * 2 + 1, none⟩ = some (.slice (some ⟨be, 0, none⟩) sg.els.length cape) := hO.cell hil HX.out
                   have C2 : w7.cell? ⟨be, k, none⟩ = some (.slice pc z.length capc) := hE.cell hkl HY.out
                   have F1 : w7.frozen? ⟨be, k, none⟩ = false := hE.frozen k
                   obtain ⟨e1, e2⟩ := hE.set (.slice p' (z.length + 1) cap')
                   have hlb := HLAB.out be rfl
                   have HNEW := Lib.hid (And.intro (hO.grown (R' := R1 F φ (.slice (some ⟨bs, 0, none⟩) la.length capa) i (k + 1)) e2 (fun c e => by
                     simp only [Option.some.injEq] at e
                     subst e
                     exact ⟨(HF1.out _ hlb.1).1, (HF1.out _ hlb.1).2, fun hr => by have h3 := hr.2.2; rw [hlb.2] at h3; simp only at h3; omega, ne_of_apart HNE.out rfl⟩) (fun _ h => h)) e1)
                   clear ho hgr hO hE e1 e2 hlb)
                all_goals
                  clear D1 D2 C1 C2 F1
                  go_wp2
                  go_roundw
                  case rel => exact ⟨k + 1, by go_num, by omega, HNEW.out⟩
                  case measure => simp [intOf]; omega
          · obtain rfl : k = sg.els.length := by omega
            have ft := hoi.frozen (i * 2)
            obtain ⟨ut, ct⟩ := hoi.has hil
            have HNEW := Lib.hid (hoi.tag (R' := R0 F φ (.slice (some ⟨bs, 0, none⟩) la.length capa) (i + 1)) i (.string { data := #[66, 65, 68] }) ⟨HBS.out.1, HBS.out.2⟩ (fun b hb => ⟨⟨hb.1, hb.2.1, .inl hb.2.2⟩, fun e => hb.2.1 (by rw [e]; rfl)⟩))
            clear hoi her
            go_wp2
            go_roundw
            case rel => exact ⟨i + 1, by go_num, by omega, HNEW.out⟩
            case measure => simp [intOf]; omega
      · obtain rfl : i = la.length := by omega
        have HOI := Lib.hid hoi
        have Q3 := Lib.hid (QP.out wr)
        clear hoi
        go_wp2_with (go_at_call 4; refine (Q3.out).mono ?_)
        rintro e w4 ⟨⟨v4, F4, rfl, hs4, hF4⟩, hb4⟩
        obtain ⟨p4, cap4, rfl⟩ := segs_slice hs4
        have hbb : SegsF w4 (· < w4.heap.size) (.slice pb la.length capb) la := (HS2.out.kept (F' := (· < wr.heap.size)) (fun b hb => ⟨by have := (HF2.out b hb).2; have := HOI.out.size; show b < _; omega, HOI.out.new b (HF2.out b hb).1 (HF2.out b hb).2⟩)).later hb4
        have Q5 := Lib.hid (same_any la _ _ w4 hbb (hs4.kept (F' := (· < w4.heap.size)) (fun b hb => ⟨(hF4 b hb).2, rfl⟩)) HSN.out)
        have HB4 := Lib.hid (HOI.out.bel.trans (hb4.mono HOI.out.bel.size))
        clear hs4 hF4 hb4 hbb Q3
        go_wp2_with (go_at_call 5; refine (Q5.out).mono ?_)
        first | rintro e w5 rfl hb5 | rintro e w5 ⟨rfl, hb5⟩
        have HB5 := Lib.hid (HB4.out.trans (hb5.mono HB4.out.size))
        have Q6 := Lib.hid (reads_any w5)
        clear hb5 Q5
        go_wp2_with (go_at_call 6; refine (Q6.out).mono ?_)
        first | rintro e w6 rfl hb6 | rintro e w6 ⟨rfl, hb6⟩
        have HB6 := Lib.hid (HB5.out.trans (hb6.mono HB5.out.size))
        clear hb6
        go_wp2
        go_ret
        exact ⟨rfl, HB6.out⟩
end Go.Proofs.Ytmhmjbjkbnnmhaa
