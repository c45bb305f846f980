/- The walk of NumberTold. -/
import Derived.Test.YtinekngddmeljaaDoorNuL
import Derived.Test.YtinekngddmeljaaDoorNuTo
import Derived.Test.YtinekngddmeljaaDoorNuNxW
namespace Go.Proofs.YtinekngddmeljaaDoor
open Go.RowKit Go.Shelf Go.Number

theorem add_none (b o i : Nat) : (⟨b, o, none⟩ : Addr).add i = ⟨b, o + i, none⟩ := by simp [Addr.add]
/-- a text's bytes in a block of their own -/
structure BytesAt (W : World) (g : Nat) (t : Tx) : Prop where
  lt : g < W.heap.size
  cell : ∀ j (h : j < t.length), W.cell? ⟨g, j, none⟩ = some (.int .u8 (t[j].toNat : Int))
  free : ∀ j, j < t.length → W.frozen? ⟨g, j, none⟩ = false
theorem bytes_of (t : Tx) (w : World) : ∃ cap W', (convert 9 34 (str t)).run Tryd.prog w = .ok (.slice (some ⟨w.heap.size, 0, none⟩) t.length cap) W' ∧ BytesAt W' w.heap.size t ∧ Below w.heap.size w W' := by
  have hsz : (tx t).size = t.length := tx_size t
  have h := run_bytes_of_string (P := Tryd.prog) w 9 34 5 (tx t) Tryd.underlying9 Tryd.underlying34 Tryd.underlying5
  rw [hsz] at h
  refine ⟨_, _, h, ⟨?_, ?_, ?_⟩, (Below.refl _ w).drew.alloc (Nat.le_refl _) _⟩
  · show _ < (w.drew.alloc _).heap.size; rw [size_a]; exact Nat.lt_succ_self _
  · intro j hj
    have := bytesRow_at (tx t) (grownCap w t.length 0 5) j (by show j < t.toArray.size; simpa using hj)
    rw [show (w.heap.size) = w.drew.heap.size from rfl, World.cell?_alloc_mark, this]
    rfl
  · intro j hj
    rw [show (w.heap.size) = w.drew.heap.size from rfl, World.frozen?_alloc_mark]
    have hS : j < (bytesRow (tx t) (grownCap w t.length 0 5)).size := by
      unfold bytesRow
      rw [Array.size_append, Array.size_map]
      have e : (tx t).data.size = t.length := hsz
      omega
    rw [decide_eq_false (by omega)]; rfl
theorem bytes_back {W : World} {g : Nat} {t : Tx} (h : ∀ j (hj : j < t.length), W.cell? ⟨g, j, none⟩ = some (.int .u8 (t[j].toNat : Int))) (n cap : Nat) (hn : n = t.length) :
    (convert 34 9 (.slice (some ⟨g, 0, none⟩) n cap)).run Tryd.prog W = .ok (str t) W := by
  subst hn
  exact run_convert_bytes_back (P := Tryd.prog) W 34 9 5 ⟨g, 0, none⟩ cap t Tryd.underlying34 Tryd.underlying5 Tryd.underlying9 (fun j hj => by rw [add_none, Nat.zero_add]; exact h j hj)
theorem tx_right (c s : Nat) : (∃ m : Tx, textL c s = (m, 0) ∧ Right m ∧ (parseL m).2.2 = 0) ∨ textL c s = ([], 1) := by
  by_cases h : may c s
  · exact .inl ⟨full c s, text_in h, right_full, by rw [parse_full h]⟩
  · exact .inr (text_out h)
theorem tmod7 (F : Int) : F.tmod 7 = 0 ↔ F % 7 = 0 := by
  constructor
  · intro h; exact Int.emod_eq_zero_of_dvd (Int.dvd_of_tmod_eq_zero h)
  · intro h; exact Int.tmod_eq_zero_of_dvd (Int.dvd_of_emod_eq_zero h)
theorem set_cells {W : World} {g : Nat} {m : Tx} {k : Nat} (hk : k < m.length) (h : ∀ j (hj : j < m.length), W.cell? ⟨g, j, none⟩ = some (.int .u8 (m[j].toNat : Int))) (x : UInt8) (v : Int) (hv : v = (x.toNat : Int)) :
    ∀ j (hj : j < (m.set k x).length), (W.setCell ⟨g, k, none⟩ (.int .u8 v)).cell? ⟨g, j, none⟩ = some (.int .u8 ((m.set k x)[j].toNat : Int)) := by
  intro j hj
  rw [List.length_set] at hj
  by_cases e : k = j
  · subst e
    rw [World.cell?_setCell_same' _ _ _ (by rw [h _ hk]; rfl), List.getElem_set_self, hv]
  · rw [World.cell?_setCell_other _ _ _ _ (by intro e2; exact e (by cases e2; rfl)), h j hj, List.getElem_set_ne e]
theorem byte_of {m : Tx} (R : Right m) (j : Nat) (h : j < m.length) : (m[j].toNat : Int) = 48 + ((dv m[j]).1 : Int) := by
  have := (of_dgt (List.all_eq_true.1 R.all _ (List.getElem_mem h))).2
  omega
theorem drew_cell (W : World) (p : Addr) : W.drew.cell? p = W.cell? p := rfl
theorem swap_back {W : World} {g : Nat} {m : Tx} {k : Nat} (hk : k < m.length) (hk1 : k + 1 < m.length) (h : ∀ j (hj : j < m.length), W.cell? ⟨g, j, none⟩ = some (.int .u8 (m[j].toNat : Int))) (v0 v1 : Int) (h0 : v0 = (m[k].toNat : Int)) (h1 : v1 = (m[k + 1].toNat : Int)) (n cap : Nat) (hn : n = m.length) :
    (convert 34 9 (.slice (some ⟨g, 0, none⟩) n cap)).run Tryd.prog ((W.setCell ⟨g, k, none⟩ (.int .u8 v1)).setCell ⟨g, k + 1, none⟩ (.int .u8 v0)).drew = .ok (str ((m.set k m[k + 1]).set (k + 1) m[k])) ((W.setCell ⟨g, k, none⟩ (.int .u8 v1)).setCell ⟨g, k + 1, none⟩ (.int .u8 v0)).drew := by
  have a1 := set_cells hk h m[k + 1] v1 h1
  have a2 := set_cells (k := k + 1) (by rw [List.length_set]; exact hk1) a1 m[k] v0 h0
  exact bytes_back (fun j hj => by rw [drew_cell]; exact a2 j hj) n cap (by rw [List.length_set, List.length_set]; exact hn)
set_option maxRecDepth 100000 in
set_option maxHeartbeats 12800000 in
theorem ntold_any (c s : Nat) (hc : c < 256) (_ : s < 18446744073709551616) (a : Int) (ha : -9223372036854775808 ≤ a ∧ a < 9223372036854775808) (x : Int) (hx : 0 ≤ x ∧ x < 256) (B : Nat) (w : World) (htab : Tab B w) (hB : B ≤ w.heap.size) :
    Calls Tryd.prog 6 #[.agg (tkV c s), .int .i64 a, .int .u8 x] w fun e w' => e = .returned (.bool true) ∧ Below w.heap.size w w' := by
  obtain ⟨wb, hwb⟩ : ∃ wb, wb = w.alloc (.cells (tkV c s) 24) := ⟨_, rfl⟩
  have hbw : Below w.heap.size w wb := by rw [hwb]; exact (Below.refl _ _).alloc (Nat.le_refl _) _
  have HFIN := Lib.hid (show ∀ wz : World, Below wb.heap.size wb wz → Below w.heap.size w wz from fun wz hz => hbw.trans (hz.mono hbw.size))
  have HT := Lib.hid (show ∀ wz : World, Below wb.heap.size wb wz → Tab B wz ∧ B ≤ wz.heap.size from fun wz hz => ⟨htab.on ((hbw.mono hB).trans (hz.mono (Nat.le_trans hB hbw.size))), Nat.le_trans hB (Nat.le_trans hbw.size hz.size)⟩)
  have HB0 := Lib.hid (Below.refl wb.heap.size wb)
  have H3 := Lib.hid (fun W (h : Below wb.heap.size wb W) => tells_any B W (HT.out _ h).1 (HT.out _ h).2)
  have HPA := Lib.hid (fun (l : Tx) W => parse_any l W)
  have T1 := Lib.hid (text_any c s hc B wb (HT.out _ HB0.out).1 (HT.out _ HB0.out).2)
  have X1 := tx_right c s
  generalize textL c s = r1 at *
  clear hbw htab hB hc
  rcases X1 with ⟨m, rfl, R, hp0⟩ | rfl
  rotate_left
  · go_enter Tryd.func6, Tryd.ntmps6
    go_wp2_with fail
    go_at_call 9
    rw [← hwb]
    clear hwb
    refine (T1.out).mono ?_
    rintro e w1 ⟨rfl, hb1⟩
    have HB1 := Lib.hid hb1
    clear hb1
    go_wp2_with fail
    go_at_call 11
    refine (H3.out _ HB1.out).mono ?_
    rintro e w5 ⟨rfl, hb5⟩
    have HB5 := Lib.hid (HB1.out.trans (hb5.mono HB1.out.size))
    clear hb5
    go_wp2
    go_ret
    exact ⟨rfl, HFIN.out _ HB5.out⟩
  have hml := R.len
  have hmz : (tx m).size = 14 := by rw [tx_size]; exact hml
  have hmi : (m.length : Int) = 14 := by omega
  -- the place
  obtain ⟨r, hr⟩ : ∃ r, a.tmod 14 = r := ⟨_, rfl⟩
  have hr1 : -14 < r := by rw [← hr]; exact Int.lt_tmod_of_pos a (by decide)
  have hr2 : r < 14 := by rw [← hr]; exact Int.tmod_lt_of_pos a (by decide)
  obtain ⟨k, hk, hkr⟩ : ∃ k : Nat, k < 14 ∧ ((r < 0 ∧ r + 14 = (k : Int)) ∨ (¬ r < 0 ∧ r = (k : Int))) := by
    by_cases h : r < 0
    · exact ⟨(r + 14).toNat, by omega, .inl ⟨h, by omega⟩⟩
    · exact ⟨r.toNat, by omega, .inr ⟨h, by omega⟩⟩
  have hkl : k < m.length := by omega
  -- the digit
  obtain ⟨Y, hY, hY9⟩ : ∃ Y : Nat, x % 10 = (Y : Int) ∧ Y < 10 := ⟨(x % 10).toNat, by omega, by omega⟩
  have hdX : dgt (UInt8.ofNat (48 + Y)) = true := dgt_of Y hY9
  have hvX : (dv (UInt8.ofNat (48 + Y))).1 = Y := by rw [dv_of Y hY9]
  obtain ⟨D, hD⟩ : ∃ D : Nat, D = (dv m[k]).1 := ⟨_, rfl⟩
  have hD9 : D < 10 := by rw [hD]; exact (dv m[k]).2
  obtain ⟨F, hF⟩ : ∃ F : Int, (Y : Int) - (D : Int) = F := ⟨_, rfl⟩
  obtain ⟨G, hG⟩ : ∃ G : Int, F.tmod 7 = G := ⟨_, rfl⟩
  have HG := Lib.hid (show G = 0 ↔ F % 7 = 0 by rw [← hG]; exact tmod7 F)
  have T2 := told_one R hp0 hk hdX F (by rw [hvX, ← hD]; exact hF.symm)
  have HR := Lib.hid R
  have hk0 : (0 : Int) ≤ (k : Int) := Int.natCast_nonneg _
  have hk14 : (k : Int) < 14 := by omega
  have hY0 : (0 : Int) ≤ (Y : Int) := Int.natCast_nonneg _
  have hY10 : (Y : Int) ≤ 9 := by omega
  have hD0 : (0 : Int) ≤ (D : Int) := Int.natCast_nonneg _
  have hD10 : (D : Int) ≤ 9 := by omega
  have HDV := Lib.hid hD
  obtain ⟨c', s', er, hp⟩ : ∃ c' s' er, parseL (m.set k (UInt8.ofNat (48 + Y))) = (c', s', er) := ⟨_, _, _, rfl⟩
  rw [hp] at T2
  simp only at T2
  have HKL := Lib.hid hkl
  obtain ⟨a1, a2⟩ := ha
  obtain ⟨x1, x2⟩ := hx
  have HX := Lib.hid (show ((48 : Int) + (Y : Int)) = ((UInt8.ofNat (48 + Y)).toNat : Int) by rw [UInt8.toNat_ofNat']; omega)
  clear hp0 hdX hvX hD9 hY9 hD R hk
  generalize UInt8.ofNat (48 + Y) = X at *
  rcases hkr with ⟨hn, hkr⟩ | ⟨hn, rfl⟩
  · go_enter Tryd.func6, Tryd.ntmps6
    go_wp2_with fail
    go_at_call 9
    rw [← hwb]
    clear hwb
    refine (T1.out).mono ?_
    rintro e w1 ⟨rfl, hb1⟩
    obtain ⟨cap, W2, hcv, hby, hbel⟩ := bytes_of m w1
    rw [hml] at hcv
    have HB2 := Lib.hid (hb1.trans (hbel.mono hb1.size))
    have q1 : W2.cell? ⟨w1.heap.size, k, none⟩ = some (.int .u8 (48 + (D : Int))) := by rw [hby.cell k HKL.out, byte_of HR.out k HKL.out, HDV.out]
    have f1 : W2.frozen? ⟨w1.heap.size, k, none⟩ = false := hby.free k HKL.out
    have hbk := bytes_back (set_cells HKL.out hby.cell X (48 + (Y : Int)) HX.out) 14 cap (by rw [List.length_set]; exact hml.symm)
    have HB3 := Lib.hid (HB2.out.setCell (p := ⟨w1.heap.size, k, none⟩) hb1.size (.int .u8 (48 + (Y : Int))))
    have HQ := Lib.hid (fun W => show Calls Tryd.prog 12 #[str (m.set k X)] W (fun e w' => e = .returned (.tuple #[.agg (tkV c' s'), .int .i64 ((er : Nat) : Int)]) ∧ Below W.heap.size W w') by
      have := HPA.out (m.set k X) W
      unfold paV at this
      rw [hp] at this
      exact this)
    have hFF : (48 + (Y : Int)) - (48 + (D : Int)) = F := by omega
    clear hbel hby hb1 hp
    go_wp2_with fail
    go_at_call 12
    (try simp only [hFF])
    refine (HQ.out _).mono ?_
    rintro e w4 ⟨rfl, hb4⟩
    have hb4' := HB3.out.trans (hb4.mono HB3.out.size)
    obtain ⟨W5, hW5⟩ : ∃ W5, W5 = w4.alloc (.cells (tkV c' s') 24) := ⟨_, rfl⟩
    have hb5 : Below wb.heap.size wb W5 := by rw [hW5]; exact hb4'.alloc hb4'.size _
    have hs5 : W5.heap.size = w4.heap.size + 1 := by rw [hW5, size_a]
    obtain ⟨cap6, W6, hcv6, hby6, hbel6⟩ := bytes_of m W5
    rw [hml, hs5, hW5] at hcv6
    rw [hs5] at hby6
    have HB5 := Lib.hid hb5
    rw [hW5] at HB5
    have HB6 := Lib.hid (hb5.trans (hbel6.mono hb5.size))
    have HBY := Lib.hid hby6
    have HG4 := Lib.hid (show wb.heap.size ≤ w4.heap.size + 1 from Nat.le_succ_of_le hb4'.size)
    clear hb4 hb4' hb5 hs5 hbel6 hby6 hbk q1 f1 hcv hW5
    rcases T2 with ⟨t1, t2⟩ | ⟨t1, t2⟩ | ⟨t1, t2, t3, t4⟩ | ⟨t1, t2, t3⟩
    · have g1 : (G != 0) = true := by rw [bne_iff_ne]; exact fun e => t1 (HG.out.1 e)
      have g2 : (G == 0) = false := by rw [beq_eq_false_iff_ne]; exact fun e => t1 (HG.out.1 e)
      have g3 : (F == 0) = false := by rw [beq_eq_false_iff_ne]; rintro rfl; exact t1 rfl
      have g4 : (F != 0) = true := by rw [bne_iff_ne]; rintro rfl; exact t1 rfl
      have g5 : ((er : Int) != 70) = false := by rw [t2]; rfl
      clear t1 t2
      by_cases h11 : (11 : Int) < (k : Int)
      · go_wp2_with fail
        go_at_call 11
        refine (H3.out _ HB5.out).mono ?_
        rintro e w7 ⟨rfl, hb7⟩
        have HB7 := Lib.hid (HB5.out.trans (hb7.mono HB5.out.size))
        clear hb7
        go_wp2
        go_ret
        exact ⟨rfl, HFIN.out _ HB7.out⟩
      · have hk1 : k + 1 < m.length := by omega
        obtain ⟨E, hE⟩ : ∃ E : Nat, E = (dv m[k + 1]).1 := ⟨_, rfl⟩
        have hE9 : (E : Int) ≤ 9 := by have := (dv m[k + 1]).2; omega
        have hE0 : (0 : Int) ≤ (E : Int) := Int.natCast_nonneg _
        have q1 : W6.cell? ⟨w4.heap.size + 1, k, none⟩ = some (.int .u8 (48 + (D : Int))) := by rw [HBY.out.cell k hkl, byte_of HR.out k hkl, HDV.out]
        have q2 : W6.cell? ⟨w4.heap.size + 1, k + 1, none⟩ = some (.int .u8 (48 + (E : Int))) := by rw [HBY.out.cell (k + 1) hk1, byte_of HR.out (k + 1) hk1, hE]
        have f1 : W6.frozen? ⟨w4.heap.size + 1, k, none⟩ = false := HBY.out.free k hkl
        have f2 : W6.frozen? ⟨w4.heap.size + 1, k + 1, none⟩ = false := HBY.out.free (k + 1) hk1
        have HE := Lib.hid hE
        clear hE
        obtain ⟨F2, hF2⟩ : ∃ F2 : Int, (D : Int) - (E : Int) = F2 := ⟨_, rfl⟩
        obtain ⟨G2, hG2⟩ : ∃ G2 : Int, F2.tmod 7 = G2 := ⟨_, rfl⟩
        have hT2 : (parseL ((m.set k m[k + 1]).set (k + 1) m[k])).2.2 = 70 ↔ F2 % 7 ≠ 0 := told_two HR.out (k := k) (by omega) F2 (by rw [← HDV.out, ← HE.out]; exact hF2.symm)
        have hG7 : G2 = 0 ↔ F2 % 7 = 0 := by rw [← hG2]; exact tmod7 F2
        obtain ⟨c2, s2, er2, hp2⟩ : ∃ c' s' er, parseL ((m.set k m[k + 1]).set (k + 1) m[k]) = (c', s', er) := ⟨_, _, _, rfl⟩
        rw [hp2] at hT2
        have HQ2 := Lib.hid (fun W => show Calls Tryd.prog 12 #[str ((m.set k m[k + 1]).set (k + 1) m[k])] W (fun e w' => e = .returned (.tuple #[.agg (tkV c2 s2), .int .i64 ((er2 : Nat) : Int)]) ∧ Below W.heap.size W w') by
          have := HPA.out ((m.set k m[k + 1]).set (k + 1) m[k]) W
          unfold paV at this
          rw [hp2] at this
          exact this)
        have HGG := Lib.hid (show (((er2 : Int) == 70) = true ∧ (G2 != 0) = true) ∨ (((er2 : Int) == 70) = false ∧ (G2 != 0) = false) by
          by_cases h : F2 % 7 = 0
          · exact .inr ⟨by rw [beq_eq_false_iff_ne]; intro e; exact hT2.1 (by simp only; omega) h, by rw [hG7.2 h]; rfl⟩
          · exact .inl ⟨by have := hT2.2 h; simp only at this; rw [this]; rfl, by rw [bne_iff_ne]; exact fun e => h (hG7.1 e)⟩)
        have hFF2 : (48 + (D : Int)) - (48 + (E : Int)) = F2 := by omega
        clear hT2 hG7 hp2
        go_wp2_with fail
        go_quiet (fail)
        obtain ⟨wd, hwd⟩ : ∃ wd, wd = W6.drewN nq := ⟨_, rfl⟩
        have hbd : Below wb.heap.size wb wd := by rw [hwd]; exact HB6.out.trans (below_drewN _ _ _)
        have hcd : ∀ p, wd.cell? p = W6.cell? p := fun p => by rw [hwd]; rfl
        have hfd : ∀ p, wd.frozen? p = W6.frozen? p := fun p => by rw [hwd]; rfl
        rw [← hwd]
        clear hwd
        have e1 := (hcd _).trans q1
        have e2 := (hcd _).trans q2
        have e3 := (hfd _).trans f1
        have e4 := (hfd _).trans f2
        have hco : ∀ v, (wd.setCell ⟨w4.heap.size + 1, k, none⟩ v).cell? ⟨w4.heap.size + 1, k + 1, none⟩ = some (.int .u8 (48 + (E : Int))) := fun v => by
          rw [World.cell?_setCell_other _ _ _ _ (by intro e; have := congrArg Addr.off e; simp at this)]; exact e2
        have hfo : ∀ v, (wd.setCell ⟨w4.heap.size + 1, k, none⟩ v).frozen? ⟨w4.heap.size + 1, k + 1, none⟩ = false := fun v => by rw [World.frozen?_setCell]; exact e4
        have hsb := swap_back hkl hk1 (W := wd) (g := w4.heap.size + 1) (fun j hj => (hcd _).trans (HBY.out.cell j hj)) (48 + (D : Int)) (48 + (E : Int)) (by rw [byte_of HR.out k hkl, HDV.out]) (by rw [byte_of HR.out (k + 1) hk1, HE.out]) 14 cap6 hml.symm
        have HBD := Lib.hid hbd
        clear q1 q2 f1 f2 hcd hfd hbd
        go_wp2_with fail
        go_region
        clear hco hfo e1 e2 e3 e4
        have HB7 := Lib.hid (show Below wb.heap.size wb ((wd.setCell ⟨w4.heap.size + 1, k, none⟩ (.int .u8 (48 + (E : Int)))).setCell ⟨w4.heap.size + 1, k + 1, none⟩ (.int .u8 (48 + (D : Int)))).drew from ((HBD.out.setCell (p := ⟨w4.heap.size + 1, k, none⟩) HG4.out _).setCell (p := ⟨w4.heap.size + 1, k + 1, none⟩) HG4.out _).drew)
        generalize ((wd.setCell ⟨w4.heap.size + 1, k, none⟩ (.int .u8 (48 + (E : Int)))).setCell ⟨w4.heap.size + 1, k + 1, none⟩ (.int .u8 (48 + (D : Int)))).drew = w8 at *
        go_wp2_with fail
        go_at_call 12
        refine (HQ2.out _).mono ?_
        rintro e w9 ⟨rfl, hb9⟩
        have hb9' := HB7.out.trans (hb9.mono HB7.out.size)
        have HB9 := Lib.hid (hb9'.alloc hb9'.size (.cells (tkV c2 s2) 24))
        clear hb9 hb9' hsb
        rcases HGG.out with ⟨u1, u2⟩ | ⟨u1, u2⟩
        all_goals
          go_wp2_with fail
          go_at_call 11
          refine (H3.out _ HB9.out).mono ?_
          rintro e w10 ⟨rfl, hb10⟩
          have HB10 := Lib.hid (HB9.out.trans (hb10.mono HB9.out.size))
          clear hb10
          go_wp2
          go_ret
          exact ⟨rfl, HFIN.out _ HB10.out⟩
    · have g1 : (G != 0) = false := by rw [bne_eq_false_iff_eq, HG.out, t1]; rfl
      have g3 : (F == 0) = true := by rw [t1]; rfl
      have g4 : (F != 0) = false := by rw [t1]; rfl
      have g5 : ((er : Int) != 0) = false := by rw [t2]; rfl
      clear t1 t2
      by_cases h11 : (11 : Int) < (k : Int)
      · go_wp2_with fail
        go_at_call 11
        refine (H3.out _ HB5.out).mono ?_
        rintro e w7 ⟨rfl, hb7⟩
        have HB7 := Lib.hid (HB5.out.trans (hb7.mono HB5.out.size))
        clear hb7
        go_wp2
        go_ret
        exact ⟨rfl, HFIN.out _ HB7.out⟩
      · have hk1 : k + 1 < m.length := by omega
        obtain ⟨E, hE⟩ : ∃ E : Nat, E = (dv m[k + 1]).1 := ⟨_, rfl⟩
        have hE9 : (E : Int) ≤ 9 := by have := (dv m[k + 1]).2; omega
        have hE0 : (0 : Int) ≤ (E : Int) := Int.natCast_nonneg _
        have q1 : W6.cell? ⟨w4.heap.size + 1, k, none⟩ = some (.int .u8 (48 + (D : Int))) := by rw [HBY.out.cell k hkl, byte_of HR.out k hkl, HDV.out]
        have q2 : W6.cell? ⟨w4.heap.size + 1, k + 1, none⟩ = some (.int .u8 (48 + (E : Int))) := by rw [HBY.out.cell (k + 1) hk1, byte_of HR.out (k + 1) hk1, hE]
        have f1 : W6.frozen? ⟨w4.heap.size + 1, k, none⟩ = false := HBY.out.free k hkl
        have f2 : W6.frozen? ⟨w4.heap.size + 1, k + 1, none⟩ = false := HBY.out.free (k + 1) hk1
        have HE := Lib.hid hE
        clear hE
        obtain ⟨F2, hF2⟩ : ∃ F2 : Int, (D : Int) - (E : Int) = F2 := ⟨_, rfl⟩
        obtain ⟨G2, hG2⟩ : ∃ G2 : Int, F2.tmod 7 = G2 := ⟨_, rfl⟩
        have hT2 : (parseL ((m.set k m[k + 1]).set (k + 1) m[k])).2.2 = 70 ↔ F2 % 7 ≠ 0 := told_two HR.out (k := k) (by omega) F2 (by rw [← HDV.out, ← HE.out]; exact hF2.symm)
        have hG7 : G2 = 0 ↔ F2 % 7 = 0 := by rw [← hG2]; exact tmod7 F2
        obtain ⟨c2, s2, er2, hp2⟩ : ∃ c' s' er, parseL ((m.set k m[k + 1]).set (k + 1) m[k]) = (c', s', er) := ⟨_, _, _, rfl⟩
        rw [hp2] at hT2
        have HQ2 := Lib.hid (fun W => show Calls Tryd.prog 12 #[str ((m.set k m[k + 1]).set (k + 1) m[k])] W (fun e w' => e = .returned (.tuple #[.agg (tkV c2 s2), .int .i64 ((er2 : Nat) : Int)]) ∧ Below W.heap.size W w') by
          have := HPA.out ((m.set k m[k + 1]).set (k + 1) m[k]) W
          unfold paV at this
          rw [hp2] at this
          exact this)
        have HGG := Lib.hid (show (((er2 : Int) == 70) = true ∧ (G2 != 0) = true) ∨ (((er2 : Int) == 70) = false ∧ (G2 != 0) = false) by
          by_cases h : F2 % 7 = 0
          · exact .inr ⟨by rw [beq_eq_false_iff_ne]; intro e; exact hT2.1 (by simp only; omega) h, by rw [hG7.2 h]; rfl⟩
          · exact .inl ⟨by have := hT2.2 h; simp only at this; rw [this]; rfl, by rw [bne_iff_ne]; exact fun e => h (hG7.1 e)⟩)
        have hFF2 : (48 + (D : Int)) - (48 + (E : Int)) = F2 := by omega
        clear hT2 hG7 hp2
        go_wp2_with fail
        go_quiet (fail)
        obtain ⟨wd, hwd⟩ : ∃ wd, wd = W6.drewN nq := ⟨_, rfl⟩
        have hbd : Below wb.heap.size wb wd := by rw [hwd]; exact HB6.out.trans (below_drewN _ _ _)
        have hcd : ∀ p, wd.cell? p = W6.cell? p := fun p => by rw [hwd]; rfl
        have hfd : ∀ p, wd.frozen? p = W6.frozen? p := fun p => by rw [hwd]; rfl
        rw [← hwd]
        clear hwd
        have e1 := (hcd _).trans q1
        have e2 := (hcd _).trans q2
        have e3 := (hfd _).trans f1
        have e4 := (hfd _).trans f2
        have hco : ∀ v, (wd.setCell ⟨w4.heap.size + 1, k, none⟩ v).cell? ⟨w4.heap.size + 1, k + 1, none⟩ = some (.int .u8 (48 + (E : Int))) := fun v => by
          rw [World.cell?_setCell_other _ _ _ _ (by intro e; have := congrArg Addr.off e; simp at this)]; exact e2
        have hfo : ∀ v, (wd.setCell ⟨w4.heap.size + 1, k, none⟩ v).frozen? ⟨w4.heap.size + 1, k + 1, none⟩ = false := fun v => by rw [World.frozen?_setCell]; exact e4
        have hsb := swap_back hkl hk1 (W := wd) (g := w4.heap.size + 1) (fun j hj => (hcd _).trans (HBY.out.cell j hj)) (48 + (D : Int)) (48 + (E : Int)) (by rw [byte_of HR.out k hkl, HDV.out]) (by rw [byte_of HR.out (k + 1) hk1, HE.out]) 14 cap6 hml.symm
        have HBD := Lib.hid hbd
        clear q1 q2 f1 f2 hcd hfd hbd
        go_wp2_with fail
        go_region
        clear hco hfo e1 e2 e3 e4
        have HB7 := Lib.hid (show Below wb.heap.size wb ((wd.setCell ⟨w4.heap.size + 1, k, none⟩ (.int .u8 (48 + (E : Int)))).setCell ⟨w4.heap.size + 1, k + 1, none⟩ (.int .u8 (48 + (D : Int)))).drew from ((HBD.out.setCell (p := ⟨w4.heap.size + 1, k, none⟩) HG4.out _).setCell (p := ⟨w4.heap.size + 1, k + 1, none⟩) HG4.out _).drew)
        generalize ((wd.setCell ⟨w4.heap.size + 1, k, none⟩ (.int .u8 (48 + (E : Int)))).setCell ⟨w4.heap.size + 1, k + 1, none⟩ (.int .u8 (48 + (D : Int)))).drew = w8 at *
        go_wp2_with fail
        go_at_call 12
        refine (HQ2.out _).mono ?_
        rintro e w9 ⟨rfl, hb9⟩
        have hb9' := HB7.out.trans (hb9.mono HB7.out.size)
        have HB9 := Lib.hid (hb9'.alloc hb9'.size (.cells (tkV c2 s2) 24))
        clear hb9 hb9' hsb
        rcases HGG.out with ⟨u1, u2⟩ | ⟨u1, u2⟩
        all_goals
          go_wp2_with fail
          go_at_call 11
          refine (H3.out _ HB9.out).mono ?_
          rintro e w10 ⟨rfl, hb10⟩
          have HB10 := Lib.hid (HB9.out.trans (hb10.mono HB9.out.size))
          clear hb10
          go_wp2
          go_ret
          exact ⟨rfl, HFIN.out _ HB10.out⟩
    · have g1 : (G != 0) = false := by rw [bne_eq_false_iff_eq, HG.out]; exact t2
      have g2 : (G == 0) = true := by rw [beq_iff_eq, HG.out]; exact t2
      have g3 : (F == 0) = false := by rw [beq_eq_false_iff_ne]; exact t1
      have g4 : (F != 0) = true := by rw [bne_iff_ne]; exact t1
      have g5 : ((er : Int) == 70) = false := by rw [beq_eq_false_iff_ne]; omega
      have g6 : decide ((k : Int) < 13) = true := decide_eq_true (by omega)
      clear t1 t2 t3 t4
      by_cases h11 : (11 : Int) < (k : Int)
      · go_wp2_with fail
        go_at_call 11
        refine (H3.out _ HB5.out).mono ?_
        rintro e w7 ⟨rfl, hb7⟩
        have HB7 := Lib.hid (HB5.out.trans (hb7.mono HB5.out.size))
        clear hb7
        go_wp2
        go_ret
        exact ⟨rfl, HFIN.out _ HB7.out⟩
      · have hk1 : k + 1 < m.length := by omega
        obtain ⟨E, hE⟩ : ∃ E : Nat, E = (dv m[k + 1]).1 := ⟨_, rfl⟩
        have hE9 : (E : Int) ≤ 9 := by have := (dv m[k + 1]).2; omega
        have hE0 : (0 : Int) ≤ (E : Int) := Int.natCast_nonneg _
        have q1 : W6.cell? ⟨w4.heap.size + 1, k, none⟩ = some (.int .u8 (48 + (D : Int))) := by rw [HBY.out.cell k hkl, byte_of HR.out k hkl, HDV.out]
        have q2 : W6.cell? ⟨w4.heap.size + 1, k + 1, none⟩ = some (.int .u8 (48 + (E : Int))) := by rw [HBY.out.cell (k + 1) hk1, byte_of HR.out (k + 1) hk1, hE]
        have f1 : W6.frozen? ⟨w4.heap.size + 1, k, none⟩ = false := HBY.out.free k hkl
        have f2 : W6.frozen? ⟨w4.heap.size + 1, k + 1, none⟩ = false := HBY.out.free (k + 1) hk1
        have HE := Lib.hid hE
        clear hE
        obtain ⟨F2, hF2⟩ : ∃ F2 : Int, (D : Int) - (E : Int) = F2 := ⟨_, rfl⟩
        obtain ⟨G2, hG2⟩ : ∃ G2 : Int, F2.tmod 7 = G2 := ⟨_, rfl⟩
        have hT2 : (parseL ((m.set k m[k + 1]).set (k + 1) m[k])).2.2 = 70 ↔ F2 % 7 ≠ 0 := told_two HR.out (k := k) (by omega) F2 (by rw [← HDV.out, ← HE.out]; exact hF2.symm)
        have hG7 : G2 = 0 ↔ F2 % 7 = 0 := by rw [← hG2]; exact tmod7 F2
        obtain ⟨c2, s2, er2, hp2⟩ : ∃ c' s' er, parseL ((m.set k m[k + 1]).set (k + 1) m[k]) = (c', s', er) := ⟨_, _, _, rfl⟩
        rw [hp2] at hT2
        have HQ2 := Lib.hid (fun W => show Calls Tryd.prog 12 #[str ((m.set k m[k + 1]).set (k + 1) m[k])] W (fun e w' => e = .returned (.tuple #[.agg (tkV c2 s2), .int .i64 ((er2 : Nat) : Int)]) ∧ Below W.heap.size W w') by
          have := HPA.out ((m.set k m[k + 1]).set (k + 1) m[k]) W
          unfold paV at this
          rw [hp2] at this
          exact this)
        have HGG := Lib.hid (show (((er2 : Int) == 70) = true ∧ (G2 != 0) = true) ∨ (((er2 : Int) == 70) = false ∧ (G2 != 0) = false) by
          by_cases h : F2 % 7 = 0
          · exact .inr ⟨by rw [beq_eq_false_iff_ne]; intro e; exact hT2.1 (by simp only; omega) h, by rw [hG7.2 h]; rfl⟩
          · exact .inl ⟨by have := hT2.2 h; simp only at this; rw [this]; rfl, by rw [bne_iff_ne]; exact fun e => h (hG7.1 e)⟩)
        have hFF2 : (48 + (D : Int)) - (48 + (E : Int)) = F2 := by omega
        clear hT2 hG7 hp2
        go_wp2_with fail
        go_quiet (fail)
        obtain ⟨wd, hwd⟩ : ∃ wd, wd = W6.drewN nq := ⟨_, rfl⟩
        have hbd : Below wb.heap.size wb wd := by rw [hwd]; exact HB6.out.trans (below_drewN _ _ _)
        have hcd : ∀ p, wd.cell? p = W6.cell? p := fun p => by rw [hwd]; rfl
        have hfd : ∀ p, wd.frozen? p = W6.frozen? p := fun p => by rw [hwd]; rfl
        rw [← hwd]
        clear hwd
        have e1 := (hcd _).trans q1
        have e2 := (hcd _).trans q2
        have e3 := (hfd _).trans f1
        have e4 := (hfd _).trans f2
        have hco : ∀ v, (wd.setCell ⟨w4.heap.size + 1, k, none⟩ v).cell? ⟨w4.heap.size + 1, k + 1, none⟩ = some (.int .u8 (48 + (E : Int))) := fun v => by
          rw [World.cell?_setCell_other _ _ _ _ (by intro e; have := congrArg Addr.off e; simp at this)]; exact e2
        have hfo : ∀ v, (wd.setCell ⟨w4.heap.size + 1, k, none⟩ v).frozen? ⟨w4.heap.size + 1, k + 1, none⟩ = false := fun v => by rw [World.frozen?_setCell]; exact e4
        have hsb := swap_back hkl hk1 (W := wd) (g := w4.heap.size + 1) (fun j hj => (hcd _).trans (HBY.out.cell j hj)) (48 + (D : Int)) (48 + (E : Int)) (by rw [byte_of HR.out k hkl, HDV.out]) (by rw [byte_of HR.out (k + 1) hk1, HE.out]) 14 cap6 hml.symm
        have HBD := Lib.hid hbd
        clear q1 q2 f1 f2 hcd hfd hbd
        go_wp2_with fail
        go_region
        clear hco hfo e1 e2 e3 e4
        have HB7 := Lib.hid (show Below wb.heap.size wb ((wd.setCell ⟨w4.heap.size + 1, k, none⟩ (.int .u8 (48 + (E : Int)))).setCell ⟨w4.heap.size + 1, k + 1, none⟩ (.int .u8 (48 + (D : Int)))).drew from ((HBD.out.setCell (p := ⟨w4.heap.size + 1, k, none⟩) HG4.out _).setCell (p := ⟨w4.heap.size + 1, k + 1, none⟩) HG4.out _).drew)
        generalize ((wd.setCell ⟨w4.heap.size + 1, k, none⟩ (.int .u8 (48 + (E : Int)))).setCell ⟨w4.heap.size + 1, k + 1, none⟩ (.int .u8 (48 + (D : Int)))).drew = w8 at *
        go_wp2_with fail
        go_at_call 12
        refine (HQ2.out _).mono ?_
        rintro e w9 ⟨rfl, hb9⟩
        have hb9' := HB7.out.trans (hb9.mono HB7.out.size)
        have HB9 := Lib.hid (hb9'.alloc hb9'.size (.cells (tkV c2 s2) 24))
        clear hb9 hb9' hsb
        rcases HGG.out with ⟨u1, u2⟩ | ⟨u1, u2⟩
        all_goals
          go_wp2_with fail
          go_at_call 11
          refine (H3.out _ HB9.out).mono ?_
          rintro e w10 ⟨rfl, hb10⟩
          have HB10 := Lib.hid (HB9.out.trans (hb10.mono HB9.out.size))
          clear hb10
          go_wp2
          go_ret
          exact ⟨rfl, HFIN.out _ HB10.out⟩
    · have g1 : (G != 0) = false := by rw [bne_eq_false_iff_eq, HG.out]; exact t2
      have g2 : (G == 0) = true := by rw [beq_iff_eq, HG.out]; exact t2
      have g3 : (F == 0) = false := by rw [beq_eq_false_iff_ne]; exact t1
      have g4 : (F != 0) = true := by rw [bne_iff_ne]; exact t1
      have g6 : decide ((k : Int) < 13) = false := decide_eq_false (by omega)
      have h11 : (11 : Int) < (k : Int) := by omega
      clear t1 t2 t3
      go_wp2_with fail
      go_at_call 11
      refine (H3.out _ HB5.out).mono ?_
      rintro e w7 ⟨rfl, hb7⟩
      have HB7 := Lib.hid (HB5.out.trans (hb7.mono HB5.out.size))
      clear hb7
      go_wp2
      go_ret
      exact ⟨rfl, HFIN.out _ HB7.out⟩
  · go_enter Tryd.func6, Tryd.ntmps6
    go_wp2_with fail
    go_at_call 9
    rw [← hwb]
    clear hwb
    refine (T1.out).mono ?_
    rintro e w1 ⟨rfl, hb1⟩
    obtain ⟨cap, W2, hcv, hby, hbel⟩ := bytes_of m w1
    rw [hml] at hcv
    have HB2 := Lib.hid (hb1.trans (hbel.mono hb1.size))
    have q1 : W2.cell? ⟨w1.heap.size, k, none⟩ = some (.int .u8 (48 + (D : Int))) := by rw [hby.cell k HKL.out, byte_of HR.out k HKL.out, HDV.out]
    have f1 : W2.frozen? ⟨w1.heap.size, k, none⟩ = false := hby.free k HKL.out
    have hbk := bytes_back (set_cells HKL.out hby.cell X (48 + (Y : Int)) HX.out) 14 cap (by rw [List.length_set]; exact hml.symm)
    have HB3 := Lib.hid (HB2.out.setCell (p := ⟨w1.heap.size, k, none⟩) hb1.size (.int .u8 (48 + (Y : Int))))
    have HQ := Lib.hid (fun W => show Calls Tryd.prog 12 #[str (m.set k X)] W (fun e w' => e = .returned (.tuple #[.agg (tkV c' s'), .int .i64 ((er : Nat) : Int)]) ∧ Below W.heap.size W w') by
      have := HPA.out (m.set k X) W
      unfold paV at this
      rw [hp] at this
      exact this)
    have hFF : (48 + (Y : Int)) - (48 + (D : Int)) = F := by omega
    clear hbel hby hb1 hp
    go_wp2_with fail
    go_at_call 12
    (try simp only [hFF])
    refine (HQ.out _).mono ?_
    rintro e w4 ⟨rfl, hb4⟩
    have hb4' := HB3.out.trans (hb4.mono HB3.out.size)
    obtain ⟨W5, hW5⟩ : ∃ W5, W5 = w4.alloc (.cells (tkV c' s') 24) := ⟨_, rfl⟩
    have hb5 : Below wb.heap.size wb W5 := by rw [hW5]; exact hb4'.alloc hb4'.size _
    have hs5 : W5.heap.size = w4.heap.size + 1 := by rw [hW5, size_a]
    obtain ⟨cap6, W6, hcv6, hby6, hbel6⟩ := bytes_of m W5
    rw [hml, hs5, hW5] at hcv6
    rw [hs5] at hby6
    have HB5 := Lib.hid hb5
    rw [hW5] at HB5
    have HB6 := Lib.hid (hb5.trans (hbel6.mono hb5.size))
    have HBY := Lib.hid hby6
    have HG4 := Lib.hid (show wb.heap.size ≤ w4.heap.size + 1 from Nat.le_succ_of_le hb4'.size)
    clear hb4 hb4' hb5 hs5 hbel6 hby6 hbk q1 f1 hcv hW5
    rcases T2 with ⟨t1, t2⟩ | ⟨t1, t2⟩ | ⟨t1, t2, t3, t4⟩ | ⟨t1, t2, t3⟩
    · have g1 : (G != 0) = true := by rw [bne_iff_ne]; exact fun e => t1 (HG.out.1 e)
      have g2 : (G == 0) = false := by rw [beq_eq_false_iff_ne]; exact fun e => t1 (HG.out.1 e)
      have g3 : (F == 0) = false := by rw [beq_eq_false_iff_ne]; rintro rfl; exact t1 rfl
      have g4 : (F != 0) = true := by rw [bne_iff_ne]; rintro rfl; exact t1 rfl
      have g5 : ((er : Int) != 70) = false := by rw [t2]; rfl
      clear t1 t2
      by_cases h11 : (11 : Int) < (k : Int)
      · go_wp2_with fail
        go_at_call 11
        refine (H3.out _ HB5.out).mono ?_
        rintro e w7 ⟨rfl, hb7⟩
        have HB7 := Lib.hid (HB5.out.trans (hb7.mono HB5.out.size))
        clear hb7
        go_wp2
        go_ret
        exact ⟨rfl, HFIN.out _ HB7.out⟩
      · have hk1 : k + 1 < m.length := by omega
        obtain ⟨E, hE⟩ : ∃ E : Nat, E = (dv m[k + 1]).1 := ⟨_, rfl⟩
        have hE9 : (E : Int) ≤ 9 := by have := (dv m[k + 1]).2; omega
        have hE0 : (0 : Int) ≤ (E : Int) := Int.natCast_nonneg _
        have q1 : W6.cell? ⟨w4.heap.size + 1, k, none⟩ = some (.int .u8 (48 + (D : Int))) := by rw [HBY.out.cell k hkl, byte_of HR.out k hkl, HDV.out]
        have q2 : W6.cell? ⟨w4.heap.size + 1, k + 1, none⟩ = some (.int .u8 (48 + (E : Int))) := by rw [HBY.out.cell (k + 1) hk1, byte_of HR.out (k + 1) hk1, hE]
        have f1 : W6.frozen? ⟨w4.heap.size + 1, k, none⟩ = false := HBY.out.free k hkl
        have f2 : W6.frozen? ⟨w4.heap.size + 1, k + 1, none⟩ = false := HBY.out.free (k + 1) hk1
        have HE := Lib.hid hE
        clear hE
        obtain ⟨F2, hF2⟩ : ∃ F2 : Int, (D : Int) - (E : Int) = F2 := ⟨_, rfl⟩
        obtain ⟨G2, hG2⟩ : ∃ G2 : Int, F2.tmod 7 = G2 := ⟨_, rfl⟩
        have hT2 : (parseL ((m.set k m[k + 1]).set (k + 1) m[k])).2.2 = 70 ↔ F2 % 7 ≠ 0 := told_two HR.out (k := k) (by omega) F2 (by rw [← HDV.out, ← HE.out]; exact hF2.symm)
        have hG7 : G2 = 0 ↔ F2 % 7 = 0 := by rw [← hG2]; exact tmod7 F2
        obtain ⟨c2, s2, er2, hp2⟩ : ∃ c' s' er, parseL ((m.set k m[k + 1]).set (k + 1) m[k]) = (c', s', er) := ⟨_, _, _, rfl⟩
        rw [hp2] at hT2
        have HQ2 := Lib.hid (fun W => show Calls Tryd.prog 12 #[str ((m.set k m[k + 1]).set (k + 1) m[k])] W (fun e w' => e = .returned (.tuple #[.agg (tkV c2 s2), .int .i64 ((er2 : Nat) : Int)]) ∧ Below W.heap.size W w') by
          have := HPA.out ((m.set k m[k + 1]).set (k + 1) m[k]) W
          unfold paV at this
          rw [hp2] at this
          exact this)
        have HGG := Lib.hid (show (((er2 : Int) == 70) = true ∧ (G2 != 0) = true) ∨ (((er2 : Int) == 70) = false ∧ (G2 != 0) = false) by
          by_cases h : F2 % 7 = 0
          · exact .inr ⟨by rw [beq_eq_false_iff_ne]; intro e; exact hT2.1 (by simp only; omega) h, by rw [hG7.2 h]; rfl⟩
          · exact .inl ⟨by have := hT2.2 h; simp only at this; rw [this]; rfl, by rw [bne_iff_ne]; exact fun e => h (hG7.1 e)⟩)
        have hFF2 : (48 + (D : Int)) - (48 + (E : Int)) = F2 := by omega
        clear hT2 hG7 hp2
        go_wp2_with fail
        go_quiet (fail)
        obtain ⟨wd, hwd⟩ : ∃ wd, wd = W6.drewN nq := ⟨_, rfl⟩
        have hbd : Below wb.heap.size wb wd := by rw [hwd]; exact HB6.out.trans (below_drewN _ _ _)
        have hcd : ∀ p, wd.cell? p = W6.cell? p := fun p => by rw [hwd]; rfl
        have hfd : ∀ p, wd.frozen? p = W6.frozen? p := fun p => by rw [hwd]; rfl
        rw [← hwd]
        clear hwd
        have e1 := (hcd _).trans q1
        have e2 := (hcd _).trans q2
        have e3 := (hfd _).trans f1
        have e4 := (hfd _).trans f2
        have hco : ∀ v, (wd.setCell ⟨w4.heap.size + 1, k, none⟩ v).cell? ⟨w4.heap.size + 1, k + 1, none⟩ = some (.int .u8 (48 + (E : Int))) := fun v => by
          rw [World.cell?_setCell_other _ _ _ _ (by intro e; have := congrArg Addr.off e; simp at this)]; exact e2
        have hfo : ∀ v, (wd.setCell ⟨w4.heap.size + 1, k, none⟩ v).frozen? ⟨w4.heap.size + 1, k + 1, none⟩ = false := fun v => by rw [World.frozen?_setCell]; exact e4
        have hsb := swap_back hkl hk1 (W := wd) (g := w4.heap.size + 1) (fun j hj => (hcd _).trans (HBY.out.cell j hj)) (48 + (D : Int)) (48 + (E : Int)) (by rw [byte_of HR.out k hkl, HDV.out]) (by rw [byte_of HR.out (k + 1) hk1, HE.out]) 14 cap6 hml.symm
        have HBD := Lib.hid hbd
        clear q1 q2 f1 f2 hcd hfd hbd
        go_wp2_with fail
        go_region
        clear hco hfo e1 e2 e3 e4
        have HB7 := Lib.hid (show Below wb.heap.size wb ((wd.setCell ⟨w4.heap.size + 1, k, none⟩ (.int .u8 (48 + (E : Int)))).setCell ⟨w4.heap.size + 1, k + 1, none⟩ (.int .u8 (48 + (D : Int)))).drew from ((HBD.out.setCell (p := ⟨w4.heap.size + 1, k, none⟩) HG4.out _).setCell (p := ⟨w4.heap.size + 1, k + 1, none⟩) HG4.out _).drew)
        generalize ((wd.setCell ⟨w4.heap.size + 1, k, none⟩ (.int .u8 (48 + (E : Int)))).setCell ⟨w4.heap.size + 1, k + 1, none⟩ (.int .u8 (48 + (D : Int)))).drew = w8 at *
        go_wp2_with fail
        go_at_call 12
        refine (HQ2.out _).mono ?_
        rintro e w9 ⟨rfl, hb9⟩
        have hb9' := HB7.out.trans (hb9.mono HB7.out.size)
        have HB9 := Lib.hid (hb9'.alloc hb9'.size (.cells (tkV c2 s2) 24))
        clear hb9 hb9' hsb
        rcases HGG.out with ⟨u1, u2⟩ | ⟨u1, u2⟩
        all_goals
          go_wp2_with fail
          go_at_call 11
          refine (H3.out _ HB9.out).mono ?_
          rintro e w10 ⟨rfl, hb10⟩
          have HB10 := Lib.hid (HB9.out.trans (hb10.mono HB9.out.size))
          clear hb10
          go_wp2
          go_ret
          exact ⟨rfl, HFIN.out _ HB10.out⟩
    · have g1 : (G != 0) = false := by rw [bne_eq_false_iff_eq, HG.out, t1]; rfl
      have g3 : (F == 0) = true := by rw [t1]; rfl
      have g4 : (F != 0) = false := by rw [t1]; rfl
      have g5 : ((er : Int) != 0) = false := by rw [t2]; rfl
      clear t1 t2
      by_cases h11 : (11 : Int) < (k : Int)
      · go_wp2_with fail
        go_at_call 11
        refine (H3.out _ HB5.out).mono ?_
        rintro e w7 ⟨rfl, hb7⟩
        have HB7 := Lib.hid (HB5.out.trans (hb7.mono HB5.out.size))
        clear hb7
        go_wp2
        go_ret
        exact ⟨rfl, HFIN.out _ HB7.out⟩
      · have hk1 : k + 1 < m.length := by omega
        obtain ⟨E, hE⟩ : ∃ E : Nat, E = (dv m[k + 1]).1 := ⟨_, rfl⟩
        have hE9 : (E : Int) ≤ 9 := by have := (dv m[k + 1]).2; omega
        have hE0 : (0 : Int) ≤ (E : Int) := Int.natCast_nonneg _
        have q1 : W6.cell? ⟨w4.heap.size + 1, k, none⟩ = some (.int .u8 (48 + (D : Int))) := by rw [HBY.out.cell k hkl, byte_of HR.out k hkl, HDV.out]
        have q2 : W6.cell? ⟨w4.heap.size + 1, k + 1, none⟩ = some (.int .u8 (48 + (E : Int))) := by rw [HBY.out.cell (k + 1) hk1, byte_of HR.out (k + 1) hk1, hE]
        have f1 : W6.frozen? ⟨w4.heap.size + 1, k, none⟩ = false := HBY.out.free k hkl
        have f2 : W6.frozen? ⟨w4.heap.size + 1, k + 1, none⟩ = false := HBY.out.free (k + 1) hk1
        have HE := Lib.hid hE
        clear hE
        obtain ⟨F2, hF2⟩ : ∃ F2 : Int, (D : Int) - (E : Int) = F2 := ⟨_, rfl⟩
        obtain ⟨G2, hG2⟩ : ∃ G2 : Int, F2.tmod 7 = G2 := ⟨_, rfl⟩
        have hT2 : (parseL ((m.set k m[k + 1]).set (k + 1) m[k])).2.2 = 70 ↔ F2 % 7 ≠ 0 := told_two HR.out (k := k) (by omega) F2 (by rw [← HDV.out, ← HE.out]; exact hF2.symm)
        have hG7 : G2 = 0 ↔ F2 % 7 = 0 := by rw [← hG2]; exact tmod7 F2
        obtain ⟨c2, s2, er2, hp2⟩ : ∃ c' s' er, parseL ((m.set k m[k + 1]).set (k + 1) m[k]) = (c', s', er) := ⟨_, _, _, rfl⟩
        rw [hp2] at hT2
        have HQ2 := Lib.hid (fun W => show Calls Tryd.prog 12 #[str ((m.set k m[k + 1]).set (k + 1) m[k])] W (fun e w' => e = .returned (.tuple #[.agg (tkV c2 s2), .int .i64 ((er2 : Nat) : Int)]) ∧ Below W.heap.size W w') by
          have := HPA.out ((m.set k m[k + 1]).set (k + 1) m[k]) W
          unfold paV at this
          rw [hp2] at this
          exact this)
        have HGG := Lib.hid (show (((er2 : Int) == 70) = true ∧ (G2 != 0) = true) ∨ (((er2 : Int) == 70) = false ∧ (G2 != 0) = false) by
          by_cases h : F2 % 7 = 0
          · exact .inr ⟨by rw [beq_eq_false_iff_ne]; intro e; exact hT2.1 (by simp only; omega) h, by rw [hG7.2 h]; rfl⟩
          · exact .inl ⟨by have := hT2.2 h; simp only at this; rw [this]; rfl, by rw [bne_iff_ne]; exact fun e => h (hG7.1 e)⟩)
        have hFF2 : (48 + (D : Int)) - (48 + (E : Int)) = F2 := by omega
        clear hT2 hG7 hp2
        go_wp2_with fail
        go_quiet (fail)
        obtain ⟨wd, hwd⟩ : ∃ wd, wd = W6.drewN nq := ⟨_, rfl⟩
        have hbd : Below wb.heap.size wb wd := by rw [hwd]; exact HB6.out.trans (below_drewN _ _ _)
        have hcd : ∀ p, wd.cell? p = W6.cell? p := fun p => by rw [hwd]; rfl
        have hfd : ∀ p, wd.frozen? p = W6.frozen? p := fun p => by rw [hwd]; rfl
        rw [← hwd]
        clear hwd
        have e1 := (hcd _).trans q1
        have e2 := (hcd _).trans q2
        have e3 := (hfd _).trans f1
        have e4 := (hfd _).trans f2
        have hco : ∀ v, (wd.setCell ⟨w4.heap.size + 1, k, none⟩ v).cell? ⟨w4.heap.size + 1, k + 1, none⟩ = some (.int .u8 (48 + (E : Int))) := fun v => by
          rw [World.cell?_setCell_other _ _ _ _ (by intro e; have := congrArg Addr.off e; simp at this)]; exact e2
        have hfo : ∀ v, (wd.setCell ⟨w4.heap.size + 1, k, none⟩ v).frozen? ⟨w4.heap.size + 1, k + 1, none⟩ = false := fun v => by rw [World.frozen?_setCell]; exact e4
        have hsb := swap_back hkl hk1 (W := wd) (g := w4.heap.size + 1) (fun j hj => (hcd _).trans (HBY.out.cell j hj)) (48 + (D : Int)) (48 + (E : Int)) (by rw [byte_of HR.out k hkl, HDV.out]) (by rw [byte_of HR.out (k + 1) hk1, HE.out]) 14 cap6 hml.symm
        have HBD := Lib.hid hbd
        clear q1 q2 f1 f2 hcd hfd hbd
        go_wp2_with fail
        go_region
        clear hco hfo e1 e2 e3 e4
        have HB7 := Lib.hid (show Below wb.heap.size wb ((wd.setCell ⟨w4.heap.size + 1, k, none⟩ (.int .u8 (48 + (E : Int)))).setCell ⟨w4.heap.size + 1, k + 1, none⟩ (.int .u8 (48 + (D : Int)))).drew from ((HBD.out.setCell (p := ⟨w4.heap.size + 1, k, none⟩) HG4.out _).setCell (p := ⟨w4.heap.size + 1, k + 1, none⟩) HG4.out _).drew)
        generalize ((wd.setCell ⟨w4.heap.size + 1, k, none⟩ (.int .u8 (48 + (E : Int)))).setCell ⟨w4.heap.size + 1, k + 1, none⟩ (.int .u8 (48 + (D : Int)))).drew = w8 at *
        go_wp2_with fail
        go_at_call 12
        refine (HQ2.out _).mono ?_
        rintro e w9 ⟨rfl, hb9⟩
        have hb9' := HB7.out.trans (hb9.mono HB7.out.size)
        have HB9 := Lib.hid (hb9'.alloc hb9'.size (.cells (tkV c2 s2) 24))
        clear hb9 hb9' hsb
        rcases HGG.out with ⟨u1, u2⟩ | ⟨u1, u2⟩
        all_goals
          go_wp2_with fail
          go_at_call 11
          refine (H3.out _ HB9.out).mono ?_
          rintro e w10 ⟨rfl, hb10⟩
          have HB10 := Lib.hid (HB9.out.trans (hb10.mono HB9.out.size))
          clear hb10
          go_wp2
          go_ret
          exact ⟨rfl, HFIN.out _ HB10.out⟩
    · have g1 : (G != 0) = false := by rw [bne_eq_false_iff_eq, HG.out]; exact t2
      have g2 : (G == 0) = true := by rw [beq_iff_eq, HG.out]; exact t2
      have g3 : (F == 0) = false := by rw [beq_eq_false_iff_ne]; exact t1
      have g4 : (F != 0) = true := by rw [bne_iff_ne]; exact t1
      have g5 : ((er : Int) == 70) = false := by rw [beq_eq_false_iff_ne]; omega
      have g6 : decide ((k : Int) < 13) = true := decide_eq_true (by omega)
      clear t1 t2 t3 t4
      by_cases h11 : (11 : Int) < (k : Int)
      · go_wp2_with fail
        go_at_call 11
        refine (H3.out _ HB5.out).mono ?_
        rintro e w7 ⟨rfl, hb7⟩
        have HB7 := Lib.hid (HB5.out.trans (hb7.mono HB5.out.size))
        clear hb7
        go_wp2
        go_ret
        exact ⟨rfl, HFIN.out _ HB7.out⟩
      · have hk1 : k + 1 < m.length := by omega
        obtain ⟨E, hE⟩ : ∃ E : Nat, E = (dv m[k + 1]).1 := ⟨_, rfl⟩
        have hE9 : (E : Int) ≤ 9 := by have := (dv m[k + 1]).2; omega
        have hE0 : (0 : Int) ≤ (E : Int) := Int.natCast_nonneg _
        have q1 : W6.cell? ⟨w4.heap.size + 1, k, none⟩ = some (.int .u8 (48 + (D : Int))) := by rw [HBY.out.cell k hkl, byte_of HR.out k hkl, HDV.out]
        have q2 : W6.cell? ⟨w4.heap.size + 1, k + 1, none⟩ = some (.int .u8 (48 + (E : Int))) := by rw [HBY.out.cell (k + 1) hk1, byte_of HR.out (k + 1) hk1, hE]
        have f1 : W6.frozen? ⟨w4.heap.size + 1, k, none⟩ = false := HBY.out.free k hkl
        have f2 : W6.frozen? ⟨w4.heap.size + 1, k + 1, none⟩ = false := HBY.out.free (k + 1) hk1
        have HE := Lib.hid hE
        clear hE
        obtain ⟨F2, hF2⟩ : ∃ F2 : Int, (D : Int) - (E : Int) = F2 := ⟨_, rfl⟩
        obtain ⟨G2, hG2⟩ : ∃ G2 : Int, F2.tmod 7 = G2 := ⟨_, rfl⟩
        have hT2 : (parseL ((m.set k m[k + 1]).set (k + 1) m[k])).2.2 = 70 ↔ F2 % 7 ≠ 0 := told_two HR.out (k := k) (by omega) F2 (by rw [← HDV.out, ← HE.out]; exact hF2.symm)
        have hG7 : G2 = 0 ↔ F2 % 7 = 0 := by rw [← hG2]; exact tmod7 F2
        obtain ⟨c2, s2, er2, hp2⟩ : ∃ c' s' er, parseL ((m.set k m[k + 1]).set (k + 1) m[k]) = (c', s', er) := ⟨_, _, _, rfl⟩
        rw [hp2] at hT2
        have HQ2 := Lib.hid (fun W => show Calls Tryd.prog 12 #[str ((m.set k m[k + 1]).set (k + 1) m[k])] W (fun e w' => e = .returned (.tuple #[.agg (tkV c2 s2), .int .i64 ((er2 : Nat) : Int)]) ∧ Below W.heap.size W w') by
          have := HPA.out ((m.set k m[k + 1]).set (k + 1) m[k]) W
          unfold paV at this
          rw [hp2] at this
          exact this)
        have HGG := Lib.hid (show (((er2 : Int) == 70) = true ∧ (G2 != 0) = true) ∨ (((er2 : Int) == 70) = false ∧ (G2 != 0) = false) by
          by_cases h : F2 % 7 = 0
          · exact .inr ⟨by rw [beq_eq_false_iff_ne]; intro e; exact hT2.1 (by simp only; omega) h, by rw [hG7.2 h]; rfl⟩
          · exact .inl ⟨by have := hT2.2 h; simp only at this; rw [this]; rfl, by rw [bne_iff_ne]; exact fun e => h (hG7.1 e)⟩)
        have hFF2 : (48 + (D : Int)) - (48 + (E : Int)) = F2 := by omega
        clear hT2 hG7 hp2
        go_wp2_with fail
        go_quiet (fail)
        obtain ⟨wd, hwd⟩ : ∃ wd, wd = W6.drewN nq := ⟨_, rfl⟩
        have hbd : Below wb.heap.size wb wd := by rw [hwd]; exact HB6.out.trans (below_drewN _ _ _)
        have hcd : ∀ p, wd.cell? p = W6.cell? p := fun p => by rw [hwd]; rfl
        have hfd : ∀ p, wd.frozen? p = W6.frozen? p := fun p => by rw [hwd]; rfl
        rw [← hwd]
        clear hwd
        have e1 := (hcd _).trans q1
        have e2 := (hcd _).trans q2
        have e3 := (hfd _).trans f1
        have e4 := (hfd _).trans f2
        have hco : ∀ v, (wd.setCell ⟨w4.heap.size + 1, k, none⟩ v).cell? ⟨w4.heap.size + 1, k + 1, none⟩ = some (.int .u8 (48 + (E : Int))) := fun v => by
          rw [World.cell?_setCell_other _ _ _ _ (by intro e; have := congrArg Addr.off e; simp at this)]; exact e2
        have hfo : ∀ v, (wd.setCell ⟨w4.heap.size + 1, k, none⟩ v).frozen? ⟨w4.heap.size + 1, k + 1, none⟩ = false := fun v => by rw [World.frozen?_setCell]; exact e4
        have hsb := swap_back hkl hk1 (W := wd) (g := w4.heap.size + 1) (fun j hj => (hcd _).trans (HBY.out.cell j hj)) (48 + (D : Int)) (48 + (E : Int)) (by rw [byte_of HR.out k hkl, HDV.out]) (by rw [byte_of HR.out (k + 1) hk1, HE.out]) 14 cap6 hml.symm
        have HBD := Lib.hid hbd
        clear q1 q2 f1 f2 hcd hfd hbd
        go_wp2_with fail
        go_region
        clear hco hfo e1 e2 e3 e4
        have HB7 := Lib.hid (show Below wb.heap.size wb ((wd.setCell ⟨w4.heap.size + 1, k, none⟩ (.int .u8 (48 + (E : Int)))).setCell ⟨w4.heap.size + 1, k + 1, none⟩ (.int .u8 (48 + (D : Int)))).drew from ((HBD.out.setCell (p := ⟨w4.heap.size + 1, k, none⟩) HG4.out _).setCell (p := ⟨w4.heap.size + 1, k + 1, none⟩) HG4.out _).drew)
        generalize ((wd.setCell ⟨w4.heap.size + 1, k, none⟩ (.int .u8 (48 + (E : Int)))).setCell ⟨w4.heap.size + 1, k + 1, none⟩ (.int .u8 (48 + (D : Int)))).drew = w8 at *
        go_wp2_with fail
        go_at_call 12
        refine (HQ2.out _).mono ?_
        rintro e w9 ⟨rfl, hb9⟩
        have hb9' := HB7.out.trans (hb9.mono HB7.out.size)
        have HB9 := Lib.hid (hb9'.alloc hb9'.size (.cells (tkV c2 s2) 24))
        clear hb9 hb9' hsb
        rcases HGG.out with ⟨u1, u2⟩ | ⟨u1, u2⟩
        all_goals
          go_wp2_with fail
          go_at_call 11
          refine (H3.out _ HB9.out).mono ?_
          rintro e w10 ⟨rfl, hb10⟩
          have HB10 := Lib.hid (HB9.out.trans (hb10.mono HB9.out.size))
          clear hb10
          go_wp2
          go_ret
          exact ⟨rfl, HFIN.out _ HB10.out⟩
    · have g1 : (G != 0) = false := by rw [bne_eq_false_iff_eq, HG.out]; exact t2
      have g2 : (G == 0) = true := by rw [beq_iff_eq, HG.out]; exact t2
      have g3 : (F == 0) = false := by rw [beq_eq_false_iff_ne]; exact t1
      have g4 : (F != 0) = true := by rw [bne_iff_ne]; exact t1
      have g6 : decide ((k : Int) < 13) = false := decide_eq_false (by omega)
      have h11 : (11 : Int) < (k : Int) := by omega
      clear t1 t2 t3
      go_wp2_with fail
      go_at_call 11
      refine (H3.out _ HB5.out).mono ?_
      rintro e w7 ⟨rfl, hb7⟩
      have HB7 := Lib.hid (HB5.out.trans (hb7.mono HB5.out.size))
      clear hb7
      go_wp2
      go_ret
      exact ⟨rfl, HFIN.out _ HB7.out⟩
end Go.Proofs.YtinekngddmeljaaDoor
