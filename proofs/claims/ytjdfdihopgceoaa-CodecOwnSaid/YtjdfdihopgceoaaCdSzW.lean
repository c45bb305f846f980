/- The walk of CodecSizes. -/
import Derived.Test.YtjdfdihopgceoaaCdGr
namespace Go.Proofs.Ytjdfdihopgceoaa.Cd
open Go.RowKit Go.Shelf Go.Dk Go.Jn Go.Cod

theorem sumC_take (T : List Tx) (k : Nat) (hk : k < T.length) : sumC (T.take (k + 1)) = sumC (T.take k) + (T[k]).code.length := by
  unfold sumC
  rw [List.take_succ_eq_append_getElem hk, List.map_append, List.sum_append]
  simp only [List.map_cons, List.map_nil, List.sum_cons, List.sum_nil, Nat.add_zero]
theorem sumC_le (T : List Tx) (h : ∀ x ∈ T, x.code.length ≤ 32) : ∀ k, sumC (T.take k) ≤ 32 * T.length := by
  induction T with
  | nil => intro k; simp [sumC]
  | cons x T ih =>
    intro k
    cases k with
    | zero => simp [sumC]
    | succ k =>
      have h1 := ih (fun y hy => h y (by simp [hy])) k
      have h2 := h x (by simp)
      unfold sumC at *
      simp only [List.take_succ_cons, List.map_cons, List.sum_cons, List.length_cons]
      omega
/-- what a walk over a record's argument leans on -/
structure Arg (w : World) (C : Array Value) (w' : World) : Prop where
  cells : w'.heap[w.heap.size]? = some (.cells C 44 (0, 0))
  bel : Below w.heap.size w w'
theorem Arg.on {w w' w'' : World} {C : Array Value} (h : Arg w C w') (hb : Below w'.heap.size w' w'') : Arg w C w'' :=
  ⟨(hb.block _ (lt_of_heap h.cells)).trans h.cells, h.bel.trans (hb.mono h.bel.size)⟩
theorem arg_new (w : World) (C : Array Value) : Arg w C (w.alloc (.cells C 44)) := ⟨heap_last _ _ _ rfl, (Below.refl _ _).alloc (Nat.le_refl _) _⟩
set_option maxRecDepth 100000 in
set_option maxHeartbeats 3200000 in
theorem cdsizes_any (r : Rc) (lp tp : Option Addr) (lc tc : Nat) (w : World) (hok : greatL r = false → OkRc true r) (hl : RowF w (· < w.heap.size) (.slice lp r.cmd.legs.length lc) r.cmd.legs.length (flt lgC r.cmd.legs)) (ht : RowF w (· < w.heap.size) (.slice tp r.cmd.taxes.length tc) r.cmd.taxes.length (flt txC r.cmd.taxes)) (hm : r.msg.length = 12) :
    Calls Try.prog 9 #[.agg (recC r (.slice lp r.cmd.legs.length lc) (.slice tp r.cmd.taxes.length tc)).toArray] w fun e w' => e = .returned (.bool true) ∧ Below w.heap.size w w' := by
  obtain ⟨C, hC⟩ : ∃ C, (recC r (.slice lp r.cmd.legs.length lc) (.slice tp r.cmd.taxes.length tc)).toArray = C := ⟨_, rfl⟩
  obtain ⟨w1, hw1⟩ : ∃ w1, w.alloc (.cells C 44) = w1 := ⟨_, rfl⟩
  have hA1 : Arg w C w1 := by rw [← hw1]; exact arg_new w C
  have hsz : (Try.prog.info? 44).map (·.size) = some C.size := by rw [← hC]; exact sizeRec hm
  have hk : ∀ w', Below w.heap.size w w' → RowF w' (· < w.heap.size) (.slice lp r.cmd.legs.length lc) r.cmd.legs.length (flt lgC r.cmd.legs) ∧ RowF w' (· < w.heap.size) (.slice tp r.cmd.taxes.length tc) r.cmd.taxes.length (flt txC r.cmd.taxes) := fun w' hb =>
    ⟨hl.kept (fun b h => ⟨h, hb.block b h⟩), ht.kept (fun b h => ⟨h, hb.block b h⟩)⟩
  have hup : ∀ {w' : World} {v : Value} {n : Nat} {xs : List Value}, Below w.heap.size w w' → RowF w' (· < w.heap.size) v n xs → RowF w' (· < w'.heap.size) v n xs := fun hb h => h.kept (fun b hx => ⟨Nat.lt_of_lt_of_le hx hb.size, rfl⟩)
  have HG := Lib.hid (by
    have := great_any r lp tp lc tc w1 (hup hA1.bel (hk w1 hA1.bel).2)
    rw [hC] at this
    exact this)
  have HP := Lib.hid (fun (w' : World) (hb : Below w.heap.size w w') (hg : greatL r = false) => by
    have := put_any (hok hg) lp tp lc tc w' (hup hb (hk w' hb).1) (hup hb (hk w' hb).2)
    rw [hC] at this
    exact this)
  have HK := Lib.hid hk
  have HC := Lib.hid hC
  have HA1 := Lib.hid hA1
  have HOK := Lib.hid hok
  have HSZ := Lib.hid hsz
  have HM := Lib.hid hm
  rw [hC]
  clear hl ht hk hup hA1 hok hC hsz hm
  go_enter Try.func9, Try.ntmps9
  go_wp2_with (refine wpList_load_row rfl 44 _ rfl w.heap.size rfl 44 C (0, 0) _ HA1.out.cells Try.underlying44 rfl HSZ.out ?_)
  refine (HG.out).mono ?_
  rintro e w2 ⟨rfl, hb2⟩
  have HA2 := Lib.hid (HA1.out.on hb2)
  clear hb2 HG
  cases hg : greatL r
  · have HP2 := Lib.hid (HP.out w2 HA2.out.bel hg)
    have HO := Lib.hid (HOK.out hg)
    clear HP HOK hw1
    go_wp2_with (refine wpList_load_row rfl 44 _ rfl w.heap.size rfl 44 C (0, 0) _ HA2.out.cells Try.underlying44 rfl HSZ.out ?_)
    refine (HP2.out).mono ?_
    rintro e w3 ⟨v, rfl, ho3, hb3⟩
    have HA3 := Lib.hid (HA2.out.on hb3)
    obtain ⟨pv, cv, rfl⟩ := own_slice ho3
    have HU := Lib.hid (puts_any w3)
    clear ho3 hb3 HP2
    by_cases h0 : (putL r).1 = 0
    · have he := put_enc HO.out h0
      have hmk := (may_iff r).1 ((put_zero HO.out).1 h0).1
      have hfit := ((put_zero HO.out).1 h0).2
      have hlen : (putL r).2.length = sizeL r := by rw [he]; exact enc_len hmk.1 HM.out
      rw [hlen, h0]
      have HKIND := Lib.hid hmk.1
      have x0 := cell_of_arr HA3.out.cells 0
      have x5 := cell_of_arr HA3.out.cells 5
      have x6 := cell_of_arr HA3.out.cells 6
      have x7 := cell_of_arr HA3.out.cells 7
      have x8 := cell_of_arr HA3.out.cells 8
      have x9 := cell_of_arr HA3.out.cells 9
      rw [← HC.out] at x0 x5 x6 x7 x8 x9
      simp only [recC, List.getElem?_toArray, List.getElem?_cons_zero, List.getElem?_cons_succ] at x0 x5 x6 x7 x8 x9
      have HFIT := Lib.hid hfit
      clear he hmk hfit hlen
      rcases HKIND.out with hk1 | hk2 | hk3
      · have hf := HFIT.out hk1
        rw [hk1] at x0
        have hsz1 : sizeL r = 39 + r.cmd.name.length + 7 * r.cmd.legs.length + 9 * r.cmd.taxes.length + sumC r.cmd.taxes := by unfold sizeL; rw [if_pos hk1]
        have hsum := sumC_le r.cmd.taxes hf.2.2.2
        have hT := (HK.out w3 HA3.out.bel).2
        have hts := tx_size r.cmd.name
        obtain ⟨w4, hw4⟩ : ∃ w4, w3.alloc (.cells #[str r.cmd.name, .slice lp r.cmd.legs.length lc, .int .i64 (wrap64 (r.cmd.fare : Int)), .slice tp r.cmd.taxes.length tc, .int .i64 (wrap64 (r.cmd.pen : Int))] 28) = w4 := ⟨_, rfl⟩
        have hb4 : Below w3.heap.size w3 w4 := by rw [← hw4]; exact (Below.refl _ _).alloc (Nat.le_refl _) _
        have hA4 := HA3.out.on hb4
        have hc4 : w4.heap[w3.heap.size]? = some (.cells #[str r.cmd.name, .slice lp r.cmd.legs.length lc, .int .i64 (wrap64 (r.cmd.fare : Int)), .slice tp r.cmd.taxes.length tc, .int .i64 (wrap64 (r.cmd.pen : Int))] 28 (0, 0)) := by rw [← hw4]; exact heap_last _ _ _ rfl
        have y0 := cell_of_arr hc4 0
        have y1 := cell_of_arr hc4 1
        have y3 := cell_of_arr hc4 3
        simp only [List.getElem?_toArray, List.getElem?_cons_zero, List.getElem?_cons_succ] at y0 y1 y3
        have HT := Lib.hid (hT.kept (F' := (· < w.heap.size)) (fun b hb => ⟨hb, hb4.block b (Nat.lt_of_lt_of_le hb HA3.out.bel.size)⟩))
        have HA4 := Lib.hid hA4
        have HU4 := Lib.hid (puts_any w4)
        obtain ⟨f1, f2, f3, f4⟩ := hf
        have n0 : (0 : Int) ≤ (r.cmd.name.length : Int) := Int.natCast_nonneg _
        have n1 : (r.cmd.name.length : Int) ≤ 32 := by omega
        have g0 : (0 : Int) ≤ (r.cmd.legs.length : Int) := Int.natCast_nonneg _
        have g1 : (r.cmd.legs.length : Int) ≤ 4 := by omega
        have t0 : (0 : Int) ≤ (r.cmd.taxes.length : Int) := Int.natCast_nonneg _
        have t1 : (r.cmd.taxes.length : Int) ≤ 4 := by omega
        have hT4 : r.cmd.taxes.length ≤ 4 := f3
        have HF4 := Lib.hid f4
        have HSUM := Lib.hid hsum
        rw [hsz1]
        clear hT hb4 hA4 hc4 f1 f2 f3 f4 hsum hsz1 HU HKIND HFIT HO HSZ hk1
        generalize r.cmd.name.length = nl at *
        generalize r.cmd.legs.length = ll at *
        generalize r.cmd.taxes = T at *
        generalize hn : T.length = n at *
        have HN := Lib.hid hn
        clear hn
        obtain ⟨sT, hsT⟩ : ∃ sT, sumC T = sT := ⟨_, rfl⟩
        have HST := Lib.hid hsT
        rw [hsT]
        clear hsT
        obtain ⟨SZ, hSZ⟩ : ∃ SZ, 39 + nl + 7 * ll + 9 * n + sT = SZ := ⟨_, rfl⟩
        have HSZ2 := Lib.hid hSZ
        rw [hSZ]
        clear hSZ
        go_wp2_with fail
        clear hw4 x0 x5 x6 x7 x8 x9
        go_loopw [5, 7] (fun sz i wr => ∃ k c : Nat, k ≤ n ∧ i = .int .i64 (k : Int) ∧ sz = .int .i64 (39 + (nl : Int) + 7 * (ll : Int) + 9 * (n : Int) + (c : Int)) ∧ Hid (c = sumC (T.take k)) ∧ w4 = wr) (fun _ i _ => n - (vI i).toNat)
        case atStart => exact ⟨0, 0, Nat.zero_le _, rfl, by simp, Lib.hid rfl, rfl⟩
        case round =>
          obtain ⟨k, c, hk, rfl, rfl, hcs, rfl⟩ := hrel
          have hk0 : (0 : Int) ≤ (k : Int) := Int.natCast_nonneg _
          have c0 : (0 : Int) ≤ (c : Int) := Int.natCast_nonneg _
          have c1 : (c : Int) ≤ 128 := by have := HSUM.out k; rw [← hcs.out] at this; omega
          by_cases hlt1 : (k : Int) < (n : Int)
          · have hkT : k < T.length := by have := HN.out; omega
            obtain ⟨b, o, rfl, _, cc, hcc⟩ := tax_cell HT.out HN.out.symm hkT
            clear hcc
            have htk := tx_size (T[k]).code
            have HS := Lib.hid (sumC_take T k hkT)
            have d1 : ((T[k]).code.length : Int) ≤ 32 := by have := HF4.out _ (List.getElem_mem hkT); omega
            generalize (T[k]).code = cd at *
            have d0 : (0 : Int) ≤ (cd.length : Int) := Int.natCast_nonneg _
            clear hkT
            go_wp2
            go_roundw
            case rel => exact ⟨k + 1, c + cd.length, by omega, rfl, by congr 1; omega, Lib.hid (by rw [HS.out, ← hcs.out]), trivial⟩
            case measure => simp [vI]; omega
          · have hkn : k = n := by omega
            have hcT : c = sT := by
              have := hcs.out
              rw [List.take_of_length_le (by have := HN.out; omega), HST.out] at this
              exact this
            subst hcT
            have hne : (39 + (nl : Int) + 7 * (ll : Int) + 9 * (n : Int) + (c : Int)) = (SZ : Int) := by have := HSZ2.out; omega
            rw [hne]
            clear hne
            go_wp2_with fail
            refine (HU4.out).mono ?_
            rintro e w5 ⟨rfl, hb5⟩
            have HX := Lib.hid (HA4.out.on hb5).bel
            clear hb5
            go_wp2
            go_ret
            exact ⟨rfl, HX.out⟩
      · rw [hk2] at x0
        have hs2 : sizeL r = 57 := by unfold sizeL; rw [if_neg (by omega), if_pos hk2]
        rw [hs2]
        go_wp2_with fail
        refine (HU.out).mono ?_
        rintro e w4 ⟨rfl, hb4⟩
        have HX := Lib.hid (HA3.out.on hb4).bel
        clear hb4
        go_wp2
        go_ret
        exact ⟨rfl, HX.out⟩
      · rw [hk3] at x0
        have hs2 : sizeL r = 10 := by unfold sizeL; rw [if_neg (by omega), if_neg (by omega)]
        rw [hs2]
        go_wp2_with fail
        refine (HU.out).mono ?_
        rintro e w4 ⟨rfl, hb4⟩
        have HX := Lib.hid (HA3.out.on hb4).bel
        clear hb4
        go_wp2
        go_ret
        exact ⟨rfl, HX.out⟩
    · have hn := put_not h0
      have h1 : ¬ ((putL r).1 : Int) = 0 := by omega
      rw [hn]
      generalize (putL r).1 = er at *
      go_wp2_with fail
      refine (HU.out).mono ?_
      rintro e w4 ⟨rfl, hb4⟩
      have HX := Lib.hid (HA3.out.on hb4).bel
      clear hb4
      go_wp2
      go_ret
      exact ⟨rfl, HX.out⟩
  · go_wp2
    go_ret
    exact ⟨rfl, HA2.out.bel⟩
end Go.Proofs.Ytjdfdihopgceoaa.Cd
