/- The walk of NumberKnown. -/
import Derived.Test.YtinekngddmeljaaDoorNuL
import Derived.IntWalk
namespace Go.Proofs.YtinekngddmeljaaDoor
open Go.RowKit Go.Shelf Go.Number

def exsN : List (Tx × Nat) := [([48, 48, 49, 48, 48, 48, 48, 48, 48, 48, 48, 48, 49, 54], 70), ([48, 48, 49, 48, 48, 48, 48, 48, 48, 48, 48, 48, 49], 90), ([48, 48, 49, 48, 48, 48, 48, 48, 48, 48, 48, 48, 49, 53, 53], 90), ([48, 48, 49, 48, 48, 48, 48, 48, 48, 48, 48, 97, 49, 53], 90), ([], 90), ([32, 48, 49, 48, 48, 48, 48, 48, 48, 48, 48, 48, 49, 53], 90), ([48, 48, 48, 48, 48, 48, 48, 48, 48, 48, 48, 48, 48, 48], 1), ([48, 48, 48, 48, 48, 48, 48, 48, 48, 48, 48, 48, 49, 49], 0)]
theorem exsN_ok : exsN.all (fun r => (parseL r.1).2.2 == r.2) = true := by kernel_rfl
def flatN : List (Tx × Nat) → List Value
  | [] => []
  | r :: t => str r.1 :: .int .i64 (r.2 : Int) :: flatN t
theorem flatN_get : ∀ (l : List (Tx × Nat)) (k : Nat) (h : k < l.length), (flatN l)[k * 2]? = some (str l[k].1) ∧ (flatN l)[k * 2 + 1]? = some (.int .i64 ((l[k].2 : Nat) : Int))
  | _ :: _, 0, _ => ⟨rfl, rfl⟩
  | _ :: t, k + 1, h => by
    have := flatN_get t k (by simpa using h)
    rw [show (k + 1) * 2 = k * 2 + 1 + 1 by omega]
    exact this
abbrev kn9 : Tx := [48, 48, 55, 57, 57, 57, 57, 57, 57, 57, 57, 57, 57]
theorem heap_past (w : World) (o : Obj) (b : Nat) (hb : b < w.heap.size) {x : Obj} (h : w.heap[b]? = some x) : (w.alloc o).heap[b]? = some x := (Below.heap_alloc _ _ _ hb).trans h
theorem full9 : ∃ m : Tx, textL 7 9999999999 = (m, 0) ∧ m.length = 14 ∧ m.take 13 = kn9 ∧ parseL m = (7, 9999999999, 0) := by
  have h : may 7 9999999999 := by decide
  exact ⟨full 7 9999999999, text_in h, full_len _ _, (full_take _ _).trans (by kernel_rfl), parse_full h⟩
theorem tx_out (c s : Nat) (h : ¬ may c s) : textL c s = ([], 1) := text_out h
set_option maxRecDepth 100000 in
set_option maxHeartbeats 6400000 in
theorem nknown_any (B : Nat) (w : World) (htab : Tab B w) (hB0 : B ≤ w.heap.size) : Calls Tryd.prog 7 #[] w fun e w' => e = .returned (.bool true) ∧ Below w.heap.size w w' := by
  have HT := Lib.hid (show ∀ wz : World, Below w.heap.size w wz → Tab B wz ∧ B ≤ wz.heap.size from fun wz hz => ⟨htab.on (hz.mono hB0), Nat.le_trans hB0 hz.size⟩)
  clear htab hB0
  go_enter Tryd.func7, Tryd.ntmps7
  go_wp2
  go_loopw [2] (fun i wr => ∃ k : Nat, i = .int .i64 k ∧ k ≤ 8 ∧ Hid (wr.heap[w.heap.size]? = some (.cells (flatN exsN).toArray 37 (0, 0))) ∧ Below w.heap.size w wr) (fun i _ => 8 - (intOf i).toNat)
  case atStart => exact ⟨0, rfl, Nat.zero_le _, Lib.hid (World.alloc_heap_new w _), (Below.refl _ _).alloc (Nat.le_refl _) _⟩
  case round =>
    obtain ⟨k, rfl, hk, HG, hb⟩ := hrel
    have HB := Lib.hid hb
    clear hb
    by_cases hlt : (k : Int) < 8
    · have hk0 : (0 : Int) ≤ (k : Int) := Int.natCast_nonneg _
      have hkl : k < exsN.length := by show k < 8; omega
      have hC : ∀ wz : World, wz.heap[w.heap.size]? = some (.cells (flatN exsN).toArray 37 (0, 0)) → wz.cell? ⟨w.heap.size, k * 2, none⟩ = some (str exsN[k].1) ∧ wz.cell? ⟨w.heap.size, k * 2 + 1, none⟩ = some (.int .i64 ((exsN[k].2 : Nat) : Int)) := fun wz hz => by
        obtain ⟨h1, h2⟩ := flatN_get exsN k hkl
        exact ⟨(cell_of_arr hz _).trans (by simpa using h1), (cell_of_arr hz _).trans (by simpa using h2)⟩
      have o1 : (parseL exsN[k].1).2.2 = exsN[k].2 := by
        have := exsN_ok
        rw [List.all_eq_true] at this
        exact beq_iff_eq.1 (this _ (List.getElem_mem hkl))
      generalize exsN[k]'hkl = r at *
      obtain ⟨t, er⟩ := r
      simp only at hC o1
      obtain ⟨c0, c1⟩ := hC wr HG.out
      have HC := Lib.hid hC
      have q := parse_any t wr
      have hz := parse_err t
      unfold paV at q
      rw [o1] at q hz
      generalize parseL t = x at *
      obtain ⟨c, s, er'⟩ := x
      have Q := Lib.hid q
      clear q o1 hC
      go_wp2_with (go_at_call 12; refine (Q.out).mono ?_)
      first | rintro e w2 rfl hb2 | rintro e w2 ⟨rfl, hb2⟩
      have HG2 := Lib.hid ((hb2.block _ (Array.getElem?_eq_some_iff.1 HG.out).1).trans HG.out)
      have hb2' := HB.out.trans (hb2.mono HB.out.size)
      have hgl : w.heap.size < w2.heap.size := (Array.getElem?_eq_some_iff.1 HG2.out).1
      have HG3 := Lib.hid (fun o => heap_past w2 o w.heap.size hgl HG2.out)
      have HB3 := Lib.hid (fun o => hb2'.alloc hb2'.size o)
      obtain ⟨d0, d1⟩ := HC.out w2 HG2.out
      have dd : ∀ o, (w2.alloc o).cell? ⟨w.heap.size, k * 2 + 1, none⟩ = some (.int .i64 (er : Int)) := fun o => (HC.out _ (HG3.out o)).2
      clear c0 c1 hb2 hb2' d0
      by_cases he : ((er : Nat) : Int) = 0
      · clear hz
        go_wp2
        go_roundw
        case rel => exact ⟨k + 1, by go_num, by omega, Lib.hid (HG3.out _), HB3.out _⟩
        case measure => simp [intOf]; omega
      · obtain ⟨z1, z2⟩ := hz (by omega)
        (try simp only at z1 z2)
        subst z1 z2
        go_wp2
        go_roundw
        case rel => exact ⟨k + 1, by go_num, by omega, Lib.hid (HG3.out _), HB3.out _⟩
        case measure => simp [intOf]; omega
    · have hk8 : (k : Int) = 8 := by omega
      obtain ⟨m, hm1, hm2, hm3, hm4⟩ := full9
      have Q1 := Lib.hid (fun W (h : Below w.heap.size w W) => show Calls Tryd.prog 9 #[.agg #[.int .u8 8, .int .u64 1]] W (fun e w' => e = .returned (.tuple #[str [], .int .i64 1]) ∧ Below W.heap.size W w') by
        have := text_any 8 1 (by decide) B W (HT.out _ h).1 (HT.out _ h).2
        rw [tx_out 8 1 (by decide)] at this
        exact this)
      have Q2 := Lib.hid (fun W (h : Below w.heap.size w W) => show Calls Tryd.prog 9 #[.agg #[.int .u8 7, .int .u64 0]] W (fun e w' => e = .returned (.tuple #[str [], .int .i64 1]) ∧ Below W.heap.size W w') by
        have := text_any 7 0 (by decide) B W (HT.out _ h).1 (HT.out _ h).2
        rw [tx_out 7 0 (by decide)] at this
        exact this)
      have Q3 := Lib.hid (fun W (h : Below w.heap.size w W) => show Calls Tryd.prog 9 #[.agg #[.int .u8 7, .int .u64 10000000000]] W (fun e w' => e = .returned (.tuple #[str [], .int .i64 1]) ∧ Below W.heap.size W w') by
        have := text_any 7 10000000000 (by decide) B W (HT.out _ h).1 (HT.out _ h).2
        rw [tx_out 7 10000000000 (by decide)] at this
        exact this)
      have Q4 := Lib.hid (fun W (h : Below w.heap.size w W) => show Calls Tryd.prog 9 #[.agg #[.int .u8 7, .int .u64 9999999999]] W (fun e w' => e = .returned (.tuple #[str m, .int .i64 0]) ∧ Below W.heap.size W w') by
        have := text_any 7 9999999999 (by decide) B W (HT.out _ h).1 (HT.out _ h).2
        rw [hm1] at this
        exact this)
      have Q5 := Lib.hid (fun W => show Calls Tryd.prog 12 #[str m] W (fun e w' => e = .returned (.tuple #[.agg #[.int .u8 7, .int .u64 9999999999], .int .i64 0]) ∧ Below W.heap.size W w') by
        have := parse_any m W
        unfold paV at this
        rw [hm4] at this
        exact this)
      have Q6 := Lib.hid (fun W (h : Below w.heap.size w W) => tells_any B W (HT.out _ h).1 (HT.out _ h).2)
      have hmz : (tx m).size = 14 := by rw [tx_size]; exact hm2
      have hml : (m.length : Int) = 14 := by omega
      have x13 : (tx m).extract 0 13 = ({ data := #[48, 48, 55, 57, 57, 57, 57, 57, 57, 57, 57, 57, 57] } : ByteArray) := by
        rw [tx_ext, hm3]
        rfl
      clear hm1 hm2 hm3 hm4 HG
      go_wp2_with fail
      go_at_call 9
      refine (Q1.out _ HB.out).mono ?_
      rintro e w1 ⟨rfl, hb⟩
      have HB1 := Lib.hid (HB.out.trans (hb.mono HB.out.size))
      clear hb
      go_wp2_with fail
      go_at_call 9
      refine (Q2.out _ HB1.out).mono ?_
      rintro e w2 ⟨rfl, hb⟩
      have HB2 := Lib.hid (HB1.out.trans (hb.mono HB1.out.size))
      clear hb
      go_wp2_with fail
      go_at_call 9
      refine (Q3.out _ HB2.out).mono ?_
      rintro e w3 ⟨rfl, hb⟩
      have HB3 := Lib.hid (HB2.out.trans (hb.mono HB2.out.size))
      clear hb
      go_wp2_with fail
      go_at_call 9
      refine (Q4.out _ HB3.out).mono ?_
      rintro e w4 ⟨rfl, hb⟩
      have HB4 := Lib.hid (HB3.out.trans (hb.mono HB3.out.size))
      clear hb
      go_wp2_with fail
      go_at_call 12
      refine (Q5.out _).mono ?_
      rintro e w5 ⟨rfl, hb⟩
      have HB5 := Lib.hid (HB4.out.trans (hb.mono HB4.out.size))
      have HB6 := Lib.hid (HB5.out.alloc HB5.out.size (.cells #[.int .u8 7, .int .u64 9999999999] 24))
      clear hb
      go_wp2_with fail
      go_at_call 11
      refine (Q6.out _ HB6.out).mono ?_
      rintro e w7 ⟨rfl, hb⟩
      have HB7 := Lib.hid (HB6.out.trans (hb.mono HB6.out.size))
      clear hb
      go_wp2
      go_ret
      exact ⟨rfl, HB7.out⟩
end Go.Proofs.YtinekngddmeljaaDoor
