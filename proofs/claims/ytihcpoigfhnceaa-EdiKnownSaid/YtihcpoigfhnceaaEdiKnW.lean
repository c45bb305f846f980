/- The walk of EdiKnown. -/
import Derived.Test.YtihcpoigfhnceaaEdiRd
import Derived.IntWalk
import Derived.Test.YtihcpoigfhnceaaEdiKnS
namespace Go.Proofs.Ytihcpoigfhnceaa
open Go.RowKit Go.Edi

theorem flat_cells {wr : World} {b : Nat} {T : TypeId} {fr : Nat × Nat} {l : List Rw} (h : wr.heap[b]? = some (.cells (flat l).toArray T fr)) (k : Nat) (hk : k < l.length) :
    wr.cell? ⟨b, k * 3, none⟩ = some (str l[k].1) ∧ wr.cell? ⟨b, k * 3 + 1, none⟩ = some (.int .i64 (l[k].2.1 : Nat)) ∧ wr.cell? ⟨b, k * 3 + 2, none⟩ = some (.int .i64 (l[k].2.2 : Nat)) := by
  have hc : ∀ j, wr.cell? ⟨b, j, none⟩ = (flat l)[j]? := fun j => by simp [World.cell?, h]
  obtain ⟨h1, h2, h3⟩ := flat_get l k hk
  exact ⟨(hc _).trans h1, (hc _).trans h2, (hc _).trans h3⟩
theorem pa_slice {B : Nat} {t : Tx} {e : Ending} {w w' : World} (h : PaAt B t e w w') : ∃ p cap, e = .returned (.tuple #[.slice p (parseL t).1.length cap, .int .i64 ((parseL t).2.1 : Nat), .int .i64 ((parseL t).2.2 : Nat)]) ∧ Below B w w' := by
  obtain ⟨⟨v, F, rfl, hs, _⟩, hb⟩ := h
  obtain ⟨xs, ⟨p, cap, rfl, _⟩, _⟩ := hs
  exact ⟨p, cap, rfl, hb⟩
theorem below_heap {w w' : World} {b : Nat} {o : Obj} (hb : Below w.heap.size w w') (h : w.heap[b]? = some o) : w'.heap[b]? = some o := (hb.block b (lt_of_heap h)).trans h
/-- the limits' texts, and the parts that they are put together of -/
def m1 : Tx := rep [65, 66, 67, 39] 64
def m2 : Tx := rep [65, 66, 67, 39] 65
def m3 : Tx := rep [43] 16
def m4 : Tx := rep [43] 17
def m5 : Tx := rep [58] 7
def m6 : Tx := rep [58] 8
def m7 : Tx := rep [97] 256
def m8 : Tx := rep [97] 257
def m9 : Tx := rep [63, 58] 257
def ma : Tx := rep [65] 65537
def mb : Tx := rep [65] 65536
def n1 : Tx := m1 ++ [10]
def q3 : Tx := [65, 66, 67] ++ m3
def n3 : Tx := q3 ++ [39]
def q4 : Tx := [65, 66, 67] ++ m4
def n4 : Tx := q4 ++ [39]
def q5 : Tx := [65, 66, 67, 43] ++ m5
def n5 : Tx := q5 ++ [39]
def q6 : Tx := [65, 66, 67, 43] ++ m6
def n6 : Tx := q6 ++ [39]
def q7 : Tx := [65, 66, 67, 43] ++ m7
def n7 : Tx := q7 ++ [39]
def q8 : Tx := [65, 66, 67, 43] ++ m8
def n8 : Tx := q8 ++ [39]
def q9 : Tx := [65, 66, 67, 43] ++ m9
def n9 : Tx := q9 ++ [39]
def limB : List Rw := [(m1, 0, 0), (m2, 2, 256), (n1, 0, 0), (n3, 0, 0), (n4, 2, 19), (n5, 0, 0), (n6, 2, 11), (n7, 0, 0), (n8, 2, 260), (n9, 2, 517), (ma, 2, 0), (mb, 30, 3)]
theorem limB_ok : limB.all okR = true := limA_ok
theorem mn1 (w : World) : Calls Try.prog 17 #[.string { data := #[65, 66, 67, 39] }, .int .i64 64] w fun e w' => e = .returned (str m1) ∧ w = w' := many_any [65, 66, 67, 39] 64 w (by decide) (by decide)
theorem sz1 : (tx m1).size = 256 := by
  have h : (tx m1).size = m1.length := by simp [tx, ByteArray.size]
  rw [h]; unfold m1; rw [rep_len]; rfl
theorem mn2 (w : World) : Calls Try.prog 17 #[.string { data := #[65, 66, 67, 39] }, .int .i64 65] w fun e w' => e = .returned (str m2) ∧ w = w' := many_any [65, 66, 67, 39] 65 w (by decide) (by decide)
theorem sz2 : (tx m2).size = 260 := by
  have h : (tx m2).size = m2.length := by simp [tx, ByteArray.size]
  rw [h]; unfold m2; rw [rep_len]; rfl
theorem mn3 (w : World) : Calls Try.prog 17 #[.string { data := #[43] }, .int .i64 16] w fun e w' => e = .returned (str m3) ∧ w = w' := many_any [43] 16 w (by decide) (by decide)
theorem sz3 : (tx m3).size = 16 := by
  have h : (tx m3).size = m3.length := by simp [tx, ByteArray.size]
  rw [h]; unfold m3; rw [rep_len]; rfl
theorem mn4 (w : World) : Calls Try.prog 17 #[.string { data := #[43] }, .int .i64 17] w fun e w' => e = .returned (str m4) ∧ w = w' := many_any [43] 17 w (by decide) (by decide)
theorem sz4 : (tx m4).size = 17 := by
  have h : (tx m4).size = m4.length := by simp [tx, ByteArray.size]
  rw [h]; unfold m4; rw [rep_len]; rfl
theorem mn5 (w : World) : Calls Try.prog 17 #[.string { data := #[58] }, .int .i64 7] w fun e w' => e = .returned (str m5) ∧ w = w' := many_any [58] 7 w (by decide) (by decide)
theorem sz5 : (tx m5).size = 7 := by
  have h : (tx m5).size = m5.length := by simp [tx, ByteArray.size]
  rw [h]; unfold m5; rw [rep_len]; rfl
theorem mn6 (w : World) : Calls Try.prog 17 #[.string { data := #[58] }, .int .i64 8] w fun e w' => e = .returned (str m6) ∧ w = w' := many_any [58] 8 w (by decide) (by decide)
theorem sz6 : (tx m6).size = 8 := by
  have h : (tx m6).size = m6.length := by simp [tx, ByteArray.size]
  rw [h]; unfold m6; rw [rep_len]; rfl
theorem mn7 (w : World) : Calls Try.prog 17 #[.string { data := #[97] }, .int .i64 256] w fun e w' => e = .returned (str m7) ∧ w = w' := many_any [97] 256 w (by decide) (by decide)
theorem sz7 : (tx m7).size = 256 := by
  have h : (tx m7).size = m7.length := by simp [tx, ByteArray.size]
  rw [h]; unfold m7; rw [rep_len]; rfl
theorem mn8 (w : World) : Calls Try.prog 17 #[.string { data := #[97] }, .int .i64 257] w fun e w' => e = .returned (str m8) ∧ w = w' := many_any [97] 257 w (by decide) (by decide)
theorem sz8 : (tx m8).size = 257 := by
  have h : (tx m8).size = m8.length := by simp [tx, ByteArray.size]
  rw [h]; unfold m8; rw [rep_len]; rfl
theorem mn9 (w : World) : Calls Try.prog 17 #[.string { data := #[63, 58] }, .int .i64 257] w fun e w' => e = .returned (str m9) ∧ w = w' := many_any [63, 58] 257 w (by decide) (by decide)
theorem sz9 : (tx m9).size = 514 := by
  have h : (tx m9).size = m9.length := by simp [tx, ByteArray.size]
  rw [h]; unfold m9; rw [rep_len]; rfl
theorem mna (w : World) : Calls Try.prog 17 #[.string { data := #[65] }, .int .i64 65537] w fun e w' => e = .returned (str ma) ∧ w = w' := many_any [65] 65537 w (by decide) (by decide)
theorem sza : (tx ma).size = 65537 := by
  have h : (tx ma).size = ma.length := by simp [tx, ByteArray.size]
  rw [h]; unfold ma; rw [rep_len]; rfl
theorem mnb (w : World) : Calls Try.prog 17 #[.string { data := #[65] }, .int .i64 65536] w fun e w' => e = .returned (str mb) ∧ w = w' := many_any [65] 65536 w (by decide) (by decide)
theorem szb : (tx mb).size = 65536 := by
  have h : (tx mb).size = mb.length := by simp [tx, ByteArray.size]
  rw [h]; unfold mb; rw [rep_len]; rfl
theorem ap1 : tx m1 ++ { data := #[10] } = tx n1 := tx_app m1 [10]
theorem ap3 : ({ data := #[65, 66, 67] } : ByteArray) ++ tx m3 = tx q3 := tx_app [65, 66, 67] m3
theorem aq3 : tx q3 ++ { data := #[39] } = tx n3 := tx_app q3 [39]
theorem sq3 : (tx q3).size = 19 := by
  rw [← ap3, ByteArray.size_append, sz3]; rfl
theorem ap4 : ({ data := #[65, 66, 67] } : ByteArray) ++ tx m4 = tx q4 := tx_app [65, 66, 67] m4
theorem aq4 : tx q4 ++ { data := #[39] } = tx n4 := tx_app q4 [39]
theorem sq4 : (tx q4).size = 20 := by
  rw [← ap4, ByteArray.size_append, sz4]; rfl
theorem ap5 : ({ data := #[65, 66, 67, 43] } : ByteArray) ++ tx m5 = tx q5 := tx_app [65, 66, 67, 43] m5
theorem aq5 : tx q5 ++ { data := #[39] } = tx n5 := tx_app q5 [39]
theorem sq5 : (tx q5).size = 11 := by
  rw [← ap5, ByteArray.size_append, sz5]; rfl
theorem ap6 : ({ data := #[65, 66, 67, 43] } : ByteArray) ++ tx m6 = tx q6 := tx_app [65, 66, 67, 43] m6
theorem aq6 : tx q6 ++ { data := #[39] } = tx n6 := tx_app q6 [39]
theorem sq6 : (tx q6).size = 12 := by
  rw [← ap6, ByteArray.size_append, sz6]; rfl
theorem ap7 : ({ data := #[65, 66, 67, 43] } : ByteArray) ++ tx m7 = tx q7 := tx_app [65, 66, 67, 43] m7
theorem aq7 : tx q7 ++ { data := #[39] } = tx n7 := tx_app q7 [39]
theorem sq7 : (tx q7).size = 260 := by
  rw [← ap7, ByteArray.size_append, sz7]; rfl
theorem ap8 : ({ data := #[65, 66, 67, 43] } : ByteArray) ++ tx m8 = tx q8 := tx_app [65, 66, 67, 43] m8
theorem aq8 : tx q8 ++ { data := #[39] } = tx n8 := tx_app q8 [39]
theorem sq8 : (tx q8).size = 261 := by
  rw [← ap8, ByteArray.size_append, sz8]; rfl
theorem ap9 : ({ data := #[65, 66, 67, 43] } : ByteArray) ++ tx m9 = tx q9 := tx_app [65, 66, 67, 43] m9
theorem aq9 : tx q9 ++ { data := #[39] } = tx n9 := tx_app q9 [39]
theorem sq9 : (tx q9).size = 518 := by
  rw [← ap9, ByteArray.size_append, sz9]; rfl
theorem sane_small {l : List Sg} (h : l.all (fun s => decide (s.els.length ≤ 9) && s.els.all (fun e => decide (e.length ≤ 9) && e.all (fun t => decide (t.length ≤ 900)))) = true) (hl : l.length ≤ 9) : sane l := by
  rw [List.all_eq_true] at h
  refine ⟨by omega, fun s hs => ?_⟩
  have h1 := h s hs
  rw [Bool.and_eq_true, decide_eq_true_eq, List.all_eq_true] at h1
  refine ⟨by omega, fun e he => ?_⟩
  have h2 := h1.2 e he
  rw [Bool.and_eq_true, decide_eq_true_eq, List.all_eq_true] at h2
  refine ⟨by omega, fun t ht => ?_⟩
  have h3 := h2.2 t ht
  rw [decide_eq_true_eq] at h3
  omega
theorem sane_bads (k : Nat) (hk : k < bads.length) : sane [bads[k]] := by
  have h : ∀ s ∈ bads, sane [s] := by
    intro s hs
    have hb : bads.all (fun s => decide (s.els.length ≤ 9) && s.els.all (fun e => decide (e.length ≤ 9) && e.all (fun t => decide (t.length ≤ 900)))) = true := by kernel_rfl
    rw [List.all_eq_true] at hb
    exact sane_small (by rw [List.all_cons, hb s hs]; rfl) (by simp)
  exact h _ (List.getElem_mem hk)
def q1 : List Sg := [⟨[65, 66, 67], [[[10]]]⟩]
def q2 : List Sg := [⟨[65, 66, 67], [[m8]]⟩]
def qq3 : List Sg := [⟨[65, 66, 67], [[m8, [127]]]⟩, ⟨[97, 98, 99], []⟩]
def qq4 : List Sg := [⟨[65, 66, 67], [[[97, 63, 98, 58, 99, 39, 100, 43, 101]]]⟩]
theorem pq1 : printL q1 = ([], 30) := by kernel_rfl
theorem pq2 : printL q2 = ([], 2) := by kernel_rfl
theorem pq3 : printL qq3 = ([], 1) := by kernel_rfl
theorem pq4 : printL qq4 = ([65, 66, 67, 43, 97, 63, 63, 98, 63, 58, 99, 63, 39, 100, 63, 43, 101, 39], 0) := by kernel_rfl
abbrev s1v (w : World) : List Value := [str [65, 66, 67], .slice (some ⟨w.heap.size + 1, 0, none⟩) 1 1]
theorem print_q1 (w : World) : Calls Try.prog 12 #[.slice (some ⟨w.heap.size + 2, 0, none⟩) 1 1] (((w.alloc (.cells #[.string { data := #[10] }] 9)).alloc (.cells #[.slice (some ⟨w.heap.size, 0, none⟩) 1 1] 38)).alloc (.cells #[.string { data := #[65, 66, 67] }, .slice (some ⟨w.heap.size + 1, 0, none⟩) 1 1] 37)) fun e w' => e = .returned (.tuple #[str [], .int .i64 30]) ∧ Below w.heap.size w w' := by
  have h := print_any q1 _ (litW w ([[10]].map str) (s1v w)) (litW_segs w [[10]] 1 (s1v w) q1 rfl (fun W F h => ⟨rfl, h, True.intro⟩)) (sane_small (by kernel_rfl) (by decide))
  rw [pq1] at h
  refine h.mono ?_
  rintro e w' ⟨rfl, hb⟩
  exact ⟨rfl, (litW_below _ _ _).trans (hb.mono (by rw [litW_size]; omega))⟩
theorem print_q2 (w : World) : Calls Try.prog 12 #[.slice (some ⟨w.heap.size + 2, 0, none⟩) 1 1] (((w.alloc (.cells #[str m8] 9)).alloc (.cells #[.slice (some ⟨w.heap.size, 0, none⟩) 1 1] 38)).alloc (.cells #[.string { data := #[65, 66, 67] }, .slice (some ⟨w.heap.size + 1, 0, none⟩) 1 1] 37)) fun e w' => e = .returned (.tuple #[str [], .int .i64 2]) ∧ Below w.heap.size w w' := by
  have h := print_any q2 _ (litW w ([m8].map str) (s1v w)) (litW_segs w [m8] 1 (s1v w) q2 rfl (fun W F h => ⟨rfl, h, True.intro⟩)) (sane_small (by kernel_rfl) (by decide))
  rw [pq2] at h
  refine h.mono ?_
  rintro e w' ⟨rfl, hb⟩
  exact ⟨rfl, (litW_below _ _ _).trans (hb.mono (by rw [litW_size]; omega))⟩
theorem print_q3 (w : World) : Calls Try.prog 12 #[.slice (some ⟨w.heap.size + 2, 0, none⟩) 2 2] (((w.alloc (.cells #[str m8, .string { data := #[127] }] 9)).alloc (.cells #[.slice (some ⟨w.heap.size, 0, none⟩) 2 2] 38)).alloc (.cells #[.string { data := #[65, 66, 67] }, .slice (some ⟨w.heap.size + 1, 0, none⟩) 1 1, .string { data := #[97, 98, 99] }, .slice none 0 0] 37)) fun e w' => e = .returned (.tuple #[str [], .int .i64 1]) ∧ Below w.heap.size w w' := by
  have h := print_any qq3 _ (litW w ([m8, [127]].map str) (s1v w ++ [str [97, 98, 99], .slice none 0 0])) (litW_segs w [m8, [127]] 2 (s1v w ++ [str [97, 98, 99], .slice none 0 0]) qq3 rfl (fun W F h => ⟨rfl, h, rfl, els_nil _ _, True.intro⟩)) (sane_small (by kernel_rfl) (by decide))
  rw [pq3] at h
  refine h.mono ?_
  rintro e w' ⟨rfl, hb⟩
  exact ⟨rfl, (litW_below _ _ _).trans (hb.mono (by rw [litW_size]; omega))⟩
theorem print_q4 (w : World) : Calls Try.prog 12 #[.slice (some ⟨w.heap.size + 2, 0, none⟩) 1 1] (((w.alloc (.cells #[.string { data := #[97, 63, 98, 58, 99, 39, 100, 43, 101] }] 9)).alloc (.cells #[.slice (some ⟨w.heap.size, 0, none⟩) 1 1] 38)).alloc (.cells #[.string { data := #[65, 66, 67] }, .slice (some ⟨w.heap.size + 1, 0, none⟩) 1 1] 37)) fun e w' => e = .returned (.tuple #[str [65, 66, 67, 43, 97, 63, 63, 98, 63, 58, 99, 63, 39, 100, 63, 43, 101, 39], .int .i64 0]) ∧ Below w.heap.size w w' := by
  have h := print_any qq4 _ (litW w ([[97, 63, 98, 58, 99, 39, 100, 43, 101]].map str) (s1v w)) (litW_segs w [[97, 63, 98, 58, 99, 39, 100, 43, 101]] 1 (s1v w) qq4 rfl (fun W F h => ⟨rfl, h, True.intro⟩)) (sane_small (by kernel_rfl) (by decide))
  rw [pq4] at h
  refine h.mono ?_
  rintro e w' ⟨rfl, hb⟩
  exact ⟨rfl, (litW_below _ _ _).trans (hb.mono (by rw [litW_size]; omega))⟩
set_option maxRecDepth 100000 in
set_option maxHeartbeats 6400000 in
theorem known_walk (w : World) : Calls Try.prog 8 #[] w fun e w' => e = .returned (.bool true) ∧ Below w.heap.size w w' := by
  go_enter Try.func8, Try.ntmps8
  go_wp2
  go_loopw [2] (fun i wr => ∃ k : Nat, i = .int .i64 k ∧ k ≤ 19 ∧ Hid (wr.heap[w.heap.size]? = some (.cells (flat exs).toArray 42 (0, 0))) ∧ Below w.heap.size w wr) (fun i _ => 19 - (intOf i).toNat)
  case atStart => exact ⟨0, rfl, Nat.zero_le _, Lib.hid (at_last w _), (Below.refl _ _).alloc (Nat.le_refl _) _⟩
  case round =>
    obtain ⟨k, rfl, hk, HG, hb⟩ := hrel
    have HB := Lib.hid hb
    clear hb
    by_cases hlt : (k : Int) < 19
    · have hk0 : (0 : Int) ≤ (k : Int) := Int.natCast_nonneg _
      have hkl : k < exs.length := by show k < 19; omega
      have hC : ∀ wz : World, wz.heap[w.heap.size]? = some (.cells (flat exs).toArray 42 (0, 0)) → _ := fun wz hz => flat_cells hz k hkl
      obtain ⟨o1, o2⟩ := okR_get exs_ok k hkl
      generalize exs[k]'hkl = r at *
      obtain ⟨t, er, at'⟩ := r
      simp only at hC o1 o2
      obtain ⟨c0, c1, c2⟩ := hC wr HG.out
      have HC := Lib.hid hC
      have Q := Lib.hid (parse_any t wr)
      have O1 := Lib.hid o1
      have O2 := Lib.hid o2
      clear o1 o2 hC
      go_wp2_with (go_at_call 16; refine (Q.out).mono ?_)
      rintro e w2 hpa
      obtain ⟨p, cap, rfl, hb2⟩ := pa_slice hpa
      have HG2 := Lib.hid (below_heap hb2 HG.out)
      have HB2 := Lib.hid (HB.out.trans (hb2.mono HB.out.size))
      obtain ⟨d0, d1, d2⟩ := HC.out w2 HG2.out
      have hbad : ¬ ((er : Nat) : Int) = 0 → (parseL t).1.length = 0 := fun h => by rw [parse_bad (by rw [O2.out]; omega)]; rfl
      rw [O1.out, O2.out]
      clear hpa hb2 c0 c1 c2
      by_cases he : ((er : Nat) : Int) = 0
      · clear hbad
        go_wp2
        go_roundw
        case rel => exact ⟨k + 1, by go_num, by omega, HG2, HB2.out⟩
        case measure => simp [intOf]; omega
      · rw [hbad he]
        clear hbad
        go_wp2
        go_roundw
        case rel => exact ⟨k + 1, by go_num, by omega, HG2, HB2.out⟩
        case measure => simp [intOf]; omega
    · have hk19 : (k : Int) = 19 := by omega
      have sz1 := sz1
      have ap1 := ap1
      have sz3 := sz3
      have sq3 := sq3
      have ap3 := ap3
      have aq3 := aq3
      have sz4 := sz4
      have sq4 := sq4
      have ap4 := ap4
      have aq4 := aq4
      have sz5 := sz5
      have sq5 := sq5
      have ap5 := ap5
      have aq5 := aq5
      have sz6 := sz6
      have sq6 := sq6
      have ap6 := ap6
      have aq6 := aq6
      have sz7 := sz7
      have sq7 := sq7
      have ap7 := ap7
      have aq7 := aq7
      have sz8 := sz8
      have sq8 := sq8
      have ap8 := ap8
      have aq8 := aq8
      have sz9 := sz9
      have sq9 := sq9
      have ap9 := ap9
      have aq9 := aq9
      go_wp2_with (first
        | (go_at_call 17; with_reducible refine (mn1 _).mono ?_; rintro e w' ⟨rfl, rfl⟩)
        | (go_at_call 17; with_reducible refine (mn2 _).mono ?_; rintro e w' ⟨rfl, rfl⟩)
        | (go_at_call 17; with_reducible refine (mn3 _).mono ?_; rintro e w' ⟨rfl, rfl⟩)
        | (go_at_call 17; with_reducible refine (mn4 _).mono ?_; rintro e w' ⟨rfl, rfl⟩)
        | (go_at_call 17; with_reducible refine (mn5 _).mono ?_; rintro e w' ⟨rfl, rfl⟩)
        | (go_at_call 17; with_reducible refine (mn6 _).mono ?_; rintro e w' ⟨rfl, rfl⟩)
        | (go_at_call 17; with_reducible refine (mn7 _).mono ?_; rintro e w' ⟨rfl, rfl⟩)
        | (go_at_call 17; with_reducible refine (mn8 _).mono ?_; rintro e w' ⟨rfl, rfl⟩)
        | (go_at_call 17; with_reducible refine (mn9 _).mono ?_; rintro e w' ⟨rfl, rfl⟩)
        | (go_at_call 17; with_reducible refine (mna _).mono ?_; rintro e w' ⟨rfl, rfl⟩)
        | (go_at_call 17; with_reducible refine (mnb _).mono ?_; rintro e w' ⟨rfl, rfl⟩))
      clear sz1 ap1 sz3 sq3 ap3 aq3 sz4 sq4 ap4 aq4 sz5 sq5 ap5 aq5 sz6 sq6 ap6 aq6 sz7 sq7 ap7 aq7 sz8 sq8 ap8 aq8 sz9 sq9 ap9 aq9
      obtain ⟨wo, rfl⟩ : ∃ wo : World, wo = wr := ⟨_, rfl⟩
      have HWO := Lib.hid HB.out.size
      clear hk hk19 HG
      go_loopw [7] (fun i wr2 => ∃ k : Nat, i = .int .i64 k ∧ k ≤ 12 ∧ Hid (wr2.heap[wo.heap.size]? = some (.cells (flat limB).toArray 42 (0, 0))) ∧ Below w.heap.size w wr2) (fun i _ => 12 - (intOf i).toNat)
      case atStart => exact ⟨0, rfl, Nat.zero_le _, Lib.hid (at_last wo _), HB.out.alloc HB.out.size _⟩
      case round =>
        clear HB
        obtain ⟨k, rfl, hk, HG, hb⟩ := hrel
        have HB := Lib.hid hb
        clear hb
        by_cases hlt : (k : Int) < 12
        · have hk0 : (0 : Int) ≤ (k : Int) := Int.natCast_nonneg _
          have hkl : k < limB.length := by show k < 12; omega
          have hC : ∀ wz : World, wz.heap[wo.heap.size]? = some (.cells (flat limB).toArray 42 (0, 0)) → _ := fun wz hz => flat_cells hz k hkl
          obtain ⟨o1, o2⟩ := okR_get limB_ok k hkl
          generalize limB[k]'hkl = r at *
          obtain ⟨t, er, at'⟩ := r
          simp only at hC o1 o2
          obtain ⟨c0, c1, c2⟩ := hC wr HG.out
          have HC := Lib.hid hC
          have Q := Lib.hid (parse_any t wr)
          have O1 := Lib.hid o1
          have O2 := Lib.hid o2
          clear o1 o2 hC
          go_wp2_with (go_at_call 16; refine (Q.out).mono ?_)
          rintro e w2 hpa
          obtain ⟨p, cap, rfl, hb2⟩ := pa_slice hpa
          have HG2 := Lib.hid (below_heap hb2 HG.out)
          have HB2 := Lib.hid (HB.out.trans (hb2.mono HB.out.size))
          obtain ⟨d0, d1, d2⟩ := HC.out w2 HG2.out
          rw [O1.out, O2.out]
          clear hpa hb2 c0 c1 c2
          go_wp2
          go_roundw
          case rel => exact ⟨k + 1, by go_num, by omega, HG2, HB2.out⟩
          case measure => simp [intOf]; omega
        · have hk12 : (k : Int) = 12 := by omega
          go_wp2
          obtain ⟨wq, rfl⟩ : ∃ wq : World, wq = wr := ⟨_, rfl⟩
          have HBQ := Lib.hid (HB.out.trans ((badW_below wq).mono HB.out.size))
          clear hk hk12 HG HB
          go_loopw [12] (fun i wr3 => ∃ k : Nat, i = .int .i64 k ∧ k ≤ 5 ∧ Hid (Below (badW wq).heap.size (badW wq) wr3)) (fun i _ => 5 - (intOf i).toNat)
          case atStart => exact ⟨0, rfl, Nat.zero_le _, Lib.hid (Below.refl _ _)⟩
          case round =>
            obtain ⟨k, rfl, hk, HK⟩ := hrel
            have HBW := Lib.hid (HBQ.out.trans (HK.out.mono HBQ.out.size))
            by_cases hlt : (k : Int) < 5
            · have hk0 : (0 : Int) ≤ (k : Int) := Int.natCast_nonneg _
              have hkl : k < bads.length := by show k < 5; omega
              have HPK := Lib.hid (print_any [bads[k]] _ wr (segs_sub ((badW_segs wq).later HK.out) k hkl) (sane_bads k hkl))
              rw [bads_get k hkl] at HPK
              simp only [Nat.zero_add] at HPK
              have e0 : tx [] = { data := #[] } := rfl
              have hwr : IntKind.i64.wrap ((k : Int) + 1) = (k : Int) + 1 := IntWalk.i64_in _ (by omega)
              have hk5 : k < 5 := hkl
              go_wp2_with (first
                | ((with_reducible refine wl_sliceSeg (wq.heap.size + 2) 0 5 5 k (k : Int) ((k : Int) + 1) ?_ ?_ ?_ rfl rfl hk5 ?_); (· rfl); (· rfl); (· rfl))
                | (go_at_call 12; refine (HPK.out).mono ?_))
              first | rintro e w4 rfl hb4 | rintro e w4 ⟨rfl, hb4⟩
              have HK4 := Lib.hid (HK.out.trans (hb4.mono HK.out.size))
              clear hb4 hwr
              go_wp2
              go_roundw
              case rel => exact ⟨k + 1, by go_num, by omega, HK4⟩
              case measure => simp [intOf]; omega
            · have hk5 : (k : Int) = 5 := by omega
              clear HBQ HK
              go_wp2_with (first
                | (go_at_call 12; refine (print_q1 _).mono ?_))
              first | rintro e w4 rfl hb4 | rintro e w4 ⟨rfl, hb4⟩
              have HB4 := Lib.hid (HBW.out.trans (hb4.mono HBW.out.size))
              clear hb4 HBW
              go_wp2_with (first
                | (go_at_call 17; with_reducible refine (mn8 _).mono ?_; rintro e w' ⟨rfl, rfl⟩)
                | (go_at_call 12; refine (print_q2 _).mono ?_))
              first | rintro e w5 rfl hb5 | rintro e w5 ⟨rfl, hb5⟩
              have HB5 := Lib.hid (HB4.out.trans (hb5.mono HB4.out.size))
              clear hb5 HB4
              go_wp2_with (first
                | (go_at_call 17; with_reducible refine (mn8 _).mono ?_; rintro e w' ⟨rfl, rfl⟩)
                | (go_at_call 12; refine (print_q3 _).mono ?_))
              first | rintro e w6 rfl hb6 | rintro e w6 ⟨rfl, hb6⟩
              have HB6 := Lib.hid (HB5.out.trans (hb6.mono HB5.out.size))
              clear hb6 HB5
              go_wp2_with (first
                | (go_at_call 12; refine (print_q4 _).mono ?_))
              first | rintro e w7 rfl hb7 | rintro e w7 ⟨rfl, hb7⟩
              have HB7 := Lib.hid (HB6.out.trans (hb7.mono HB6.out.size))
              clear hb7 HB6
              have e4 : tx [65, 66, 67, 43, 97, 63, 63, 98, 63, 58, 99, 63, 39, 100, 63, 43, 101, 39] = { data := #[65, 66, 67, 43, 97, 63, 63, 98, 63, 58, 99, 63, 39, 100, 63, 43, 101, 39] } := rfl
              have HRD := Lib.hid (reads_any w7)
              go_wp2_with (go_at_call 15; refine (HRD.out).mono ?_)
              first | rintro e w8 rfl hb8 | rintro e w8 ⟨rfl, hb8⟩
              have HB8 := Lib.hid (HB7.out.trans (hb8.mono HB7.out.size))
              clear hb8
              go_wp2
              go_ret
              exact ⟨rfl, HB8.out⟩
end Go.Proofs.Ytihcpoigfhnceaa
