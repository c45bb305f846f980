/- The example that every statement reads and prints. -/
import Derived.Test.YtmhmjbjkbnnmhaaEdiP
import Derived.Test.YtmhmjbjkbnnmhaaEdiW9
namespace Go.Proofs.Ytmhmjbjkbnnmhaa
open Go.RowKit Go.Edi

def exT : Tx := [65, 66, 67, 43, 97, 58, 98, 43, 63, 43, 39, 68, 49, 50, 39]
def exL : List Sg := [⟨[65, 66, 67], [[[97], [98]], [[43]]]⟩, ⟨[68, 49, 50], []⟩]
def exM : List Sg := [⟨[65, 66, 67], [[[]], [[97], []]]⟩]
theorem ex_parse : parseL exT = (exL, 0, 0) := by kernel_rfl
theorem ex_print : printL exM = ([65, 66, 67, 43, 43, 97, 58, 39], 0) := by kernel_rfl
theorem row_lit {w : World} {F : Nat → Prop} {b n cap : Nat} {xs : List Value} {T : TypeId} {fr : Nat × Nat} (h : w.heap[b]? = some (.cells xs.toArray T fr)) (hF : F b) (hn : n ≤ cap) : RowF w F (.slice (some ⟨b, 0, none⟩) n cap) n xs :=
  ⟨_, cap, rfl, hn, fun _ => ⟨b, 0, rfl, hF, fun j u hu => by
    have : w.cell? ⟨b, 0 + j, none⟩ = xs.toArray[0 + j]? := by simp [World.cell?, h]
    rw [this, Nat.zero_add]; simpa using hu⟩⟩
theorem heap_old (w : World) (o : Obj) (k : Nat) (h : k < w.heap.size) : (w.alloc o).heap[k]? = w.heap[k]? := Below.heap_alloc _ _ _ h
/-- the world in which the example's segments stand -/
def exW (w : World) : World := (((w.alloc (.cells #[str []] 9)).alloc (.cells #[str [97], str []] 9)).alloc (.cells #[.slice (some ⟨w.heap.size, 0, none⟩) 1 1, .slice (some ⟨w.heap.size + 1, 0, none⟩) 2 2] 29)).alloc (.cells #[str [65, 66, 67], .slice (some ⟨w.heap.size + 2, 0, none⟩) 2 2] 28)
theorem exW_size (w : World) : (exW w).heap.size = w.heap.size + 4 := by simp [exW]
theorem exW_below (w : World) : Below w.heap.size w (exW w) := ((((Below.refl _ _).alloc (Nat.le_refl _) _).alloc (by simp) _).alloc (by simp; omega) _).alloc (by simp; omega) _
theorem exW_segs (w : World) : SegsF (exW w) (· < (exW w).heap.size) (.slice (some ⟨w.heap.size + 3, 0, none⟩) 1 1) exM := by
  have hs := exW_size w
  have h0 : (exW w).heap[w.heap.size]? = some (.cells #[str []] 9 (0, 0)) := by
    unfold exW
    rw [heap_old _ _ _ (by simp; omega), heap_old _ _ _ (by simp; omega), heap_old _ _ _ (by simp)]; exact at_last _ _
  have h1 : (exW w).heap[w.heap.size + 1]? = some (.cells #[str [97], str []] 9 (0, 0)) := by
    unfold exW
    rw [heap_old _ _ _ (by simp), heap_old _ _ _ (by simp)]; simpa using at_last (w.alloc (.cells #[str []] 9)) (.cells #[str [97], str []] 9)
  have h2 : (exW w).heap[w.heap.size + 2]? = some (.cells #[.slice (some ⟨w.heap.size, 0, none⟩) 1 1, .slice (some ⟨w.heap.size + 1, 0, none⟩) 2 2] 29 (0, 0)) := by
    unfold exW
    rw [heap_old _ _ _ (by simp)]; simpa using at_last ((w.alloc (.cells #[str []] 9)).alloc (.cells #[str [97], str []] 9)) (.cells #[.slice (some ⟨w.heap.size, 0, none⟩) 1 1, .slice (some ⟨w.heap.size + 1, 0, none⟩) 2 2] 29)
  have h3 : (exW w).heap[w.heap.size + 3]? = some (.cells #[str [65, 66, 67], .slice (some ⟨w.heap.size + 2, 0, none⟩) 2 2] 28 (0, 0)) := by
    unfold exW
    simpa using at_last (((w.alloc (.cells #[str []] 9)).alloc (.cells #[str [97], str []] 9)).alloc (.cells #[.slice (some ⟨w.heap.size, 0, none⟩) 1 1, .slice (some ⟨w.heap.size + 1, 0, none⟩) 2 2] 29)) (.cells #[str [65, 66, 67], .slice (some ⟨w.heap.size + 2, 0, none⟩) 2 2] 28)
  refine ⟨[str [65, 66, 67], .slice (some ⟨w.heap.size + 2, 0, none⟩) 2 2], row_lit h3 (by show _ < _; omega) (Nat.le_refl _), rfl, ⟨[.slice (some ⟨w.heap.size, 0, none⟩) 1 1, .slice (some ⟨w.heap.size + 1, 0, none⟩) 2 2], row_lit h2 (by show _ < _; omega) (Nat.le_refl _), ?_, ?_, True.intro⟩, True.intro⟩
  · exact row_lit h0 (by show _ < _; omega) (Nat.le_refl _)
  · exact row_lit h1 (by show _ < _; omega) (Nat.le_refl _)
theorem sane_exM : sane exM := by
  refine ⟨by decide, fun s hs => ?_⟩
  simp only [exM, List.mem_singleton] at hs
  subst hs
  refine ⟨by decide, fun e he => ?_⟩
  simp only [List.mem_cons, List.not_mem_nil, or_false] at he
  rcases he with rfl | rfl
  · exact ⟨by decide, fun t ht => by simp only [List.mem_cons, List.not_mem_nil, or_false] at ht; subst ht; decide⟩
  · exact ⟨by decide, fun t ht => by simp only [List.mem_cons, List.not_mem_nil, or_false] at ht; rcases ht with rfl | rfl <;> decide⟩
set_option maxRecDepth 100000 in
set_option maxHeartbeats 1600000 in
theorem reads_any (w : World) : Calls Try.prog 6 #[] w fun e w' => e = .returned (.bool true) ∧ Below w.heap.size w w' := by
  have HQ := Lib.hid (show Calls Try.prog 4 #[.string { data := #[65, 66, 67, 43, 97, 58, 98, 43, 63, 43, 39, 68, 49, 50, 39] }] w fun e w' => PaAt w.heap.size exT e w w' from parse_any exT w)
  go_enter Try.func6, Try.ntmps6
  go_wp2_with (go_at_call 4; refine (HQ.out).mono ?_)
  rintro e w1 hpa
  unfold PaAt at hpa
  rw [ex_parse] at hpa
  obtain ⟨⟨v, F, rfl, ⟨xs, ⟨p, cap, rfl, hnc, hp⟩, hxs⟩, hF⟩, hb⟩ := hpa
  obtain ⟨b, o, rfl, hFb, hc⟩ := hp (by decide)
  have HPR := Lib.hid (print_any exM (.slice (some ⟨w1.heap.size + 3, 0, none⟩) 1 1) (exW w1) (exW_segs w1) sane_exM)
  rw [ex_print] at HPR
  obtain ⟨_, pe, cape, ys, hc2, _, hrow, hel⟩ := seg_cells (wr := w1) (k := 0) hc hxs rfl (by decide)
  obtain ⟨_, pf, capf, _, hc3, _⟩ := seg_cells (wr := w1) (k := 1) hc hxs rfl (by decide)
  obtain ⟨_, _, hre, _, hpr⟩ := hrow
  simp only [Value.slice.injEq, true_and] at hre
  obtain ⟨rfl, rfl⟩ := hre
  obtain ⟨b2, o2, rfl, hF2, hc4⟩ := hpr (by decide)
  obtain ⟨pg, capg, hc5, _, hst⟩ := el_cell (wr := w1) (j := 1) hc4 hel rfl (by decide)
  obtain ⟨_, _, hre, _, hpq⟩ := hst
  simp only [Value.slice.injEq, true_and] at hre
  obtain ⟨rfl, rfl⟩ := hre
  obtain ⟨b3, o3, rfl, hF3, hc6⟩ := hpq (by decide)
  have hc7 := hc6 0 (str [43]) rfl
  have X1 : w1.cell? ⟨b, o + 1, none⟩ = some (.slice (some ⟨b2, o2, none⟩) 2 cape) := by
    simp only [Nat.zero_mul, Nat.add_zero] at hc2; exact hc2
  have X2 : w1.cell? ⟨b, o + 2 + 1, none⟩ = some (.slice pf 0 capf) := by
    simp only [Nat.one_mul] at hc3; exact hc3
  have X3 : w1.cell? ⟨b2, o2 + 1, none⟩ = some (.slice (some ⟨b3, o3, none⟩) 1 capg) := hc5
  have X4 : w1.cell? ⟨b3, o3, none⟩ = some (str [43]) := by simpa using hc7
  have L1 := (hF b hFb).2
  have L2 := (hF b2 hF2).2
  have L3 := (hF b3 hF3).2
  have HB := Lib.hid hb
  clear hb hc hp hxs hc2 hc3 hel hpr hc4 hc5 hpq hc6 hc7 hF hFb hF2 hF3
  go_wp2_with (go_at_call 8; refine (HPR.out).mono ?_)
  first | rintro e w2 rfl hb2 | rintro e w2 ⟨rfl, hb2⟩
  have hk : ∀ (bb oo : Nat), bb < w1.heap.size → w2.cell? ⟨bb, oo, none⟩ = w1.cell? ⟨bb, oo, none⟩ := fun bb oo hlt =>
    World.cell?_of_block (a := ⟨bb, oo, none⟩) ((hb2.block bb (by rw [exW_size]; omega)).trans ((exW_below w1).block bb hlt))
  have Y1 := (hk b (o + 1) L1).trans X1
  have Y2 := (hk b (o + 2 + 1) L1).trans X2
  have Y3 := (hk b2 (o2 + 1) L2).trans X3
  have Y4 := (hk b3 o3 L3).trans X4
  have HB2 := Lib.hid (HB.out.trans (((exW_below w1).mono HB.out.size).trans (hb2.mono (by rw [exW_size]; have := HB.out.size; omega))))
  clear hk hb2 X1 X2 X3 X4 L1 L2 L3 HB HPR HQ
  have e43 : tx [43] = { data := #[43] } := rfl
  have eT : tx [65, 66, 67, 43, 43, 97, 58, 39] = { data := #[65, 66, 67, 43, 43, 97, 58, 39] } := rfl
  go_wp2
  go_ret
  exact ⟨rfl, HB2.out⟩
end Go.Proofs.Ytmhmjbjkbnnmhaa
