/- Contracts of money's halves, word and product. -/
import Derived.Test.YtpapcilffkpjjaaMoneyD
import Derived.LoopN
namespace Go.Proofs.Ytpapcilffkpjjaa
open Go.RowKit Go.Money

set_option maxRecDepth 100000 in
theorem word_any (h l : Nat) (w : World) (hh : (h : Int) ≤ 4294967295) (hl : (l : Int) ≤ 4294967295) : Calls Try.prog 61 #[.int .u32 (h : Int), .int .u32 (l : Int)] w fun e w' => e = .returned (.int .u64 ((h * 4294967296 + l : Nat) : Int)) ∧ w = w' := by
  have h0 : (0 : Int) ≤ (h : Int) := Int.natCast_nonneg _
  have l0 : (0 : Int) ≤ (l : Int) := Int.natCast_nonneg _
  have ho : bits .or .u64 ((h : Int) * 4294967296) (l : Int) = (h : Int) * 4294967296 + (l : Int) := by
    have e : (h : Int) * 4294967296 = ((h * 4294967296 : Nat) : Int) := by rw [Int.natCast_mul]; rfl
    rw [e, bits_or_u64_nat _ _ (by omega) (by omega)]
    have := dv_or h l 32 (by show l < 4294967296; omega)
    rw [show (2 : Nat) ^ 32 = 4294967296 from rfl] at this
    rw [this]
    omega
  go_enter Try.func61, Try.ntmps61
  go_wp2
  go_ret
  refine ⟨?_, rfl⟩
  have e : ((h * 4294967296 + l : Nat) : Int) = (h : Int) * 4294967296 + (l : Int) := by rw [Int.natCast_add, Int.natCast_mul]; rfl
  rw [e]
  rfl
theorem heap_last (w : World) (o : Obj) (i : Nat) (h : i = w.heap.size) : (w.alloc o).heap[i]? = some o := by subst h; exact heap_alloc_new w o
theorem heap_prev (w : World) (o : Obj) (i : Nat) (h : i < w.heap.size) : (w.alloc o).heap[i]? = w.heap[i]? := Below.heap_alloc w o i h
set_option maxRecDepth 100000 in
theorem halves_any (a : Nat) (w : World) (ha : (a : Int) ≤ 18446744073709551615) : Calls Try.prog 74 #[.int .u64 (a : Int)] w fun e w' => e = .returned (.agg #[.int .u32 ((a % 4294967296 : Nat) : Int), .int .u32 ((a / 4294967296 : Nat) : Int)]) ∧ Below w.heap.size w w' := by
  have a0 : (0 : Int) ≤ (a : Int) := Int.natCast_nonneg _
  have h1 : IntKind.u32.wrap (a : Int) = ((a % 4294967296 : Nat) : Int) := by rw [IntKind.wrap_u32]; omega
  have h2 : (a : Int) / 4294967296 = ((a / 4294967296 : Nat) : Int) := by omega
  have h3 : ((a / 4294967296 : Nat) : Int) ≤ 4294967295 := by omega
  have h4 : (0 : Int) ≤ ((a / 4294967296 : Nat) : Int) := Int.natCast_nonneg _
  generalize a % 4294967296 = l at *
  generalize a / 4294967296 = h at *
  go_enter Try.func74, Try.ntmps74
  go_wp2
  refine bodyPost_ret (results_cell_row Try.results74 _ _ w.heap.size 106 _ _ _ rfl (heap_last _ _ _ rfl) Try.underlying106 rfl (by kernel_rfl)) rfl ⟨rfl, (Below.refl _ _).alloc (Nat.le_refl _) _⟩
@[local go_sem high, local simp high] theorem idx0 (a b : Int) (w : World) : (Instr.index 106 (.agg #[.int .u32 a, .int .u32 b]) (.int .i64 0)).run Try.prog w = .ok (.int .u32 a) w := by kernel_rfl
@[local go_sem high, local simp high] theorem idx1 (a b : Int) (w : World) : (Instr.index 106 (.agg #[.int .u32 a, .int .u32 b]) (.int .i64 1)).run Try.prog w = .ok (.int .u32 b) w := by kernel_rfl
/-- the memory of product: its result, its p and its y -/
structure PM (w : World) (Y : Nat) (y0 y1 : Nat) (p0 p1 p2 p3 : Int) (wr : World) : Prop where
  row : wr.heap[w.heap.size + 1]? = some (.cells #[.int .u32 p0, .int .u32 p1, .int .u32 p2, .int .u32 p3] 92 (0, 0))
  res : wr.heap[w.heap.size]? = some (.cells #[.int .u32 0, .int .u32 0, .int .u32 0, .int .u32 0] 92 (0, 0))
  yr : wr.heap[Y]? = some (.cells #[.int .u32 (y0 : Int), .int .u32 (y1 : Int)] 106 (0, 0))
  bel : Below w.heap.size w wr
  big : w.heap.size + 1 < Y
theorem PM.store {w wr : World} {Y y0 y1 : Nat} {p0 p1 p2 p3 : Int} (h : PM w Y y0 y1 p0 p1 p2 p3 wr) (j : Nat) (v q0 q1 q2 q3 : Int)
    (hq : (#[.int .u32 p0, .int .u32 p1, .int .u32 p2, .int .u32 p3] : Array Value).setIfInBounds j (.int .u32 v) = #[.int .u32 q0, .int .u32 q1, .int .u32 q2, .int .u32 q3]) :
    PM w Y y0 y1 q0 q1 q2 q3 (wr.setCell ⟨w.heap.size + 1, j, none⟩ (.int .u32 v)) := by
  have hb := h.big
  refine ⟨?_, ?_, ?_, h.bel.setCell (by simp) _, hb⟩
  · rw [← hq]; exact heap_setCell_same _ _ _ _ _ _ h.row
  · exact (heap_setCell_other _ _ _ _ (by simp)).trans h.res
  · exact (heap_setCell_other _ _ _ _ (by simp; omega)).trans h.yr
theorem PM.cells {w wr : World} {Y y0 y1 : Nat} {p0 p1 p2 p3 : Int} (h : PM w Y y0 y1 p0 p1 p2 p3 wr) :
    wr.cell? ⟨w.heap.size + 1, 0, none⟩ = some (.int .u32 p0) ∧ wr.cell? ⟨w.heap.size + 1, 1, none⟩ = some (.int .u32 p1) ∧ wr.cell? ⟨w.heap.size + 1, 2, none⟩ = some (.int .u32 p2) ∧ wr.cell? ⟨w.heap.size + 1, 3, none⟩ = some (.int .u32 p3) ∧
    wr.frozen? ⟨w.heap.size + 1, 0, none⟩ = false ∧ wr.frozen? ⟨w.heap.size + 1, 1, none⟩ = false ∧ wr.frozen? ⟨w.heap.size + 1, 2, none⟩ = false ∧ wr.frozen? ⟨w.heap.size + 1, 3, none⟩ = false ∧
    wr.cell? ⟨Y, 0, none⟩ = some (.int .u32 (y0 : Int)) ∧ wr.cell? ⟨Y, 1, none⟩ = some (.int .u32 (y1 : Int)) :=
  ⟨cell_of_row _ _ 0 _ _ _ h.row, cell_of_row _ _ 1 _ _ _ h.row, cell_of_row _ _ 2 _ _ _ h.row, cell_of_row _ _ 3 _ _ _ h.row,
   frozen_of_row _ _ _ _ _ h.row, frozen_of_row _ _ _ _ _ h.row, frozen_of_row _ _ _ _ _ h.row, frozen_of_row _ _ _ _ _ h.row,
   cell_of_row _ _ 0 _ _ _ h.yr, cell_of_row _ _ 1 _ _ _ h.yr⟩
theorem PM.out {w wr : World} {Y y0 y1 : Nat} {p0 p1 p2 p3 : Int} (h : PM w Y y0 y1 p0 p1 p2 p3 wr) :
    wr.cell? ⟨w.heap.size, 0, none⟩ = some (.int .u32 0) ∧ wr.cell? ⟨w.heap.size, 1, none⟩ = some (.int .u32 0) ∧ wr.cell? ⟨w.heap.size, 2, none⟩ = some (.int .u32 0) ∧ wr.cell? ⟨w.heap.size, 3, none⟩ = some (.int .u32 0) ∧
    wr.frozen? ⟨w.heap.size, 0, none⟩ = false ∧ wr.frozen? ⟨w.heap.size, 1, none⟩ = false ∧ wr.frozen? ⟨w.heap.size, 2, none⟩ = false ∧ wr.frozen? ⟨w.heap.size, 3, none⟩ = false :=
  ⟨cell_of_row _ _ 0 _ _ _ h.res, cell_of_row _ _ 1 _ _ _ h.res, cell_of_row _ _ 2 _ _ _ h.res, cell_of_row _ _ 3 _ _ _ h.res,
   frozen_of_row _ _ _ _ _ h.res, frozen_of_row _ _ _ _ _ h.res, frozen_of_row _ _ _ _ _ h.res, frozen_of_row _ _ _ _ _ h.res⟩
theorem PM.done {w wr : World} {Y y0 y1 : Nat} {p0 p1 p2 p3 : Int} (h : PM w Y y0 y1 p0 p1 p2 p3 wr) (a b c d : Value) :
    ((((wr.setCell ⟨w.heap.size, 0, none⟩ a).setCell ⟨w.heap.size, 1, none⟩ b).setCell ⟨w.heap.size, 2, none⟩ c).setCell ⟨w.heap.size, 3, none⟩ d).heap[w.heap.size]? = some (.cells #[a, b, c, d] 92 (0, 0)) :=
  heap_setCell_same _ _ _ _ _ _ (heap_setCell_same _ _ _ _ _ _ (heap_setCell_same _ _ _ _ _ _ (heap_setCell_same _ _ _ _ _ _ h.res)))
theorem mem_first (w w1 w2 : World) (x0 x1 y0 y1 : Nat)
    (hb1 : Below ((w.alloc (.cells #[.int .u32 0, .int .u32 0, .int .u32 0, .int .u32 0] 92)).alloc (.cells #[.int .u32 0, .int .u32 0, .int .u32 0, .int .u32 0] 92)).heap.size ((w.alloc (.cells #[.int .u32 0, .int .u32 0, .int .u32 0, .int .u32 0] 92)).alloc (.cells #[.int .u32 0, .int .u32 0, .int .u32 0, .int .u32 0] 92)) w1) (hb2 : Below w1.heap.size w1 w2) :
    PM w (w2.heap.size + 1) y0 y1 0 0 0 0 ((w2.alloc (.cells #[.int .u32 (x0 : Int), .int .u32 (x1 : Int)] 106)).alloc (.cells #[.int .u32 (y0 : Int), .int .u32 (y1 : Int)] 106)) := by
  have s1 := hb1.size
  have s2 := hb2.size
  simp only [World.size_alloc] at s1
  have k : ∀ i, i < w.heap.size + 1 + 1 → w2.heap[i]? = ((w.alloc (.cells #[.int .u32 0, .int .u32 0, .int .u32 0, .int .u32 0] 92)).alloc (.cells #[.int .u32 0, .int .u32 0, .int .u32 0, .int .u32 0] 92)).heap[i]? := fun i hi =>
    (hb2.block i (by omega)).trans (hb1.block i (by simp only [World.size_alloc]; omega))
  have hsz : ∀ o, (w2.alloc o).heap.size = w2.heap.size + 1 := fun o => by simp
  refine ⟨?_, ?_, ?_, ?_, by omega⟩
  · rw [heap_prev _ _ _ (by rw [hsz]; omega), heap_prev _ _ _ (by omega), k _ (by omega)]
    exact heap_last _ _ _ (by simp)
  · rw [heap_prev _ _ _ (by rw [hsz]; omega), heap_prev _ _ _ (by omega), k _ (by omega), heap_prev _ _ _ (by simp)]
    exact heap_last _ _ _ rfl
  · exact heap_last _ _ _ (by rw [hsz])
  · have b0 : Below w.heap.size w w2 := (((Below.refl _ _).alloc (Nat.le_refl _) _).alloc (by simp) _).trans ((hb1.mono (by simp only [World.size_alloc]; omega)).trans (hb2.mono (by omega)))
    exact (b0.alloc (by omega) _).alloc (by rw [hsz]; omega) _
set_option maxRecDepth 100000 in
set_option maxHeartbeats 1600000 in
theorem product_walk (a b x0 x1 y0 y1 A C S D T E E2 V q0 o1 q1 o2 r1 o3 r2 o4 : Nat) (w : World)
    (hx : ∀ w, Calls Try.prog 74 #[.int .u64 (a : Int)] w fun e w' => e = .returned (.agg #[.int .u32 (x0 : Int), .int .u32 (x1 : Int)]) ∧ Below w.heap.size w w')
    (hy : ∀ w, Calls Try.prog 74 #[.int .u64 (b : Int)] w fun e w' => e = .returned (.agg #[.int .u32 (y0 : Int), .int .u32 (y1 : Int)]) ∧ Below w.heap.size w w')
    (e1 : (x0 : Int) * (y0 : Int) = (A : Int)) (e2 : (x0 : Int) * (y1 : Int) = (C : Int)) (e3 : (x1 : Int) * (y0 : Int) = (D : Int)) (e4 : (x1 : Int) * (y1 : Int) = (E : Int))
    (e5 : (o1 : Int) + (C : Int) = (S : Int)) (e6 : (D : Int) + (q1 : Int) = (T : Int)) (e7 : (E : Int) + (o2 : Int) = (E2 : Int)) (e8 : (o3 : Int) + (E2 : Int) = (V : Int))
    (m1 : IntKind.u32.wrap (A : Int) = (q0 : Int)) (d1 : (A : Int) / 4294967296 = (o1 : Int)) (m2 : IntKind.u32.wrap (S : Int) = (q1 : Int)) (d2 : (S : Int) / 4294967296 = (o2 : Int))
    (m3 : IntKind.u32.wrap (T : Int) = (r1 : Int)) (d3 : (T : Int) / 4294967296 = (o3 : Int)) (m4 : IntKind.u32.wrap (V : Int) = (r2 : Int)) (d4 : (V : Int) / 4294967296 = (o4 : Int))
    (b1 : (A : Int) ≤ 18446744073709551615) (b2 : (C : Int) ≤ 18446744073709551615) (b3 : (S : Int) ≤ 18446744073709551615) (b4 : (D : Int) ≤ 18446744073709551615) (b5 : (T : Int) ≤ 18446744073709551615) (b6 : (E : Int) ≤ 18446744073709551615) (b7 : (E2 : Int) ≤ 18446744073709551615) (b8 : (V : Int) ≤ 18446744073709551615)
    (c8 : (o1 : Int) ≤ 4294967295) (c9 : (o3 : Int) ≤ 4294967295) (c1 : (o2 : Int) ≤ 4294967295) (c2 : (o4 : Int) ≤ 4294967295) (c3 : (q1 : Int) ≤ 4294967295) (c4 : (x0 : Int) ≤ 4294967295) (c5 : (x1 : Int) ≤ 4294967295) (c6 : (y0 : Int) ≤ 4294967295) (c7 : (y1 : Int) ≤ 4294967295) :
    Calls Try.prog 59 #[.int .u64 (a : Int), .int .u64 (b : Int)] w fun e w' => e = .returned (.agg #[.int .u32 (q0 : Int), .int .u32 (r1 : Int), .int .u32 (r2 : Int), .int .u32 (o4 : Int)]) ∧ Below w.heap.size w w' := by
  have HX := Lib.hid hx
  have HY := Lib.hid hy
  clear hx hy
  have z1 : (0 : Int) ≤ (A : Int) := Int.natCast_nonneg _
  have z2 : (0 : Int) ≤ (C : Int) := Int.natCast_nonneg _
  have z3 : (0 : Int) ≤ (S : Int) := Int.natCast_nonneg _
  have z4 : (0 : Int) ≤ (D : Int) := Int.natCast_nonneg _
  have z5 : (0 : Int) ≤ (T : Int) := Int.natCast_nonneg _
  have z6 : (0 : Int) ≤ (E : Int) := Int.natCast_nonneg _
  have z7 : (0 : Int) ≤ (E2 : Int) := Int.natCast_nonneg _
  have z8 : (0 : Int) ≤ (V : Int) := Int.natCast_nonneg _
  have y10 : (0 : Int) ≤ (x0 : Int) := Int.natCast_nonneg _
  have y11 : (0 : Int) ≤ (x1 : Int) := Int.natCast_nonneg _
  have y12 : (0 : Int) ≤ (y0 : Int) := Int.natCast_nonneg _
  have y13 : (0 : Int) ≤ (y1 : Int) := Int.natCast_nonneg _
  have y14 : (0 : Int) ≤ (q1 : Int) := Int.natCast_nonneg _
  have y15 : (0 : Int) ≤ (o2 : Int) := Int.natCast_nonneg _
  have y16 : (0 : Int) ≤ (o4 : Int) := Int.natCast_nonneg _
  have y17 : (0 : Int) ≤ (o1 : Int) := Int.natCast_nonneg _
  have y18 : (0 : Int) ≤ (o3 : Int) := Int.natCast_nonneg _
  go_enter Try.func59, Try.ntmps59
  go_wp2_with fail
  refine (HX.out _).mono ?_
  rintro e w1 ⟨rfl, hb1⟩
  go_wp2_with fail
  refine (HY.out _).mono ?_
  rintro e w2 ⟨rfl, hb2⟩
  have HM3 := Lib.hid (show PM w (w2.heap.size + 1) y0 y1 0 0 0 0 ((w2.alloc (.cells #[.int .u32 (x0 : Int), .int .u32 (x1 : Int)] 106)).alloc (.cells #[.int .u32 (y0 : Int), .int .u32 (y1 : Int)] 106)) from mem_first w w1 w2 x0 x1 y0 y1 hb1 hb2)
  clear hb1 hb2
  go_wp2_with fail
  generalize (w2.alloc (.cells #[.int .u32 (x0 : Int), .int .u32 (x1 : Int)] 106)).alloc (.cells #[.int .u32 (y0 : Int), .int .u32 (y1 : Int)] 106) = w3 at *
  obtain ⟨c0, c1', c2', c3', f0, f1, f2, f3, ly, lp⟩ := HM3.out.cells
  refine wp_loop_rounds 3 ?_
  rw [rounds_succ]
  go_wp2_with fail
  refine wp_loop_rounds 3 ?_
  rw [rounds_succ]
  go_wp2_with fail
  have HM4 := Lib.hid (HM3.out.store 0 q0 (q0 : Int) 0 0 0 rfl)
  generalize w3.setCell ⟨w.heap.size + 1, 0, none⟩ (.int .u32 (q0 : Int)) = w4 at *
  clear c0 c1' c2' c3' f0 f1 f2 f3 ly lp
  obtain ⟨c0, c1', c2', c3', f0, f1, f2, f3, ly, lp⟩ := HM4.out.cells
  rw [rounds_succ]
  go_wp2_with fail
  have HM5 := Lib.hid (HM4.out.store 1 q1 (q0 : Int) (q1 : Int) 0 0 rfl)
  generalize w4.setCell ⟨w.heap.size + 1, 1, none⟩ (.int .u32 (q1 : Int)) = w5 at *
  clear c0 c1' c2' c3' f0 f1 f2 f3 ly lp
  obtain ⟨c0, c1', c2', c3', f0, f1, f2, f3, ly, lp⟩ := HM5.out.cells
  rw [rounds_succ]
  go_wp2_with fail
  have HM6 := Lib.hid (HM5.out.store 2 o2 (q0 : Int) (q1 : Int) (o2 : Int) 0 rfl)
  generalize w5.setCell ⟨w.heap.size + 1, 2, none⟩ (.int .u32 (o2 : Int)) = w6 at *
  clear c0 c1' c2' c3' f0 f1 f2 f3 ly lp
  obtain ⟨c0, c1', c2', c3', f0, f1, f2, f3, ly, lp⟩ := HM6.out.cells
  rw [rounds_succ]
  go_wp2_with fail
  refine wp_loop_rounds 3 ?_
  rw [rounds_succ]
  go_wp2_with fail
  have HM7 := Lib.hid (HM6.out.store 1 r1 (q0 : Int) (r1 : Int) (o2 : Int) 0 rfl)
  generalize w6.setCell ⟨w.heap.size + 1, 1, none⟩ (.int .u32 (r1 : Int)) = w7 at *
  clear c0 c1' c2' c3' f0 f1 f2 f3 ly lp
  obtain ⟨c0, c1', c2', c3', f0, f1, f2, f3, ly, lp⟩ := HM7.out.cells
  rw [rounds_succ]
  go_wp2_with fail
  have HM8 := Lib.hid (HM7.out.store 2 r2 (q0 : Int) (r1 : Int) (r2 : Int) 0 rfl)
  generalize w7.setCell ⟨w.heap.size + 1, 2, none⟩ (.int .u32 (r2 : Int)) = w8 at *
  clear c0 c1' c2' c3' f0 f1 f2 f3 ly lp
  obtain ⟨c0, c1', c2', c3', f0, f1, f2, f3, ly, lp⟩ := HM8.out.cells
  rw [rounds_succ]
  go_wp2_with fail
  have HM9 := Lib.hid (HM8.out.store 3 o4 (q0 : Int) (r1 : Int) (r2 : Int) (o4 : Int) rfl)
  generalize w8.setCell ⟨w.heap.size + 1, 3, none⟩ (.int .u32 (o4 : Int)) = w9 at *
  clear c0 c1' c2' c3' f0 f1 f2 f3 ly lp
  obtain ⟨c0, c1', c2', c3', f0, f1, f2, f3, ly, lp⟩ := HM9.out.cells
  obtain ⟨g0, g1, g2, g3, k0, k1, k2, k3⟩ := HM9.out.out
  rw [rounds_succ]
  go_wp2_with fail
  refine bodyPost_ret (results_cell_row Try.results59 _ _ w.heap.size 92 _ _ _ rfl (HM9.out.done _ _ _ _) Try.underlying92 rfl (by kernel_rfl)) rfl ⟨rfl, ?_⟩
  exact (((HM9.out.bel.setCell (Nat.le_refl _) _).setCell (Nat.le_refl _) _).setCell (Nat.le_refl _) _).setCell (Nat.le_refl _) _
theorem mul_le_w {x y : Nat} (hx : x ≤ 4294967295) (hy : y ≤ 4294967295) : x * y ≤ 18446744065119617025 := Nat.mul_le_mul hx hy
theorem prod_alg {x0 x1 y0 y1 A C D E B : Nat} (e1 : x0 * y0 = A) (e2 : x0 * y1 = C) (e3 : x1 * y0 = D) (e4 : x1 * y1 = E) : (x1 * B + x0) * (y1 * B + y0) = E * (B * B) + (C + D) * B + A := by
  subst e1 e2 e3 e4; grind
theorem product_any (a b : Nat) (w : World) (ha : (a : Int) ≤ 18446744073709551615) (hb : (b : Int) ≤ 18446744073709551615) :
    Calls Try.prog 59 #[.int .u64 (a : Int), .int .u64 (b : Int)] w fun e w' => (∃ p0 p1 p2 p3 : Nat, e = .returned (.agg #[.int .u32 (p0 : Int), .int .u32 (p1 : Int), .int .u32 (p2 : Int), .int .u32 (p3 : Int)]) ∧ p0 ≤ 4294967295 ∧ p1 ≤ 4294967295 ∧ p2 ≤ 4294967295 ∧ p3 ≤ 4294967295 ∧ (p3 * 4294967296 + p2) * 18446744073709551616 + (p1 * 4294967296 + p0) = a * b) ∧ Below w.heap.size w w' := by
  have hx := fun w => halves_any a w ha
  have hy := fun w => halves_any b w hb
  have hae : a = a / 4294967296 * 4294967296 + a % 4294967296 := by omega
  have hbe : b = b / 4294967296 * 4294967296 + b % 4294967296 := by omega
  have hx0 : a % 4294967296 ≤ 4294967295 := by omega
  have hx1 : a / 4294967296 ≤ 4294967295 := by omega
  have hy0 : b % 4294967296 ≤ 4294967295 := by omega
  have hy1 : b / 4294967296 ≤ 4294967295 := by omega
  generalize a % 4294967296 = x0 at *
  generalize a / 4294967296 = x1 at *
  generalize b % 4294967296 = y0 at *
  generalize b / 4294967296 = y1 at *
  have A1 := mul_le_w hx0 hy0
  have C1 := mul_le_w hx0 hy1
  have D1 := mul_le_w hx1 hy0
  have E1 := mul_le_w hx1 hy1
  obtain ⟨A, hA⟩ : ∃ A, x0 * y0 = A := ⟨_, rfl⟩
  obtain ⟨C, hC⟩ : ∃ C, x0 * y1 = C := ⟨_, rfl⟩
  obtain ⟨D, hD⟩ : ∃ D, x1 * y0 = D := ⟨_, rfl⟩
  obtain ⟨E, hE⟩ : ∃ E, x1 * y1 = E := ⟨_, rfl⟩
  have alg := prod_alg (B := 4294967296) hA hC hD hE
  rw [← hae, ← hbe] at alg
  rw [hA] at A1
  rw [hC] at C1
  rw [hD] at D1
  rw [hE] at E1
  have w32 : ∀ n : Nat, IntKind.u32.wrap (n : Int) = ((n % 4294967296 : Nat) : Int) := fun n => by rw [IntKind.wrap_u32]; omega
  have d32 : ∀ n : Nat, (n : Int) / 4294967296 = ((n / 4294967296 : Nat) : Int) := fun n => by omega
  have mc : ∀ x y z : Nat, x * y = z → (x : Int) * (y : Int) = (z : Int) := fun x y z h => by rw [← h, Int.natCast_mul]
  refine (product_walk a b x0 x1 y0 y1 A C (A / 4294967296 + C) D (D + (A / 4294967296 + C) % 4294967296) E (E + (A / 4294967296 + C) / 4294967296) ((D + (A / 4294967296 + C) % 4294967296) / 4294967296 + (E + (A / 4294967296 + C) / 4294967296)) _ _ _ _ _ _ _ _ w hx hy (mc _ _ _ hA) (mc _ _ _ hC) (mc _ _ _ hD) (mc _ _ _ hE) (Int.natCast_add _ _).symm (Int.natCast_add _ _).symm (Int.natCast_add _ _).symm (Int.natCast_add _ _).symm (w32 _) (d32 _) (w32 _) (d32 _) (w32 _) (d32 _) (w32 _) (d32 _) (by omega) (by omega) (by omega) (by omega) (by omega) (by omega) (by omega) (by omega) (by omega) (by omega) (by omega) (by omega) (by omega) (by omega) (by omega) (by omega) (by omega)).mono ?_
  rintro e w' ⟨rfl, hbl⟩
  refine ⟨⟨_, _, _, _, rfl, by omega, by omega, by omega, by omega, ?_⟩, hbl⟩
  rw [alg]
  clear hx hy hA hC hD hE hae hbe w32 d32 mc
  omega
end Go.Proofs.Ytpapcilffkpjjaa
