/- What must be of segments, asked one behind the other: opened's contract. -/
import Derived.Test.YtjlifjgljejabaaGreatDoorWrapQ
import Derived.Test.YtjlifjgljejabaaGreatDoorEdiP
namespace Go.Proofs.YtjlifjgljejabaaGreatDoor
open Go.RowKit Go.Edi Go.Wrap

theorem sizeWrap : (Tryz.prog.info? 41).map (·.size) = some 4 := by kernel_rfl
theorem results_cell_tmp_row {P : Program} {fn : Func} {p u : Tmp} {ty : TypeId} (h : fn.results = #[.cell p ty, .tmp u]) (tmps : Array Value) (w : World) (g : Nat) (t : TypeId) (cs : Array Value) (fr : Nat × Nat) (d : TypeDesc)
    (hp : tmps.getD p undef = .pointer (some ⟨g, 0, none⟩)) (hg : w.heap[g]? = some (.cells cs t fr))
    (hu : P.underlying ty = some d) (hd : (match d with | .struct _ | .array _ _ => true | _ => false) = true) (hi : (P.info? ty).map (·.size) = some cs.size) :
    (results fn tmps).run P w = .ok (.tuple #[.agg cs, tmps.getD u undef]) w := by
  rw [results_cell_tmp h, hp]
  simp only [asAddr, Sem.run_pure, Result.andThen_ok, run_loadVar_row w g t ty cs fr d hg hu hd hi]
theorem set4 {W : World} {g : Nat} {x y z u : Value} {ty : TypeId} (h : W.heap[g]? = some (.cells #[x, y, z, u] ty (0, 0))) (a b c d : Value) :
    (((((W.setCell ⟨g, 0, none⟩ a).setCell ⟨g, 1, none⟩ b).setCell ⟨g, 2, none⟩ c).setCell ⟨g, 3, none⟩ d).drew).heap[g]? = some (.cells #[a, b, c, d] ty (0, 0)) := by
  have h1 : (W.setCell ⟨g, 0, none⟩ a).heap[g]? = some (.cells #[a, y, z, u] ty (0, 0)) := set_arr h 0 a
  have h2 : ((W.setCell ⟨g, 0, none⟩ a).setCell ⟨g, 1, none⟩ b).heap[g]? = some (.cells #[a, b, z, u] ty (0, 0)) := set_arr h1 1 b
  have h3 : (((W.setCell ⟨g, 0, none⟩ a).setCell ⟨g, 1, none⟩ b).setCell ⟨g, 2, none⟩ c).heap[g]? = some (.cells #[a, b, c, u] ty (0, 0)) := set_arr h2 2 c
  exact set_arr h3 3 d
theorem set4n {W : World} {g : Nat} {x y z u : Value} {ty : TypeId} (h : W.heap[g]? = some (.cells #[x, y, z, u] ty (0, 0))) (a b c d : Value) :
    ((((W.setCell ⟨g, 0, none⟩ a).setCell ⟨g, 1, none⟩ b).setCell ⟨g, 2, none⟩ c).setCell ⟨g, 3, none⟩ d).heap[g]? = some (.cells #[a, b, c, d] ty (0, 0)) := set4 h a b c d
theorem set_other {W : World} {g h : Nat} {i : Nat} {v : Value} {o : Obj} (hg : W.heap[g]? = some o) (hne : g ≠ h) : (W.setCell ⟨h, i, none⟩ v).heap[g]? = some o := (Below.heap_setCell W ⟨h, i, none⟩ v g hne).trans hg
def rulesV (B : Nat) : Array Value := #[.func (.func 63) #[] #[.pointer (some ⟨B, 0, none⟩)], .int .i64 40,
  .func (.func 64) #[] #[.pointer (some ⟨B, 0, none⟩), .pointer (some ⟨B + 1 + 1, 0, none⟩)], .int .i64 40,
  .func (.func 68) #[] #[.pointer (some ⟨B, 0, none⟩), .pointer (some ⟨B + 1 + 1 + 1 + 1 + 1, 0, none⟩), .pointer (some ⟨B + 1 + 1 + 1, 0, none⟩), .pointer (some ⟨B + 1 + 1 + 1 + 1, 0, none⟩)], .int .i64 40,
  .func (.func 69) #[] #[.pointer (some ⟨B + 1 + 1 + 1, 0, none⟩), .pointer (some ⟨B, 0, none⟩)], .int .i64 41,
  .func (.func 70) #[] #[.pointer (some ⟨B + 1 + 1 + 1 + 1, 0, none⟩), .pointer (some ⟨B + 1 + 1, 0, none⟩)], .int .i64 42]
abbrev wrV (f t r : Nat) (v : Value) : Array Value := #[.int .u8 (f : Int), .int .u8 (t : Int), .int .u64 (r : Int), v]
structure OpM (B : Nat) (l : List Sg) (p : Option Addr) (cap f t r c a : Nat) (wr : World) : Prop where
  big : B + 7 ≤ wr.heap.size
  c0 : wr.heap[B]? = some (.cells #[.slice p l.length cap] 39 (0, 0))
  r1 : wr.heap[B + 1]? = some (.cells (wrV 0 0 0 (.slice none 0 0)) 41 (0, 0))
  g2 : wr.heap[B + 1 + 1]? = some (.cells (wrV f t r (.slice none 0 0)) 41 (0, 0))
  c3 : wr.heap[B + 1 + 1 + 1]? = some (.cells #[.int .u64 (c : Int)] 22 (0, 0))
  d4 : wr.heap[B + 1 + 1 + 1 + 1]? = some (.cells #[.int .u64 (a : Int)] 22 (0, 0))
  n5 : wr.heap[B + 1 + 1 + 1 + 1 + 1]? = some (.cells #[.int .i64 ((l.length : Int) - 1)] 3 (0, 0))
  q6 : wr.heap[B + 1 + 1 + 1 + 1 + 1 + 1]? = some (.cells (rulesV B) 127 (0, 0))
theorem OpM.keep {B : Nat} {l : List Sg} {p : Option Addr} {cap f t r c a : Nat} {w w' : World} (h : OpM B l p cap f t r c a w) (hs : w.heap.size ≤ w'.heap.size) (hk : ∀ b, b < B + 7 → w'.heap[b]? = w.heap[b]?) : OpM B l p cap f t r c a w' :=
  ⟨Nat.le_trans h.big hs, (hk _ (by omega)).trans h.c0, (hk _ (by omega)).trans h.r1, (hk _ (by omega)).trans h.g2, (hk _ (by omega)).trans h.c3, (hk _ (by omega)).trans h.d4, (hk _ (by omega)).trans h.n5, (hk _ (by omega)).trans h.q6⟩
theorem OpM.alloc {B : Nat} {l : List Sg} {p : Option Addr} {cap f t r c a : Nat} {w : World} (h : OpM B l p cap f t r c a w) (o : Obj) : OpM B l p cap f t r c a (w.alloc o) :=
  h.keep (by simp) (fun b hb => Below.heap_alloc _ _ _ (Nat.lt_of_lt_of_le hb h.big))
theorem OpM.head {B : Nat} {l : List Sg} {p : Option Addr} {cap f t r c a f' t' r' : Nat} {w w' : World} (h : OpM B l p cap f t r c a w) (hf : Frq (· = B + 1 + 1) w w') (hg : w'.heap[B + 1 + 1]? = some (.cells (wrV f' t' r' (.slice none 0 0)) 41 (0, 0))) : OpM B l p cap f' t' r' c a w' := by
  have hk : ∀ b, b < B + 7 → b ≠ B + 1 + 1 → w'.heap[b]? = w.heap[b]? := fun b hb hn => hf.block b (Nat.lt_of_lt_of_le hb h.big) hn
  exact ⟨Nat.le_trans h.big hf.size, (hk _ (by omega) (by omega)).trans h.c0, (hk _ (by omega) (by omega)).trans h.r1, hg, (hk _ (by omega) (by omega)).trans h.c3, (hk _ (by omega) (by omega)).trans h.d4, (hk _ (by omega) (by omega)).trans h.n5, (hk _ (by omega) (by omega)).trans h.q6⟩
theorem OpM.tail {B : Nat} {l : List Sg} {p : Option Addr} {cap f t r c a c' a' : Nat} {w w' : World} (h : OpM B l p cap f t r c a w) (hf : Frq (fun k => k = B + 1 + 1 + 1 ∨ k = B + 1 + 1 + 1 + 1) w w') (hc : w'.heap[B + 1 + 1 + 1]? = some (.cells #[.int .u64 (c' : Int)] 22 (0, 0))) (hd : w'.heap[B + 1 + 1 + 1 + 1]? = some (.cells #[.int .u64 (a' : Int)] 22 (0, 0))) : OpM B l p cap f t r c' a' w' := by
  have hk : ∀ b, b < B + 7 → b ≠ B + 1 + 1 + 1 → b ≠ B + 1 + 1 + 1 + 1 → w'.heap[b]? = w.heap[b]? := fun b hb hn hn2 => hf.block b (Nat.lt_of_lt_of_le hb h.big) (fun e => e.elim hn hn2)
  exact ⟨Nat.le_trans h.big hf.size, (hk _ (by omega) (by omega) (by omega)).trans h.c0, (hk _ (by omega) (by omega) (by omega)).trans h.r1, (hk _ (by omega) (by omega) (by omega)).trans h.g2, hc, hd, (hk _ (by omega) (by omega) (by omega)).trans h.n5, (hk _ (by omega) (by omega) (by omega)).trans h.q6⟩
theorem heap_new (w : World) (o : Obj) (n : Nat) (h : n = w.heap.size) : (w.alloc o).heap[n]? = some o := by subst h; exact at_last w o
theorem heap_past (w : World) (o : Obj) (n : Nat) {x : Obj} (h : n < w.heap.size) (hx : w.heap[n]? = some x) : (w.alloc o).heap[n]? = some x := (Below.heap_alloc w o n h).trans hx
theorem size_a (w : World) (o : Obj) : (w.alloc o).heap.size = w.heap.size + 1 := by simp
theorem start_below (w : World) (a b c d e f g : Obj) : Below w.heap.size w (((((((w.alloc a).alloc b).alloc c).alloc d).alloc e).alloc f).alloc g) := by
  refine (((((((Below.refl _ _).alloc ?_ _).alloc ?_ _).alloc ?_ _).alloc ?_ _).alloc ?_ _).alloc ?_ _).alloc ?_ _ <;> (try simp only [size_a]) <;> omega
theorem start_mem (w : World) (a b c d e f g : Obj) (l : List Sg) (p : Option Addr) (cap : Nat)
    (ha : a = .cells #[.slice p l.length cap] 39) (hb : b = .cells (wrV 0 0 0 (.slice none 0 0)) 41) (hc : c = .cells (wrV 0 0 0 (.slice none 0 0)) 41) (hd : d = .cells #[.int .u64 0] 22)
    (he : e = .cells #[.int .u64 0] 22) (hf : f = .cells #[.int .i64 ((l.length : Int) - 1)] 3) (hg : g = .cells (rulesV w.heap.size) 127) :
    OpM w.heap.size l p cap 0 0 0 0 0 (((((((w.alloc a).alloc b).alloc c).alloc d).alloc e).alloc f).alloc g) := by
  subst ha hb hc hd he hf hg
  refine ⟨by simp only [size_a]; omega, ?_, ?_, ?_, ?_, ?_, ?_, ?_⟩
  · exact heap_past _ _ _ (by (try simp only [size_a]); omega) (heap_past _ _ _ (by (try simp only [size_a]); omega) (heap_past _ _ _ (by (try simp only [size_a]); omega) (heap_past _ _ _ (by (try simp only [size_a]); omega) (heap_past _ _ _ (by (try simp only [size_a]); omega) (heap_past _ _ _ (by (try simp only [size_a]); omega) (heap_new _ _ _ (rfl)))))))
  · exact heap_past _ _ _ (by (try simp only [size_a]); omega) (heap_past _ _ _ (by (try simp only [size_a]); omega) (heap_past _ _ _ (by (try simp only [size_a]); omega) (heap_past _ _ _ (by (try simp only [size_a]); omega) (heap_past _ _ _ (by (try simp only [size_a]); omega) (heap_new _ _ _ (by simp only [size_a]))))))
  · exact heap_past _ _ _ (by (try simp only [size_a]); omega) (heap_past _ _ _ (by (try simp only [size_a]); omega) (heap_past _ _ _ (by (try simp only [size_a]); omega) (heap_past _ _ _ (by (try simp only [size_a]); omega) (heap_new _ _ _ (by simp only [size_a])))))
  · exact heap_past _ _ _ (by (try simp only [size_a]); omega) (heap_past _ _ _ (by (try simp only [size_a]); omega) (heap_past _ _ _ (by (try simp only [size_a]); omega) (heap_new _ _ _ (by simp only [size_a]))))
  · exact heap_past _ _ _ (by (try simp only [size_a]); omega) (heap_past _ _ _ (by (try simp only [size_a]); omega) (heap_new _ _ _ (by simp only [size_a])))
  · exact heap_past _ _ _ (by (try simp only [size_a]); omega) (heap_new _ _ _ (by simp only [size_a]))
  · exact heap_new _ _ _ (by simp only [size_a])
structure OpK (l : List Sg) (k f t r c a : Nat) : Prop where
  k1 : 1 ≤ k → 2 ≤ l.length
  k2 : 2 ≤ k → headV (l.getD 0 ⟨[], []⟩) = some (f, t, r)
  k3 : 3 ≤ k → tailV (l.getD (l.length - 1) ⟨[], []⟩) = some (c, a)
  k4 : 4 ≤ k → c = l.length - 2
  k5 : 5 ≤ k → a = r
theorem openL_short {l : List Sg} (h : ¬ 2 ≤ l.length) : openL l = (Wr.nil, 40) := by unfold openL; rw [if_pos (by omega)]
theorem openL_head {l : List Sg} (h : headV (l.getD 0 ⟨[], []⟩) = none) : openL l = (Wr.nil, 40) := by
  unfold openL
  split
  · rfl
  · rw [h]
theorem openL_tail {l : List Sg} (h : tailV (l.getD (l.length - 1) ⟨[], []⟩) = none) : openL l = (Wr.nil, 40) := by
  unfold openL
  split
  · rfl
  · rw [h]; split <;> simp_all
theorem openL_count {l : List Sg} {f t r c a : Nat} (h2 : 2 ≤ l.length) (hh : headV (l.getD 0 ⟨[], []⟩) = some (f, t, r)) (ht : tailV (l.getD (l.length - 1) ⟨[], []⟩) = some (c, a)) (hc : ¬ c = l.length - 2) : openL l = (Wr.nil, 41) := by
  unfold openL
  rw [if_neg (by omega), hh, ht]
  simp only
  rw [if_neg hc]
theorem openL_ref {l : List Sg} {f t r c a : Nat} (h2 : 2 ≤ l.length) (hh : headV (l.getD 0 ⟨[], []⟩) = some (f, t, r)) (ht : tailV (l.getD (l.length - 1) ⟨[], []⟩) = some (c, a)) (hc : c = l.length - 2) (ha : ¬ a = r) : openL l = (Wr.nil, 42) := by
  unfold openL
  rw [if_neg (by omega), hh, ht]
  simp only
  rw [if_pos hc, if_neg ha]
theorem openL_ok {l : List Sg} {f t r c a : Nat} (h2 : 2 ≤ l.length) (hh : headV (l.getD 0 ⟨[], []⟩) = some (f, t, r)) (ht : tailV (l.getD (l.length - 1) ⟨[], []⟩) = some (c, a)) (hc : c = l.length - 2) (ha : a = r) : openL l = (⟨f, t, r, (l.take (l.length - 1)).drop 1⟩, 0) := by
  unfold openL
  rw [if_neg (by omega), hh, ht]
  simp only
  rw [if_pos hc, if_pos ha]
def OpA (l : List Sg) (F : Nat → Prop) (w : World) (e : Ending) (w' : World) : Prop :=
  ∃ v, e = .returned (.tuple #[.agg (wrV (openL l).1.from_ (openL l).1.to_ (openL l).1.ref v), .int .i64 ((openL l).2 : Int)]) ∧ SegsF w' F v (openL l).1.segs ∧ Below w.heap.size w w'
set_option maxRecDepth 100000 in
set_option maxHeartbeats 3200000 in
theorem opened_any (l : List Sg) (p : Option Addr) (cap : Nat) (w : World) (F : Nat → Prop) (hv : SegsF w F (.slice p l.length cap) l) (hF : ∀ b, F b → b < w.heap.size) (hfit : sane l) :
    Calls Tryz.prog 47 #[.slice p l.length cap] w (OpA l F w) := by
  have hlb : (l.length : Int) ≤ 1000000000000 := by have := hfit.1; omega
  have HV := Lib.hid hv
  have HFF := Lib.hid hF
  have HFit := Lib.hid hfit
  clear hv hF hfit
  go_enter Tryz.func47, Tryz.ntmps47
  go_wp2
  generalize hW : World.alloc _ _ = W
  have hM : OpM w.heap.size l p cap 0 0 0 0 0 W := by
    subst hW
    exact start_mem w _ _ _ _ _ _ _ l p cap rfl rfl rfl rfl rfl rfl rfl
  have hB : Below w.heap.size w W := by
    subst hW
    exact start_below w _ _ _ _ _ _ _
  have HM := Lib.hid hM
  have HB := Lib.hid hB
  clear hM hB hW
  go_loopw [25] (fun i wr => ∃ k f t r c a : Nat, i = .int .i64 k ∧ k ≤ 5 ∧ OpM w.heap.size l p cap f t r c a wr ∧ OpK l k f t r c a ∧ Below w.heap.size w wr) (fun i _ => 5 - (intOf i).toNat)
  case atStart => exact ⟨0, 0, 0, 0, 0, 0, rfl, by omega, HM.out, ⟨by omega, by omega, by omega, by omega, by omega⟩, HB.out⟩
  case round =>
    obtain ⟨k, f, t, r, c, a, rfl, hk, hm, hK, hb⟩ := hrel
    have HMr := Lib.hid hm
    have HK := Lib.hid hK
    have HBr := Lib.hid hb
    have q := hm.q6
    clear hm hK hb HM HB
    match k, hk with
    | 0, _ =>
      have e0 : wr.cell? ⟨w.heap.size + 1 + 1 + 1 + 1 + 1 + 1, 0, none⟩ = some (.func (.func 63) #[] #[.pointer (some ⟨w.heap.size, 0, none⟩)]) := cell_of_arr q 0
      have e1 : wr.cell? ⟨w.heap.size + 1 + 1 + 1 + 1 + 1 + 1, 1, none⟩ = some (.int .i64 40) := cell_of_arr q 1
      have hM2 := HMr.out.alloc (.cells #[.func (.func 63) #[] #[.pointer (some ⟨w.heap.size, 0, none⟩)], .int .i64 40] 127)
      have hB2 : Below w.heap.size w (wr.alloc (.cells #[.func (.func 63) #[] #[.pointer (some ⟨w.heap.size, 0, none⟩)], .int .i64 40] 127)) := HBr.out.alloc HBr.out.size _
      have hE2 : (wr.alloc (.cells #[.func (.func 63) #[] #[.pointer (some ⟨w.heap.size, 0, none⟩)], .int .i64 40] 127)).cell? ⟨wr.heap.size, 1, none⟩ = some (.int .i64 40) := World.cell?_alloc_at _ _ _ _ rfl
      have hz2 : wr.heap.size < (wr.alloc (.cells #[.func (.func 63) #[] #[.pointer (some ⟨w.heap.size, 0, none⟩)], .int .i64 40] 127)).heap.size := by simp
      have HM2 := Lib.hid hM2
      have HB2 := Lib.hid hB2
      have HE2 := Lib.hid hE2
      have HZ2 := Lib.hid hz2
      clear hM2 hB2 hE2 hz2
      by_cases h2 : 2 ≤ l.length
      · have hq1 := fun W hc => two_any W w.heap.size p l.length cap hc
        rw [decide_eq_true h2] at hq1
        have HQ1 := Lib.hid hq1
        have HL := Lib.hid h2
        clear hq1 h2
        go_wp2_with (go_at_call 63; refine (HQ1.out _ (cell_of_arr HM2.out.c0 0)).mono ?_; rintro e w2 ⟨rfl, rfl⟩)
        go_roundw
        case rel => exact ⟨1, f, t, r, c, a, rfl, by omega, HM2.out, ⟨fun _ => HL.out, by omega, by omega, by omega, by omega⟩, HB2.out⟩
        case measure => simp [intOf]
      · have hq1 := fun W hc => two_any W w.heap.size p l.length cap hc
        rw [decide_eq_false h2] at hq1
        have HQ1 := Lib.hid hq1
        have HL := Lib.hid h2
        clear hq1 h2
        go_wp2_with (go_at_call 63; refine (HQ1.out _ (cell_of_arr HM2.out.c0 0)).mono ?_; rintro e w2 ⟨rfl, rfl⟩)
        generalize wr.alloc _ = w2 at *
        have HR := Lib.hid HM2.out.r1
        have hE2 := HE2.out
        have hR := HR.out
        have r0 : w2.cell? ⟨w.heap.size + 1, 0, none⟩ = some (.int .u8 0) := cell_of_arr hR 0
        have r1 : w2.cell? ⟨w.heap.size + 1, 1, none⟩ = some (.int .u8 0) := cell_of_arr hR 1
        have r2 : w2.cell? ⟨w.heap.size + 1, 2, none⟩ = some (.int .u64 0) := cell_of_arr hR 2
        have r3 : w2.cell? ⟨w.heap.size + 1, 3, none⟩ = some (.slice none 0 0) := cell_of_arr hR 3
        have f0 := frozen_of_arr hR 0
        have f1 := frozen_of_arr hR 1
        have f2 := frozen_of_arr hR 2
        have f3 := frozen_of_arr hR 3
        have hne : ¬ wr.heap.size = w.heap.size + 1 := by have := HMr.out.big; omega
        have hne2 : ¬ w.heap.size + 1 = wr.heap.size := by have := HMr.out.big; omega
        clear hR HBr HMr HK q e0 e1
        go_region
        all_goals
          go_wp2
          refine bodyPost_ret (results_cell_tmp_row rfl _ _ (w.heap.size + 1) 41 _ (0, 0) _ rfl (set4 HR.out _ _ _ _) Tryz.underlying41 rfl sizeWrap) rfl ?_
          unfold OpA
          rw [openL_short HL.out]
          exact ⟨_, rfl, segs_nil _ _, (((((HB2.out.setCell (Nat.le_succ _) _).setCell (Nat.le_succ _) _).setCell (Nat.le_succ _) _).setCell (Nat.le_succ _) _).drew)⟩
    | 1, _ =>
      have e0 : wr.cell? ⟨w.heap.size + 1 + 1 + 1 + 1 + 1 + 1, 2, none⟩ = some (.func (.func 64) #[] #[.pointer (some ⟨w.heap.size, 0, none⟩), .pointer (some ⟨w.heap.size + 1 + 1, 0, none⟩)]) := cell_of_arr q 2
      have e1 : wr.cell? ⟨w.heap.size + 1 + 1 + 1 + 1 + 1 + 1, 3, none⟩ = some (.int .i64 40) := cell_of_arr q 3
      have hM2 := HMr.out.alloc (.cells #[.func (.func 64) #[] #[.pointer (some ⟨w.heap.size, 0, none⟩), .pointer (some ⟨w.heap.size + 1 + 1, 0, none⟩)], .int .i64 40] 127)
      have hB2 : Below w.heap.size w (wr.alloc (.cells #[.func (.func 64) #[] #[.pointer (some ⟨w.heap.size, 0, none⟩), .pointer (some ⟨w.heap.size + 1 + 1, 0, none⟩)], .int .i64 40] 127)) := HBr.out.alloc HBr.out.size _
      have hE2 : (wr.alloc (.cells #[.func (.func 64) #[] #[.pointer (some ⟨w.heap.size, 0, none⟩), .pointer (some ⟨w.heap.size + 1 + 1, 0, none⟩)], .int .i64 40] 127)).cell? ⟨wr.heap.size, 1, none⟩ = some (.int .i64 40) := World.cell?_alloc_at _ _ _ _ rfl
      have hz2 : wr.heap.size < (wr.alloc (.cells #[.func (.func 64) #[] #[.pointer (some ⟨w.heap.size, 0, none⟩), .pointer (some ⟨w.heap.size + 1 + 1, 0, none⟩)], .int .i64 40] 127)).heap.size := by simp
      have HM2 := Lib.hid hM2
      have HB2 := Lib.hid hB2
      have HE2 := Lib.hid hE2
      have HZ2 := Lib.hid hz2
      clear hM2 hB2 hE2 hz2
      have HL := Lib.hid (HK.out.k1 (by omega))
      have hh := head_any l (.slice p l.length cap) (wr.alloc (.cells #[.func (.func 64) #[] #[.pointer (some ⟨w.heap.size, 0, none⟩), .pointer (some ⟨w.heap.size + 1 + 1, 0, none⟩)], .int .i64 40] 127)) w.heap.size (w.heap.size + 1 + 1) _ _ _ (.slice none 0 0) F (cell_of_arr HM2.out.c0 0) (HV.out.kept fun b hb => ⟨hb, HB2.out.block b (HFF.out b hb)⟩)
        (fun b hb => ⟨Nat.lt_of_lt_of_le (HFF.out b hb) HB2.out.size, by have := HFF.out b hb; omega⟩) (by have := HL.out; omega) HFit.out HM2.out.g2
      have hge : l.getD 0 ⟨[], []⟩ = l[0]'(by have := HL.out; omega) := by rw [List.getD_eq_getElem?_getD, List.getElem?_eq_getElem (by have := HL.out; omega)]; rfl
      have HGE := Lib.hid hge
      clear hge
      cases hv : headV (l[0]'(by have := HL.out; omega)) with
      | some x =>
        obtain ⟨f', t', r'⟩ := x
        have hq1 : Calls Tryz.prog 64 #[.pointer (some ⟨w.heap.size, 0, none⟩), .pointer (some ⟨w.heap.size + 1 + 1, 0, none⟩)] (wr.alloc (.cells #[.func (.func 64) #[] #[.pointer (some ⟨w.heap.size, 0, none⟩), .pointer (some ⟨w.heap.size + 1 + 1, 0, none⟩)], .int .i64 40] 127)) (fun e w2 => e = .returned (.bool true) ∧ w2.heap[w.heap.size + 1 + 1]? = some (.cells (wrV f' t' r' (.slice none 0 0)) 41 (0, 0)) ∧ Frq (· = w.heap.size + 1 + 1) (wr.alloc (.cells #[.func (.func 64) #[] #[.pointer (some ⟨w.heap.size, 0, none⟩), .pointer (some ⟨w.heap.size + 1 + 1, 0, none⟩)], .int .i64 40] 127)) w2) := by
          refine hh.mono ?_
          rintro e w2 ⟨ok, rfl, h1, h2, h3⟩
          exact ⟨by rw [h1, hv]; rfl, h2 _ _ _ hv, h3⟩
        have HQ1 := Lib.hid hq1
        have HHV := Lib.hid hv
        clear hq1 hh hv
        go_wp2_with (go_at_call 64; refine (HQ1.out).mono ?_; rintro e w2 ⟨rfl, h2, h3⟩; have H2 := Lib.hid h2; have H3 := Lib.hid h3; clear h2 h3)
        go_roundw
        case rel => exact ⟨2, f', t', r', c, a, rfl, by omega, HM2.out.head H3.out H2.out, ⟨fun _ => HL.out, fun _ => HGE.out ▸ HHV.out, by omega, by omega, by omega⟩, HB2.out.trans (H3.out.below HB2.out.size (fun k hk => by omega))⟩
        case measure => simp [intOf]
      | none =>
        have hq1 : Calls Tryz.prog 64 #[.pointer (some ⟨w.heap.size, 0, none⟩), .pointer (some ⟨w.heap.size + 1 + 1, 0, none⟩)] (wr.alloc (.cells #[.func (.func 64) #[] #[.pointer (some ⟨w.heap.size, 0, none⟩), .pointer (some ⟨w.heap.size + 1 + 1, 0, none⟩)], .int .i64 40] 127)) (fun e w2 => e = .returned (.bool false) ∧ Frq (· = w.heap.size + 1 + 1) (wr.alloc (.cells #[.func (.func 64) #[] #[.pointer (some ⟨w.heap.size, 0, none⟩), .pointer (some ⟨w.heap.size + 1 + 1, 0, none⟩)], .int .i64 40] 127)) w2) := by
          refine hh.mono ?_
          rintro e w2 ⟨ok, rfl, h1, h2, h3⟩
          exact ⟨by rw [h1, hv]; rfl, h3⟩
        have HQ1 := Lib.hid hq1
        have HHV := Lib.hid (HGE.out ▸ hv : headV (l.getD 0 ⟨[], []⟩) = none)
        clear hq1 hh hv
        go_wp2_with (go_at_call 64; refine (HQ1.out).mono ?_; rintro e w2 ⟨rfl, h3⟩; have H3 := Lib.hid h3; clear h3)
        have hR0 : w2.heap[w.heap.size + 1]? = _ := (H3.out.block (w.heap.size + 1) (by have := HM2.out.big; omega) (by omega)).trans HM2.out.r1
        have hE0 : w2.cell? ⟨wr.heap.size, 1, none⟩ = _ := (World.cell?_of_block (a := ⟨wr.heap.size, 1, none⟩) (H3.out.block wr.heap.size HZ2.out (by have := HMr.out.big; omega))).trans HE2.out
        have hB0 := HB2.out.trans (H3.out.below HB2.out.size (fun k hk => by omega))
        clear HE2 HB2 HQ1 H3 HM2 HZ2
        have HR := Lib.hid hR0
        have HE2 := Lib.hid hE0
        have HB2 := Lib.hid hB0
        clear hR0 hE0 hB0
        have hE2 := HE2.out
        have hR := HR.out
        have r0 : w2.cell? ⟨w.heap.size + 1, 0, none⟩ = some (.int .u8 0) := cell_of_arr hR 0
        have r1 : w2.cell? ⟨w.heap.size + 1, 1, none⟩ = some (.int .u8 0) := cell_of_arr hR 1
        have r2 : w2.cell? ⟨w.heap.size + 1, 2, none⟩ = some (.int .u64 0) := cell_of_arr hR 2
        have r3 : w2.cell? ⟨w.heap.size + 1, 3, none⟩ = some (.slice none 0 0) := cell_of_arr hR 3
        have f0 := frozen_of_arr hR 0
        have f1 := frozen_of_arr hR 1
        have f2 := frozen_of_arr hR 2
        have f3 := frozen_of_arr hR 3
        have hne : ¬ wr.heap.size = w.heap.size + 1 := by have := HMr.out.big; omega
        have hne2 : ¬ w.heap.size + 1 = wr.heap.size := by have := HMr.out.big; omega
        clear hR HBr HMr HK q e0 e1
        go_region
        all_goals
          go_wp2
          refine bodyPost_ret (results_cell_tmp_row rfl _ _ (w.heap.size + 1) 41 _ (0, 0) _ rfl (set4 HR.out _ _ _ _) Tryz.underlying41 rfl sizeWrap) rfl ?_
          unfold OpA
          rw [openL_head HHV.out]
          exact ⟨_, rfl, segs_nil _ _, (((((HB2.out.setCell (Nat.le_succ _) _).setCell (Nat.le_succ _) _).setCell (Nat.le_succ _) _).setCell (Nat.le_succ _) _).drew)⟩
    | 2, _ =>
      have e0 : wr.cell? ⟨w.heap.size + 1 + 1 + 1 + 1 + 1 + 1, 4, none⟩ = some (.func (.func 68) #[] #[.pointer (some ⟨w.heap.size, 0, none⟩), .pointer (some ⟨w.heap.size + 1 + 1 + 1 + 1 + 1, 0, none⟩), .pointer (some ⟨w.heap.size + 1 + 1 + 1, 0, none⟩), .pointer (some ⟨w.heap.size + 1 + 1 + 1 + 1, 0, none⟩)]) := cell_of_arr q 4
      have e1 : wr.cell? ⟨w.heap.size + 1 + 1 + 1 + 1 + 1 + 1, 5, none⟩ = some (.int .i64 40) := cell_of_arr q 5
      have hM2 := HMr.out.alloc (.cells #[.func (.func 68) #[] #[.pointer (some ⟨w.heap.size, 0, none⟩), .pointer (some ⟨w.heap.size + 1 + 1 + 1 + 1 + 1, 0, none⟩), .pointer (some ⟨w.heap.size + 1 + 1 + 1, 0, none⟩), .pointer (some ⟨w.heap.size + 1 + 1 + 1 + 1, 0, none⟩)], .int .i64 40] 127)
      have hB2 : Below w.heap.size w (wr.alloc (.cells #[.func (.func 68) #[] #[.pointer (some ⟨w.heap.size, 0, none⟩), .pointer (some ⟨w.heap.size + 1 + 1 + 1 + 1 + 1, 0, none⟩), .pointer (some ⟨w.heap.size + 1 + 1 + 1, 0, none⟩), .pointer (some ⟨w.heap.size + 1 + 1 + 1 + 1, 0, none⟩)], .int .i64 40] 127)) := HBr.out.alloc HBr.out.size _
      have hE2 : (wr.alloc (.cells #[.func (.func 68) #[] #[.pointer (some ⟨w.heap.size, 0, none⟩), .pointer (some ⟨w.heap.size + 1 + 1 + 1 + 1 + 1, 0, none⟩), .pointer (some ⟨w.heap.size + 1 + 1 + 1, 0, none⟩), .pointer (some ⟨w.heap.size + 1 + 1 + 1 + 1, 0, none⟩)], .int .i64 40] 127)).cell? ⟨wr.heap.size, 1, none⟩ = some (.int .i64 40) := World.cell?_alloc_at _ _ _ _ rfl
      have hz2 : wr.heap.size < (wr.alloc (.cells #[.func (.func 68) #[] #[.pointer (some ⟨w.heap.size, 0, none⟩), .pointer (some ⟨w.heap.size + 1 + 1 + 1 + 1 + 1, 0, none⟩), .pointer (some ⟨w.heap.size + 1 + 1 + 1, 0, none⟩), .pointer (some ⟨w.heap.size + 1 + 1 + 1 + 1, 0, none⟩)], .int .i64 40] 127)).heap.size := by simp
      have HM2 := Lib.hid hM2
      have HB2 := Lib.hid hB2
      have HE2 := Lib.hid hE2
      have HZ2 := Lib.hid hz2
      clear hM2 hB2 hE2 hz2
      have HL := Lib.hid (HK.out.k1 (by omega))
      have HH := Lib.hid (HK.out.k2 (by omega))
      have hn5 : (wr.alloc (.cells #[.func (.func 68) #[] #[.pointer (some ⟨w.heap.size, 0, none⟩), .pointer (some ⟨w.heap.size + 1 + 1 + 1 + 1 + 1, 0, none⟩), .pointer (some ⟨w.heap.size + 1 + 1 + 1, 0, none⟩), .pointer (some ⟨w.heap.size + 1 + 1 + 1 + 1, 0, none⟩)], .int .i64 40] 127)).cell? ⟨w.heap.size + 1 + 1 + 1 + 1 + 1, 0, none⟩ = some (.int .i64 ((l.length - 1 : Nat) : Int)) := by
        rw [show ((l.length - 1 : Nat) : Int) = (l.length : Int) - 1 by have := HL.out; omega]
        exact cell_of_arr HM2.out.n5 0
      have hh := tail_any l (.slice p l.length cap) (wr.alloc (.cells #[.func (.func 68) #[] #[.pointer (some ⟨w.heap.size, 0, none⟩), .pointer (some ⟨w.heap.size + 1 + 1 + 1 + 1 + 1, 0, none⟩), .pointer (some ⟨w.heap.size + 1 + 1 + 1, 0, none⟩), .pointer (some ⟨w.heap.size + 1 + 1 + 1 + 1, 0, none⟩)], .int .i64 40] 127)) w.heap.size (w.heap.size + 1 + 1 + 1 + 1 + 1) (w.heap.size + 1 + 1 + 1) (w.heap.size + 1 + 1 + 1 + 1) (l.length - 1) _ _ F (cell_of_arr HM2.out.c0 0) (HV.out.kept fun b hb => ⟨hb, HB2.out.block b (HFF.out b hb)⟩)
        (fun b hb => ⟨Nat.lt_of_lt_of_le (HFF.out b hb) HB2.out.size, by have := HFF.out b hb; omega, by have := HFF.out b hb; omega⟩) (by have := HL.out; omega) HFit.out hn5 HM2.out.c3 HM2.out.d4 (by omega)
      have hge : l.getD (l.length - 1) ⟨[], []⟩ = l[l.length - 1]'(by have := HL.out; omega) := by rw [List.getD_eq_getElem?_getD, List.getElem?_eq_getElem (by have := HL.out; omega)]; rfl
      have HGE := Lib.hid hge
      clear hge hn5
      cases hv : tailV (l[l.length - 1]'(by have := HL.out; omega)) with
      | some x =>
        obtain ⟨c', a'⟩ := x
        have hq1 : Calls Tryz.prog 68 #[.pointer (some ⟨w.heap.size, 0, none⟩), .pointer (some ⟨w.heap.size + 1 + 1 + 1 + 1 + 1, 0, none⟩), .pointer (some ⟨w.heap.size + 1 + 1 + 1, 0, none⟩), .pointer (some ⟨w.heap.size + 1 + 1 + 1 + 1, 0, none⟩)] (wr.alloc (.cells #[.func (.func 68) #[] #[.pointer (some ⟨w.heap.size, 0, none⟩), .pointer (some ⟨w.heap.size + 1 + 1 + 1 + 1 + 1, 0, none⟩), .pointer (some ⟨w.heap.size + 1 + 1 + 1, 0, none⟩), .pointer (some ⟨w.heap.size + 1 + 1 + 1 + 1, 0, none⟩)], .int .i64 40] 127)) (fun e w2 => e = .returned (.bool true) ∧ w2.heap[w.heap.size + 1 + 1 + 1]? = some (.cells #[.int .u64 (c' : Int)] 22 (0, 0)) ∧ w2.heap[w.heap.size + 1 + 1 + 1 + 1]? = some (.cells #[.int .u64 (a' : Int)] 22 (0, 0)) ∧ Frq (fun k => k = w.heap.size + 1 + 1 + 1 ∨ k = w.heap.size + 1 + 1 + 1 + 1) (wr.alloc (.cells #[.func (.func 68) #[] #[.pointer (some ⟨w.heap.size, 0, none⟩), .pointer (some ⟨w.heap.size + 1 + 1 + 1 + 1 + 1, 0, none⟩), .pointer (some ⟨w.heap.size + 1 + 1 + 1, 0, none⟩), .pointer (some ⟨w.heap.size + 1 + 1 + 1 + 1, 0, none⟩)], .int .i64 40] 127)) w2) := by
          refine hh.mono ?_
          rintro e w2 ⟨ok, rfl, h1, h2, h3⟩
          exact ⟨by rw [h1, hv]; rfl, (h2 _ _ hv).1, (h2 _ _ hv).2, h3⟩
        have HQ1 := Lib.hid hq1
        have HHV := Lib.hid hv
        clear hq1 hh hv
        go_wp2_with (go_at_call 68; refine (HQ1.out).mono ?_; rintro e w2 ⟨rfl, h2, h2b, h3⟩; have H2 := Lib.hid h2; have H2b := Lib.hid h2b; have H3 := Lib.hid h3; clear h2 h2b h3)
        go_roundw
        case rel => exact ⟨3, f, t, r, c', a', rfl, by omega, HM2.out.tail H3.out H2.out H2b.out, ⟨fun _ => HL.out, fun _ => HH.out, fun _ => HGE.out ▸ HHV.out, by omega, by omega⟩, HB2.out.trans (H3.out.below HB2.out.size (fun k hk => by omega))⟩
        case measure => simp [intOf]
      | none =>
        have hq1 : Calls Tryz.prog 68 #[.pointer (some ⟨w.heap.size, 0, none⟩), .pointer (some ⟨w.heap.size + 1 + 1 + 1 + 1 + 1, 0, none⟩), .pointer (some ⟨w.heap.size + 1 + 1 + 1, 0, none⟩), .pointer (some ⟨w.heap.size + 1 + 1 + 1 + 1, 0, none⟩)] (wr.alloc (.cells #[.func (.func 68) #[] #[.pointer (some ⟨w.heap.size, 0, none⟩), .pointer (some ⟨w.heap.size + 1 + 1 + 1 + 1 + 1, 0, none⟩), .pointer (some ⟨w.heap.size + 1 + 1 + 1, 0, none⟩), .pointer (some ⟨w.heap.size + 1 + 1 + 1 + 1, 0, none⟩)], .int .i64 40] 127)) (fun e w2 => e = .returned (.bool false) ∧ Frq (fun k => k = w.heap.size + 1 + 1 + 1 ∨ k = w.heap.size + 1 + 1 + 1 + 1) (wr.alloc (.cells #[.func (.func 68) #[] #[.pointer (some ⟨w.heap.size, 0, none⟩), .pointer (some ⟨w.heap.size + 1 + 1 + 1 + 1 + 1, 0, none⟩), .pointer (some ⟨w.heap.size + 1 + 1 + 1, 0, none⟩), .pointer (some ⟨w.heap.size + 1 + 1 + 1 + 1, 0, none⟩)], .int .i64 40] 127)) w2) := by
          refine hh.mono ?_
          rintro e w2 ⟨ok, rfl, h1, h2, h3⟩
          exact ⟨by rw [h1, hv]; rfl, h3⟩
        have HQ1 := Lib.hid hq1
        have HHV := Lib.hid (HGE.out ▸ hv : tailV (l.getD (l.length - 1) ⟨[], []⟩) = none)
        clear hq1 hh hv
        go_wp2_with (go_at_call 68; refine (HQ1.out).mono ?_; rintro e w2 ⟨rfl, h3⟩; have H3 := Lib.hid h3; clear h3)
        have hR0 : w2.heap[w.heap.size + 1]? = _ := (H3.out.block (w.heap.size + 1) (by have := HM2.out.big; omega) (by omega)).trans HM2.out.r1
        have hE0 : w2.cell? ⟨wr.heap.size, 1, none⟩ = _ := (World.cell?_of_block (a := ⟨wr.heap.size, 1, none⟩) (H3.out.block wr.heap.size HZ2.out (by have := HMr.out.big; omega))).trans HE2.out
        have hB0 := HB2.out.trans (H3.out.below HB2.out.size (fun k hk => by omega))
        clear HE2 HB2 HQ1 H3 HM2 HZ2
        have HR := Lib.hid hR0
        have HE2 := Lib.hid hE0
        have HB2 := Lib.hid hB0
        clear hR0 hE0 hB0
        have hE2 := HE2.out
        have hR := HR.out
        have r0 : w2.cell? ⟨w.heap.size + 1, 0, none⟩ = some (.int .u8 0) := cell_of_arr hR 0
        have r1 : w2.cell? ⟨w.heap.size + 1, 1, none⟩ = some (.int .u8 0) := cell_of_arr hR 1
        have r2 : w2.cell? ⟨w.heap.size + 1, 2, none⟩ = some (.int .u64 0) := cell_of_arr hR 2
        have r3 : w2.cell? ⟨w.heap.size + 1, 3, none⟩ = some (.slice none 0 0) := cell_of_arr hR 3
        have f0 := frozen_of_arr hR 0
        have f1 := frozen_of_arr hR 1
        have f2 := frozen_of_arr hR 2
        have f3 := frozen_of_arr hR 3
        have hne : ¬ wr.heap.size = w.heap.size + 1 := by have := HMr.out.big; omega
        have hne2 : ¬ w.heap.size + 1 = wr.heap.size := by have := HMr.out.big; omega
        clear hR HBr HMr HK q e0 e1
        go_region
        all_goals
          go_wp2
          refine bodyPost_ret (results_cell_tmp_row rfl _ _ (w.heap.size + 1) 41 _ (0, 0) _ rfl (set4 HR.out _ _ _ _) Tryz.underlying41 rfl sizeWrap) rfl ?_
          unfold OpA
          rw [openL_tail HHV.out]
          exact ⟨_, rfl, segs_nil _ _, (((((HB2.out.setCell (Nat.le_succ _) _).setCell (Nat.le_succ _) _).setCell (Nat.le_succ _) _).setCell (Nat.le_succ _) _).drew)⟩
    | 3, _ =>
      have e0 : wr.cell? ⟨w.heap.size + 1 + 1 + 1 + 1 + 1 + 1, 6, none⟩ = some (.func (.func 69) #[] #[.pointer (some ⟨w.heap.size + 1 + 1 + 1, 0, none⟩), .pointer (some ⟨w.heap.size, 0, none⟩)]) := cell_of_arr q 6
      have e1 : wr.cell? ⟨w.heap.size + 1 + 1 + 1 + 1 + 1 + 1, 7, none⟩ = some (.int .i64 41) := cell_of_arr q 7
      have hM2 := HMr.out.alloc (.cells #[.func (.func 69) #[] #[.pointer (some ⟨w.heap.size + 1 + 1 + 1, 0, none⟩), .pointer (some ⟨w.heap.size, 0, none⟩)], .int .i64 41] 127)
      have hB2 : Below w.heap.size w (wr.alloc (.cells #[.func (.func 69) #[] #[.pointer (some ⟨w.heap.size + 1 + 1 + 1, 0, none⟩), .pointer (some ⟨w.heap.size, 0, none⟩)], .int .i64 41] 127)) := HBr.out.alloc HBr.out.size _
      have hE2 : (wr.alloc (.cells #[.func (.func 69) #[] #[.pointer (some ⟨w.heap.size + 1 + 1 + 1, 0, none⟩), .pointer (some ⟨w.heap.size, 0, none⟩)], .int .i64 41] 127)).cell? ⟨wr.heap.size, 1, none⟩ = some (.int .i64 41) := World.cell?_alloc_at _ _ _ _ rfl
      have hz2 : wr.heap.size < (wr.alloc (.cells #[.func (.func 69) #[] #[.pointer (some ⟨w.heap.size + 1 + 1 + 1, 0, none⟩), .pointer (some ⟨w.heap.size, 0, none⟩)], .int .i64 41] 127)).heap.size := by simp
      have HM2 := Lib.hid hM2
      have HB2 := Lib.hid hB2
      have HE2 := Lib.hid hE2
      have HZ2 := Lib.hid hz2
      clear hM2 hB2 hE2 hz2
      have HL := Lib.hid (HK.out.k1 (by omega))
      have HH := Lib.hid (HK.out.k2 (by omega))
      have HT := Lib.hid (HK.out.k3 (by omega))
      have hq0 := count_any (wr.alloc (.cells #[.func (.func 69) #[] #[.pointer (some ⟨w.heap.size + 1 + 1 + 1, 0, none⟩), .pointer (some ⟨w.heap.size, 0, none⟩)], .int .i64 41] 127)) w.heap.size (w.heap.size + 1 + 1 + 1) p l.length cap c (cell_of_arr HM2.out.c0 0) (cell_of_arr HM2.out.c3 0) HL.out (by omega)
      by_cases h2 : c = l.length - 2
      · rw [decide_eq_true h2] at hq0
        have HQ1 := Lib.hid hq0
        have HC := Lib.hid h2
        clear hq0 h2
        go_wp2_with (go_at_call 69; refine (HQ1.out).mono ?_; rintro e w2 ⟨rfl, rfl⟩)
        go_roundw
        case rel => exact ⟨4, f, t, r, c, a, rfl, by omega, HM2.out, ⟨fun _ => HL.out, fun _ => HH.out, fun _ => HT.out, fun _ => HC.out, by omega⟩, HB2.out⟩
        case measure => simp [intOf]
      · rw [decide_eq_false h2] at hq0
        have HQ1 := Lib.hid hq0
        have HC := Lib.hid h2
        clear hq0 h2
        go_wp2_with (go_at_call 69; refine (HQ1.out).mono ?_; rintro e w2 ⟨rfl, rfl⟩)
        generalize wr.alloc _ = w2 at *
        have HR := Lib.hid HM2.out.r1
        have hE2 := HE2.out
        have hR := HR.out
        have r0 : w2.cell? ⟨w.heap.size + 1, 0, none⟩ = some (.int .u8 0) := cell_of_arr hR 0
        have r1 : w2.cell? ⟨w.heap.size + 1, 1, none⟩ = some (.int .u8 0) := cell_of_arr hR 1
        have r2 : w2.cell? ⟨w.heap.size + 1, 2, none⟩ = some (.int .u64 0) := cell_of_arr hR 2
        have r3 : w2.cell? ⟨w.heap.size + 1, 3, none⟩ = some (.slice none 0 0) := cell_of_arr hR 3
        have f0 := frozen_of_arr hR 0
        have f1 := frozen_of_arr hR 1
        have f2 := frozen_of_arr hR 2
        have f3 := frozen_of_arr hR 3
        have hne : ¬ wr.heap.size = w.heap.size + 1 := by have := HMr.out.big; omega
        have hne2 : ¬ w.heap.size + 1 = wr.heap.size := by have := HMr.out.big; omega
        clear hR HBr HMr HK q e0 e1
        go_region
        all_goals
          go_wp2
          refine bodyPost_ret (results_cell_tmp_row rfl _ _ (w.heap.size + 1) 41 _ (0, 0) _ rfl (set4 HR.out _ _ _ _) Tryz.underlying41 rfl sizeWrap) rfl ?_
          unfold OpA
          rw [openL_count HL.out HH.out HT.out HC.out]
          exact ⟨_, rfl, segs_nil _ _, (((((HB2.out.setCell (Nat.le_succ _) _).setCell (Nat.le_succ _) _).setCell (Nat.le_succ _) _).setCell (Nat.le_succ _) _).drew)⟩
    | 4, _ =>
      have e0 : wr.cell? ⟨w.heap.size + 1 + 1 + 1 + 1 + 1 + 1, 8, none⟩ = some (.func (.func 70) #[] #[.pointer (some ⟨w.heap.size + 1 + 1 + 1 + 1, 0, none⟩), .pointer (some ⟨w.heap.size + 1 + 1, 0, none⟩)]) := cell_of_arr q 8
      have e1 : wr.cell? ⟨w.heap.size + 1 + 1 + 1 + 1 + 1 + 1, 9, none⟩ = some (.int .i64 42) := cell_of_arr q 9
      have hM2 := HMr.out.alloc (.cells #[.func (.func 70) #[] #[.pointer (some ⟨w.heap.size + 1 + 1 + 1 + 1, 0, none⟩), .pointer (some ⟨w.heap.size + 1 + 1, 0, none⟩)], .int .i64 42] 127)
      have hB2 : Below w.heap.size w (wr.alloc (.cells #[.func (.func 70) #[] #[.pointer (some ⟨w.heap.size + 1 + 1 + 1 + 1, 0, none⟩), .pointer (some ⟨w.heap.size + 1 + 1, 0, none⟩)], .int .i64 42] 127)) := HBr.out.alloc HBr.out.size _
      have hE2 : (wr.alloc (.cells #[.func (.func 70) #[] #[.pointer (some ⟨w.heap.size + 1 + 1 + 1 + 1, 0, none⟩), .pointer (some ⟨w.heap.size + 1 + 1, 0, none⟩)], .int .i64 42] 127)).cell? ⟨wr.heap.size, 1, none⟩ = some (.int .i64 42) := World.cell?_alloc_at _ _ _ _ rfl
      have hz2 : wr.heap.size < (wr.alloc (.cells #[.func (.func 70) #[] #[.pointer (some ⟨w.heap.size + 1 + 1 + 1 + 1, 0, none⟩), .pointer (some ⟨w.heap.size + 1 + 1, 0, none⟩)], .int .i64 42] 127)).heap.size := by simp
      have HM2 := Lib.hid hM2
      have HB2 := Lib.hid hB2
      have HE2 := Lib.hid hE2
      have HZ2 := Lib.hid hz2
      clear hM2 hB2 hE2 hz2
      have HL := Lib.hid (HK.out.k1 (by omega))
      have HH := Lib.hid (HK.out.k2 (by omega))
      have HT := Lib.hid (HK.out.k3 (by omega))
      have HK4 := Lib.hid (HK.out.k4 (by omega))
      have hq0 := refs_any (wr.alloc (.cells #[.func (.func 70) #[] #[.pointer (some ⟨w.heap.size + 1 + 1 + 1 + 1, 0, none⟩), .pointer (some ⟨w.heap.size + 1 + 1, 0, none⟩)], .int .i64 42] 127)) (w.heap.size + 1 + 1 + 1 + 1) (w.heap.size + 1 + 1) a r (cell_of_arr HM2.out.d4 0) (cell_of_arr HM2.out.g2 2)
      by_cases h2 : a = r
      · rw [decide_eq_true h2] at hq0
        have HQ1 := Lib.hid hq0
        have HC := Lib.hid h2
        clear hq0 h2
        go_wp2_with (go_at_call 70; refine (HQ1.out).mono ?_; rintro e w2 ⟨rfl, rfl⟩)
        go_roundw
        case rel => exact ⟨5, f, t, r, c, a, rfl, by omega, HM2.out, ⟨fun _ => HL.out, fun _ => HH.out, fun _ => HT.out, fun _ => HK4.out, fun _ => HC.out⟩, HB2.out⟩
        case measure => simp [intOf]
      · rw [decide_eq_false h2] at hq0
        have HQ1 := Lib.hid hq0
        have HC := Lib.hid h2
        clear hq0 h2
        go_wp2_with (go_at_call 70; refine (HQ1.out).mono ?_; rintro e w2 ⟨rfl, rfl⟩)
        generalize wr.alloc _ = w2 at *
        have HR := Lib.hid HM2.out.r1
        have hE2 := HE2.out
        have hR := HR.out
        have r0 : w2.cell? ⟨w.heap.size + 1, 0, none⟩ = some (.int .u8 0) := cell_of_arr hR 0
        have r1 : w2.cell? ⟨w.heap.size + 1, 1, none⟩ = some (.int .u8 0) := cell_of_arr hR 1
        have r2 : w2.cell? ⟨w.heap.size + 1, 2, none⟩ = some (.int .u64 0) := cell_of_arr hR 2
        have r3 : w2.cell? ⟨w.heap.size + 1, 3, none⟩ = some (.slice none 0 0) := cell_of_arr hR 3
        have f0 := frozen_of_arr hR 0
        have f1 := frozen_of_arr hR 1
        have f2 := frozen_of_arr hR 2
        have f3 := frozen_of_arr hR 3
        have hne : ¬ wr.heap.size = w.heap.size + 1 := by have := HMr.out.big; omega
        have hne2 : ¬ w.heap.size + 1 = wr.heap.size := by have := HMr.out.big; omega
        clear hR HBr HMr HK q e0 e1
        go_region
        all_goals
          go_wp2
          refine bodyPost_ret (results_cell_tmp_row rfl _ _ (w.heap.size + 1) 41 _ (0, 0) _ rfl (set4 HR.out _ _ _ _) Tryz.underlying41 rfl sizeWrap) rfl ?_
          unfold OpA
          rw [openL_ref HL.out HH.out HT.out HK4.out HC.out]
          exact ⟨_, rfl, segs_nil _ _, (((((HB2.out.setCell (Nat.le_succ _) _).setCell (Nat.le_succ _) _).setCell (Nat.le_succ _) _).setCell (Nat.le_succ _) _).drew)⟩
    | 5, _ =>
      have HL := Lib.hid (HK.out.k1 (by omega))
      have HO := Lib.hid (openL_ok HL.out (HK.out.k2 (by omega)) (HK.out.k3 (by omega)) (HK.out.k4 (by omega)) (HK.out.k5 (by omega)))
      obtain ⟨xs, ⟨p', cap', he, hnc, hrow⟩, _⟩ := HV.out
      simp only [Value.slice.injEq, true_and] at he
      obtain ⟨rfl, rfl⟩ := he
      obtain ⟨b, o, rfl, hFb, _⟩ := hrow (by have := HL.out; omega)
      have hm := HMr.out
      have c0 := cell_of_arr hm.c0 0
      have c5 := cell_of_arr hm.n5 0
      have g0 := cell_of_arr hm.g2 0
      have g1 := cell_of_arr hm.g2 1
      have g2 := cell_of_arr hm.g2 2
      have g3 := cell_of_arr hm.g2 3
      have gf := frozen_of_arr hm.g2 3
      have r0 : wr.cell? ⟨w.heap.size + 1, 0, none⟩ = some (.int .u8 0) := cell_of_arr hm.r1 0
      have r1 : wr.cell? ⟨w.heap.size + 1, 1, none⟩ = some (.int .u8 0) := cell_of_arr hm.r1 1
      have r2 : wr.cell? ⟨w.heap.size + 1, 2, none⟩ = some (.int .u64 0) := cell_of_arr hm.r1 2
      have r3 : wr.cell? ⟨w.heap.size + 1, 3, none⟩ = some (.slice none 0 0) := cell_of_arr hm.r1 3
      have f0 := frozen_of_arr hm.r1 0
      have f1 := frozen_of_arr hm.r1 1
      have f2 := frozen_of_arr hm.r1 2
      have f3 := frozen_of_arr hm.r1 3
      have l2 : (2 : Int) ≤ (l.length : Int) := by have := HL.out; omega
      have lc : (l.length : Int) ≤ (cap : Int) := by omega
      have HR := Lib.hid hm.r1
      clear hm hrow hnc q
      go_wp2
      all_goals
        refine bodyPost_ret (results_cell_tmp_row rfl _ _ (w.heap.size + 1) 41 _ (0, 0) _ rfl (set4n (set_other HR.out (by omega)) _ _ _ _) Tryz.underlying41 rfl sizeWrap) rfl ?_
        unfold OpA
        rw [HO.out]
        have hbf := fun v v0 v1 v2 v3 => ((((HBr.out.setCell (p := ⟨w.heap.size + 1 + 1, 3, none⟩) (by show w.heap.size ≤ w.heap.size + 1 + 1; omega) v).setCell (p := ⟨w.heap.size + 1, 0, none⟩) (Nat.le_succ _) v0).setCell (p := ⟨w.heap.size + 1, 1, none⟩) (Nat.le_succ _) v1).setCell (p := ⟨w.heap.size + 1, 2, none⟩) (Nat.le_succ _) v2).setCell (p := ⟨w.heap.size + 1, 3, none⟩) (Nat.le_succ _) v3
        refine ⟨_, rfl, ?_, hbf _ _ _ _ _⟩
      · have h2 : ((l.take (l.length - 1)).drop 1).length = 0 := by simp; omega
        rw [List.length_eq_zero_iff.1 h2]
        exact ⟨[], ⟨_, _, rfl, Nat.le_refl _, fun h => absurd h (by simp)⟩, True.intro⟩
      · rw [show l.length - 1 - 1 = l.length - 2 by omega]
        exact (segs_mid HV.out HL.out).kept (fun b hb => ⟨hb, (hbf _ _ _ _ _).block b (HFF.out b hb)⟩)
    | k + 6, h => exact absurd h (by omega)
end Go.Proofs.YtjlifjgljejabaaGreatDoor
