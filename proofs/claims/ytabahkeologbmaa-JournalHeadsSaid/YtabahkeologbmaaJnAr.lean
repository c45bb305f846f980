/- Contract of areRecords. -/
import Derived.Test.YtabahkeologbmaaJnRc
namespace Go.Proofs.Ytabahkeologbmaa.Jn
open Go.RowKit Go.Shelf Go.Dk Go.Jn Go.Sha Go.Proofs.Ytabahkeologbmaa.Dk

attribute [local go_sem] Oper.semAt_some
/-- how many records have come -/
def lastK {m : Nat} (pre : List (Rx m)) : Nat := match pre.getLast? with | none => 0 | some x => x.1 + 1
theorem lastK_snoc {m : Nat} (pre : List (Rx m)) (x : Rx m) : lastK (pre ++ [x]) = x.1 + 1 := by simp [lastK]
theorem lastK_all : ∀ m : Nat, lastK (pcs m m) = m
  | 0 => rfl
  | m + 1 => by rw [pcs_succ (Nat.lt_succ_self m), lastK_snoc]
/-- between two rounds of areRecords -/
def ArI (n0 : Nat) (F : Nat → Prop) (v : Value) (data : By) (rs : List By) (w : World) (pre : List (Rx rs.length)) (W : World) : Prop :=
  (W.heap[w.heap.size]? = some (.cells #[.int .i64 (stA rs (lastK pre) : Int)] 3 (0, 0)) ∧ RcE (w.heap.size + 1) n0 F v data W) ∧ Below w.heap.size w W
theorem rcE_own {β : Type} {Bd n0 B : Nat} {F : Nat → Prop} {v : Value} {data : By} (hn : n0 ≤ B) (hF : ∀ b, F b → b < n0) : OwnFrom B (fun (_ : β) W => RcE Bd n0 F v data W) := fun _ _ _ _ hs hg hr =>
  ⟨cells_kept hs.bx hg hr, hs.row.kept (fun b hb => ⟨hb, hg.block _ (Nat.lt_of_lt_of_le (hF b hb) hs.sz) (fun e => by have := (hr _ e.symm).1; have := hF b hb; omega)⟩), Nat.le_trans hs.sz hg.size⟩
theorem arI_own {n0 : Nat} {F : Nat → Prop} {v : Value} {data : By} {rs : List By} {w : World} {B : Nat} (hB : w.heap.size ≤ B) (hn : n0 ≤ B) (hF : ∀ b, F b → b < n0) : OwnFrom B (ArI n0 F v data rs w) :=
  OwnFrom.and (OwnFrom.and (fun _ _ _ _ hs hg hr => cells_kept hs hg hr) (rcE_own hn hF)) (ownFrom_below (Nat.le_refl _) hB)
/-- all but what the iterator leans on -/
def rcX (Bd n0 : Nat) (b : Nat) : Prop := ¬ (b = Bd ∨ b < n0)
set_option maxRecDepth 100000 in
set_option maxHeartbeats 1600000 in
theorem are_any (rs : List By) (t : By) (ht : Stuck t) (hlen : (dat rs ++ t).length ≤ 1000000) (p : Option Addr) (cap : Nat) (F : Nat → Prop) (w : World) (hF : ∀ b, F b → b < w.heap.size) (h : BysF w F (.slice p (dat rs ++ t).length cap) (dat rs ++ t)) :
    Calls Try.prog 48 #[.slice p (dat rs ++ t).length cap] w fun e w' => e = .returned (.bool (decide (t = []))) ∧ Below w.heap.size w w' := by
  have HL := Lib.hid hlen
  have HF := Lib.hid hF
  have hl0 : (0 : Int) ≤ ((dat rs ++ t).length : Int) := Int.natCast_nonneg _
  obtain ⟨w1, hw1⟩ : ∃ w1, w.alloc (.cells #[.int .i64 0] 3) = w1 := ⟨_, rfl⟩
  have hs1 : w1.heap.size = w.heap.size + 1 := by rw [← hw1]; simp
  have hc1 : w1.heap[w.heap.size]? = some (.cells #[.int .i64 0] 3 (0, 0)) := by rw [← hw1]; exact heap_last _ _ _ rfl
  have hb1 : Below w.heap.size w w1 := by rw [← hw1]; exact (Below.refl _ _).alloc (Nat.le_refl _) _
  have hb2 : Below w.heap.size w (w1.alloc (.cells #[.slice p (dat rs ++ t).length cap] 40)) := hb1.alloc hb1.size _
  have HI0 := Lib.hid (show ArI w.heap.size F (.slice p (dat rs ++ t).length cap) (dat rs ++ t) rs w [] (w1.alloc (.cells #[.slice p (dat rs ++ t).length cap] 40)) from
    ⟨⟨(heap_prev _ _ _ (by omega)).trans hc1, ⟨heap_last _ _ _ hs1.symm, h.kept (fun b hb => ⟨hb, hb2.block _ (hF b hb)⟩), hb2.size⟩⟩, hb2⟩)
  have HS1 := Lib.hid hs1
  have HW1 := Lib.hid hw1
  generalize hL : (dat rs ++ t).length = L at *
  have HLL := Lib.hid hL
  clear hc1 hb1 hb2 h hF hs1 hL hlen hw1
  refine (callsIn_wide (n := 6)).1 ?_
  refine callsIn_of_wp_marks Try.func48 rfl trivial ?_ rfl
  simp only [Try.ntmps48, List.size_toArray, List.length_cons, List.length_nil, Nat.reduceAdd, Nat.reduceSub, Array.replicate_succ, Array.replicate_zero, List.push_toArray, List.append_toArray, List.nil_append, List.cons_append]
  gi_wp2_with
    (refine ⟨trivial, ?_⟩; gi_at_call 33; refine (recs_in Fence.wide _ trivial rfl p L cap _).mono ?_; rintro e w' ⟨rfl, rfl⟩)
  rw [HW1.out]
  have hss : (w1.alloc (.cells #[.slice p L cap] 40)).heap.size = w.heap.size + 2 := by have := HS1.out; simp; omega
  have HSS := Lib.hid hss
  have hl1 : L ≤ 1000000 := HL.out
  refine wpIn_rangeFunc_ownH rfl (by omega) (gf := 50) (lb := #[.pointer (some ⟨w.heap.size + 1, 0, none⟩)]) rfl trivial (enters_of Try.func50 (by kernel_rfl) rfl)
    (recs_stops _ (by omega) (rcX (w.heap.size + 1) w.heap.size) w.heap.size (w.heap.size + 1) F p cap rs t ht (by rw [HLL.out]; exact hl1) (by simp [rcX]) (fun b hb => ⟨by have := HF.out b hb; simp [rcX, this], HF.out b hb⟩) (w1.alloc (.cells #[.slice p L cap] 40)) (by rw [HLL.out]; exact HI0.out.1.2))
    kpX_t (kpX_b (by omega)) (Below.refl _ _) (fun _ => rfl)
    (ArI w.heap.size F (.slice p L cap) (dat rs ++ t) rs w) (fun _ _ _ => False) (arI_own (by omega) (by omega) HF.out) (fun _ _ _ _ _ hs _ _ => hs) HI0.out
    (fun x a' _ => a' = { tmps := #[.slice p L cap, undef, .bool false, .pointer (some ⟨w.heap.size, 0, none⟩), .int .i64 (stA rs (x.1 + 1) : Int), .slice p L cap, .func (.func 50) #[] #[.pointer (some ⟨w.heap.size + 1, 0, none⟩)], .int .i64 (stA rs (x.1 + 1) : Int), rcV p cap rs x.1, undef, undef, undef, undef, undef], defers := [] })
    (fun _ _ _ _ _ _ hs _ _ => hs) ?assign ?body ?done ?stop
  case assign =>
    intro l pre x W K hI hK
    gi_wp2
    exact hK _ _ (KeepsFrom.refl _ _) (kpX_frq (Frq.refl _ _)) hI rfl
  case body =>
    rintro l pre x a' W hl hr hI rfl hlen
    have cv : W.cell? ⟨w.heap.size, 0, none⟩ = some (.int .i64 (stA rs (lastK pre) : Int)) := cell_of_arr hI.1.1 0
    have fv : W.frozen? ⟨w.heap.size, 0, none⟩ = false := froz_of_arr hI.1.1 0
    have HI := Lib.hid hI
    clear hI
    gi_wp2
    have hsz : W.heap.size ≤ (W.setCell ⟨w.heap.size, 0, none⟩ (.int .i64 (stA rs (x.1 + 1) : Int))).heap.size := by simp
    have same : ∀ b, b ≠ w.heap.size → (W.setCell ⟨w.heap.size, 0, none⟩ (.int .i64 (stA rs (x.1 + 1) : Int))).heap[b]? = W.heap[b]? := fun b h => Below.heap_setCell _ _ _ _ h
    have hk : KpX (rcX (w.heap.size + 1) w.heap.size) w.heap.size W (W.setCell ⟨w.heap.size, 0, none⟩ (.int .i64 (stA rs (x.1 + 1) : Int))) :=
      kpX_of hsz (fun b hb _ => same b (fun e => hb (by subst e; simp [rcX])))
    refine ⟨⟨hsz, fun k o hkB ho hc => (same k (by rw [HSS.out] at hkB; omega)).trans ho⟩, hk, ⟨⟨?_, HI.out.1.2.kept hk (by simp [rcX]) (fun b hb => ⟨by have := HF.out b hb; simp [rcX, this], HF.out b hb⟩)⟩, ?_⟩⟩
    · rw [lastK_snoc, set_heap HI.out.1.1]; rfl
    · exact HI.out.2.setCell (p := ⟨w.heap.size, 0, none⟩) (Nat.le_refl _) _
  case done =>
    rintro E ys W hD rfl hI hK
    have cv : W.cell? ⟨w.heap.size, 0, none⟩ = some (.int .i64 (stA rs (lastK (pcs rs.length rs.length)) : Int)) := cell_of_arr hI.1.1 0
    rw [lastK_all, stA_all] at cv
    have HI := Lib.hid hI
    clear hI
    gi_wp2
    refine ⟨by simp, .inl ⟨_, _, rfl, run_takeDeferred hK, ?_⟩⟩
    have e : (((dat rs).length : Int) == (L : Int)) = decide (t = []) := by
      have := HLL.out
      rw [List.length_append] at this
      rw [Bool.eq_iff_iff]
      simp only [beq_iff_eq, decide_eq_true_eq]
      constructor
      · intro h; exact List.eq_nil_of_length_eq_zero (by omega)
      · intro h; rw [h] at this; simp at this; omega
    refine ⟨_, results_tmp rfl _ _ _, ?_, HI.out.2.trans (belowK_b (w := w) (Nat.le_refl _) W E _ _ (by rw [HSS.out] at hD; omega) hK rfl rfl)⟩
    show Ending.returned (.bool (((dat rs).length : Int) == (L : Int))) = _
    rw [e]
  case stop =>
    rintro E c pre W _ _ h _
    exact h.elim
end Go.Proofs.Ytabahkeologbmaa.Jn
