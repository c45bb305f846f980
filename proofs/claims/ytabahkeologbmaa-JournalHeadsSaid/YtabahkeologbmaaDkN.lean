/- The iterator over what waits: by the sectors' numbers. -/
import Derived.Test.YtabahkeologbmaaDkJ
namespace Go.Proofs.Ytabahkeologbmaa.Dk
open Go.RowKit Go.Shelf Go.Dk Go.Sha
open Go.Maps (Keyed)
attribute [local go_sem] Oper.semAt_some
attribute [local go_sem high, local simp high] zero_sector

/-- what waits: a sector's number and bytes -/
abbrev Wt (n : Nat) := { p : Nat × By // p.1 < n ∧ p.2.length = 64 }
def wts (wt : Nat → Option By) (n : Nat) (h : ∀ i s, wt i = some s → i < n ∧ s.length = 64) : Nat → List (Wt n)
  | 0 => []
  | k + 1 => wts wt n h k ++ (match e : wt k with | none => [] | some s => [⟨(k, s), h k s e⟩])
theorem wts_val (wt : Nat → Option By) (n : Nat) (h : ∀ i s, wt i = some s → i < n ∧ s.length = 64) : ∀ k, (wts wt n h k).map (·.1) = waitL wt k
  | 0 => rfl
  | k + 1 => by
    rw [wts, waitL, List.map_append, wts_val wt n h k]
    congr 1
    split <;> rename_i e <;> simp [e]
theorem wts_get {wt : Nat → Option By} {n : Nat} {h : ∀ i s, wt i = some s → i < n ∧ s.length = 64} {j : Nat} {x : Wt n} (e : (wts wt n h n)[j]? = some x) : (keysW wt n)[j]? = some x.1.1 ∧ wt x.1.1 = some x.1.2 := by
  have h1 : ((wts wt n h n).map (·.1))[j]? = some x.1 := by rw [List.getElem?_map, e]; rfl
  rw [wts_val] at h1
  refine ⟨?_, (mem_waitL.1 (List.mem_of_getElem? h1)).2⟩
  rw [← waitL_keys, List.getElem?_map, h1]; rfl
theorem wts_len (wt : Nat → Option By) (n : Nat) (h : ∀ i s, wt i = some s → i < n ∧ s.length = 64) : (wts wt n h n).length = (keysW wt n).length := by
  rw [← waitL_keys, ← wts_val wt n h n, List.length_map, List.length_map]
/-- what the iterator leans on -/
structure WtE (Bd D M n : Nat) (wt : Nat → Option By) (W : World) : Prop where
  cd : W.heap[Bd]? = some (.cells #[pD D] 24 (0, 0))
  c1 : ∃ u v x, W.heap[D]? = some (.cells #[u, .map (some M), v, x] 55 (0, 0))
  mp : MpAt W M n wt
theorem WtE.kept {X : Nat → Prop} {n0 : Nat} {Bd D M n : Nat} {wt : Nat → Option By} {W W' : World} (h : WtE Bd D M n wt W) (hk : KpX X n0 W W') (hX : ¬ X Bd ∧ ¬ X D ∧ ¬ X M) (hM : M < n0) : WtE Bd D M n wt W' :=
  ⟨hk.cells hX.1 h.cd, by obtain ⟨u, v, x, e⟩ := h.c1; exact ⟨u, v, x, hk.cells hX.2.1 e⟩, h.mp.heap (by
    obtain ⟨es, c, hm⟩ := h.mp.obj
    rw [hm]; exact hk.2 _ _ hX.2.2 hm (.inr hM))⟩
theorem sorts_any (m : Nat) : AnyZI.SortsIn Try.prog Try.laysSorted_ren Fence.wide m :=
  ⟨fun blk off cap ss W hH hblk hsz => callsIn_wide.2 (Try.slices_Sort_int blk off cap ss W hH hblk hsz),
   fun p cap W => callsIn_wide.2 (Try.slices_Sort_int_none p cap W)⟩
theorem keys_any (M : Nat) (w : World) : Calls Try.prog 59 #[.map (some M)] w fun e w' => e = .returned (.func (.func 64) #[] #[.pointer (some ⟨w.heap.size, 0, none⟩)]) ∧ w' = w.alloc (.cells #[.map (some M)] 53) :=
  (callsIn_wide (n := 5)).1 (AnyZI.keys_in Try.laysKeys Fence.wide 5 trivial rfl (some M) w)
/-- the row of sorted keys, in memory from behind B on -/
def KyAt (B g : Nat) (p : Option Addr) (ks : List Nat) (w : World) : Prop := 0 < ks.length → p = some ⟨g, 0, none⟩ ∧ B ≤ g ∧ ∃ cur : Array Value, w.heap[g]? = some (.cells cur 3 (0, 0)) ∧ ∀ (j k : Nat), ks[j]? = some k → cur[j]? = some (Value.int .i64 (k : Int))
theorem KyAt.kept {X : Nat → Prop} {n0 : Nat} {B g : Nat} {p : Option Addr} {ks : List Nat} {W W' : World} (h : KyAt B g p ks W) (hk : KpX X n0 W W') (hX : ∀ b, X b → b < B) : KyAt B g p ks W' := fun h0 => by
  obtain ⟨h1, h2, cur, h3, h4⟩ := h h0
  exact ⟨h1, h2, cur, hk.cells (fun e => by have := hX g e; omega) h3, h4⟩
theorem kyAt_of {w : World} {B : Nat} {v : Value} {ks : List Nat} (h : w.ownsRow B 3 1 v ks.length (ks.map fun (i : Nat) => Value.int .i64 (i : Int))) : ∃ p cap g, v = .slice p ks.length cap ∧ KyAt B g p ks w := by
  rcases h.2 with ⟨rfl, h0⟩ | ⟨g, cap, cur, rfl, hb, hg, hn, hm, hs, ht⟩
  · exact ⟨none, 0, 0, by rw [h0], fun h => by omega⟩
  · refine ⟨_, cap, g, rfl, fun _ => ⟨rfl, hb, cur, hg, fun j k hk => ?_⟩⟩
    have e : (ks.map fun (i : Nat) => Value.int .i64 (i : Int))[j]? = some (.int .i64 (k : Int)) := by rw [List.getElem?_map, hk]; rfl
    rw [← ht, List.getElem?_take] at e
    split at e
    · simpa using e
    · cases e
def SoP (n : Nat) (wt : Nat → Option By) (w : World) (e : Ending) (w' : World) : Prop := ∃ p cap g, e = .returned (.slice p (keysW wt n).length cap) ∧ KyAt (w.heap.size + 1) g p (keysW wt n) w' ∧ Below w.heap.size w w'
/-- the sorted keys -/
theorem sorted_any {M n : Nat} {wt : Nat → Option By} {w : World} (h : MpAt w M n wt) (hn : n ≤ 4096) :
    CallsIn Fence.wide 5 Try.prog 58 #[.func (.func 64) #[] #[.pointer (some ⟨w.heap.size, 0, none⟩)]] (w.alloc (.cells #[.map (some M)] 53)) (SoP n wt w) := by
  have hseq : SeqGives Fence.wide 2 Try.prog 64 #[.pointer (some ⟨w.heap.size, 0, none⟩)] encZ (fun ss => ss.Perm (intKeys (Dm n wt))) (Maps.size (Dm n wt)) (w.alloc (.cells #[.map (some M)] 53)) :=
    AnyZI.keys_gives (ρ := Try.laysKeys_ren) { Try.laysKeys with } Fence.wide _ trivial rfl (by omega) w.heap.size M n (Dm n wt) _ (by simp) (by simp) (by
      obtain ⟨es, clock, hb, Ft, hs, hD⟩ := h
      exact ⟨es, clock, (Below.heap_alloc _ _ M (lt_of_heap hb)).trans hb, Ft, hs, hD⟩)
  have hsz : Maps.size (Dm n wt) ≤ 4096 := by rw [size_Dm]; exact Nat.le_trans (keysW_len _ _) hn
  have cS := AnyZI.sorted_in Try.laysSorted Fence.wide 5 trivial trivial trivial trivial rfl (by omega) (sorts_any _) (enters_of Try.func63 (by kernel_rfl) rfl) 64 #[.pointer (some ⟨w.heap.size, 0, none⟩)] trivial (enters_of Try.func64 (by kernel_rfl) rfl) _ _ (by unfold maxLen; omega) (by omega) _ hseq
  change CallsIn _ _ Try.prog 58 _ _ _ at cS
  refine cS.mono ?_
  rintro e w' ⟨v, ss, rfl, hp, hrow, _, hb⟩
  have hlen : ss.length = (keysW wt n).length := by rw [hp.length_eq, keys_Dm, List.length_map]
  rw [sort_keys hp, hlen, List.map_map] at hrow
  rw [World.size_alloc] at hrow hb
  obtain ⟨p, cap, g, rfl, hky⟩ := kyAt_of hrow
  exact ⟨p, cap, g, rfl, hky, ((Below.refl _ w).alloc (Nat.le_refl _) _).trans (hb.mono (by omega))⟩
set_option maxRecDepth 100000 in
set_option maxHeartbeats 2000000 in
theorem waits1_in (n : Nat) (hn : 2 ≤ n) (l : Nat) (X : Nat → Prop) (n0 : Nat) (Bd D M N : Nat) (wt : Nat → Option By) (hwt : ∀ i s, wt i = some s → i < N ∧ s.length = 64) (hN : N ≤ 4096) (hX : ¬ X Bd ∧ ¬ X D ∧ ¬ X M) (hM : M < n0)
    (J Jx : List (Wt N) → World → Prop) (W : World) (hJa : AbidesFrom W.heap.size J) (hXl : ∀ b, X b → b < W.heap.size)
    (hY : ∀ pre (x : Wt N) W, J pre W → pre.length < (keysW wt N).length → YieldAt Fence.wide (n - 1) Try.prog l #[.int .i64 (x.1.1 : Int), .agg (bc x.1.2)] W fun e W' =>
      (e = .returned (.bool true) ∧ J (pre ++ [x]) W' ∧ KpX X n0 W W') ∨ (e = .returned (.bool false) ∧ Jx (pre ++ [x]) W'))
    (hE : WtE Bd D M N wt W) (h0 : J [] W) :
    CallsIn Fence.wide n Try.prog 57 #[.func (.yield l) #[] #[], .pointer (some ⟨Bd, 0, none⟩)] W fun e W' => (∃ v, e = .returned v) ∧
      ((∃ ys, ys = wts wt N hwt N ∧ J ys W') ∨ (∃ pre, True ∧ Jx pre W')) := by
  refine callsIn_of_wp Try.func57 rfl trivial ?_ rfl
  simp only [Try.ntmps57, List.size_toArray, List.length_cons, List.length_nil, Nat.reduceAdd, Nat.reduceSub, Array.replicate_succ, Array.replicate_zero, List.push_toArray, List.append_toArray, List.nil_append, List.cons_append]
  have cd : W.cell? ⟨Bd, 0, none⟩ = some (pD D) := cell_of_arr hE.cd 0
  obtain ⟨fu, fv, fx, hD⟩ := hE.c1
  have c1 : W.cell? ⟨D, 1, none⟩ = some (.map (some M)) := cell_of_arr hD 1
  have HE := Lib.hid hE
  have HS := Lib.hid (sorted_any hE.mp hN)
  clear hE hD
  have h1n : 1 ≤ n := by omega
  have hfK : Fence.wide.fn 59 := trivial
  have hfS : Fence.wide.fn 58 := trivial
  gi_wp2_with first
    | (gi_at_call 59; refine (callsIn_wide.2 (keys_any M _)).mono ?_; rintro e w' ⟨rfl, rfl⟩)
    | (gi_at_call 58; refine (callsIn_wide.2 (callsIn_wide.1 HS.out)).mono ?_; rintro e w2 ⟨p, cap, g, rfl, hky, hb2⟩)
  have HE2 := Lib.hid (HE.out.kept (kpX_frq (X := X) (n0 := n0) (Frq.ofBelow hb2)) hX hM)
  have HJ2 := Lib.hid (hJa [] W w2 none h0 ⟨hb2.os, hb2.tape, hb2.output, hb2.size, fun k hk _ => hb2.block k hk⟩ (fun r e => by cases e))
  have HKY := Lib.hid hky
  have HXB := Lib.hid (show ∀ b, X b → b < W.heap.size + 1 from fun b h => Nat.lt_succ_of_lt (hXl b h))
  have hlen := wts_len wt N hwt
  have hK0 : (keysW wt N).length ≤ 4096 := Nat.le_trans (keysW_len _ _) hN
  generalize hKl : (keysW wt N).length = Kl at *
  have hK1 : (Kl : Int) ≤ 4096 := by omega
  have HKL := Lib.hid hKl
  have HLN := Lib.hid hlen
  clear hky hb2 h0 hKl hlen cd c1
  gi_wp2
  gi_loopw [12] (fun t wr => ∃ j : Nat, j ≤ Kl ∧ t = .int .i64 (j : Int) ∧ J ((wts wt N hwt N).take j) wr ∧ WtE Bd D M N wt wr ∧ KyAt (W.heap.size + 1) g p (keysW wt N) wr)
    (fun t _ => Kl - (intOf t).toNat)
  case atStart => exact ⟨0, Nat.zero_le _, rfl, HJ2.out, HE2.out, HKY.out⟩
  case round =>
    obtain ⟨j, hj, rfl, hJs, hE, hky⟩ := hrel
    have HJ := Lib.hid hJs
    have HE3 := Lib.hid hE
    have HK3 := Lib.hid hky
    clear hJs hE hky
    by_cases hlt : j < Kl
    · obtain ⟨x, hx⟩ : ∃ x, (wts wt N hwt N)[j]? = some x := ⟨_, List.getElem?_eq_getElem (by rw [HLN.out]; exact hlt)⟩
      obtain ⟨hx1, hx2⟩ := wts_get hx
      have HT := Lib.hid (show (wts wt N hwt N).take (j + 1) = (wts wt N hwt N).take j ++ [x] from by rw [List.take_add_one, hx]; rfl)
      have hyy := hY ((wts wt N hwt N).take j) x wr HJ.out (by rw [List.length_take, HLN.out]; omega)
      obtain ⟨fn, tmps, assign, body, hy, hR⟩ := hyy
      have HRR := Lib.hid hR
      obtain ⟨hp, hgb, cur, hcur, hck⟩ := HK3.out (by rw [HKL.out]; omega)
      have ck : wr.cell? ⟨g, j, none⟩ = some (.int .i64 (x.1.1 : Int)) := (cell_of_arr hcur j).trans (hck j _ hx1)
      have cd : wr.cell? ⟨Bd, 0, none⟩ = some (pD D) := cell_of_arr HE3.out.cd 0
      obtain ⟨fu3, fv3, fx3, hD⟩ := HE3.out.c1
      have c1 : wr.cell? ⟨D, 1, none⟩ = some (.map (some M)) := cell_of_arr hD 1
      have hlk := run_look1_some hx2 HE3.out.mp x.2.1 hN
      have hj0 : (0 : Int) ≤ (j : Int) := Int.natCast_nonneg _
      have hj1 : (j : Int) < (Kl : Int) := by omega
      have HLT := Lib.hid hlt
      subst hp
      clear hR hx hx1 hx2 hD hcur hck hgb
      gi_wp2
      refine (HRR.out).mono ?_
      rintro e W3 (⟨rfl, hJ3, hk3⟩ | ⟨rfl, hJx3⟩)
      · have HE4 := Lib.hid (HE3.out.kept hk3 hX hM)
        have HK4 := Lib.hid (HK3.out.kept hk3 HXB.out)
        have HJ4 := Lib.hid hJ3
        clear hk3 hJ3
        gi_wp2
        go_roundw
        case rel => exact ⟨j + 1, HLT.out, by go_num, by rw [HT.out]; exact HJ4.out, HE4.out, HK4.out⟩
        case measure => simp [intOf]; have := HLT.out; omega
      · gi_wp2
        refine bodyPost_ret (results_none rfl _ _ _) rfl ?_
        exact ⟨⟨_, rfl⟩, .inr ⟨_, trivial, hJx3⟩⟩
    · obtain rfl : j = Kl := by omega
      have i5 : ¬ ((j : Int) < (j : Int)) := by omega
      have HA := Lib.hid (show (wts wt N hwt N).take j = wts wt N hwt N from List.take_of_length_le (by rw [HLN.out]; exact Nat.le_refl _))
      gi_wp2
      go_end0
      exact ⟨⟨_, rfl⟩, .inl (by rw [← HA.out]; exact HJ.out)⟩
set_option maxRecDepth 100000 in
theorem waits_in (F : Fence) (n : Nat) (hF : F.fn 38) (hro : F.round = none) (D : Nat) (w : World) :
    CallsIn F n Try.prog 38 #[pD D] w fun e w' => e = .returned (.func (.func 57) #[] #[.pointer (some ⟨w.heap.size, 0, none⟩)]) ∧ w' = w.alloc (.cells #[pD D] 24) := by
  refine callsIn_of_wp Try.func38 rfl hF ?_ hro
  simp only [Try.ntmps38, List.size_toArray, List.length_cons, List.length_nil, Nat.reduceAdd, Nat.reduceSub, Array.replicate_succ, Array.replicate_zero, List.push_toArray, List.append_toArray, List.nil_append, List.cons_append]
  gi_wp2
  go_ret
  exact ⟨rfl, rfl⟩
theorem waits_stops (n : Nat) (hn : 2 ≤ n) (X : Nat → Prop) (n0 : Nat) (Bd D M N : Nat) (wt : Nat → Option By) (hwt : ∀ i s, wt i = some s → i < N ∧ s.length = 64) (hN : N ≤ 4096) (hX : ¬ X Bd ∧ ¬ X D ∧ ¬ X M) (hM : M < n0) (w : World) (hXl : ∀ b, X b → b < w.heap.size) (hE : WtE Bd D M N wt w) :
    SeqStopsK Fence.wide n Try.prog 57 #[.pointer (some ⟨Bd, 0, none⟩)] (fun x : Wt N => #[.int .i64 (x.1.1 : Int), .agg (bc x.1.2)]) (KpX X n0) (fun ys => ys = wts wt N hwt N) (fun _ => True) (keysW wt N).length w := fun l J Jx W hW hJ _ hY h0 =>
  waits1_in n hn l X n0 Bd D M N wt hwt hN hX hM J Jx W hJ (fun b h => Nat.lt_of_lt_of_le (hXl b h) hW.size) hY
    ⟨(hW.block _ (lt_of_heap hE.cd)).trans hE.cd, by obtain ⟨u, v, x, e⟩ := hE.c1; exact ⟨u, v, x, (hW.block _ (lt_of_heap e)).trans e⟩, hE.mp.heap (hW.block _ hE.mp.lt)⟩ h0
end Go.Proofs.Ytabahkeologbmaa.Dk
