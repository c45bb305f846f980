/- The library's iterator over pieces of bytes (slices.Chunk at 64). -/
import Derived.Test.YtabahkeologbmaaDkI
import Derived.Sort.BigQuietIn
namespace Go.Proofs.Ytabahkeologbmaa.Dk
open Go.RowKit Go.Shelf Go.Dk Go.Sha
attribute [local go_sem] Oper.semAt_some

/-- pieces by their numbers -/
abbrev Pc (m : Nat) := { k : Nat // k < m }
def pcs (m : Nat) : Nat → List (Pc m)
  | 0 => []
  | k + 1 => if h : k < m then pcs m k ++ [⟨k, h⟩] else pcs m k
theorem pcs_len {m : Nat} : ∀ {k : Nat}, k ≤ m → (pcs m k).length = k
  | 0, _ => rfl
  | k + 1, h => by rw [pcs, dif_pos (by omega), List.length_append, pcs_len (by omega)]; rfl
theorem pcs_succ {m k : Nat} (h : k < m) : pcs m (k + 1) = pcs m k ++ [⟨k, h⟩] := by rw [pcs, dif_pos h]
structure ChE (Bs Bn : Nat) (v : Value) (W : World) : Prop where
  cs : W.heap[Bs]? = some (.cells #[v] 40 (0, 0))
  cn : W.heap[Bn]? = some (.cells #[.int .i64 64] 3 (0, 0))
theorem ChE.kept {X : Nat → Prop} {n0 : Nat} {Bs Bn : Nat} {v : Value} {W W' : World} (h : ChE Bs Bn v W) (hk : KpX X n0 W W') (hX : ¬ X Bs ∧ ¬ X Bn) : ChE Bs Bn v W' :=
  ⟨hk.cells hX.1 h.cs, hk.cells hX.2 h.cn⟩
set_option maxRecDepth 100000 in
set_option maxHeartbeats 2000000 in
theorem chunk1_in (F : Fence) (n : Nat) (hF : F.fn 61) (hro : F.round = none) (hn : 1 ≤ n) (l : Nat) (X : Nat → Prop) (n0 : Nat) (Bs Bn : Nat) (p : Option Addr) (b o m cap : Nat) (hp : 0 < m → p = some ⟨b, o, none⟩) (hcap : 64 * m ≤ cap) (hm : m ≤ 1000000) (hX : ¬ X Bs ∧ ¬ X Bn)
    (J Jx : List (Pc m) → World → Prop) (B0 : Nat) (hJa : AbidesFrom B0 J)
    (hY : ∀ pre (x : Pc m) W, J pre W → pre.length < m → YieldAt F (n - 1) Try.prog l #[.slice (some ⟨b, o + 64 * x.1, none⟩) 64 64] W fun e W' =>
      (e = .returned (.bool true) ∧ J (pre ++ [x]) W' ∧ KpX X n0 W W') ∨ (e = .returned (.bool false) ∧ Jx (pre ++ [x]) W'))
    (W : World) (hE : ChE Bs Bn (.slice p (64 * m) cap) W) (h0 : J [] W) :
    CallsIn F n Try.prog 61 #[.func (.yield l) #[] #[], .pointer (some ⟨Bs, 0, none⟩), .pointer (some ⟨Bn, 0, none⟩)] W fun e W' => (∃ v, e = .returned v) ∧
      ((∃ ys, ys = pcs m m ∧ J ys W') ∨ (∃ pre, True ∧ Jx pre W')) := by
  have hm0 : (m : Int) ≤ 1000000 := by omega
  refine callsIn_of_wp Try.func61 rfl hF ?_ hro
  simp only [Try.ntmps61, List.size_toArray, List.length_cons, List.length_nil, Nat.reduceAdd, Nat.reduceSub, Array.replicate_succ, Array.replicate_zero, List.push_toArray, List.append_toArray, List.nil_append, List.cons_append]
  have HEa := Lib.hid hE
  clear hE
  gi_wp2
  gi_loopw [4] (fun i wr => ∃ k : Nat, k ≤ m ∧ i = .int .i64 ((64 * k : Nat) : Int) ∧ J (pcs m k) wr ∧ ChE Bs Bn (.slice p (64 * m) cap) wr)
    (fun i _ => 64 * m - (intOf i).toNat)
  case atStart => exact ⟨0, Nat.zero_le _, rfl, h0, HEa.out⟩
  case round =>
    obtain ⟨k, hk, rfl, hJs, hE⟩ := hrel
    have HJ := Lib.hid hJs
    have HE := Lib.hid hE
    have cs : wr.cell? ⟨Bs, 0, none⟩ = some (.slice p (64 * m) cap) := cell_of_arr hE.cs 0
    have cn : wr.cell? ⟨Bn, 0, none⟩ = some (.int .i64 64) := cell_of_arr hE.cn 0
    clear hJs hE
    by_cases hlt : k < m
    · obtain rfl := hp (by omega)
      have hgd : ∀ nq, wr.grownBy (wr.drewN nq) none := fun nq => ⟨rfl, rfl, rfl, Nat.le_refl _, fun _ _ _ => rfl⟩
      have hyy := fun nq => hY (pcs m k) ⟨k, hlt⟩ (wr.drewN nq) (hJa _ _ _ none HJ.out (hgd nq) (fun r e => by cases e)) (by rw [pcs_len hk]; exact hlt)
      dsimp only at hyy
      have HY := Lib.hid hyy
      have HN := Lib.hid hlt
      clear hyy hp hgd
      generalize hL : 64 * m = Ln at *
      generalize hI : 64 * k = i at *
      have i0 : (0 : Int) ≤ (i : Int) := Int.natCast_nonneg _
      have i1 : (i : Int) < (Ln : Int) := by omega
      have i2 : i < Ln := by omega
      have i3 : i + 64 ≤ Ln := by omega
      have i4 : (Ln : Int) ≤ 64000000 := by omega
      have i5 : (64 : Int) ≤ (Ln : Int) - (i : Int) := by omega
      have i6 : ¬ cap = i := by omega
      have i7 : i ≤ Ln := by omega
      have he1 : min (64 : Int) ((Ln - i : Nat) : Int) = 64 := by omega
      have he2 : ((i : Int) + 64).toNat - i = 64 := by omega
      have HL := Lib.hid hL
      have HI := Lib.hid hI
      clear hL hI
      gi_wp2
      refine wpIn_region_quiet_lit hro (by kernel_rfl) (by kernel_rfl) ?_
      repeat (gi_big_quiet_step (fail))
      refine wpQuietIn_nil ?_
      intro _ hw'
      obtain ⟨nq, hw''⟩ := hw'
      subst hw''
      obtain ⟨fn, tmps, assign, body, hy, hR⟩ := HY.out nq
      have HRR := Lib.hid hR
      clear hR
      gi_wp2
      refine (HRR.out).mono ?_
      rintro e W3 (⟨rfl, hJ3, hk3⟩ | ⟨rfl, hJx3⟩)
      · have HE3 := Lib.hid ((HE.out.kept (kpX_frq (n0 := n0) ((Frq.refl X wr).drewN nq)) hX).kept hk3 hX)
        have cn3 : W3.cell? ⟨Bn, 0, none⟩ = some (.int .i64 64) := cell_of_arr HE3.out.cn 0
        clear hk3
        gi_wp2
        go_roundw
        case rel => exact ⟨k + 1, HN.out, by have := HI.out; subst this; go_num, by rw [pcs_succ HN.out]; exact hJ3, HE3.out⟩
        case measure => simp [intOf]; have := HI.out; have := HL.out; have := HN.out; omega
      · gi_wp2
        refine bodyPost_ret (results_none rfl _ _ _) rfl ?_
        exact ⟨⟨_, rfl⟩, .inr ⟨_, trivial, hJx3⟩⟩
    · obtain rfl : k = m := by omega
      have i5 : ¬ (((64 * k : Nat) : Int) < ((64 * k : Nat) : Int)) := by omega
      gi_wp2
      go_end0
      exact ⟨⟨_, rfl⟩, .inl HJ.out⟩
/-- the world behind the iterator's making -/
def chW (v : Value) (w : World) : World := (w.alloc (.cells #[v] 40)).alloc (.cells #[.int .i64 64] 3)
theorem chW_size (v : Value) (w : World) : (chW v w).heap.size = w.heap.size + 2 := by simp [chW]
theorem chW_below (v : Value) (w : World) : Below w.heap.size w (chW v w) := ((Below.refl _ w).alloc (Nat.le_refl _) _).alloc (by simp) _
theorem chW_E (v : Value) (w : World) : ChE w.heap.size (w.heap.size + 1) v (chW v w) :=
  ⟨(heap_prev _ _ _ (by simp)).trans (heap_last _ _ _ rfl), heap_last _ _ _ (by simp)⟩
set_option maxRecDepth 100000 in
theorem chunk_in (F : Fence) (n : Nat) (hF : F.fn 43) (hro : F.round = none) (p : Option Addr) (L cap : Nat) (w : World) :
    CallsIn F n Try.prog 43 #[.slice p L cap, .int .i64 64] w fun e w' => e = .returned (.func (.func 61) #[] #[.pointer (some ⟨w.heap.size, 0, none⟩), .pointer (some ⟨w.heap.size + 1, 0, none⟩)]) ∧ w' = chW (.slice p L cap) w := by
  refine callsIn_of_wp Try.func43 rfl hF ?_ hro
  simp only [Try.ntmps43, List.size_toArray, List.length_cons, List.length_nil, Nat.reduceAdd, Nat.reduceSub, Array.replicate_succ, Array.replicate_zero, List.push_toArray, List.append_toArray, List.nil_append, List.cons_append]
  gi_wp2
  go_ret
  exact ⟨rfl, rfl⟩
theorem chunk_stops (F : Fence) (n : Nat) (hF : F.fn 61) (hro : F.round = none) (hn : 1 ≤ n) (X : Nat → Prop) (n0 : Nat) (Bs Bn : Nat) (p : Option Addr) (b o m cap : Nat) (hp : 0 < m → p = some ⟨b, o, none⟩) (hcap : 64 * m ≤ cap) (hm : m ≤ 1000000) (hX : ¬ X Bs ∧ ¬ X Bn) (w : World) (hE : ChE Bs Bn (.slice p (64 * m) cap) w) :
    SeqStopsK F n Try.prog 61 #[.pointer (some ⟨Bs, 0, none⟩), .pointer (some ⟨Bn, 0, none⟩)] (fun x : Pc m => #[.slice (some ⟨b, o + 64 * x.1, none⟩) 64 64]) (KpX X n0) (fun ys => ys = pcs m m) (fun _ => True) m w := fun l J Jx W hW hJ _ hY h0 =>
  chunk1_in F n hF hro hn l X n0 Bs Bn p b o m cap hp hcap hm hX J Jx W.heap.size hJ hY W ⟨(hW.block _ (lt_of_heap hE.cs)).trans hE.cs, (hW.block _ (lt_of_heap hE.cn)).trans hE.cn⟩ h0
end Go.Proofs.Ytabahkeologbmaa.Dk
