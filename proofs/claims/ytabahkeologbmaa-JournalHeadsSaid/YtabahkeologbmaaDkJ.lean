/- The iterator over sectors: what is read of each. -/
import Derived.Test.YtabahkeologbmaaDkI
namespace Go.Proofs.Ytabahkeologbmaa.Dk
open Go.RowKit Go.Shelf Go.Dk Go.Sha
open Go.Maps (Keyed)
attribute [local go_sem] Oper.semAt_some
attribute [local go_sem high, local simp high] zero_sector

/-- a sector's bytes -/
abbrev Sc := { s : By // s.length = 64 }
def scs (f : Nat → By) (h : ∀ i, (f i).length = 64) (a m : Nat) : List Sc := (List.range m).map fun j => ⟨f (a + j), h _⟩
theorem scs_len (f : Nat → By) (h : ∀ i, (f i).length = 64) (a m : Nat) : (scs f h a m).length = m := by simp [scs]
theorem scs_succ (f : Nat → By) (h : ∀ i, (f i).length = 64) (a m : Nat) : scs f h a (m + 1) = scs f h a m ++ [⟨f (a + m), h _⟩] := by simp [scs, List.range_succ]
/-- what the iterator over sectors leans on -/
structure ScE (Ba Bn Bd : Nat) (D L M a m : Nat) (d : Dk) (W : World) : Prop where
  ca : W.heap[Ba]? = some (.cells #[.int .i64 (a : Int)] 3 (0, 0))
  cn : W.heap[Bn]? = some (.cells #[.int .i64 (m : Int)] 3 (0, 0))
  cd : W.heap[Bd]? = some (.cells #[pD D] 24 (0, 0))
  dk : DkAt W D L M d
theorem ScE.kept {X : Nat → Prop} {n0 : Nat} {Ba Bn Bd D L M a m : Nat} {d : Dk} {W W' : World} (h : ScE Ba Bn Bd D L M a m d W) (hk : KpX X n0 W W') (hX : ¬ X Ba ∧ ¬ X Bn ∧ ¬ X Bd ∧ ¬ X D ∧ ¬ X L ∧ ¬ X M) (hM : M < n0) : ScE Ba Bn Bd D L M a m d W' :=
  ⟨hk.cells hX.1 h.ca, hk.cells hX.2.1 h.cn, hk.cells hX.2.2.1 h.cd, h.dk.ok, hk.cells hX.2.2.2.1 h.dk.hd, hk.cells hX.2.2.2.2.1 h.dk.hl, h.dk.hm.heap (by
    obtain ⟨es, c, hm⟩ := h.dk.hm.obj
    rw [hm]; exact hk.2 _ _ hX.2.2.2.2.2 hm (.inr hM)), h.dk.ne⟩
set_option maxRecDepth 100000 in
set_option maxHeartbeats 2000000 in
theorem sectors1_in (F : Fence) (n : Nat) (hF : F.fn 60) (hro : F.round = none) (hn : 1 ≤ n) (l : Nat) (X : Nat → Prop) (n0 : Nat) (Ba Bn Bd D L M a m : Nat) (d : Dk) (hX : ¬ X Ba ∧ ¬ X Bn ∧ ¬ X Bd ∧ ¬ X D ∧ ¬ X L ∧ ¬ X M) (hM : M < n0) (hd : d.Ok) (ham : a + m ≤ d.n)
    (J Jx : List Sc → World → Prop) (B0 : Nat) (hJa : AbidesFrom B0 J)
    (hY : ∀ pre (x : Sc) W, J pre W → pre.length < m → YieldAt F (n - 1) Try.prog l #[.agg (bc x.1)] W fun e W' =>
      (e = .returned (.bool true) ∧ J (pre ++ [x]) W' ∧ KpX X n0 W W') ∨ (e = .returned (.bool false) ∧ Jx (pre ++ [x]) W'))
    (W : World) (hE : ScE Ba Bn Bd D L M a m d W) (h0 : J [] W) :
    CallsIn F n Try.prog 60 #[.func (.yield l) #[] #[], .pointer (some ⟨Ba, 0, none⟩), .pointer (some ⟨Bn, 0, none⟩), .pointer (some ⟨Bd, 0, none⟩)] W fun e W' => (∃ v, e = .returned v) ∧
      ((∃ ys, ys = scs d.rd hd.rd a m ∧ J ys W') ∨ (∃ pre, True ∧ Jx pre W')) := by
  have hn2 := hd.n2
  have hm0 : (m : Int) ≤ 4096 := by omega
  have ha0 : (a : Int) ≤ 4096 := by omega
  refine callsIn_of_wp Try.func60 rfl hF ?_ hro
  simp only [Try.ntmps60, List.size_toArray, List.length_cons, List.length_nil, Nat.reduceAdd, Nat.reduceSub, Array.replicate_succ, Array.replicate_zero, List.push_toArray, List.append_toArray, List.nil_append, List.cons_append]
  have ca : W.cell? ⟨Ba, 0, none⟩ = some (.int .i64 (a : Int)) := cell_of_arr hE.ca 0
  have HEa := Lib.hid hE
  clear hE
  gi_wp2
  gi_loopw [5] (fun i wr => ∃ k : Nat, k ≤ m ∧ i = .int .i64 ((a + k : Nat) : Int) ∧ J (scs d.rd hd.rd a k) wr ∧ ScE Ba Bn Bd D L M a m d wr)
    (fun i _ => a + m - (intOf i).toNat)
  case atStart => exact ⟨0, Nat.zero_le _, rfl, h0, HEa.out⟩
  case round =>
    obtain ⟨k, hk, rfl, hJs, hE⟩ := hrel
    have HJ := Lib.hid hJs
    have HE := Lib.hid hE
    have ca : wr.cell? ⟨Ba, 0, none⟩ = some (.int .i64 (a : Int)) := cell_of_arr hE.ca 0
    have cn : wr.cell? ⟨Bn, 0, none⟩ = some (.int .i64 (m : Int)) := cell_of_arr hE.cn 0
    clear hJs hE
    have hak : (0 : Int) ≤ ((a + k : Nat) : Int) := Int.natCast_nonneg _
    have haw : IntKind.i64.wrap ((a : Int) + (m : Int)) = ((a + m : Nat) : Int) := by rw [IntWalk.i64_in _ (by omega)]; omega
    by_cases hlt : k < m
    · have i1 : decide (((a + k : Nat) : Int) < ((a + m : Nat) : Int)) = true := decide_eq_true (by omega)
      have cd : wr.cell? ⟨Bd, 0, none⟩ = some (pD D) := cell_of_arr HE.out.cd 0
      have c0 := HE.out.dk.c0
      have c1 := HE.out.dk.c1
      have HM := Lib.hid HE.out.dk.hm
      have hlM := HE.out.dk.hl
      have hlt2 : a + k < d.n := by omega
      have hyy := fun W' (h : wr.grownBy W' none) => hY (scs d.rd hd.rd a k) ⟨d.rd (a + k), hd.rd _⟩ W' (hJa _ _ _ none HJ.out h (fun r e => by cases e)) (by rw [scs_len]; exact hlt)
      have HY := Lib.hid hyy
      have HN := Lib.hid hlt
      clear hyy hlt
      have i2 : decide (a + k < d.n) = true := decide_eq_true hlt2
      have i3 : (((a + k : Nat) : Int) < (d.n : Int)) := by omega
      have i4 : (((a + k : Nat) : Int) < (a : Int) + (m : Int)) := by have := HN.out; omega
      have HS := Lib.hid hd.wt
      have HLA := Lib.hid hd.la
      generalize hik : a + k = i at *
      have HIK := Lib.hid hik
      clear hik
      cases e : d.wt i with
      | some s =>
        have hlk := run_look_some e HM.out hlt2 hn2
        have HR := Lib.hid (show d.rd i = s by unfold Dk.rd; rw [e]; rfl)
        have HS64 := Lib.hid (HS.out i s e).2
        clear e
        obtain ⟨fn, tmps, assign, body, hy, hR⟩ := HY.out (wr.alloc (.cells (bc s) 74)) (World.grownBy_alloc wr _ none)
        dsimp only at hy
        rw [HR.out] at hy
        have HRR := Lib.hid hR
        clear hR
        gi_wp2_with first
          | ((with_reducible refine wlI_sc zero64 wr.heap.size s zero64_len HS64.out ?_ ?_ rfl ?_); (· rfl); (· rfl))
          | ((with_reducible refine wlI_ldsc (dst := 35) (t := 74) wr.heap.size s HS64.out ?_ ?_ ?_); (· rfl); (· exact heap_last _ _ _ rfl))
        refine (HRR.out).mono ?_
        rintro e W3 (⟨rfl, hJ3, hk3⟩ | ⟨rfl, hJx3⟩)
        · gi_wp2
          go_roundw
          case rel =>
            have hi := HIK.out
            subst hi
            exact ⟨k + 1, HN.out, by go_num, by rw [scs_succ]; exact hJ3, HE.out.kept (kpX_t (kpX_frq ((Frq.refl X wr).alloc _)) hk3) hX hM⟩
          case measure => simp [intOf]; have := HIK.out; have := HN.out; omega
        · gi_wp2
          refine bodyPost_ret (results_none rfl _ _ _) rfl ?_
          exact ⟨⟨_, rfl⟩, .inr ⟨_, trivial, hJx3⟩⟩
      | none =>
        have hlk := run_look_none e HM.out hlt2 hn2
        have HR := Lib.hid (show d.rd i = d.la i by unfold Dk.rd; rw [e]; rfl)
        clear e
        obtain ⟨fn, tmps, assign, body, hy, hR⟩ := HY.out (wr.alloc (.cells (bc (d.la i)) 74)) (World.grownBy_alloc wr _ none)
        dsimp only at hy
        rw [HR.out] at hy
        have HRR := Lib.hid hR
        have cd' := cell_alloc_l (.cells (bc zero64) 74) cd
        have c0' := cell_alloc_l (.cells (bc zero64) 74) c0
        have HLM := Lib.hid ((heap_prev wr (.cells (bc zero64) 74) L (lt_of_heap hlM)).trans hlM)
        clear hR hlM
        gi_wp2_with first
          | ((with_reducible refine wlI_ldrow (dst := 33) L i d.n (i * 64) d.la HLA.out hlt2 (Nat.mul_comm _ _) ?_ HLM.out ?_); (· rfl))
          | ((with_reducible refine wlI_sc zero64 wr.heap.size zero64 zero64_len zero64_len ?_ ?_ rfl ?_); (· rfl); (· rfl))
          | ((with_reducible refine wlI_sc zero64 wr.heap.size (d.la i) zero64_len (HLA.out i) ?_ ?_ rfl ?_); (· rfl); (· rfl))
          | ((with_reducible refine wlI_ldsc (dst := 35) (t := 74) wr.heap.size (d.la i) (HLA.out i) ?_ ?_ ?_); (· rfl); (· exact heap_last _ _ _ rfl))
        refine (HRR.out).mono ?_
        rintro e W3 (⟨rfl, hJ3, hk3⟩ | ⟨rfl, hJx3⟩)
        · gi_wp2
          go_roundw
          case rel =>
            have hi := HIK.out
            subst hi
            exact ⟨k + 1, HN.out, by go_num, by rw [scs_succ]; exact hJ3, HE.out.kept (kpX_t (kpX_frq ((Frq.refl X wr).alloc _)) hk3) hX hM⟩
          case measure => simp [intOf]; have := HIK.out; have := HN.out; omega
        · gi_wp2
          refine bodyPost_ret (results_none rfl _ _ _) rfl ?_
          exact ⟨⟨_, rfl⟩, .inr ⟨_, trivial, hJx3⟩⟩
    · obtain rfl : k = m := by omega
      have i1 : decide (((a + k : Nat) : Int) < ((a + k : Nat) : Int)) = false := decide_eq_false (by omega)
      have i5 : ¬ (((a + k : Nat) : Int) < (a : Int) + (k : Int)) := by omega
      gi_wp2
      go_end0
      exact ⟨⟨_, rfl⟩, .inl HJ.out⟩
/-- the world behind the iterator's making -/
def scW (D a m : Nat) (w : World) : World := ((w.alloc (.cells #[pD D] 24)).alloc (.cells #[.int .i64 (a : Int)] 3)).alloc (.cells #[.int .i64 (m : Int)] 3)
theorem scW_size (D a m : Nat) (w : World) : (scW D a m w).heap.size = w.heap.size + 3 := by simp [scW]
theorem scW_below (D a m : Nat) (w : World) : Below w.heap.size w (scW D a m w) := (((Below.refl _ w).alloc (Nat.le_refl _) _).alloc (by simp) _).alloc (by simp; omega) _
abbrev scF (w : World) : Array Value := #[.pointer (some ⟨w.heap.size + 1, 0, none⟩), .pointer (some ⟨w.heap.size + 1 + 1, 0, none⟩), .pointer (some ⟨w.heap.size, 0, none⟩)]
theorem scW_E {D L M a m : Nat} {d : Dk} {w : World} (h : DkAt w D L M d) : ScE (w.heap.size + 1) (w.heap.size + 1 + 1) w.heap.size D L M a m d (scW D a m w) :=
  ⟨(heap_prev _ _ _ (by simp)).trans (heap_last _ _ _ (by simp)), heap_last _ _ _ (by simp), (heap_prev _ _ _ (by simp; omega)).trans ((heap_prev _ _ _ (by simp)).trans (heap_last _ _ _ rfl)), h.below (scW_below D a m w) h.ltD h.ltL h.ltM⟩
set_option maxRecDepth 100000 in
theorem sectors_in (F : Fence) (n : Nat) (hF : F.fn 41) (hro : F.round = none) (D a m : Nat) (w : World) :
    CallsIn F n Try.prog 41 #[pD D, .int .i64 (a : Int), .int .i64 (m : Int)] w fun e w' => e = .returned (.func (.func 60) #[] (scF w)) ∧ w' = scW D a m w := by
  refine callsIn_of_wp Try.func41 rfl hF ?_ hro
  simp only [Try.ntmps41, List.size_toArray, List.length_cons, List.length_nil, Nat.reduceAdd, Nat.reduceSub, Array.replicate_succ, Array.replicate_zero, List.push_toArray, List.append_toArray, List.nil_append, List.cons_append]
  gi_wp2
  go_ret
  exact ⟨rfl, rfl⟩
theorem sectors_stops (F : Fence) (n : Nat) (hF : F.fn 60) (hro : F.round = none) (hn : 1 ≤ n) (X : Nat → Prop) (n0 : Nat) (Ba Bn Bd D L M a m : Nat) (d : Dk) (hX : ¬ X Ba ∧ ¬ X Bn ∧ ¬ X Bd ∧ ¬ X D ∧ ¬ X L ∧ ¬ X M) (hM : M < n0) (hd : d.Ok) (ham : a + m ≤ d.n) (w : World) (hE : ScE Ba Bn Bd D L M a m d w) :
    SeqStopsK F n Try.prog 60 #[.pointer (some ⟨Ba, 0, none⟩), .pointer (some ⟨Bn, 0, none⟩), .pointer (some ⟨Bd, 0, none⟩)] (fun x : Sc => #[.agg (bc x.1)]) (KpX X n0) (fun ys => ys = scs d.rd hd.rd a m) (fun _ => True) m w := fun l J Jx W hW hJ _ hY h0 =>
  sectors1_in F n hF hro hn l X n0 Ba Bn Bd D L M a m d hX hM hd ham J Jx W.heap.size hJ hY W
    ⟨(hW.block _ (lt_of_heap hE.ca)).trans hE.ca, (hW.block _ (lt_of_heap hE.cn)).trans hE.cn, (hW.block _ (lt_of_heap hE.cd)).trans hE.cd, hE.dk.below hW hE.dk.ltD hE.dk.ltL hE.dk.ltM⟩ h0
end Go.Proofs.Ytabahkeologbmaa.Dk
