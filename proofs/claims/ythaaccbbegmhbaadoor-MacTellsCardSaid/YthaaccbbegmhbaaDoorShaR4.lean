/- Contract of tarmacref01.mix, over the translated program. -/
import Derived.Test.YthaaccbbegmhbaaDoorShaR3
import Derived.Deep.RegionHeld3
namespace Go.Proofs.YthaaccbbegmhbaaDoor
open Go.RowKit Go.Sha

@[local go_sem high, local simp high] theorem z42r (w : World) : (zeroValue 42).run Tryd.prog w = .ok (.agg (wv (zl 8))) w := by kernel_rfl
@[local go_sem high, local simp high] theorem z49s (w : World) : (zeroValue 64).run Tryd.prog w = .ok (.agg (wv (zl 64))) w := by kernel_rfl
theorem info8r : (Tryd.prog.info? 42).map (·.size) = some 8 := by kernel_rfl
/-- what stands in memory while the document's mix goes on: its words, the row that it answers, its spread -/
def MixAt (w : World) (m r sp : List Nat) (wr : World) : Prop :=
  wr.heap[w.heap.size]? = some (.cells (wv m) 42 (0, 0)) ∧ wr.heap[w.heap.size + 1]? = some (.cells (wv r) 42 (0, 0)) ∧ wr.heap[w.heap.size + 1 + 1]? = some (.cells (wv sp) 64 (0, 0)) ∧ Below w.heap.size w wr
theorem MixAt.set {w wr : World} {m r sp : List Nat} (h : MixAt w m r sp wr) (k x : Nat) : MixAt w m r (sp.set k x) (wr.setCell ⟨w.heap.size + 1 + 1, k, none⟩ (.int .u32 (x : Int))) :=
  ⟨(heap_setCell_other _ _ _ _ (by show w.heap.size ≠ w.heap.size + 1 + 1; omega)).trans h.1, (heap_setCell_other _ _ _ _ (by show w.heap.size + 1 ≠ w.heap.size + 1 + 1; omega)).trans h.2.1, by
    have := heap_setCell_same wr (w.heap.size + 1 + 1) k _ _ (.int .u32 (x : Int)) h.2.2.1
    rw [wv_set] at this; exact this, h.2.2.2.setCell (by show w.heap.size ≤ w.heap.size + 1 + 1; omega) _⟩
theorem MixAt.drewN {w wr : World} {m r sp : List Nat} (h : MixAt w m r sp wr) (n : Nat) : MixAt w m r sp (wr.drewN n) := ⟨h.1, h.2.1, h.2.2.1, below_drewN h.2.2.2 n⟩
theorem MixAt.drew {w wr : World} {m r sp : List Nat} (h : MixAt w m r sp wr) : MixAt w m r sp wr.drew := ⟨h.1, h.2.1, h.2.2.1, h.2.2.2.drew⟩
theorem MixAt.kept {w wr w' : World} {m r sp : List Nat} (h : MixAt w m r sp wr) (hb : Below wr.heap.size wr w') : MixAt w m r sp w' :=
  ⟨(hb.block _ (Array.getElem?_eq_some_iff.1 h.1).1).trans h.1, (hb.block _ (Array.getElem?_eq_some_iff.1 h.2.1).1).trans h.2.1, (hb.block _ (Array.getElem?_eq_some_iff.1 h.2.2.1).1).trans h.2.2.1, h.2.2.2.trans (hb.mono h.2.2.2.size)⟩

theorem MixAt.setRow {w wr : World} {m r sp : List Nat} (h : MixAt w m r sp wr) {g : Nat} (hg : w.heap.size + 3 ≤ g) (cs : Array Value) : MixAt w m r sp (wr.setRow g cs) :=
  ⟨(setRow_other _ _ _ _ (by omega)).trans h.1, (setRow_other _ _ _ _ (by omega)).trans h.2.1, (setRow_other _ _ _ _ (by omega)).trans h.2.2.1, below_setRow' h.2.2.2 (by omega) _⟩
theorem rturnedZ (x : Nat) (n : Int) (w : World) (h0 : 0 ≤ n) (h1 : n ≤ 32) (hx : x < M) :
    Calls Tryd.prog 34 #[.int .u32 (x : Int), .int .i64 n] w fun e w' => e = .returned (.int .u32 (rotr x n.toNat : Nat)) ∧ ∃ k, w' = w.drewN k := by
  obtain ⟨m, rfl⟩ := Int.eq_ofNat_of_zero_le h0
  exact rturned_any x m w (by omega) hx
theorem be4_step (b : List Nat) (i k : Nat) (h : at0 b (4 * i + k) < 256) : (((be4 b i k : Nat) : Int) * 256) % 4294967296 + ((at0 b (4 * i + k) : Nat) : Int) = ((be4 b i (k + 1) : Nat) : Int) := by
  rw [be4_succ]; unfold M; omega

theorem sch_walk2 {l : List Nat} (h : Lt M l) (k : Nat) :
    ((((at0 l (k - 16) : Int) + bits .xor .u32 (bits .xor .u32 ↑(rotr (at0 l (k - 15)) 7) ↑(rotr (at0 l (k - 15)) 18)) (↑(at0 l (k - 15)) / 8)) % 4294967296 + ↑(at0 l (k - 7))) % 4294967296 +
      bits .xor .u32 (bits .xor .u32 ↑(rotr (at0 l (k - 2)) 17) ↑(rotr (at0 l (k - 2)) 19)) (↑(at0 l (k - 2)) / 1024)) % 4294967296 = ((sch l k : Nat) : Int) := by
  rw [← sch_walk h k]
  omega
theorem quiet2d {P : Program} {f : FuncId} {args : Array Value} {w : World} {m n : Nat} {v : Value} (h : Calls P f args (w.drewN (m + n)) fun e w' => e = .returned v ∧ ∃ k, w' = (w.drewN (m + n)).drewN k) :
    Calls P f args (w.drewN (m + n)) fun e w' => e = .returned v ∧ ∃ k, w' = w.drewN (m + k) :=
  h.mono fun _ _ hh => ⟨hh.1, by obtain ⟨k, hk⟩ := hh.2; exact ⟨n + k, by rw [hk]; unfold World.drewN; simp [Nat.add_assoc]⟩⟩

theorem built8 (a b c d e f g h : Int) : Tryd.prog.built 42 [(0, .int .u32 a), (1, .int .u32 b), (2, .int .u32 c), (3, .int .u32 d), (4, .int .u32 e), (5, .int .u32 f), (6, .int .u32 g), (7, .int .u32 h)] =
    some #[.int .u32 a, .int .u32 b, .int .u32 c, .int .u32 d, .int .u32 e, .int .u32 f, .int .u32 g, .int .u32 h] := by kernel_rfl
theorem stp_build {P : Program} {ops : Array Oper} {rest : List Oper} {a : Act} {w : World} {Q : Exit → Act → World → Prop} {dst : Tmp} {ty typ : TypeId} {parts : Array (Nat × Operand)} {pos : String} {after : Array Edge}
    (h : Stp (wpList P ops Q (⟨some dst, .build ty parts, typ, pos, after, none⟩ :: rest) a w)) : wpList P ops Q (⟨some dst, .build ty parts, typ, pos, after, none⟩ :: rest) a w := h
theorem rnd_walk2 (v : List Nat) (kk x : Nat) (h : Lt M v) (p q : Int)
    (hp : p = ((at0 v 7 : Int) + bits .xor .u32 (bits .xor .u32 ↑(rotr (at0 v 4) 6) ↑(rotr (at0 v 4) 11)) ↑(rotr (at0 v 4) 25) +
          bits .xor .u32 (bits .and .u32 ↑(at0 v 4) ↑(at0 v 5)) (bits .and .u32 (bits .xor .u32 IntKind.u32.max ↑(at0 v 4)) ↑(at0 v 6)) + ↑kk + ↑x) % 4294967296)
    (hq : q = (bits .xor .u32 (bits .xor .u32 ↑(rotr (at0 v 0) 2) ↑(rotr (at0 v 0) 13)) ↑(rotr (at0 v 0) 22) +
            bits .xor .u32 (bits .xor .u32 (bits .and .u32 ↑(at0 v 0) ↑(at0 v 1)) (bits .and .u32 ↑(at0 v 0) ↑(at0 v 2))) (bits .and .u32 ↑(at0 v 1) ↑(at0 v 2))) % 4294967296) :
    #[Value.int .u32 ((p + q) % 4294967296), Value.int .u32 ↑(at0 v 0), Value.int .u32 ↑(at0 v 1), Value.int .u32 ↑(at0 v 2), Value.int .u32 ((↑(at0 v 3) + p) % 4294967296), Value.int .u32 ↑(at0 v 4), Value.int .u32 ↑(at0 v 5), Value.int .u32 ↑(at0 v 6)] = wv (rnd kk x v) := by
  rw [← rnd_walk v kk x h]
  have e1 : (p + q) % 4294967296 = ((at0 v 7 : Int) + bits .xor .u32 (bits .xor .u32 ↑(rotr (at0 v 4) 6) ↑(rotr (at0 v 4) 11)) ↑(rotr (at0 v 4) 25) +
          bits .xor .u32 (bits .and .u32 ↑(at0 v 4) ↑(at0 v 5)) (bits .and .u32 (bits .xor .u32 IntKind.u32.max ↑(at0 v 4)) ↑(at0 v 6)) + ↑kk + ↑x +
          (bits .xor .u32 (bits .xor .u32 ↑(rotr (at0 v 0) 2) ↑(rotr (at0 v 0) 13)) ↑(rotr (at0 v 0) 22) +
            bits .xor .u32 (bits .xor .u32 (bits .and .u32 ↑(at0 v 0) ↑(at0 v 1)) (bits .and .u32 ↑(at0 v 0) ↑(at0 v 2))) (bits .and .u32 ↑(at0 v 1) ↑(at0 v 2)))) % 4294967296 := by rw [hp, hq]; omega
  have e2 : (↑(at0 v 3) + p) % 4294967296 = (↑(at0 v 3) + (↑(at0 v 7) + bits .xor .u32 (bits .xor .u32 ↑(rotr (at0 v 4) 6) ↑(rotr (at0 v 4) 11)) ↑(rotr (at0 v 4) 25) +
          bits .xor .u32 (bits .and .u32 ↑(at0 v 4) ↑(at0 v 5)) (bits .and .u32 (bits .xor .u32 IntKind.u32.max ↑(at0 v 4)) ↑(at0 v 6)) + ↑kk + ↑x)) % 4294967296 := by rw [hp]; omega
  rw [e1, e2]
theorem stp_store {P : Program} {ops : Array Oper} {rest : List Oper} {a : Act} {w : World} {Q : Exit → Act → World → Prop} {ty typ : TypeId} {x y : Operand} {pos : String} {after : Array Edge}
    (h : Stp (wpList P ops Q (⟨none, .store ty x y, typ, pos, after, none⟩ :: rest) a w)) : wpList P ops Q (⟨none, .store ty x y, typ, pos, after, none⟩ :: rest) a w := h

set_option maxRecDepth 100000 in
set_option maxHeartbeats 3200000 in
theorem rmix_any (m x : List Nat) (b o cap : Nat) (w : World) (hm : m.length = 8) (hm1 : Lt M m) (hx : x.length = 64) (hx1 : Lt 256 x) (hb : b < w.heap.size) (hc : ∀ j, j < 64 → w.cell? ⟨b, o + j, none⟩ = some (.int .u8 (at0 x j : Nat))) :
    Calls Tryd.prog 25 #[.agg (wv m), .slice (some ⟨b, o, none⟩) 64 cap] w fun e w' => e = .returned (.agg (wv (mixL m x))) ∧ Below w.heap.size w w' := by
  have HM := Lib.hid hm; clear hm
  have HM1 := Lib.hid hm1; clear hm1
  have HX := Lib.hid hx; clear hx
  have HX1 := Lib.hid hx1; clear hx1
  have HC := Lib.hid hc; clear hc
  go_enter Tryd.func25, Tryd.ntmps25
  go_wp2_with fail
  go_loopw [6, 7] (fun i _ wr => ∃ k : Nat, k ≤ 16 ∧ i = .int .i64 k ∧ MixAt w m (zl 8) (spr x k) wr) (fun i _ _ => 16 - (intOf i).toNat)
  case atStart => exact ⟨0, Nat.zero_le _, rfl, (heap_prev _ _ _ (by simp; omega)).trans ((heap_prev _ _ _ (by simp)).trans (heap_last _ _ _ rfl)), (heap_prev _ _ _ (by simp)).trans (heap_last _ _ _ (by simp)), by rw [spr_zero]; exact heap_last _ _ _ (by simp), (((Below.refl _ _).alloc (Nat.le_refl _) _).alloc (by simp) _).alloc (by simp; omega) _⟩
  case round =>
    obtain ⟨i, hi, rfl, hM⟩ := hrel
    have HMA := Lib.hid hM; clear hM
    by_cases hi16 : i < 16
    · go_wp2_with fail
      go_loopw [7] (fun k wr => ∃ t : Nat, t ≤ 4 ∧ k = .int .i64 t ∧ MixAt w m (zl 8) (spr4 x i t) wr) (fun k _ => 4 - (intOf k).toNat)
      case atStart => exact ⟨0, Nat.zero_le _, rfl, by rw [spr4_zero]; exact HMA.out⟩
      case round =>
        clear HMA
        obtain ⟨t, ht, rfl, hM⟩ := hrel
        have HMA := Lib.hid hM; clear hM
        by_cases ht4 : t < 4
        · have x1 : wr.cell? ⟨w.heap.size + 1 + 1, i, none⟩ = some (.int .u32 (be4 x i t : Nat)) := by
            rw [cell_of_row _ _ i _ _ _ HMA.out.2.2.1, wv_get _ _ (by rw [spr4_len]; omega), spr4_at x i t hi16]
          have x2 : wr.cell? ⟨b, o + (4 * i + t), none⟩ = some (.int .u8 (at0 x (4 * i + t) : Nat)) := by
            rw [HMA.out.2.2.2.cell (p := ⟨b, o + (4 * i + t), none⟩) hb]; exact HC.out _ (by omega)
          have f1 : wr.frozen? ⟨w.heap.size + 1 + 1, i, none⟩ = false := frozen_of_row _ _ _ _ _ HMA.out.2.2.1
          have q1 : (4 * (i : Int) + (t : Int)).toNat = 4 * i + t := by omega
          have q2 : (0 : Int) ≤ 4 * (i : Int) + (t : Int) := by omega
          have q3 : 4 * (i : Int) + (t : Int) < 64 := by omega
          have HW := Lib.hid (be4_step x i t (HX1.out.getD (by decide) _))
          have l1 : be4 x i t < 4294967296 := be4_lt x i t
          have l2 : at0 x (4 * i + t) < 256 := HX1.out.getD (by decide) _
          have HSS := Lib.hid (spr4_succ x i t)
          go_wp2_with fail
          go_region
          go_wp2_with fail
          go_roundw
          case rel =>
            go_light
            refine ⟨t + 1, by omega, by go_num, ?_⟩
            rw [HW.out, ← HSS.out]
            exact (HMA.out.set i _).drew
          case measure => simp [intOf]; omega
        · obtain rfl : t = 4 := by omega
          rw [spr4_all HX1.out i hi16] at HMA
          go_wp2_with fail
          go_roundw
          case rel => exact ⟨i + 1, by omega, by go_num, HMA.out⟩
          case measure => simp [intOf]; omega
    · have HI := Lib.hid (show i = 16 by omega)
      rw [HI.out] at HMA
      clear HI
      go_wp2_with fail
      go_loopw [8, 9, 10] (fun k _ _ wr => ∃ i : Nat, 16 ≤ i ∧ i ≤ 64 ∧ k = .int .i64 i ∧ MixAt w m (zl 8) (spr x i) wr) (fun k _ _ _ => 64 - (intOf k).toNat)
      case atStart => exact ⟨16, by decide, by decide, rfl, HMA.out⟩
      case round =>
        clear HMA hi hi16
        obtain ⟨i, hi, hi2, rfl, hM⟩ := hrel
        have HMA := Lib.hid hM; clear hM
        by_cases h64 : i < 64
        · have hk' : i - 15 < 64 := by omega
          have y0 : wr.cell? ⟨w.heap.size + 1 + 1, i - 16, none⟩ = some (.int .u32 (at0 (spr x i) (i - 16) : Nat)) := by rw [cell_of_row _ _ _ _ _ _ HMA.out.2.2.1, wv_get _ _ (by rw [spr_len]; omega)]
          have y1 : wr.cell? ⟨w.heap.size + 1 + 1, i - 15, none⟩ = some (.int .u32 (at0 (spr x i) (i - 15) : Nat)) := by rw [cell_of_row _ _ _ _ _ _ HMA.out.2.2.1, wv_get _ _ (by rw [spr_len]; omega)]
          have y2 : wr.cell? ⟨w.heap.size + 1 + 1, i - 7, none⟩ = some (.int .u32 (at0 (spr x i) (i - 7) : Nat)) := by rw [cell_of_row _ _ _ _ _ _ HMA.out.2.2.1, wv_get _ _ (by rw [spr_len]; omega)]
          have y3 : wr.cell? ⟨w.heap.size + 1 + 1, i - 2, none⟩ = some (.int .u32 (at0 (spr x i) (i - 2) : Nat)) := by rw [cell_of_row _ _ _ _ _ _ HMA.out.2.2.1, wv_get _ _ (by rw [spr_len]; omega)]
          have y4 : wr.cell? ⟨w.heap.size + 1 + 1, i, none⟩ = some (.int .u32 (at0 (spr x i) i : Nat)) := by rw [cell_of_row _ _ _ _ _ _ HMA.out.2.2.1, wv_get _ _ (by rw [spr_len]; omega)]
          have f1 : wr.frozen? ⟨w.heap.size + 1 + 1, i, none⟩ = false := frozen_of_row _ _ _ _ _ HMA.out.2.2.1
          have l1 : at0 (spr x i) (i - 15) < M := (spr_lt HX1.out i).getD (by decide) _
          have l2 : at0 (spr x i) (i - 2) < M := (spr_lt HX1.out i).getD (by decide) _
          have a16 : ((i : Int) - 16).toNat = i - 16 := by omega
          have b16 : (0 : Int) ≤ (i : Int) - 16 := by omega
          have c16 : (i : Int) - 16 < 64 := by omega
          have d16 : IntKind.i64.wrap ((i : Int) - 16) = (i : Int) - 16 := by rw [IntKind.wrap_i64]; omega
          have a15 : ((i : Int) - 15).toNat = i - 15 := by omega
          have b15 : (0 : Int) ≤ (i : Int) - 15 := by omega
          have c15 : (i : Int) - 15 < 64 := by omega
          have d15 : IntKind.i64.wrap ((i : Int) - 15) = (i : Int) - 15 := by rw [IntKind.wrap_i64]; omega
          have a7 : ((i : Int) - 7).toNat = i - 7 := by omega
          have b7 : (0 : Int) ≤ (i : Int) - 7 := by omega
          have c7 : (i : Int) - 7 < 64 := by omega
          have d7 : IntKind.i64.wrap ((i : Int) - 7) = (i : Int) - 7 := by rw [IntKind.wrap_i64]; omega
          have a2 : ((i : Int) - 2).toNat = i - 2 := by omega
          have b2 : (0 : Int) ≤ (i : Int) - 2 := by omega
          have c2 : (i : Int) - 2 < 64 := by omega
          have d2 : IntKind.i64.wrap ((i : Int) - 2) = (i : Int) - 2 := by rw [IntKind.wrap_i64]; omega
          have c0 : (i : Int) < 64 := by omega
          have n1 : (16 : Int) ≤ (i : Int) := by omega
          have n2 : (7 : Int) ≤ (i : Int) := by omega
          have n3 : (i : Int) < 80 := by omega
          have n4 : (i : Int) < 71 := by omega
          have n5 : ¬ ((i : Int) - 16 < 0) := by omega
          have n6 : ¬ ((i : Int) - 7 < 0) := by omega
          have e1 : ¬ i - 16 = i := by omega
          have e2 : ¬ i - 7 = i := by omega
          have e3 : ¬ i = i - 16 := by omega
          have e4 : ¬ i = i - 7 := by omega
          have HW := Lib.hid (sch_walk2 (spr_lt HX1.out i) i)
          have HSS := Lib.hid (show spr x (i + 1) = (spr x i).set i (sch (spr x i) i) from by rw [spr, if_neg (by omega)])
          go_wp2_with fail
          go_quiet (fail)
          go_wp2_with fail
          go_region_held3 (fun w' => w'.cell? ⟨w.heap.size + 1 + 1, i - 16, none⟩ = some (.int .u32 (at0 (spr x i) (i - 16) : Nat)) ∧ w'.cell? ⟨w.heap.size + 1 + 1, i - 7, none⟩ = some (.int .u32 (at0 (spr x i) (i - 7) : Nat))) (first | go_keep | exact ⟨(World.cell?_setCell_other _ _ _ _ (by intro h; injection h; omega)).trans y0, (World.cell?_setCell_other _ _ _ _ (by intro h; injection h; omega)).trans y2⟩)
            (first | (go_at_call 34; refine (rturnedZ _ _ _ (by decide) (by decide) (by assumption)).mono ?_; rintro e w' ⟨rfl, k, rfl⟩))
          go_wp2_with fail
          go_roundw
          case rel =>
            refine ⟨i + 1, by omega, by omega, by go_num, ?_⟩
            rw [HW.out, HSS.out]
            exact (HMA.out.drewN _).set i _
          case measure => simp [intOf]; omega
        · obtain rfl : i = 64 := by omega
          have HSP := Lib.hid (spr_len x 64)
          have HSP1 := Lib.hid (spr_lt HX1.out 64)
          have HMX := Lib.hid (mixL_rfold (was := m) x HM.out)
          generalize spr x 64 = sp at *
          go_wp2_with fail
          refine (rconst_any wr).mono ?_
          rintro e w1 ⟨rfl, hb1⟩
          have HMA1 := Lib.hid (HMA.out.kept hb1)
          have hs1 : w.heap.size + 3 ≤ w1.heap.size := (Array.getElem?_eq_some_iff.1 HMA1.out.2.2.1).1
          clear hb1 HMA
          go_wp2_with (first
            | ((with_reducible refine wl_storeL (ty := 64) w1.heap.size (wv KON) ?_ ?_ ?_ ?_ ?_ ?_ ?_); (· rfl); (· rfl); (· rfl); (· rw [wv_size, KON_len]; exact info49); (· rw [wv_size, wv_size, KON_len, zl_len]); (· exact wv_one _))
            | ((with_reducible refine wl_load (dst := 88) w.heap.size 42 (wv m) (0, 0) 8 41 Tryd.underlying42 ?_ ?_ ?_ ?_); (· rfl); (· exact (heap_prev _ _ _ (by omega)).trans HMA1.out.1); (· rw [wv_size, HM.out]; exact info8r))
            | ((with_reducible refine wl_storeL (ty := 42) (w1.heap.size + 1) (wv m) ?_ ?_ ?_ ?_ ?_ ?_ ?_); (· rfl); (· rfl); (· simp); (· rw [wv_size, HM.out]; exact info8r); (· rw [wv_size, wv_size, HM.out, zl_len]); (· exact wv_one _)))
          obtain ⟨c1, hc1⟩ : ∃ c1, c1 = w1.heap.size := ⟨_, rfl⟩
          rw [← hc1]
          have HMA2 := Lib.hid (HMA1.out.kept (((Below.refl _ _).alloc (Nat.le_refl _) (.cells (wv KON) 64)).alloc (by simp) (.cells (wv m) 42)))
          have HKO := Lib.hid (show ((w1.alloc (.cells (wv KON) 64)).alloc (.cells (wv m) 42)).heap[c1]? = some (.cells (wv KON) 64 (0, 0)) from (heap_prev _ _ _ (by simp [hc1])).trans (heap_last _ _ _ hc1))
          have HVV := Lib.hid (show ((w1.alloc (.cells (wv KON) 64)).alloc (.cells (wv m) 42)).heap[c1 + 1]? = some (.cells (wv m) 42 (0, 0)) from heap_last _ _ _ (by simp [hc1]))
          generalize (w1.alloc (.cells (wv KON) 64)).alloc (.cells (wv m) 42) = w2 at *
          rw [← hc1] at hs1
          clear hc1 HMA1
          go_loopw [13, 14, 15, 16, 17, 18, 19, 20, 21] (fun k _ _ _ _ _ _ _ _ wr => ∃ i : Nat, i ≤ 64 ∧ k = .int .i64 i ∧ MixAt w m (zl 8) sp wr ∧ wr.heap[c1]? = some (.cells (wv KON) 64 (0, 0)) ∧ wr.heap[c1 + 1]? = some (.cells (wv (rds KON sp m i)) 42 (0, 0))) (fun k _ _ _ _ _ _ _ _ _ => 64 - (intOf k).toNat)
          case atStart => exact ⟨0, Nat.zero_le _, rfl, HMA2.out, HKO.out, by rw [rds_zero]; exact HVV.out⟩
          case round =>
            clear HMA2 HKO HVV
            obtain ⟨i, hi3, rfl, hM, hK, hV⟩ := hrel
            have HMA := Lib.hid hM; clear hM
            have HKO := Lib.hid hK; clear hK
            have HVV := Lib.hid hV; clear hV
            by_cases h64 : i < 64
            · have HRL := Lib.hid (rds_len KON sp HM.out i)
              have HRT := Lib.hid (rds_lt KON sp HM1.out i)
              have HRS := Lib.hid (rds_succ KON sp m i)
              generalize rds KON sp m i = v at *
              have v0 : wr.cell? ⟨c1 + 1, 0, none⟩ = some (.int .u32 (at0 v 0 : Nat)) := (cell_of_row _ _ 0 _ _ _ HVV.out).trans (wv_get v 0 (by rw [HRL.out]; decide))
              have v1 : wr.cell? ⟨c1 + 1, 1, none⟩ = some (.int .u32 (at0 v 1 : Nat)) := (cell_of_row _ _ 1 _ _ _ HVV.out).trans (wv_get v 1 (by rw [HRL.out]; decide))
              have v2 : wr.cell? ⟨c1 + 1, 2, none⟩ = some (.int .u32 (at0 v 2 : Nat)) := (cell_of_row _ _ 2 _ _ _ HVV.out).trans (wv_get v 2 (by rw [HRL.out]; decide))
              have v3 : wr.cell? ⟨c1 + 1, 3, none⟩ = some (.int .u32 (at0 v 3 : Nat)) := (cell_of_row _ _ 3 _ _ _ HVV.out).trans (wv_get v 3 (by rw [HRL.out]; decide))
              have v4 : wr.cell? ⟨c1 + 1, 4, none⟩ = some (.int .u32 (at0 v 4 : Nat)) := (cell_of_row _ _ 4 _ _ _ HVV.out).trans (wv_get v 4 (by rw [HRL.out]; decide))
              have v5 : wr.cell? ⟨c1 + 1, 5, none⟩ = some (.int .u32 (at0 v 5 : Nat)) := (cell_of_row _ _ 5 _ _ _ HVV.out).trans (wv_get v 5 (by rw [HRL.out]; decide))
              have v6 : wr.cell? ⟨c1 + 1, 6, none⟩ = some (.int .u32 (at0 v 6 : Nat)) := (cell_of_row _ _ 6 _ _ _ HVV.out).trans (wv_get v 6 (by rw [HRL.out]; decide))
              have v7 : wr.cell? ⟨c1 + 1, 7, none⟩ = some (.int .u32 (at0 v 7 : Nat)) := (cell_of_row _ _ 7 _ _ _ HVV.out).trans (wv_get v 7 (by rw [HRL.out]; decide))
              have ki : wr.cell? ⟨c1, i, none⟩ = some (.int .u32 (at0 KON i : Nat)) := (cell_of_row _ _ i _ _ _ HKO.out).trans (wv_get KON i (by rw [KON_len]; exact h64))
              have si : wr.cell? ⟨w.heap.size + 1 + 1, i, none⟩ = some (.int .u32 (at0 sp i : Nat)) := (cell_of_row _ _ i _ _ _ HMA.out.2.2.1).trans (wv_get sp i (by rw [HSP.out]; exact h64))
              have l4 : at0 v 4 < M := HRT.out.getD (by decide) _
              have l0 : at0 v 0 < M := HRT.out.getD (by decide) _
              go_wp2_with fail
              go_quiet (fail)
              go_wp2_with fail
              go_quiet ((go_at_call 34; exact quiet2d (rturnedZ _ _ _ (by decide) (by decide) (by assumption))))
              go_wp2_with (first
                | (go_at_call 34; refine (rturnedZ _ _ _ (by decide) (by decide) (by assumption)).mono ?_; rintro e w' ⟨rfl, k, rfl⟩)
                | (with_reducible refine stp_build ?_))
              unfold Stp
              refine wl_build (wv (rnd (at0 KON i) (at0 sp i) v)) ?_ ?_
              · rw [← rnd_walk v _ _ HRT.out]
                simp only [List.map_toArray, List.map_cons, List.map_nil]
                exact built8 _ _ _ _ _ _ _ _
              go_wp2_with (first
                | ((with_reducible refine wl_store (ty := 42) (c1 + 1) 42 (wv v) (wv (rnd (at0 KON i) (at0 sp i) v)) ?_ ?_ ?_ ?_ ?_ ?_ ?_); (· rfl); (· rfl); (· exact HVV.out); (· rw [wv_size, rnd_len]; exact info8r); (· rw [wv_size, wv_size, rnd_len, HRL.out]); (· exact wv_one _)))
              go_roundw
              case rel =>
                rw [← HRS.out]
                exact ⟨i + 1, by omega, by go_num, (HMA.out.drewN _).setRow (by omega) _, (setRow_other _ _ _ _ (by omega)).trans HKO.out, setRow_heap _ _ _ _ _ _ HVV.out⟩
              case measure => simp [intOf]; omega
            · obtain rfl : i = 64 := by omega
              have HVL := Lib.hid (rds_len KON sp HM.out 64)
              have HVT := Lib.hid (rds_lt KON sp HM1.out 64)
              generalize rds KON sp m 64 = V at *
              go_wp2_with fail
              go_loopw [22] (fun k wr => ∃ i : Nat, i ≤ 8 ∧ k = .int .i64 i ∧ MixAt w (rfold m V i) (zl 8) sp wr ∧ wr.heap[c1 + 1]? = some (.cells (wv V) 42 (0, 0))) (fun k _ => 8 - (intOf k).toNat)
              case atStart => exact ⟨0, Nat.zero_le _, rfl, by rw [rfold_zero]; exact HMA.out, HVV.out⟩
              case round =>
                clear HMA HKO HVV
                obtain ⟨i, hi4, rfl, hM, hV⟩ := hrel
                have HMA := Lib.hid hM; clear hM
                have HVV := Lib.hid hV; clear hV
                by_cases h8 : i < 8
                · have HRF := Lib.hid (rfold_succ m V i)
                  have HRL := Lib.hid (show (rfold m V i).length = 8 by rw [rfold_len, HM.out])
                  have HRT := Lib.hid (rfold_lt V HM1.out i)
                  generalize rfold m V i = s at *
                  have x1 : wr.cell? ⟨w.heap.size, i, none⟩ = some (.int .u32 (at0 s i : Nat)) := (cell_of_row _ _ i _ _ _ HMA.out.1).trans (wv_get s i (by rw [HRL.out]; exact h8))
                  have x2 : wr.cell? ⟨c1 + 1, i, none⟩ = some (.int .u32 (at0 V i : Nat)) := (cell_of_row _ _ i _ _ _ HVV.out).trans (wv_get V i (by rw [HVL.out]; exact h8))
                  have f1 : wr.frozen? ⟨w.heap.size, i, none⟩ = false := frozen_of_row _ _ _ _ _ HMA.out.1
                  have HAD := Lib.hid (addm (at0 s i) (at0 V i))
                  go_wp2_with fail
                  go_region
                  go_wp2_with fail
                  go_roundw
                  case rel =>
                    go_light
                    rw [HAD.out]
                    refine ⟨i + 1, by omega, by go_num, ⟨?_, (heap_setCell_other _ _ _ _ (by show w.heap.size + 1 ≠ w.heap.size; omega)).trans HMA.out.2.1, (heap_setCell_other _ _ _ _ (by show w.heap.size + 1 + 1 ≠ w.heap.size; omega)).trans HMA.out.2.2.1, (HMA.out.2.2.2.setCell (Nat.le_refl _) _).drew⟩, (heap_setCell_other _ _ _ _ (by show c1 + 1 ≠ w.heap.size; omega)).trans HVV.out⟩
                    have := heap_setCell_same wr w.heap.size i _ _ (.int .u32 (((at0 s i + at0 V i) % M : Nat) : Int)) HMA.out.1
                    rw [wv_set, ← HRF.out] at this
                    exact this
                  case measure => simp [intOf]; omega
                · obtain rfl : i = 8 := by omega
                  rw [HMX.out] at HMA
                  have HXL := Lib.hid (mixL_len x HM.out)
                  go_wp2_with (first
                    | ((with_reducible refine wl_load (dst := 186) w.heap.size 42 (wv (mixL m x)) (0, 0) 8 41 Tryd.underlying42 ?_ ?_ ?_ ?_); (· rfl); (· exact HMA.out.1); (· rw [wv_size, HXL.out]; exact info8r))
                    | ((with_reducible refine wl_store (ty := 42) (w.heap.size + 1) 42 (wv (zl 8)) (wv (mixL m x)) ?_ ?_ ?_ ?_ ?_ ?_ ?_); (· rfl); (· rfl); (· exact HMA.out.2.1); (· rw [wv_size, HXL.out]; exact info8r); (· rw [wv_size, wv_size, HXL.out, zl_len]); (· exact wv_one _)))
                  refine ret_row Tryd.results25 (w.heap.size + 1) 42 (wv (mixL m x)) (0, 0) 8 41 Tryd.underlying42 rfl ?_ ?_ rfl ⟨rfl, ?_⟩
                  · exact setRow_heap _ _ _ _ _ _ HMA.out.2.1
                  · rw [wv_size, HXL.out]; exact info8r
                  · exact below_setRow' HMA.out.2.2.2 (by omega) _
end Go.Proofs.YthaaccbbegmhbaaDoor
