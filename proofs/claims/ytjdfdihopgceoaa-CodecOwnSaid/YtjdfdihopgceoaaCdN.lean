/- Contracts of number, of each type. (Written by tools/cd-num.py.) -/
import Derived.Test.YtjdfdihopgceoaaCdB
namespace Go.Proofs.Ytjdfdihopgceoaa.Cd
open Go.RowKit Go.Shelf Go.Dk Go.Jn Go.Cod

/-- what number does -/
def NumP (ec : Nat → Value) (m : Bool) (B wb rb T i n k v : Nat) (s : St) (cs : Array Value) (ty : TypeId) (w : World) (e : Ending) (w' : World) : Prop :=
  e = .returned (.tuple #[]) ∧ Wk m B wb rb NoX (n + k) (nuM m s k v).1 w' ∧ w'.heap[T]? = some (.cells (cs.setIfInBounds i (ec (nuM m s k v).2)) ty (0, 0)) ∧ Fr B (fun x => x = wb ∨ x = rb ∨ x = T) w w'
theorem put_be {w : World} {bk k a v : Nat} {x : Int} (h : BkB w bk (List.replicate (k - a) 0 ++ beL a v)) (ha : a < k) (hx : x = ((v / 256 ^ a % 256 : Nat) : Int)) :
    BkB (w.setCell ⟨bk, k - 1 - a, none⟩ (.int .u8 x)) bk (List.replicate (k - (a + 1)) 0 ++ beL (a + 1) v) := by
  have := h.put (i := k - 1 - a) (UInt8.ofNat (v / 256 ^ a % 256))
  rw [show (UInt8.ofNat (v / 256 ^ a % 256)).toNat = v / 256 ^ a % 256 by simp] at this
  rw [hx]
  rw [show k - a = k - 1 - a + 1 by omega, rep_set, show k - 1 - a = k - (a + 1) by omega] at this
  rw [show k - 1 - a = k - (a + 1) by omega]
  exact this
theorem put_be' {w : World} {bk k a v o : Nat} {x : Int} (h : BkB w bk (List.replicate (k - a) 0 ++ beL a v)) (ha : a < k) (ho : o = k - 1 - a) (hx : x = ((v / 256 ^ a % 256 : Nat) : Int)) :
    BkB (w.setCell ⟨bk, o, none⟩ (.int .u8 x)) bk (List.replicate (k - (a + 1)) 0 ++ beL (a + 1) v) := by subst ho; exact put_be h ha hx
theorem nat_sh (v a : Nat) : (v : Int) / 2 ^ (8 * a) % 256 = ((v / 256 ^ a % 256 : Nat) : Int) := by
  have e : (2 : Int) ^ (8 * a) = ((256 ^ a : Nat) : Int) := by
    rw [show (256 : Nat) = 2 ^ 8 by rfl, ← Nat.pow_mul]; simp
  rw [e]; rfl
set_option maxRecDepth 100000 in
set_option maxHeartbeats 1600000 in
theorem num_u64 {m : Bool} {B wb rb T i n k v : Nat} {s : St} {cs : Array Value} {ty : TypeId} {w : World} {x : Int} (h : Wk m B wb rb NoX n s w) (hT : w.heap[T]? = some (.cells cs ty (0, 0))) (hx : cs[i]? = some (.int .u64 x)) (hx0 : (0 : Int) ≤ x) (hx1 : x ≤ 18446744073709551615)
    (hxv : ∀ a : Nat, a < k → x / 2 ^ (8 * a) % 256 = ((v / 256 ^ a % 256 : Nat) : Int)) (hk : k ≤ 8) (hn : n + k ≤ 1000000) (ht : ty ≠ 5 ∧ ty ≠ 62 ∧ ty ≠ 78) (hBT : B ≤ T) (hB : B ≤ w.heap.size) :
    Calls Try.prog 51 #[pt wb, .pointer (some ⟨T, i, none⟩), .int .i64 (k : Int)] w (NumP (fun v => .int .u64 (v : Int)) m B wb rb T i n k v s cs ty w) := by
  have k0 : (0 : Int) ≤ (k : Int) := Int.natCast_nonneg _
  have k1 : (k : Int) ≤ 8 := by omega
  have hmk := mkB k (by omega) w
  obtain ⟨w1, hw1⟩ : ∃ w1, w.alloc (.cells (bc (List.replicate k 0)) 5) = w1 := ⟨_, rfl⟩
  rw [hw1] at hmk
  have hb1 : BkB w1 w.heap.size (List.replicate k 0) := by rw [← hw1]; exact heap_last _ _ _ rfl
  have hbl : Below w.heap.size w w1 := by rw [← hw1]; exact (Below.refl _ _).alloc (Nat.le_refl _) _
  have hW1 := (h.later hB hbl).le (Nat.le_refl n) (X' := (· = w.heap.size)) (fun x e => .inr (by rw [e]; exact Nat.le_refl _))
  have hT1 := (hbl.block T (lt_of_heap hT)).trans hT
  have hTl := lt_of_heap hT
  have hil : i < cs.size := (Array.getElem?_eq_some_iff.1 hx).1
  have hf1 : Fr B (fun x => x = wb ∨ x = rb ∨ x = T) w w1 := Fr.ofBelow hbl hB
  have H1 := Lib.hid hb1
  have H2 := Lib.hid hW1
  have H3 := Lib.hid hT1
  have H4 := Lib.hid hf1
  have HX := Lib.hid hx
  have HV := Lib.hid hxv
  have HTl := Lib.hid hTl
  have HBB := Lib.hid hB
  have HIL := Lib.hid hil
  have HTY := Lib.hid ht
  clear hb1 hbl hW1 hT1 hf1 hw1 h hT hx hxv hTl hil ht
  go_enter Try.func51, Try.ntmps51
  go_wp2_with fail
  clear hmk
  go_loopw [15] (fun i1 wr => ∃ a : Nat, a ≤ k ∧ i1 = .int .i64 (a : Int) ∧ Hid (BkB wr w.heap.size (List.replicate (k - a) 0 ++ beL a v)) ∧ Hid (Wk m B wb rb (· = w.heap.size) n s wr) ∧ Hid (wr.heap[T]? = some (.cells cs ty (0, 0))) ∧ Hid (Fr B (fun x => x = wb ∨ x = rb ∨ x = T) w wr)) (fun i1 _ => k - (vI i1).toNat)
  case atStart => exact ⟨0, Nat.zero_le _, rfl, Lib.hid (by simpa [beL] using H1.out), H2, H3, H4⟩
  case round =>
    obtain ⟨a, ha, rfl, G1, G2, G3, G4⟩ := hrel
    have a0 : (0 : Int) ≤ (a : Int) := Int.natCast_nonneg _
    by_cases hlt : (a : Int) < (k : Int)
    · have cx := cell_of_arr G3.out i
      rw [HX.out] at cx
      have hll : (List.replicate (k - a) (0 : UInt8) ++ beL a v).length = k := by rw [List.length_append, List.length_replicate, beL_len]; omega
      obtain ⟨c, cc⟩ : ∃ c, wr.cell? ⟨w.heap.size, k - 1 - a, none⟩ = some (.int .u8 c) := ⟨_, (G1.out.cell (i := k - 1 - a) (by rw [hll]; omega)).1⟩
      have cf := (G1.out.cell (i := k - 1 - a) (by rw [hll]; omega)).2
      clear hll
      have e1 : (k : Int) - 1 - (a : Int) = ((k - 1 - a : Nat) : Int) := by omega
      go_wp2
      go_roundw
      case rel =>
        refine ⟨a + 1, by omega, by first | rfl | (congr 1), Lib.hid (put_be' G1.out (by omega) (by omega) ?_), ?_, ?_, ?_⟩
        · have hva := HV.out a (by omega)
          rw [← hva]
        · exact Lib.hid (G2.out.set (p := ⟨w.heap.size, _, none⟩) hB _ G1.out (by decide) (fun _ => rfl))
        · exact Lib.hid ((Below.heap_setCell _ _ _ _ (show T ≠ w.heap.size from Nat.ne_of_lt HTl.out)).trans G3.out)
        · exact Lib.hid (G4.out.set8 (p := ⟨w.heap.size, _, none⟩) G1.out hB _)
      case measure => simp [vI]; omega
    · obtain rfl : a = k := by omega
      have hbk : BkB wr w.heap.size (beL a v) := by simpa using G1.out
      have HC := Lib.hid (bytes_any G2.out hbk (by rw [beL_len]; omega) hB (Nat.le_trans hB G4.out.size))
      rw [beL_len] at HC
      clear hbk
      go_wp2_with fail
      refine (HC.out).mono ?_
      rintro e w2 ⟨rfl, hW2, hb2, hf2⟩
      have hT2 := hf2.keep T _ _ _ G3.out HTY.out.1 (G2.out.neT G3.out HTY.out.2)
      have hlb : (byM m s (beL a v)).2.length = a := by rw [byM_len, beL_len]
      have hf3 : Fr B (fun x => x = wb ∨ x = rb ∨ x = T) w w2 := G4.out.trans (hf2.mono (fun x _ e => e.elim .inl (fun e => .inr (.inl e))))
      rw [beL_len] at hW2
      obtain ⟨bb, hbb⟩ : ∃ bb, (byM m s (beL a v)).2 = bb := ⟨_, rfl⟩
      have hfin : (nuM m s a v).2 = valB bb := by rw [← hbb]; rfl
      rw [hbb] at hb2 hlb
      have F1 := Lib.hid hW2
      have F2 := Lib.hid hb2
      have F3 := Lib.hid hT2
      have F4 := Lib.hid hf3
      have F5 := Lib.hid hlb
      have F6 := Lib.hid hfin
      clear hW2 hb2 hT2 hf3 hf2 hlb hbb hfin HC
      go_wp2_with fail
      go_loopw [8, 37] (fun nn ii wr' => ∃ c y : Nat, c ≤ a ∧ ii = .int .i64 (c : Int) ∧ nn = .int .u64 (y : Int) ∧ Hid (y = valB (bb.take c)) ∧ w2 = wr') (fun _ ii _ => a - (vI ii).toNat)
      case atStart => exact ⟨0, 0, Nat.zero_le _, rfl, rfl, Lib.hid (by simp [valB]), rfl⟩
      case round =>
        obtain ⟨c, y, hc, rfl, rfl, hy, rfl⟩ := hrel
        have c0 : (0 : Int) ≤ (c : Int) := Int.natCast_nonneg _
        by_cases hlt2 : (c : Int) < (a : Int)
        · have hcl : c < bb.length := by rw [F5.out]; omega
          have cc := (F2.out.cell hcl).1
          have hm2 := valB_lt (bb.take c)
          have htl : (bb.take c).length = c := by rw [List.length_take]; omega
          rw [← hy.out, htl] at hm2
          have hm3 : y < 72057594037927936 := Nat.lt_of_lt_of_le hm2 (show 256 ^ c ≤ 256 ^ 7 from Nat.pow_le_pow_right (by omega) (by omega))
          have HOR := Lib.hid (or_byte y bb[c] hm3)
          have HY : valB (bb.take (c + 1)) = y * 256 + (bb[c]).toNat := by rw [List.take_succ_eq_append_getElem hcl, valB_snoc, ← hy.out]
          have HY2 := Lib.hid HY
          clear hm2 htl HY hm3
          generalize bb[c] = u at *
          go_wp2
          go_roundw
          case rel =>
            refine ⟨c + 1, y * 256 + u.toNat, by omega, by go_num, by rw [← HOR.out], Lib.hid HY2.out.symm, trivial⟩
          case measure => simp [vI]; omega
        · obtain rfl : c = a := by omega
          have cx := cell_of_arr F3.out i
          rw [HX.out] at cx
          have cf := froz_of_arr F3.out i
          have hyy : y = (nuM m s c v).2 := by rw [F6.out, hy.out, List.take_of_length_le (by rw [F5.out]; exact Nat.le_refl _)]
          have HYY := Lib.hid hyy
          clear hyy
          go_wp2
          go_end0
          refine ⟨rfl, ?_, ?_, F4.out.setK (p := ⟨T, i, none⟩) (.inr (.inr rfl)) hBT _⟩
          · exact ((F1.out.le (Nat.le_refl _) (X' := NoX) (fun _ e => e.elim)).set (p := ⟨T, i, none⟩) hBT _ F3.out HTY.out.2 (fun e => absurd e HTY.out.1))
          · rw [set_heap F3.out, ← HYY.out]
set_option maxRecDepth 100000 in
set_option maxHeartbeats 1600000 in
theorem num_i64 {m : Bool} {B wb rb T i n k v : Nat} {s : St} {cs : Array Value} {ty : TypeId} {w : World} {x : Int} (h : Wk m B wb rb NoX n s w) (hT : w.heap[T]? = some (.cells cs ty (0, 0))) (hx : cs[i]? = some (.int .i64 x)) (hx0 : (-9223372036854775808 : Int) ≤ x) (hx1 : x ≤ 9223372036854775807)
    (hxv : ∀ a : Nat, a < k → x / 2 ^ (8 * a) % 256 = ((v / 256 ^ a % 256 : Nat) : Int)) (hk : k ≤ 8) (hn : n + k ≤ 1000000) (ht : ty ≠ 5 ∧ ty ≠ 62 ∧ ty ≠ 78) (hBT : B ≤ T) (hB : B ≤ w.heap.size) :
    Calls Try.prog 49 #[pt wb, .pointer (some ⟨T, i, none⟩), .int .i64 (k : Int)] w (NumP (fun v => .int .i64 (wrap64 (v : Int))) m B wb rb T i n k v s cs ty w) := by
  have k0 : (0 : Int) ≤ (k : Int) := Int.natCast_nonneg _
  have k1 : (k : Int) ≤ 8 := by omega
  have hmk := mkB k (by omega) w
  obtain ⟨w1, hw1⟩ : ∃ w1, w.alloc (.cells (bc (List.replicate k 0)) 5) = w1 := ⟨_, rfl⟩
  rw [hw1] at hmk
  have hb1 : BkB w1 w.heap.size (List.replicate k 0) := by rw [← hw1]; exact heap_last _ _ _ rfl
  have hbl : Below w.heap.size w w1 := by rw [← hw1]; exact (Below.refl _ _).alloc (Nat.le_refl _) _
  have hW1 := (h.later hB hbl).le (Nat.le_refl n) (X' := (· = w.heap.size)) (fun x e => .inr (by rw [e]; exact Nat.le_refl _))
  have hT1 := (hbl.block T (lt_of_heap hT)).trans hT
  have hTl := lt_of_heap hT
  have hil : i < cs.size := (Array.getElem?_eq_some_iff.1 hx).1
  have hf1 : Fr B (fun x => x = wb ∨ x = rb ∨ x = T) w w1 := Fr.ofBelow hbl hB
  have H1 := Lib.hid hb1
  have H2 := Lib.hid hW1
  have H3 := Lib.hid hT1
  have H4 := Lib.hid hf1
  have HX := Lib.hid hx
  have HV := Lib.hid hxv
  have HTl := Lib.hid hTl
  have HBB := Lib.hid hB
  have HIL := Lib.hid hil
  have HTY := Lib.hid ht
  clear hb1 hbl hW1 hT1 hf1 hw1 h hT hx hxv hTl hil ht
  go_enter Try.func49, Try.ntmps49
  go_wp2_with fail
  clear hmk
  go_loopw [15] (fun i1 wr => ∃ a : Nat, a ≤ k ∧ i1 = .int .i64 (a : Int) ∧ Hid (BkB wr w.heap.size (List.replicate (k - a) 0 ++ beL a v)) ∧ Hid (Wk m B wb rb (· = w.heap.size) n s wr) ∧ Hid (wr.heap[T]? = some (.cells cs ty (0, 0))) ∧ Hid (Fr B (fun x => x = wb ∨ x = rb ∨ x = T) w wr)) (fun i1 _ => k - (vI i1).toNat)
  case atStart => exact ⟨0, Nat.zero_le _, rfl, Lib.hid (by simpa [beL] using H1.out), H2, H3, H4⟩
  case round =>
    obtain ⟨a, ha, rfl, G1, G2, G3, G4⟩ := hrel
    have a0 : (0 : Int) ≤ (a : Int) := Int.natCast_nonneg _
    by_cases hlt : (a : Int) < (k : Int)
    · have cx := cell_of_arr G3.out i
      rw [HX.out] at cx
      have hll : (List.replicate (k - a) (0 : UInt8) ++ beL a v).length = k := by rw [List.length_append, List.length_replicate, beL_len]; omega
      obtain ⟨c, cc⟩ : ∃ c, wr.cell? ⟨w.heap.size, k - 1 - a, none⟩ = some (.int .u8 c) := ⟨_, (G1.out.cell (i := k - 1 - a) (by rw [hll]; omega)).1⟩
      have cf := (G1.out.cell (i := k - 1 - a) (by rw [hll]; omega)).2
      clear hll
      have e1 : (k : Int) - 1 - (a : Int) = ((k - 1 - a : Nat) : Int) := by omega
      go_wp2
      go_roundw
      case rel =>
        refine ⟨a + 1, by omega, by first | rfl | (congr 1), Lib.hid (put_be' G1.out (by omega) (by omega) ?_), ?_, ?_, ?_⟩
        · have hva := HV.out a (by omega)
          rw [← hva]
        · exact Lib.hid (G2.out.set (p := ⟨w.heap.size, _, none⟩) hB _ G1.out (by decide) (fun _ => rfl))
        · exact Lib.hid ((Below.heap_setCell _ _ _ _ (show T ≠ w.heap.size from Nat.ne_of_lt HTl.out)).trans G3.out)
        · exact Lib.hid (G4.out.set8 (p := ⟨w.heap.size, _, none⟩) G1.out hB _)
      case measure => simp [vI]; omega
    · obtain rfl : a = k := by omega
      have hbk : BkB wr w.heap.size (beL a v) := by simpa using G1.out
      have HC := Lib.hid (bytes_any G2.out hbk (by rw [beL_len]; omega) hB (Nat.le_trans hB G4.out.size))
      rw [beL_len] at HC
      clear hbk
      go_wp2_with fail
      refine (HC.out).mono ?_
      rintro e w2 ⟨rfl, hW2, hb2, hf2⟩
      have hT2 := hf2.keep T _ _ _ G3.out HTY.out.1 (G2.out.neT G3.out HTY.out.2)
      have hlb : (byM m s (beL a v)).2.length = a := by rw [byM_len, beL_len]
      have hf3 : Fr B (fun x => x = wb ∨ x = rb ∨ x = T) w w2 := G4.out.trans (hf2.mono (fun x _ e => e.elim .inl (fun e => .inr (.inl e))))
      rw [beL_len] at hW2
      obtain ⟨bb, hbb⟩ : ∃ bb, (byM m s (beL a v)).2 = bb := ⟨_, rfl⟩
      have hfin : (nuM m s a v).2 = valB bb := by rw [← hbb]; rfl
      rw [hbb] at hb2 hlb
      have F1 := Lib.hid hW2
      have F2 := Lib.hid hb2
      have F3 := Lib.hid hT2
      have F4 := Lib.hid hf3
      have F5 := Lib.hid hlb
      have F6 := Lib.hid hfin
      clear hW2 hb2 hT2 hf3 hf2 hlb hbb hfin HC
      go_wp2_with fail
      go_loopw [8, 37] (fun nn ii wr' => ∃ c y : Nat, c ≤ a ∧ ii = .int .i64 (c : Int) ∧ nn = .int .u64 (y : Int) ∧ Hid (y = valB (bb.take c)) ∧ w2 = wr') (fun _ ii _ => a - (vI ii).toNat)
      case atStart => exact ⟨0, 0, Nat.zero_le _, rfl, rfl, Lib.hid (by simp [valB]), rfl⟩
      case round =>
        obtain ⟨c, y, hc, rfl, rfl, hy, rfl⟩ := hrel
        have c0 : (0 : Int) ≤ (c : Int) := Int.natCast_nonneg _
        by_cases hlt2 : (c : Int) < (a : Int)
        · have hcl : c < bb.length := by rw [F5.out]; omega
          have cc := (F2.out.cell hcl).1
          have hm2 := valB_lt (bb.take c)
          have htl : (bb.take c).length = c := by rw [List.length_take]; omega
          rw [← hy.out, htl] at hm2
          have hm3 : y < 72057594037927936 := Nat.lt_of_lt_of_le hm2 (show 256 ^ c ≤ 256 ^ 7 from Nat.pow_le_pow_right (by omega) (by omega))
          have HOR := Lib.hid (or_byte y bb[c] hm3)
          have HY : valB (bb.take (c + 1)) = y * 256 + (bb[c]).toNat := by rw [List.take_succ_eq_append_getElem hcl, valB_snoc, ← hy.out]
          have HY2 := Lib.hid HY
          clear hm2 htl HY hm3
          generalize bb[c] = u at *
          go_wp2
          go_roundw
          case rel =>
            refine ⟨c + 1, y * 256 + u.toNat, by omega, by go_num, by rw [← HOR.out], Lib.hid HY2.out.symm, trivial⟩
          case measure => simp [vI]; omega
        · obtain rfl : c = a := by omega
          have cx := cell_of_arr F3.out i
          rw [HX.out] at cx
          have cf := froz_of_arr F3.out i
          have hyy : y = (nuM m s c v).2 := by rw [F6.out, hy.out, List.take_of_length_le (by rw [F5.out]; exact Nat.le_refl _)]
          have HYY := Lib.hid hyy
          clear hyy
          go_wp2
          go_end0
          refine ⟨rfl, ?_, ?_, F4.out.setK (p := ⟨T, i, none⟩) (.inr (.inr rfl)) hBT _⟩
          · exact ((F1.out.le (Nat.le_refl _) (X' := NoX) (fun _ e => e.elim)).set (p := ⟨T, i, none⟩) hBT _ F3.out HTY.out.2 (fun e => absurd e HTY.out.1))
          · rw [set_heap F3.out, ← HYY.out]
set_option maxRecDepth 100000 in
set_option maxHeartbeats 1600000 in
theorem num_err {m : Bool} {B wb rb T i n k v : Nat} {s : St} {cs : Array Value} {ty : TypeId} {w : World} {x : Int} (h : Wk m B wb rb NoX n s w) (hT : w.heap[T]? = some (.cells cs ty (0, 0))) (hx : cs[i]? = some (.int .i64 x)) (hx0 : (-9223372036854775808 : Int) ≤ x) (hx1 : x ≤ 9223372036854775807)
    (hxv : ∀ a : Nat, a < k → x / 2 ^ (8 * a) % 256 = ((v / 256 ^ a % 256 : Nat) : Int)) (hk : k ≤ 8) (hn : n + k ≤ 1000000) (ht : ty ≠ 5 ∧ ty ≠ 62 ∧ ty ≠ 78) (hBT : B ≤ T) (hB : B ≤ w.heap.size) :
    Calls Try.prog 53 #[pt wb, .pointer (some ⟨T, i, none⟩), .int .i64 (k : Int)] w (NumP (fun v => .int .i64 (wrap64 (v : Int))) m B wb rb T i n k v s cs ty w) := by
  have k0 : (0 : Int) ≤ (k : Int) := Int.natCast_nonneg _
  have k1 : (k : Int) ≤ 8 := by omega
  have hmk := mkB k (by omega) w
  obtain ⟨w1, hw1⟩ : ∃ w1, w.alloc (.cells (bc (List.replicate k 0)) 5) = w1 := ⟨_, rfl⟩
  rw [hw1] at hmk
  have hb1 : BkB w1 w.heap.size (List.replicate k 0) := by rw [← hw1]; exact heap_last _ _ _ rfl
  have hbl : Below w.heap.size w w1 := by rw [← hw1]; exact (Below.refl _ _).alloc (Nat.le_refl _) _
  have hW1 := (h.later hB hbl).le (Nat.le_refl n) (X' := (· = w.heap.size)) (fun x e => .inr (by rw [e]; exact Nat.le_refl _))
  have hT1 := (hbl.block T (lt_of_heap hT)).trans hT
  have hTl := lt_of_heap hT
  have hil : i < cs.size := (Array.getElem?_eq_some_iff.1 hx).1
  have hf1 : Fr B (fun x => x = wb ∨ x = rb ∨ x = T) w w1 := Fr.ofBelow hbl hB
  have H1 := Lib.hid hb1
  have H2 := Lib.hid hW1
  have H3 := Lib.hid hT1
  have H4 := Lib.hid hf1
  have HX := Lib.hid hx
  have HV := Lib.hid hxv
  have HTl := Lib.hid hTl
  have HBB := Lib.hid hB
  have HIL := Lib.hid hil
  have HTY := Lib.hid ht
  clear hb1 hbl hW1 hT1 hf1 hw1 h hT hx hxv hTl hil ht
  go_enter Try.func53, Try.ntmps53
  go_wp2_with fail
  clear hmk
  go_loopw [15] (fun i1 wr => ∃ a : Nat, a ≤ k ∧ i1 = .int .i64 (a : Int) ∧ Hid (BkB wr w.heap.size (List.replicate (k - a) 0 ++ beL a v)) ∧ Hid (Wk m B wb rb (· = w.heap.size) n s wr) ∧ Hid (wr.heap[T]? = some (.cells cs ty (0, 0))) ∧ Hid (Fr B (fun x => x = wb ∨ x = rb ∨ x = T) w wr)) (fun i1 _ => k - (vI i1).toNat)
  case atStart => exact ⟨0, Nat.zero_le _, rfl, Lib.hid (by simpa [beL] using H1.out), H2, H3, H4⟩
  case round =>
    obtain ⟨a, ha, rfl, G1, G2, G3, G4⟩ := hrel
    have a0 : (0 : Int) ≤ (a : Int) := Int.natCast_nonneg _
    by_cases hlt : (a : Int) < (k : Int)
    · have cx := cell_of_arr G3.out i
      rw [HX.out] at cx
      have hll : (List.replicate (k - a) (0 : UInt8) ++ beL a v).length = k := by rw [List.length_append, List.length_replicate, beL_len]; omega
      obtain ⟨c, cc⟩ : ∃ c, wr.cell? ⟨w.heap.size, k - 1 - a, none⟩ = some (.int .u8 c) := ⟨_, (G1.out.cell (i := k - 1 - a) (by rw [hll]; omega)).1⟩
      have cf := (G1.out.cell (i := k - 1 - a) (by rw [hll]; omega)).2
      clear hll
      have e1 : (k : Int) - 1 - (a : Int) = ((k - 1 - a : Nat) : Int) := by omega
      go_wp2
      go_roundw
      case rel =>
        refine ⟨a + 1, by omega, by first | rfl | (congr 1), Lib.hid (put_be' G1.out (by omega) (by omega) ?_), ?_, ?_, ?_⟩
        · have hva := HV.out a (by omega)
          rw [← hva]
        · exact Lib.hid (G2.out.set (p := ⟨w.heap.size, _, none⟩) hB _ G1.out (by decide) (fun _ => rfl))
        · exact Lib.hid ((Below.heap_setCell _ _ _ _ (show T ≠ w.heap.size from Nat.ne_of_lt HTl.out)).trans G3.out)
        · exact Lib.hid (G4.out.set8 (p := ⟨w.heap.size, _, none⟩) G1.out hB _)
      case measure => simp [vI]; omega
    · obtain rfl : a = k := by omega
      have hbk : BkB wr w.heap.size (beL a v) := by simpa using G1.out
      have HC := Lib.hid (bytes_any G2.out hbk (by rw [beL_len]; omega) hB (Nat.le_trans hB G4.out.size))
      rw [beL_len] at HC
      clear hbk
      go_wp2_with fail
      refine (HC.out).mono ?_
      rintro e w2 ⟨rfl, hW2, hb2, hf2⟩
      have hT2 := hf2.keep T _ _ _ G3.out HTY.out.1 (G2.out.neT G3.out HTY.out.2)
      have hlb : (byM m s (beL a v)).2.length = a := by rw [byM_len, beL_len]
      have hf3 : Fr B (fun x => x = wb ∨ x = rb ∨ x = T) w w2 := G4.out.trans (hf2.mono (fun x _ e => e.elim .inl (fun e => .inr (.inl e))))
      rw [beL_len] at hW2
      obtain ⟨bb, hbb⟩ : ∃ bb, (byM m s (beL a v)).2 = bb := ⟨_, rfl⟩
      have hfin : (nuM m s a v).2 = valB bb := by rw [← hbb]; rfl
      rw [hbb] at hb2 hlb
      have F1 := Lib.hid hW2
      have F2 := Lib.hid hb2
      have F3 := Lib.hid hT2
      have F4 := Lib.hid hf3
      have F5 := Lib.hid hlb
      have F6 := Lib.hid hfin
      clear hW2 hb2 hT2 hf3 hf2 hlb hbb hfin HC
      go_wp2_with fail
      go_loopw [8, 37] (fun nn ii wr' => ∃ c y : Nat, c ≤ a ∧ ii = .int .i64 (c : Int) ∧ nn = .int .u64 (y : Int) ∧ Hid (y = valB (bb.take c)) ∧ w2 = wr') (fun _ ii _ => a - (vI ii).toNat)
      case atStart => exact ⟨0, 0, Nat.zero_le _, rfl, rfl, Lib.hid (by simp [valB]), rfl⟩
      case round =>
        obtain ⟨c, y, hc, rfl, rfl, hy, rfl⟩ := hrel
        have c0 : (0 : Int) ≤ (c : Int) := Int.natCast_nonneg _
        by_cases hlt2 : (c : Int) < (a : Int)
        · have hcl : c < bb.length := by rw [F5.out]; omega
          have cc := (F2.out.cell hcl).1
          have hm2 := valB_lt (bb.take c)
          have htl : (bb.take c).length = c := by rw [List.length_take]; omega
          rw [← hy.out, htl] at hm2
          have hm3 : y < 72057594037927936 := Nat.lt_of_lt_of_le hm2 (show 256 ^ c ≤ 256 ^ 7 from Nat.pow_le_pow_right (by omega) (by omega))
          have HOR := Lib.hid (or_byte y bb[c] hm3)
          have HY : valB (bb.take (c + 1)) = y * 256 + (bb[c]).toNat := by rw [List.take_succ_eq_append_getElem hcl, valB_snoc, ← hy.out]
          have HY2 := Lib.hid HY
          clear hm2 htl HY hm3
          generalize bb[c] = u at *
          go_wp2
          go_roundw
          case rel =>
            refine ⟨c + 1, y * 256 + u.toNat, by omega, by go_num, by rw [← HOR.out], Lib.hid HY2.out.symm, trivial⟩
          case measure => simp [vI]; omega
        · obtain rfl : c = a := by omega
          have cx := cell_of_arr F3.out i
          rw [HX.out] at cx
          have cf := froz_of_arr F3.out i
          have hyy : y = (nuM m s c v).2 := by rw [F6.out, hy.out, List.take_of_length_le (by rw [F5.out]; exact Nat.le_refl _)]
          have HYY := Lib.hid hyy
          clear hyy
          go_wp2
          go_end0
          refine ⟨rfl, ?_, ?_, F4.out.setK (p := ⟨T, i, none⟩) (.inr (.inr rfl)) hBT _⟩
          · exact ((F1.out.le (Nat.le_refl _) (X' := NoX) (fun _ e => e.elim)).set (p := ⟨T, i, none⟩) hBT _ F3.out HTY.out.2 (fun e => absurd e HTY.out.1))
          · rw [set_heap F3.out, ← HYY.out]
set_option maxRecDepth 100000 in
set_option maxHeartbeats 1600000 in
theorem num_int {m : Bool} {B wb rb T i n k v : Nat} {s : St} {cs : Array Value} {ty : TypeId} {w : World} {x : Int} (h : Wk m B wb rb NoX n s w) (hT : w.heap[T]? = some (.cells cs ty (0, 0))) (hx : cs[i]? = some (.int .i64 x)) (hx0 : (-9223372036854775808 : Int) ≤ x) (hx1 : x ≤ 9223372036854775807)
    (hxv : ∀ a : Nat, a < k → x / 2 ^ (8 * a) % 256 = ((v / 256 ^ a % 256 : Nat) : Int)) (hk : k ≤ 8) (hn : n + k ≤ 1000000) (ht : ty ≠ 5 ∧ ty ≠ 62 ∧ ty ≠ 78) (hBT : B ≤ T) (hB : B ≤ w.heap.size) :
    Calls Try.prog 65 #[pt wb, .pointer (some ⟨T, i, none⟩), .int .i64 (k : Int)] w (NumP (fun v => .int .i64 (wrap64 (v : Int))) m B wb rb T i n k v s cs ty w) := by
  have k0 : (0 : Int) ≤ (k : Int) := Int.natCast_nonneg _
  have k1 : (k : Int) ≤ 8 := by omega
  have hmk := mkB k (by omega) w
  obtain ⟨w1, hw1⟩ : ∃ w1, w.alloc (.cells (bc (List.replicate k 0)) 5) = w1 := ⟨_, rfl⟩
  rw [hw1] at hmk
  have hb1 : BkB w1 w.heap.size (List.replicate k 0) := by rw [← hw1]; exact heap_last _ _ _ rfl
  have hbl : Below w.heap.size w w1 := by rw [← hw1]; exact (Below.refl _ _).alloc (Nat.le_refl _) _
  have hW1 := (h.later hB hbl).le (Nat.le_refl n) (X' := (· = w.heap.size)) (fun x e => .inr (by rw [e]; exact Nat.le_refl _))
  have hT1 := (hbl.block T (lt_of_heap hT)).trans hT
  have hTl := lt_of_heap hT
  have hil : i < cs.size := (Array.getElem?_eq_some_iff.1 hx).1
  have hf1 : Fr B (fun x => x = wb ∨ x = rb ∨ x = T) w w1 := Fr.ofBelow hbl hB
  have H1 := Lib.hid hb1
  have H2 := Lib.hid hW1
  have H3 := Lib.hid hT1
  have H4 := Lib.hid hf1
  have HX := Lib.hid hx
  have HV := Lib.hid hxv
  have HTl := Lib.hid hTl
  have HBB := Lib.hid hB
  have HIL := Lib.hid hil
  have HTY := Lib.hid ht
  clear hb1 hbl hW1 hT1 hf1 hw1 h hT hx hxv hTl hil ht
  go_enter Try.func65, Try.ntmps65
  go_wp2_with fail
  clear hmk
  go_loopw [15] (fun i1 wr => ∃ a : Nat, a ≤ k ∧ i1 = .int .i64 (a : Int) ∧ Hid (BkB wr w.heap.size (List.replicate (k - a) 0 ++ beL a v)) ∧ Hid (Wk m B wb rb (· = w.heap.size) n s wr) ∧ Hid (wr.heap[T]? = some (.cells cs ty (0, 0))) ∧ Hid (Fr B (fun x => x = wb ∨ x = rb ∨ x = T) w wr)) (fun i1 _ => k - (vI i1).toNat)
  case atStart => exact ⟨0, Nat.zero_le _, rfl, Lib.hid (by simpa [beL] using H1.out), H2, H3, H4⟩
  case round =>
    obtain ⟨a, ha, rfl, G1, G2, G3, G4⟩ := hrel
    have a0 : (0 : Int) ≤ (a : Int) := Int.natCast_nonneg _
    by_cases hlt : (a : Int) < (k : Int)
    · have cx := cell_of_arr G3.out i
      rw [HX.out] at cx
      have hll : (List.replicate (k - a) (0 : UInt8) ++ beL a v).length = k := by rw [List.length_append, List.length_replicate, beL_len]; omega
      obtain ⟨c, cc⟩ : ∃ c, wr.cell? ⟨w.heap.size, k - 1 - a, none⟩ = some (.int .u8 c) := ⟨_, (G1.out.cell (i := k - 1 - a) (by rw [hll]; omega)).1⟩
      have cf := (G1.out.cell (i := k - 1 - a) (by rw [hll]; omega)).2
      clear hll
      have e1 : (k : Int) - 1 - (a : Int) = ((k - 1 - a : Nat) : Int) := by omega
      go_wp2
      go_roundw
      case rel =>
        refine ⟨a + 1, by omega, by first | rfl | (congr 1), Lib.hid (put_be' G1.out (by omega) (by omega) ?_), ?_, ?_, ?_⟩
        · have hva := HV.out a (by omega)
          rw [← hva]
        · exact Lib.hid (G2.out.set (p := ⟨w.heap.size, _, none⟩) hB _ G1.out (by decide) (fun _ => rfl))
        · exact Lib.hid ((Below.heap_setCell _ _ _ _ (show T ≠ w.heap.size from Nat.ne_of_lt HTl.out)).trans G3.out)
        · exact Lib.hid (G4.out.set8 (p := ⟨w.heap.size, _, none⟩) G1.out hB _)
      case measure => simp [vI]; omega
    · obtain rfl : a = k := by omega
      have hbk : BkB wr w.heap.size (beL a v) := by simpa using G1.out
      have HC := Lib.hid (bytes_any G2.out hbk (by rw [beL_len]; omega) hB (Nat.le_trans hB G4.out.size))
      rw [beL_len] at HC
      clear hbk
      go_wp2_with fail
      refine (HC.out).mono ?_
      rintro e w2 ⟨rfl, hW2, hb2, hf2⟩
      have hT2 := hf2.keep T _ _ _ G3.out HTY.out.1 (G2.out.neT G3.out HTY.out.2)
      have hlb : (byM m s (beL a v)).2.length = a := by rw [byM_len, beL_len]
      have hf3 : Fr B (fun x => x = wb ∨ x = rb ∨ x = T) w w2 := G4.out.trans (hf2.mono (fun x _ e => e.elim .inl (fun e => .inr (.inl e))))
      rw [beL_len] at hW2
      obtain ⟨bb, hbb⟩ : ∃ bb, (byM m s (beL a v)).2 = bb := ⟨_, rfl⟩
      have hfin : (nuM m s a v).2 = valB bb := by rw [← hbb]; rfl
      rw [hbb] at hb2 hlb
      have F1 := Lib.hid hW2
      have F2 := Lib.hid hb2
      have F3 := Lib.hid hT2
      have F4 := Lib.hid hf3
      have F5 := Lib.hid hlb
      have F6 := Lib.hid hfin
      clear hW2 hb2 hT2 hf3 hf2 hlb hbb hfin HC
      go_wp2_with fail
      go_loopw [8, 37] (fun nn ii wr' => ∃ c y : Nat, c ≤ a ∧ ii = .int .i64 (c : Int) ∧ nn = .int .u64 (y : Int) ∧ Hid (y = valB (bb.take c)) ∧ w2 = wr') (fun _ ii _ => a - (vI ii).toNat)
      case atStart => exact ⟨0, 0, Nat.zero_le _, rfl, rfl, Lib.hid (by simp [valB]), rfl⟩
      case round =>
        obtain ⟨c, y, hc, rfl, rfl, hy, rfl⟩ := hrel
        have c0 : (0 : Int) ≤ (c : Int) := Int.natCast_nonneg _
        by_cases hlt2 : (c : Int) < (a : Int)
        · have hcl : c < bb.length := by rw [F5.out]; omega
          have cc := (F2.out.cell hcl).1
          have hm2 := valB_lt (bb.take c)
          have htl : (bb.take c).length = c := by rw [List.length_take]; omega
          rw [← hy.out, htl] at hm2
          have hm3 : y < 72057594037927936 := Nat.lt_of_lt_of_le hm2 (show 256 ^ c ≤ 256 ^ 7 from Nat.pow_le_pow_right (by omega) (by omega))
          have HOR := Lib.hid (or_byte y bb[c] hm3)
          have HY : valB (bb.take (c + 1)) = y * 256 + (bb[c]).toNat := by rw [List.take_succ_eq_append_getElem hcl, valB_snoc, ← hy.out]
          have HY2 := Lib.hid HY
          clear hm2 htl HY hm3
          generalize bb[c] = u at *
          go_wp2
          go_roundw
          case rel =>
            refine ⟨c + 1, y * 256 + u.toNat, by omega, by go_num, by rw [← HOR.out], Lib.hid HY2.out.symm, trivial⟩
          case measure => simp [vI]; omega
        · obtain rfl : c = a := by omega
          have cx := cell_of_arr F3.out i
          rw [HX.out] at cx
          have cf := froz_of_arr F3.out i
          have hyy : y = (nuM m s c v).2 := by rw [F6.out, hy.out, List.take_of_length_le (by rw [F5.out]; exact Nat.le_refl _)]
          have HYY := Lib.hid hyy
          clear hyy
          go_wp2
          go_end0
          refine ⟨rfl, ?_, ?_, F4.out.setK (p := ⟨T, i, none⟩) (.inr (.inr rfl)) hBT _⟩
          · exact ((F1.out.le (Nat.le_refl _) (X' := NoX) (fun _ e => e.elim)).set (p := ⟨T, i, none⟩) hBT _ F3.out HTY.out.2 (fun e => absurd e HTY.out.1))
          · rw [set_heap F3.out, ← HYY.out]
set_option maxRecDepth 100000 in
set_option maxHeartbeats 1600000 in
theorem num_u32 {m : Bool} {B wb rb T i n k v : Nat} {s : St} {cs : Array Value} {ty : TypeId} {w : World} {x : Int} (h : Wk m B wb rb NoX n s w) (hT : w.heap[T]? = some (.cells cs ty (0, 0))) (hx : cs[i]? = some (.int .u32 x)) (hx0 : (0 : Int) ≤ x) (hx1 : x ≤ 4294967295)
    (hxv : ∀ a : Nat, a < k → x / 2 ^ (8 * a) % 256 = ((v / 256 ^ a % 256 : Nat) : Int)) (hk : k ≤ 4) (hn : n + k ≤ 1000000) (ht : ty ≠ 5 ∧ ty ≠ 62 ∧ ty ≠ 78) (hBT : B ≤ T) (hB : B ≤ w.heap.size) :
    Calls Try.prog 60 #[pt wb, .pointer (some ⟨T, i, none⟩), .int .i64 (k : Int)] w (NumP (fun v => .int .u32 (v : Int)) m B wb rb T i n k v s cs ty w) := by
  have k0 : (0 : Int) ≤ (k : Int) := Int.natCast_nonneg _
  have k1 : (k : Int) ≤ 4 := by omega
  have hmk := mkB k (by omega) w
  obtain ⟨w1, hw1⟩ : ∃ w1, w.alloc (.cells (bc (List.replicate k 0)) 5) = w1 := ⟨_, rfl⟩
  rw [hw1] at hmk
  have hb1 : BkB w1 w.heap.size (List.replicate k 0) := by rw [← hw1]; exact heap_last _ _ _ rfl
  have hbl : Below w.heap.size w w1 := by rw [← hw1]; exact (Below.refl _ _).alloc (Nat.le_refl _) _
  have hW1 := (h.later hB hbl).le (Nat.le_refl n) (X' := (· = w.heap.size)) (fun x e => .inr (by rw [e]; exact Nat.le_refl _))
  have hT1 := (hbl.block T (lt_of_heap hT)).trans hT
  have hTl := lt_of_heap hT
  have hil : i < cs.size := (Array.getElem?_eq_some_iff.1 hx).1
  have hf1 : Fr B (fun x => x = wb ∨ x = rb ∨ x = T) w w1 := Fr.ofBelow hbl hB
  have H1 := Lib.hid hb1
  have H2 := Lib.hid hW1
  have H3 := Lib.hid hT1
  have H4 := Lib.hid hf1
  have HX := Lib.hid hx
  have HV := Lib.hid hxv
  have HTl := Lib.hid hTl
  have HBB := Lib.hid hB
  have HIL := Lib.hid hil
  have HTY := Lib.hid ht
  clear hb1 hbl hW1 hT1 hf1 hw1 h hT hx hxv hTl hil ht
  go_enter Try.func60, Try.ntmps60
  go_wp2_with fail
  clear hmk
  go_loopw [15] (fun i1 wr => ∃ a : Nat, a ≤ k ∧ i1 = .int .i64 (a : Int) ∧ Hid (BkB wr w.heap.size (List.replicate (k - a) 0 ++ beL a v)) ∧ Hid (Wk m B wb rb (· = w.heap.size) n s wr) ∧ Hid (wr.heap[T]? = some (.cells cs ty (0, 0))) ∧ Hid (Fr B (fun x => x = wb ∨ x = rb ∨ x = T) w wr)) (fun i1 _ => k - (vI i1).toNat)
  case atStart => exact ⟨0, Nat.zero_le _, rfl, Lib.hid (by simpa [beL] using H1.out), H2, H3, H4⟩
  case round =>
    obtain ⟨a, ha, rfl, G1, G2, G3, G4⟩ := hrel
    have a0 : (0 : Int) ≤ (a : Int) := Int.natCast_nonneg _
    by_cases hlt : (a : Int) < (k : Int)
    · have cx := cell_of_arr G3.out i
      rw [HX.out] at cx
      have hll : (List.replicate (k - a) (0 : UInt8) ++ beL a v).length = k := by rw [List.length_append, List.length_replicate, beL_len]; omega
      obtain ⟨c, cc⟩ : ∃ c, wr.cell? ⟨w.heap.size, k - 1 - a, none⟩ = some (.int .u8 c) := ⟨_, (G1.out.cell (i := k - 1 - a) (by rw [hll]; omega)).1⟩
      have cf := (G1.out.cell (i := k - 1 - a) (by rw [hll]; omega)).2
      clear hll
      have e1 : (k : Int) - 1 - (a : Int) = ((k - 1 - a : Nat) : Int) := by omega
      go_wp2
      go_roundw
      case rel =>
        refine ⟨a + 1, by omega, by first | rfl | (congr 1), Lib.hid (put_be' G1.out (by omega) (by omega) ?_), ?_, ?_, ?_⟩
        · have hva := HV.out a (by omega)
          rw [← hva]
        · exact Lib.hid (G2.out.set (p := ⟨w.heap.size, _, none⟩) hB _ G1.out (by decide) (fun _ => rfl))
        · exact Lib.hid ((Below.heap_setCell _ _ _ _ (show T ≠ w.heap.size from Nat.ne_of_lt HTl.out)).trans G3.out)
        · exact Lib.hid (G4.out.set8 (p := ⟨w.heap.size, _, none⟩) G1.out hB _)
      case measure => simp [vI]; omega
    · obtain rfl : a = k := by omega
      have hbk : BkB wr w.heap.size (beL a v) := by simpa using G1.out
      have HC := Lib.hid (bytes_any G2.out hbk (by rw [beL_len]; omega) hB (Nat.le_trans hB G4.out.size))
      rw [beL_len] at HC
      clear hbk
      go_wp2_with fail
      refine (HC.out).mono ?_
      rintro e w2 ⟨rfl, hW2, hb2, hf2⟩
      have hT2 := hf2.keep T _ _ _ G3.out HTY.out.1 (G2.out.neT G3.out HTY.out.2)
      have hlb : (byM m s (beL a v)).2.length = a := by rw [byM_len, beL_len]
      have hf3 : Fr B (fun x => x = wb ∨ x = rb ∨ x = T) w w2 := G4.out.trans (hf2.mono (fun x _ e => e.elim .inl (fun e => .inr (.inl e))))
      rw [beL_len] at hW2
      obtain ⟨bb, hbb⟩ : ∃ bb, (byM m s (beL a v)).2 = bb := ⟨_, rfl⟩
      have hfin : (nuM m s a v).2 = valB bb := by rw [← hbb]; rfl
      rw [hbb] at hb2 hlb
      have F1 := Lib.hid hW2
      have F2 := Lib.hid hb2
      have F3 := Lib.hid hT2
      have F4 := Lib.hid hf3
      have F5 := Lib.hid hlb
      have F6 := Lib.hid hfin
      clear hW2 hb2 hT2 hf3 hf2 hlb hbb hfin HC
      go_wp2_with fail
      go_loopw [8, 37] (fun nn ii wr' => ∃ c y : Nat, c ≤ a ∧ ii = .int .i64 (c : Int) ∧ nn = .int .u64 (y : Int) ∧ Hid (y = valB (bb.take c)) ∧ w2 = wr') (fun _ ii _ => a - (vI ii).toNat)
      case atStart => exact ⟨0, 0, Nat.zero_le _, rfl, rfl, Lib.hid (by simp [valB]), rfl⟩
      case round =>
        obtain ⟨c, y, hc, rfl, rfl, hy, rfl⟩ := hrel
        have c0 : (0 : Int) ≤ (c : Int) := Int.natCast_nonneg _
        by_cases hlt2 : (c : Int) < (a : Int)
        · have hcl : c < bb.length := by rw [F5.out]; omega
          have cc := (F2.out.cell hcl).1
          have hm2 := valB_lt (bb.take c)
          have htl : (bb.take c).length = c := by rw [List.length_take]; omega
          rw [← hy.out, htl] at hm2
          have hm3 : y < 72057594037927936 := Nat.lt_of_lt_of_le hm2 (show 256 ^ c ≤ 256 ^ 7 from Nat.pow_le_pow_right (by omega) (by omega))
          have HOR := Lib.hid (or_byte y bb[c] hm3)
          have HY : valB (bb.take (c + 1)) = y * 256 + (bb[c]).toNat := by rw [List.take_succ_eq_append_getElem hcl, valB_snoc, ← hy.out]
          have HY2 := Lib.hid HY
          clear hm2 htl HY hm3
          generalize bb[c] = u at *
          go_wp2
          go_roundw
          case rel =>
            refine ⟨c + 1, y * 256 + u.toNat, by omega, by go_num, by rw [← HOR.out], Lib.hid HY2.out.symm, trivial⟩
          case measure => simp [vI]; omega
        · obtain rfl : c = a := by omega
          have cx := cell_of_arr F3.out i
          rw [HX.out] at cx
          have cf := froz_of_arr F3.out i
          have hyy : y = (nuM m s c v).2 := by rw [F6.out, hy.out, List.take_of_length_le (by rw [F5.out]; exact Nat.le_refl _)]
          have HYY := Lib.hid hyy
          clear hyy
          go_wp2
          go_end0
          refine ⟨rfl, ?_, ?_, F4.out.setK (p := ⟨T, i, none⟩) (.inr (.inr rfl)) hBT _⟩
          · exact ((F1.out.le (Nat.le_refl _) (X' := NoX) (fun _ e => e.elim)).set (p := ⟨T, i, none⟩) hBT _ F3.out HTY.out.2 (fun e => absurd e HTY.out.1))
          · rw [set_heap F3.out, ← HYY.out]
            have hlt3 : (y : Int) < 4294967296 := by
              have h1 := nuM_lt m s c v
              have h2 : 256 ^ c ≤ 256 ^ 4 := Nat.pow_le_pow_right (by omega) (by omega)
              have h3 : (256 : Nat) ^ 4 = 4294967296 := rfl
              have := HYY.out
              omega
            have e5 : IntKind.u32.wrap (y : Int) = (y : Int) % 4294967296 := rfl
            first | rw [Int.emod_eq_of_lt (Int.natCast_nonneg _) hlt3] | rw [e5, Int.emod_eq_of_lt (Int.natCast_nonneg _) hlt3]
set_option maxRecDepth 100000 in
set_option maxHeartbeats 1600000 in
theorem num_u16 {m : Bool} {B wb rb T i n k v : Nat} {s : St} {cs : Array Value} {ty : TypeId} {w : World} {x : Int} (h : Wk m B wb rb NoX n s w) (hT : w.heap[T]? = some (.cells cs ty (0, 0))) (hx : cs[i]? = some (.int .u16 x)) (hx0 : (0 : Int) ≤ x) (hx1 : x ≤ 65535)
    (hxv : ∀ a : Nat, a < k → x / 2 ^ (8 * a) % 256 = ((v / 256 ^ a % 256 : Nat) : Int)) (hk : k ≤ 2) (hn : n + k ≤ 1000000) (ht : ty ≠ 5 ∧ ty ≠ 62 ∧ ty ≠ 78) (hBT : B ≤ T) (hB : B ≤ w.heap.size) :
    Calls Try.prog 63 #[pt wb, .pointer (some ⟨T, i, none⟩), .int .i64 (k : Int)] w (NumP (fun v => .int .u16 (v : Int)) m B wb rb T i n k v s cs ty w) := by
  have k0 : (0 : Int) ≤ (k : Int) := Int.natCast_nonneg _
  have k1 : (k : Int) ≤ 2 := by omega
  have hmk := mkB k (by omega) w
  obtain ⟨w1, hw1⟩ : ∃ w1, w.alloc (.cells (bc (List.replicate k 0)) 5) = w1 := ⟨_, rfl⟩
  rw [hw1] at hmk
  have hb1 : BkB w1 w.heap.size (List.replicate k 0) := by rw [← hw1]; exact heap_last _ _ _ rfl
  have hbl : Below w.heap.size w w1 := by rw [← hw1]; exact (Below.refl _ _).alloc (Nat.le_refl _) _
  have hW1 := (h.later hB hbl).le (Nat.le_refl n) (X' := (· = w.heap.size)) (fun x e => .inr (by rw [e]; exact Nat.le_refl _))
  have hT1 := (hbl.block T (lt_of_heap hT)).trans hT
  have hTl := lt_of_heap hT
  have hil : i < cs.size := (Array.getElem?_eq_some_iff.1 hx).1
  have hf1 : Fr B (fun x => x = wb ∨ x = rb ∨ x = T) w w1 := Fr.ofBelow hbl hB
  have H1 := Lib.hid hb1
  have H2 := Lib.hid hW1
  have H3 := Lib.hid hT1
  have H4 := Lib.hid hf1
  have HX := Lib.hid hx
  have HV := Lib.hid hxv
  have HTl := Lib.hid hTl
  have HBB := Lib.hid hB
  have HIL := Lib.hid hil
  have HTY := Lib.hid ht
  clear hb1 hbl hW1 hT1 hf1 hw1 h hT hx hxv hTl hil ht
  go_enter Try.func63, Try.ntmps63
  go_wp2_with fail
  clear hmk
  go_loopw [15] (fun i1 wr => ∃ a : Nat, a ≤ k ∧ i1 = .int .i64 (a : Int) ∧ Hid (BkB wr w.heap.size (List.replicate (k - a) 0 ++ beL a v)) ∧ Hid (Wk m B wb rb (· = w.heap.size) n s wr) ∧ Hid (wr.heap[T]? = some (.cells cs ty (0, 0))) ∧ Hid (Fr B (fun x => x = wb ∨ x = rb ∨ x = T) w wr)) (fun i1 _ => k - (vI i1).toNat)
  case atStart => exact ⟨0, Nat.zero_le _, rfl, Lib.hid (by simpa [beL] using H1.out), H2, H3, H4⟩
  case round =>
    obtain ⟨a, ha, rfl, G1, G2, G3, G4⟩ := hrel
    have a0 : (0 : Int) ≤ (a : Int) := Int.natCast_nonneg _
    by_cases hlt : (a : Int) < (k : Int)
    · have cx := cell_of_arr G3.out i
      rw [HX.out] at cx
      have hll : (List.replicate (k - a) (0 : UInt8) ++ beL a v).length = k := by rw [List.length_append, List.length_replicate, beL_len]; omega
      obtain ⟨c, cc⟩ : ∃ c, wr.cell? ⟨w.heap.size, k - 1 - a, none⟩ = some (.int .u8 c) := ⟨_, (G1.out.cell (i := k - 1 - a) (by rw [hll]; omega)).1⟩
      have cf := (G1.out.cell (i := k - 1 - a) (by rw [hll]; omega)).2
      clear hll
      have e1 : (k : Int) - 1 - (a : Int) = ((k - 1 - a : Nat) : Int) := by omega
      go_wp2
      go_roundw
      case rel =>
        refine ⟨a + 1, by omega, by first | rfl | (congr 1), Lib.hid (put_be' G1.out (by omega) (by omega) ?_), ?_, ?_, ?_⟩
        · have hva := HV.out a (by omega)
          rw [← hva]
        · exact Lib.hid (G2.out.set (p := ⟨w.heap.size, _, none⟩) hB _ G1.out (by decide) (fun _ => rfl))
        · exact Lib.hid ((Below.heap_setCell _ _ _ _ (show T ≠ w.heap.size from Nat.ne_of_lt HTl.out)).trans G3.out)
        · exact Lib.hid (G4.out.set8 (p := ⟨w.heap.size, _, none⟩) G1.out hB _)
      case measure => simp [vI]; omega
    · obtain rfl : a = k := by omega
      have hbk : BkB wr w.heap.size (beL a v) := by simpa using G1.out
      have HC := Lib.hid (bytes_any G2.out hbk (by rw [beL_len]; omega) hB (Nat.le_trans hB G4.out.size))
      rw [beL_len] at HC
      clear hbk
      go_wp2_with fail
      refine (HC.out).mono ?_
      rintro e w2 ⟨rfl, hW2, hb2, hf2⟩
      have hT2 := hf2.keep T _ _ _ G3.out HTY.out.1 (G2.out.neT G3.out HTY.out.2)
      have hlb : (byM m s (beL a v)).2.length = a := by rw [byM_len, beL_len]
      have hf3 : Fr B (fun x => x = wb ∨ x = rb ∨ x = T) w w2 := G4.out.trans (hf2.mono (fun x _ e => e.elim .inl (fun e => .inr (.inl e))))
      rw [beL_len] at hW2
      obtain ⟨bb, hbb⟩ : ∃ bb, (byM m s (beL a v)).2 = bb := ⟨_, rfl⟩
      have hfin : (nuM m s a v).2 = valB bb := by rw [← hbb]; rfl
      rw [hbb] at hb2 hlb
      have F1 := Lib.hid hW2
      have F2 := Lib.hid hb2
      have F3 := Lib.hid hT2
      have F4 := Lib.hid hf3
      have F5 := Lib.hid hlb
      have F6 := Lib.hid hfin
      clear hW2 hb2 hT2 hf3 hf2 hlb hbb hfin HC
      go_wp2_with fail
      go_loopw [8, 37] (fun nn ii wr' => ∃ c y : Nat, c ≤ a ∧ ii = .int .i64 (c : Int) ∧ nn = .int .u64 (y : Int) ∧ Hid (y = valB (bb.take c)) ∧ w2 = wr') (fun _ ii _ => a - (vI ii).toNat)
      case atStart => exact ⟨0, 0, Nat.zero_le _, rfl, rfl, Lib.hid (by simp [valB]), rfl⟩
      case round =>
        obtain ⟨c, y, hc, rfl, rfl, hy, rfl⟩ := hrel
        have c0 : (0 : Int) ≤ (c : Int) := Int.natCast_nonneg _
        by_cases hlt2 : (c : Int) < (a : Int)
        · have hcl : c < bb.length := by rw [F5.out]; omega
          have cc := (F2.out.cell hcl).1
          have hm2 := valB_lt (bb.take c)
          have htl : (bb.take c).length = c := by rw [List.length_take]; omega
          rw [← hy.out, htl] at hm2
          have hm3 : y < 72057594037927936 := Nat.lt_of_lt_of_le hm2 (show 256 ^ c ≤ 256 ^ 7 from Nat.pow_le_pow_right (by omega) (by omega))
          have HOR := Lib.hid (or_byte y bb[c] hm3)
          have HY : valB (bb.take (c + 1)) = y * 256 + (bb[c]).toNat := by rw [List.take_succ_eq_append_getElem hcl, valB_snoc, ← hy.out]
          have HY2 := Lib.hid HY
          clear hm2 htl HY hm3
          generalize bb[c] = u at *
          go_wp2
          go_roundw
          case rel =>
            refine ⟨c + 1, y * 256 + u.toNat, by omega, by go_num, by rw [← HOR.out], Lib.hid HY2.out.symm, trivial⟩
          case measure => simp [vI]; omega
        · obtain rfl : c = a := by omega
          have cx := cell_of_arr F3.out i
          rw [HX.out] at cx
          have cf := froz_of_arr F3.out i
          have hyy : y = (nuM m s c v).2 := by rw [F6.out, hy.out, List.take_of_length_le (by rw [F5.out]; exact Nat.le_refl _)]
          have HYY := Lib.hid hyy
          clear hyy
          go_wp2
          go_end0
          refine ⟨rfl, ?_, ?_, F4.out.setK (p := ⟨T, i, none⟩) (.inr (.inr rfl)) hBT _⟩
          · exact ((F1.out.le (Nat.le_refl _) (X' := NoX) (fun _ e => e.elim)).set (p := ⟨T, i, none⟩) hBT _ F3.out HTY.out.2 (fun e => absurd e HTY.out.1))
          · rw [set_heap F3.out, ← HYY.out]
            have hlt3 : (y : Int) < 65536 := by
              have h1 := nuM_lt m s c v
              have h2 : 256 ^ c ≤ 256 ^ 2 := Nat.pow_le_pow_right (by omega) (by omega)
              have h3 : (256 : Nat) ^ 2 = 65536 := rfl
              have := HYY.out
              omega
            have e5 : IntKind.u16.wrap (y : Int) = (y : Int) % 65536 := rfl
            first | rw [Int.emod_eq_of_lt (Int.natCast_nonneg _) hlt3] | rw [e5, Int.emod_eq_of_lt (Int.natCast_nonneg _) hlt3]
set_option maxRecDepth 100000 in
set_option maxHeartbeats 1600000 in
theorem num_u8 {m : Bool} {B wb rb T i n k v : Nat} {s : St} {cs : Array Value} {ty : TypeId} {w : World} {x : Int} (h : Wk m B wb rb NoX n s w) (hT : w.heap[T]? = some (.cells cs ty (0, 0))) (hx : cs[i]? = some (.int .u8 x)) (hx0 : (0 : Int) ≤ x) (hx1 : x ≤ 255)
    (hxv : ∀ a : Nat, a < k → x / 2 ^ (8 * a) % 256 = ((v / 256 ^ a % 256 : Nat) : Int)) (hk : k ≤ 1) (hn : n + k ≤ 1000000) (ht : ty ≠ 5 ∧ ty ≠ 62 ∧ ty ≠ 78) (hBT : B ≤ T) (hB : B ≤ w.heap.size) :
    Calls Try.prog 32 #[pt wb, .pointer (some ⟨T, i, none⟩), .int .i64 (k : Int)] w (NumP (fun v => .int .u8 (v : Int)) m B wb rb T i n k v s cs ty w) := by
  have k0 : (0 : Int) ≤ (k : Int) := Int.natCast_nonneg _
  have k1 : (k : Int) ≤ 1 := by omega
  have hmk := mkB k (by omega) w
  obtain ⟨w1, hw1⟩ : ∃ w1, w.alloc (.cells (bc (List.replicate k 0)) 5) = w1 := ⟨_, rfl⟩
  rw [hw1] at hmk
  have hb1 : BkB w1 w.heap.size (List.replicate k 0) := by rw [← hw1]; exact heap_last _ _ _ rfl
  have hbl : Below w.heap.size w w1 := by rw [← hw1]; exact (Below.refl _ _).alloc (Nat.le_refl _) _
  have hW1 := (h.later hB hbl).le (Nat.le_refl n) (X' := (· = w.heap.size)) (fun x e => .inr (by rw [e]; exact Nat.le_refl _))
  have hT1 := (hbl.block T (lt_of_heap hT)).trans hT
  have hTl := lt_of_heap hT
  have hil : i < cs.size := (Array.getElem?_eq_some_iff.1 hx).1
  have hf1 : Fr B (fun x => x = wb ∨ x = rb ∨ x = T) w w1 := Fr.ofBelow hbl hB
  have H1 := Lib.hid hb1
  have H2 := Lib.hid hW1
  have H3 := Lib.hid hT1
  have H4 := Lib.hid hf1
  have HX := Lib.hid hx
  have HV := Lib.hid hxv
  have HTl := Lib.hid hTl
  have HBB := Lib.hid hB
  have HIL := Lib.hid hil
  have HTY := Lib.hid ht
  clear hb1 hbl hW1 hT1 hf1 hw1 h hT hx hxv hTl hil ht
  go_enter Try.func32, Try.ntmps32
  go_wp2_with fail
  clear hmk
  go_loopw [15] (fun i1 wr => ∃ a : Nat, a ≤ k ∧ i1 = .int .i64 (a : Int) ∧ Hid (BkB wr w.heap.size (List.replicate (k - a) 0 ++ beL a v)) ∧ Hid (Wk m B wb rb (· = w.heap.size) n s wr) ∧ Hid (wr.heap[T]? = some (.cells cs ty (0, 0))) ∧ Hid (Fr B (fun x => x = wb ∨ x = rb ∨ x = T) w wr)) (fun i1 _ => k - (vI i1).toNat)
  case atStart => exact ⟨0, Nat.zero_le _, rfl, Lib.hid (by simpa [beL] using H1.out), H2, H3, H4⟩
  case round =>
    obtain ⟨a, ha, rfl, G1, G2, G3, G4⟩ := hrel
    have a0 : (0 : Int) ≤ (a : Int) := Int.natCast_nonneg _
    by_cases hlt : (a : Int) < (k : Int)
    · have cx := cell_of_arr G3.out i
      rw [HX.out] at cx
      have hll : (List.replicate (k - a) (0 : UInt8) ++ beL a v).length = k := by rw [List.length_append, List.length_replicate, beL_len]; omega
      obtain ⟨c, cc⟩ : ∃ c, wr.cell? ⟨w.heap.size, k - 1 - a, none⟩ = some (.int .u8 c) := ⟨_, (G1.out.cell (i := k - 1 - a) (by rw [hll]; omega)).1⟩
      have cf := (G1.out.cell (i := k - 1 - a) (by rw [hll]; omega)).2
      clear hll
      have e1 : (k : Int) - 1 - (a : Int) = ((k - 1 - a : Nat) : Int) := by omega
      obtain rfl : a = 0 := by omega
      have e0 : k - 1 - 0 = 0 := by omega
      rw [e0] at cc cf
      go_wp2
      go_roundw
      case rel =>
        refine ⟨0 + 1, by omega, by first | rfl | (congr 1), Lib.hid (put_be' G1.out (by omega) (by omega) ?_), ?_, ?_, ?_⟩
        · have hva := HV.out 0 (by omega)
          rw [← hva]
          simp; omega
        · exact Lib.hid (G2.out.set (p := ⟨w.heap.size, _, none⟩) hB _ G1.out (by decide) (fun _ => rfl))
        · exact Lib.hid ((Below.heap_setCell _ _ _ _ (show T ≠ w.heap.size from Nat.ne_of_lt HTl.out)).trans G3.out)
        · exact Lib.hid (G4.out.set8 (p := ⟨w.heap.size, _, none⟩) G1.out hB _)
      case measure => simp [vI]; omega
    · obtain rfl : a = k := by omega
      have hbk : BkB wr w.heap.size (beL a v) := by simpa using G1.out
      have HC := Lib.hid (bytes_any G2.out hbk (by rw [beL_len]; omega) hB (Nat.le_trans hB G4.out.size))
      rw [beL_len] at HC
      clear hbk
      go_wp2_with fail
      refine (HC.out).mono ?_
      rintro e w2 ⟨rfl, hW2, hb2, hf2⟩
      have hT2 := hf2.keep T _ _ _ G3.out HTY.out.1 (G2.out.neT G3.out HTY.out.2)
      have hlb : (byM m s (beL a v)).2.length = a := by rw [byM_len, beL_len]
      have hf3 : Fr B (fun x => x = wb ∨ x = rb ∨ x = T) w w2 := G4.out.trans (hf2.mono (fun x _ e => e.elim .inl (fun e => .inr (.inl e))))
      rw [beL_len] at hW2
      obtain ⟨bb, hbb⟩ : ∃ bb, (byM m s (beL a v)).2 = bb := ⟨_, rfl⟩
      have hfin : (nuM m s a v).2 = valB bb := by rw [← hbb]; rfl
      rw [hbb] at hb2 hlb
      have F1 := Lib.hid hW2
      have F2 := Lib.hid hb2
      have F3 := Lib.hid hT2
      have F4 := Lib.hid hf3
      have F5 := Lib.hid hlb
      have F6 := Lib.hid hfin
      clear hW2 hb2 hT2 hf3 hf2 hlb hbb hfin HC
      go_wp2_with fail
      go_loopw [8, 36] (fun nn ii wr' => ∃ c y : Nat, c ≤ a ∧ ii = .int .i64 (c : Int) ∧ nn = .int .u64 (y : Int) ∧ Hid (y = valB (bb.take c)) ∧ w2 = wr') (fun _ ii _ => a - (vI ii).toNat)
      case atStart => exact ⟨0, 0, Nat.zero_le _, rfl, rfl, Lib.hid (by simp [valB]), rfl⟩
      case round =>
        obtain ⟨c, y, hc, rfl, rfl, hy, rfl⟩ := hrel
        have c0 : (0 : Int) ≤ (c : Int) := Int.natCast_nonneg _
        by_cases hlt2 : (c : Int) < (a : Int)
        · have hcl : c < bb.length := by rw [F5.out]; omega
          have cc := (F2.out.cell hcl).1
          have hm2 := valB_lt (bb.take c)
          have htl : (bb.take c).length = c := by rw [List.length_take]; omega
          rw [← hy.out, htl] at hm2
          have hm3 : y < 72057594037927936 := Nat.lt_of_lt_of_le hm2 (show 256 ^ c ≤ 256 ^ 7 from Nat.pow_le_pow_right (by omega) (by omega))
          have HOR := Lib.hid (or_byte y bb[c] hm3)
          have HY : valB (bb.take (c + 1)) = y * 256 + (bb[c]).toNat := by rw [List.take_succ_eq_append_getElem hcl, valB_snoc, ← hy.out]
          have HY2 := Lib.hid HY
          clear hm2 htl HY hm3
          generalize bb[c] = u at *
          go_wp2
          go_roundw
          case rel =>
            refine ⟨c + 1, y * 256 + u.toNat, by omega, by go_num, by rw [← HOR.out], Lib.hid HY2.out.symm, trivial⟩
          case measure => simp [vI]; omega
        · obtain rfl : c = a := by omega
          have cx := cell_of_arr F3.out i
          rw [HX.out] at cx
          have cf := froz_of_arr F3.out i
          have hyy : y = (nuM m s c v).2 := by rw [F6.out, hy.out, List.take_of_length_le (by rw [F5.out]; exact Nat.le_refl _)]
          have HYY := Lib.hid hyy
          clear hyy
          go_wp2
          go_end0
          refine ⟨rfl, ?_, ?_, F4.out.setK (p := ⟨T, i, none⟩) (.inr (.inr rfl)) hBT _⟩
          · exact ((F1.out.le (Nat.le_refl _) (X' := NoX) (fun _ e => e.elim)).set (p := ⟨T, i, none⟩) hBT _ F3.out HTY.out.2 (fun e => absurd e HTY.out.1))
          · rw [set_heap F3.out, ← HYY.out]
            have hlt3 : (y : Int) < 256 := by
              have h1 := nuM_lt m s c v
              have h2 : 256 ^ c ≤ 256 ^ 1 := Nat.pow_le_pow_right (by omega) (by omega)
              have h3 : (256 : Nat) ^ 1 = 256 := rfl
              have := HYY.out
              omega
            have e5 : IntKind.u8.wrap (y : Int) = (y : Int) % 256 := rfl
            first | rw [Int.emod_eq_of_lt (Int.natCast_nonneg _) hlt3] | rw [e5, Int.emod_eq_of_lt (Int.natCast_nonneg _) hlt3]
set_option maxRecDepth 100000 in
set_option maxHeartbeats 1600000 in
theorem num_st {m : Bool} {B wb rb T i n k v : Nat} {s : St} {cs : Array Value} {ty : TypeId} {w : World} {x : Int} (h : Wk m B wb rb NoX n s w) (hT : w.heap[T]? = some (.cells cs ty (0, 0))) (hx : cs[i]? = some (.int .u8 x)) (hx0 : (0 : Int) ≤ x) (hx1 : x ≤ 255)
    (hxv : ∀ a : Nat, a < k → x / 2 ^ (8 * a) % 256 = ((v / 256 ^ a % 256 : Nat) : Int)) (hk : k ≤ 1) (hn : n + k ≤ 1000000) (ht : ty ≠ 5 ∧ ty ≠ 62 ∧ ty ≠ 78) (hBT : B ≤ T) (hB : B ≤ w.heap.size) :
    Calls Try.prog 59 #[pt wb, .pointer (some ⟨T, i, none⟩), .int .i64 (k : Int)] w (NumP (fun v => .int .u8 (v : Int)) m B wb rb T i n k v s cs ty w) := by
  have k0 : (0 : Int) ≤ (k : Int) := Int.natCast_nonneg _
  have k1 : (k : Int) ≤ 1 := by omega
  have hmk := mkB k (by omega) w
  obtain ⟨w1, hw1⟩ : ∃ w1, w.alloc (.cells (bc (List.replicate k 0)) 5) = w1 := ⟨_, rfl⟩
  rw [hw1] at hmk
  have hb1 : BkB w1 w.heap.size (List.replicate k 0) := by rw [← hw1]; exact heap_last _ _ _ rfl
  have hbl : Below w.heap.size w w1 := by rw [← hw1]; exact (Below.refl _ _).alloc (Nat.le_refl _) _
  have hW1 := (h.later hB hbl).le (Nat.le_refl n) (X' := (· = w.heap.size)) (fun x e => .inr (by rw [e]; exact Nat.le_refl _))
  have hT1 := (hbl.block T (lt_of_heap hT)).trans hT
  have hTl := lt_of_heap hT
  have hil : i < cs.size := (Array.getElem?_eq_some_iff.1 hx).1
  have hf1 : Fr B (fun x => x = wb ∨ x = rb ∨ x = T) w w1 := Fr.ofBelow hbl hB
  have H1 := Lib.hid hb1
  have H2 := Lib.hid hW1
  have H3 := Lib.hid hT1
  have H4 := Lib.hid hf1
  have HX := Lib.hid hx
  have HV := Lib.hid hxv
  have HTl := Lib.hid hTl
  have HBB := Lib.hid hB
  have HIL := Lib.hid hil
  have HTY := Lib.hid ht
  clear hb1 hbl hW1 hT1 hf1 hw1 h hT hx hxv hTl hil ht
  go_enter Try.func59, Try.ntmps59
  go_wp2_with fail
  clear hmk
  go_loopw [15] (fun i1 wr => ∃ a : Nat, a ≤ k ∧ i1 = .int .i64 (a : Int) ∧ Hid (BkB wr w.heap.size (List.replicate (k - a) 0 ++ beL a v)) ∧ Hid (Wk m B wb rb (· = w.heap.size) n s wr) ∧ Hid (wr.heap[T]? = some (.cells cs ty (0, 0))) ∧ Hid (Fr B (fun x => x = wb ∨ x = rb ∨ x = T) w wr)) (fun i1 _ => k - (vI i1).toNat)
  case atStart => exact ⟨0, Nat.zero_le _, rfl, Lib.hid (by simpa [beL] using H1.out), H2, H3, H4⟩
  case round =>
    obtain ⟨a, ha, rfl, G1, G2, G3, G4⟩ := hrel
    have a0 : (0 : Int) ≤ (a : Int) := Int.natCast_nonneg _
    by_cases hlt : (a : Int) < (k : Int)
    · have cx := cell_of_arr G3.out i
      rw [HX.out] at cx
      have hll : (List.replicate (k - a) (0 : UInt8) ++ beL a v).length = k := by rw [List.length_append, List.length_replicate, beL_len]; omega
      obtain ⟨c, cc⟩ : ∃ c, wr.cell? ⟨w.heap.size, k - 1 - a, none⟩ = some (.int .u8 c) := ⟨_, (G1.out.cell (i := k - 1 - a) (by rw [hll]; omega)).1⟩
      have cf := (G1.out.cell (i := k - 1 - a) (by rw [hll]; omega)).2
      clear hll
      have e1 : (k : Int) - 1 - (a : Int) = ((k - 1 - a : Nat) : Int) := by omega
      obtain rfl : a = 0 := by omega
      have e0 : k - 1 - 0 = 0 := by omega
      rw [e0] at cc cf
      go_wp2
      go_roundw
      case rel =>
        refine ⟨0 + 1, by omega, by first | rfl | (congr 1), Lib.hid (put_be' G1.out (by omega) (by omega) ?_), ?_, ?_, ?_⟩
        · have hva := HV.out 0 (by omega)
          rw [← hva]
          simp; omega
        · exact Lib.hid (G2.out.set (p := ⟨w.heap.size, _, none⟩) hB _ G1.out (by decide) (fun _ => rfl))
        · exact Lib.hid ((Below.heap_setCell _ _ _ _ (show T ≠ w.heap.size from Nat.ne_of_lt HTl.out)).trans G3.out)
        · exact Lib.hid (G4.out.set8 (p := ⟨w.heap.size, _, none⟩) G1.out hB _)
      case measure => simp [vI]; omega
    · obtain rfl : a = k := by omega
      have hbk : BkB wr w.heap.size (beL a v) := by simpa using G1.out
      have HC := Lib.hid (bytes_any G2.out hbk (by rw [beL_len]; omega) hB (Nat.le_trans hB G4.out.size))
      rw [beL_len] at HC
      clear hbk
      go_wp2_with fail
      refine (HC.out).mono ?_
      rintro e w2 ⟨rfl, hW2, hb2, hf2⟩
      have hT2 := hf2.keep T _ _ _ G3.out HTY.out.1 (G2.out.neT G3.out HTY.out.2)
      have hlb : (byM m s (beL a v)).2.length = a := by rw [byM_len, beL_len]
      have hf3 : Fr B (fun x => x = wb ∨ x = rb ∨ x = T) w w2 := G4.out.trans (hf2.mono (fun x _ e => e.elim .inl (fun e => .inr (.inl e))))
      rw [beL_len] at hW2
      obtain ⟨bb, hbb⟩ : ∃ bb, (byM m s (beL a v)).2 = bb := ⟨_, rfl⟩
      have hfin : (nuM m s a v).2 = valB bb := by rw [← hbb]; rfl
      rw [hbb] at hb2 hlb
      have F1 := Lib.hid hW2
      have F2 := Lib.hid hb2
      have F3 := Lib.hid hT2
      have F4 := Lib.hid hf3
      have F5 := Lib.hid hlb
      have F6 := Lib.hid hfin
      clear hW2 hb2 hT2 hf3 hf2 hlb hbb hfin HC
      go_wp2_with fail
      go_loopw [8, 36] (fun nn ii wr' => ∃ c y : Nat, c ≤ a ∧ ii = .int .i64 (c : Int) ∧ nn = .int .u64 (y : Int) ∧ Hid (y = valB (bb.take c)) ∧ w2 = wr') (fun _ ii _ => a - (vI ii).toNat)
      case atStart => exact ⟨0, 0, Nat.zero_le _, rfl, rfl, Lib.hid (by simp [valB]), rfl⟩
      case round =>
        obtain ⟨c, y, hc, rfl, rfl, hy, rfl⟩ := hrel
        have c0 : (0 : Int) ≤ (c : Int) := Int.natCast_nonneg _
        by_cases hlt2 : (c : Int) < (a : Int)
        · have hcl : c < bb.length := by rw [F5.out]; omega
          have cc := (F2.out.cell hcl).1
          have hm2 := valB_lt (bb.take c)
          have htl : (bb.take c).length = c := by rw [List.length_take]; omega
          rw [← hy.out, htl] at hm2
          have hm3 : y < 72057594037927936 := Nat.lt_of_lt_of_le hm2 (show 256 ^ c ≤ 256 ^ 7 from Nat.pow_le_pow_right (by omega) (by omega))
          have HOR := Lib.hid (or_byte y bb[c] hm3)
          have HY : valB (bb.take (c + 1)) = y * 256 + (bb[c]).toNat := by rw [List.take_succ_eq_append_getElem hcl, valB_snoc, ← hy.out]
          have HY2 := Lib.hid HY
          clear hm2 htl HY hm3
          generalize bb[c] = u at *
          go_wp2
          go_roundw
          case rel =>
            refine ⟨c + 1, y * 256 + u.toNat, by omega, by go_num, by rw [← HOR.out], Lib.hid HY2.out.symm, trivial⟩
          case measure => simp [vI]; omega
        · obtain rfl : c = a := by omega
          have cx := cell_of_arr F3.out i
          rw [HX.out] at cx
          have cf := froz_of_arr F3.out i
          have hyy : y = (nuM m s c v).2 := by rw [F6.out, hy.out, List.take_of_length_le (by rw [F5.out]; exact Nat.le_refl _)]
          have HYY := Lib.hid hyy
          clear hyy
          go_wp2
          go_end0
          refine ⟨rfl, ?_, ?_, F4.out.setK (p := ⟨T, i, none⟩) (.inr (.inr rfl)) hBT _⟩
          · exact ((F1.out.le (Nat.le_refl _) (X' := NoX) (fun _ e => e.elim)).set (p := ⟨T, i, none⟩) hBT _ F3.out HTY.out.2 (fun e => absurd e HTY.out.1))
          · rw [set_heap F3.out, ← HYY.out]
            have hlt3 : (y : Int) < 256 := by
              have h1 := nuM_lt m s c v
              have h2 : 256 ^ c ≤ 256 ^ 1 := Nat.pow_le_pow_right (by omega) (by omega)
              have h3 : (256 : Nat) ^ 1 = 256 := rfl
              have := HYY.out
              omega
            have e5 : IntKind.u8.wrap (y : Int) = (y : Int) % 256 := rfl
            first | rw [Int.emod_eq_of_lt (Int.natCast_nonneg _) hlt3] | rw [e5, Int.emod_eq_of_lt (Int.natCast_nonneg _) hlt3]
end Go.Proofs.Ytjdfdihopgceoaa.Cd
