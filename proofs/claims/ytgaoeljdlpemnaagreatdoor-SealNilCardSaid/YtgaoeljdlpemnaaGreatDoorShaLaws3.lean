/- '==' and '!=' on two arrays of bytes, of whatever program. -/
import Derived.Test.YtgaoeljdlpemnaaGreatDoorShaW6
import Derived.Laws.BytesArg
import Derived.ChangeKeysEq
import Derived.Laws.StructEq
import Derived.Lib.SlBytesConst
/- Contracts of (*sha.Hash).Sum and sha.Of, over the translated program. -/
namespace Go.Proofs.YtgaoeljdlpemnaaGreatDoor.Hs
open Go.RowKit Go.Sha

@[local go_sem high, local simp high] theorem z25'' (w : World) : (zeroValue 62).run Tryz.prog w = .ok (.agg (bv (zl 32))) w := by kernel_rfl
@[local go_sem high, local simp high] theorem z45 (w : World) : (zeroValue 123).run Tryz.prog w = .ok (.agg (hv (zl 8) (zl 64) 0)) w := by kernel_rfl
theorem info45 : (Tryz.prog.info? 123).map (·.size) = some 73 := by kernel_rfl
theorem hv_one (m r : List Nat) (c : Nat) : (hv m r c).all (·.oneCell') = true := by
  unfold hv
  rw [Array.all_append, Array.all_append, wv_one, bv_one]
  simp [Value.oneCell']

set_option maxRecDepth 100000 in
set_option maxHeartbeats 800000 in
theorem sum_any (g : Nat) (s : HS) (w : World) (ho : s.Ok) (hc : s.c + 72 < 1152921504606846976) (hG : Gl w) (hg : w.heap[g]? = some (.cells s.cells 123 (0, 0))) :
    Calls Tryz.prog 37 #[.pointer (some ⟨g, 0, none⟩)] w fun e w' => e = .returned (.agg (bv (sumL s))) ∧ Below w.heap.size w w' := by
  have HO := Lib.hid ho; clear ho
  have HC := Lib.hid hc; clear hc
  have HG := Lib.hid hG; clear hG
  have HA := Lib.hid (show w.heap[g]? = some (.cells (hv s.m s.r s.c) 123 (0, 0)) from hg); clear hg
  have hgs : g < w.heap.size := (Array.getElem?_eq_some_iff.1 HA.out).1
  go_enter Tryz.func37, Tryz.ntmps37
  go_wp2_with (first
    | ((with_reducible refine wl_loadS (dst := 9) g 123 (hv s.m s.r s.c) (0, 0) _ Tryz.underlying123 ?_ ?_ ?_ ?_); (· rfl); (· exact (heap_prev _ _ _ hgs).trans HA.out); (· rw [hv_size _ HO.out.m8 HO.out.r64]; exact info45))
    | ((with_reducible refine wl_storeL (ty := 123) (w.heap.size + 1) (hv s.m s.r s.c) ?_ ?_ ?_ ?_ ?_ ?_ ?_); (· rfl); (· rfl); (· simp); (· rw [hv_size _ HO.out.m8 HO.out.r64]; exact info45); (· rw [hv_size _ HO.out.m8 HO.out.r64]; kernel_rfl); (· exact hv_one _ _ _)))
  refine (fill_any (w.heap.size + 1) s _ HO.out HC.out (by exact HG.out.below HG.out.size (((Below.refl _ _).alloc (Nat.le_refl _) _).alloc (by simp) _)) (by have := HG.out.size; omega) (by exact heap_last _ _ _ (by simp))).mono ?_
  rintro e w1 ⟨rfl, hh, hgr⟩
  have HH1 := Lib.hid (show w1.heap[w.heap.size + 1]? = some (.cells (hv (putL s (pad s.c)).m (putL s (pad s.c)).r (putL s (pad s.c)).c) 123 (0, 0)) from hh)
  have hs1 : w.heap.size + 2 ≤ w1.heap.size := by have := hgr.size; simpa using this
  have HQ0 := Lib.hid (show w1.heap[w.heap.size]? = some (.cells (bv (zl 32)) 62 (0, 0)) from (hgr.block _ (by simp; omega) (by simp)).trans ((heap_prev _ _ _ (by simp)).trans (heap_last _ _ _ rfl)))
  have HBel := Lib.hid (show Below w.heap.size w w1 from ⟨hgr.os, hgr.tape, hgr.output, by omega, fun k hk => (hgr.block k (by simp; omega) (by simp; omega)).trans ((heap_prev _ _ _ (by simp; omega)).trans (heap_prev _ _ _ hk))⟩)
  clear hh hgr
  have HO2 := Lib.hid (show (putL s (pad s.c)).Ok from putL_ok HO.out (pad_lt _))
  have HR := Lib.hid (show sumL s = dig (putL s (pad s.c)).m from by unfold sumL; rfl)
  generalize putL s (pad s.c) = s2 at *
  go_wp2_with (first
    | ((with_reducible refine wl_loadP (dst := 12) (w.heap.size + 1) 0 123 (wv s2.m) (hv s2.m s2.r s2.c) (0, 0) 8 28 Tryz.underlying121 ?_ ?_ ?_ ?_ ?_); (· rfl); (· exact HH1.out); (· exact hv_wordsAt _); (· rw [wv_size, HO2.out.m8]; exact info42)))
  refine (digest_any s2.m _ HO2.out.m8 HO2.out.m1).mono ?_
  rintro e w2 ⟨rfl, hb2⟩
  have HB2 := Lib.hid hb2
  clear hb2
  go_wp2_with (first
    | ((with_reducible refine wl_store (ty := 62) w.heap.size 62 (bv (zl 32)) (bv (dig s2.m)) ?_ ?_ ?_ ?_ ?_ ?_ ?_); (· rfl); (· rfl); (· exact (HB2.out.block _ (by omega)).trans HQ0.out); (· rw [bv_size, dig_len]; exact info25); (· rw [bv_size, bv_size, dig_len, zl_len]); (· exact bv_one _)))
  rw [HR.out]
  refine ret_row Tryz.results37 w.heap.size 62 (bv (dig s2.m)) (0, 0) 32 5 Tryz.underlying62 rfl ?_ ?_ rfl ⟨rfl, ?_⟩
  · exact setRow_heap _ _ _ _ _ _ ((HB2.out.block _ (by omega)).trans HQ0.out)
  · rw [bv_size, dig_len]; exact info25
  · exact below_setRow' (HBel.out.trans (HB2.out.mono (by omega))) (Nat.le_refl _) _

theorem Byt.grown {w w' : World} {g g' : Nat} {v : Value} {l : List Nat} (h : Byt w g v l) (hb : Below w.heap.size w w') (hg : ∀ b, b < w.heap.size → b ≠ g') : Byt w' g' v l := by
  obtain ⟨p, cap, h1, h2, h3⟩ := h
  refine ⟨p, cap, h1, h2, fun h0 => ?_⟩
  obtain ⟨b, o, e1, _, e3, e4⟩ := h3 h0
  exact ⟨b, o, e1, hg b e3, Nat.lt_of_lt_of_le e3 hb.size, fun j hj => (hb.cell (p := ⟨b, o + j, none⟩) e3).trans (e4 j hj)⟩

set_option maxRecDepth 100000 in
set_option maxHeartbeats 800000 in
theorem of_any (l : List Nat) (v : Value) (w : World) (hl : Lt 256 l) (hc : l.length + 72 < 1152921504606846976) (hG : Gl w) (hb : Byt w w.heap.size v l) :
    Calls Tryz.prog 51 #[v] w fun e w' => e = .returned (.agg (bv (shaL l))) ∧ Below w.heap.size w w' := by
  have HL := Lib.hid hl; clear hl
  have HC := Lib.hid hc; clear hc
  have HG := Lib.hid hG; clear hG
  have HV := Lib.hid hb; clear hb
  have hs := HG.out.size
  go_enter Tryz.func51, Tryz.ntmps51
  go_wp2_with fail
  have HB0 := Lib.hid (show Below w.heap.size w (w.alloc (.cells (bv (zl 32)) 62)) from (Below.refl _ _).alloc (Nat.le_refl _) _)
  refine (new_any _ (HG.out.below hs HB0.out)).mono ?_
  rintro e w1 ⟨rfl, rfl⟩
  have HB1 := Lib.hid (show Below w.heap.size w ((w.alloc (.cells (bv (zl 32)) 62)).alloc (.cells (hv BEG (zl 64) 0) 123)) from HB0.out.alloc (by simp) _)
  go_wp2_with fail
  refine (write_any (w.heap.size + 1) hs0 l v _ hs0_ok HL.out (by show 0 + l.length < _; have := HC.out; omega) (by exact HG.out.below hs HB1.out) (by omega) (by exact heap_last _ _ _ (by simp)) (by exact HV.out.grown HB1.out (fun b h => by omega))).mono ?_
  rintro e w2 ⟨rfl, hh, hgr⟩
  have HH2 := Lib.hid hh
  have hs2 : w.heap.size + 2 ≤ w2.heap.size := by have := hgr.size; simpa using this
  have HQ0 := Lib.hid (show w2.heap[w.heap.size]? = some (.cells (bv (zl 32)) 62 (0, 0)) from (hgr.block _ (by simp; omega) (by simp)).trans ((heap_prev _ _ _ (by simp)).trans (heap_last _ _ _ rfl)))
  have HB2 := Lib.hid (show Below w.heap.size w w2 from ⟨hgr.os, hgr.tape, hgr.output, by omega, fun k hk => (hgr.block k (by simp; omega) (by simp; omega)).trans ((heap_prev _ _ _ (by simp; omega)).trans (heap_prev _ _ _ hk))⟩)
  clear hh hgr
  go_wp2_with fail
  refine (sum_any (w.heap.size + 1) (putL hs0 l) w2 (putL_ok hs0_ok HL.out) (by rw [putL_c]; show 0 + l.length + 72 < _; have := HC.out; omega) (HG.out.below hs HB2.out) HH2.out).mono ?_
  rintro e w3 ⟨rfl, hb3⟩
  have HB3 := Lib.hid hb3
  clear hb3
  have HR := Lib.hid (show sumL (putL hs0 l) = shaL l from by unfold shaL; rfl)
  rw [HR.out]
  go_wp2_with (first
    | ((with_reducible refine wl_store (ty := 62) w.heap.size 62 (bv (zl 32)) (bv (shaL l)) ?_ ?_ ?_ ?_ ?_ ?_ ?_); (· rfl); (· rfl); (· exact (HB3.out.block _ (by omega)).trans HQ0.out); (· rw [bv_size, shaL_len]; exact info25); (· rw [bv_size, bv_size, shaL_len, zl_len]); (· exact bv_one _)))
  refine ret_row Tryz.results51 w.heap.size 62 (bv (shaL l)) (0, 0) 32 5 Tryz.underlying62 rfl ?_ ?_ rfl ⟨rfl, ?_⟩
  · exact setRow_heap _ _ _ _ _ _ ((HB3.out.block _ (by omega)).trans HQ0.out)
  · rw [bv_size, shaL_len]; exact info25
  · exact below_setRow' (HB2.out.trans (HB3.out.mono (by omega))) (Nat.le_refl _) _
end Go.Proofs.YtgaoeljdlpemnaaGreatDoor.Hs
/- The text of a digest. No program is spoken of here. -/
namespace Go.Sha
open Go.RowKit

def hexc (n : Nat) : Nat := if n < 10 then 48 + n else 87 + n
def txTo (d : List Nat) : Nat → List Nat
  | 0 => zl 64
  | k + 1 => ((txTo d k).set (2 * k) (hexc (at0 d k / 16))).set (2 * k + 1) (hexc (at0 d k % 16))
theorem txTo_len (d : List Nat) : ∀ k, (txTo d k).length = 64
  | 0 => zl_len 64
  | k + 1 => by rw [txTo, List.length_set, List.length_set, txTo_len d k]
theorem txTo_zero (d : List Nat) : txTo d 0 = zl 64 := rfl
theorem txTo_succ (d : List Nat) (k : Nat) : txTo d (k + 1) = ((txTo d k).set (2 * k) (hexc (at0 d k / 16))).set (2 * k + 1) (hexc (at0 d k % 16)) := rfl
/-- a list of numbers below 256 as a string -/
def strN (l : List Nat) : ByteArray := ⟨(l.map fun n => UInt8.ofNat n).toArray⟩
def textL (d : List Nat) : ByteArray := strN (txTo d 32)
theorem hex_at : ∀ (y : Nat) (h : y < 16), ((⟨#[48, 49, 50, 51, 52, 53, 54, 55, 56, 57, 97, 98, 99, 100, 101, 102]⟩ : ByteArray)[y]'h).toNat = hexc y := by decide
theorem strN_nums (l : List Nat) : strOfNums (l.map fun (n : Nat) => (n : Int)) = strN l := by simp [strOfNums, strN, Function.comp_def]
attribute [irreducible] txTo textL
end Go.Sha
namespace Go.Sha
open Go.RowKit
variable {P : Program}

theorem eqItems_bytes (w : World) (d : Nat) {e : TypeId} (he : P.underlying e = some (.int .u8)) (x y : List Nat) : ∀ (is : List Nat), (∀ i ∈ is, i < x.length ∧ i < y.length) →
    (Op.eqItems (d + 1) e 1 (bv x) (bv y) is).run P w = .ok (is.all fun i => at0 x i == at0 y i) w
  | [], _ => by simp [Op.eqItems]
  | i :: is, h => by
    obtain ⟨h1, h2⟩ := h i (by simp)
    have p1 : (part e (bv x) (i * 1)).run P w = .ok (.int .u8 (at0 x i : Nat)) w := by
      simp [part, isAgg, run_underlying he, bv_get x i h1]
    have p2 : (part e (bv y) (i * 1)).run P w = .ok (.int .u8 (at0 y i : Nat)) w := by
      simp [part, isAgg, run_underlying he, bv_get y i h2]
    have p3 : (Op.equalIn (d + 1) e (.int .u8 (at0 x i : Nat)) (.int .u8 (at0 y i : Nat))).run P w = .ok (at0 x i == at0 y i) w := by
      rw [run_equalIn_int w d e .u8 .u8 _ _ he]
      congr 1
      rw [Bool.eq_iff_iff]; simp only [beq_iff_eq]; omega
    have ih := eqItems_bytes w d he x y is (fun j hj => h j (by simp [hj]))
    simp only [Op.eqItems, Sem.run_bind, p1, p2, p3, Result.andThen_ok, List.all_cons]
    cases hb : (at0 x i == at0 y i)
    · simp
    · simpa using ih
theorem all_at0 {x y : List Nat} {n : Nat} (hx : x.length = n) (hy : y.length = n) : ((List.range n).all fun i => at0 x i == at0 y i) = decide (x = y) := by
  rw [Bool.eq_iff_iff]
  simp only [List.all_eq_true, List.mem_range, beq_iff_eq, decide_eq_true_eq]
  constructor
  · intro h
    apply List.ext_getElem (by omega)
    intro i h1 h2
    have := h i (by omega)
    simpa [at0, List.getD_eq_getElem?_getD, h1, h2] using this
  · rintro rfl i _; rfl
theorem run_equalIn_bytes (w : World) (d : Nat) {t e : TypeId} {n : Nat} (hu : P.underlying t = some (.array n e)) (he : P.underlying e = some (.int .u8)) (hc : P.cellsOf e = 1) (x y : List Nat) (hx : x.length = n) (hy : y.length = n) :
    (Op.equalIn (d + 2) t (.agg (bv x)) (.agg (bv y))).run P w = .ok (decide (x = y)) w := by
  obtain ⟨i, hi⟩ := info_of_underlying he
  rw [run_equalIn_array w (d + 1) (bv x) (bv y) hu hi, hc, eqItems_bytes w d he x y _ (fun j hj => by simp at hj; omega), all_at0 hx hy]
theorem run_eql_bytes (w : World) {t e : TypeId} {n : Nat} (hu : P.underlying t = some (.array n e)) (he : P.underlying e = some (.int .u8)) (hc : P.cellsOf e = 1) (x y : List Nat) (hx : x.length = n) (hy : y.length = n) :
    (binOp .eql t (.agg (bv x)) (.agg (bv y))).run P w = .ok (.bool (decide (x = y))) w := by
  rw [run_eql_struct, run_equalIn_bytes w 9998 hu he hc x y hx hy]; rfl
theorem run_neq_bytes (w : World) {t e : TypeId} {n : Nat} (hu : P.underlying t = some (.array n e)) (he : P.underlying e = some (.int .u8)) (hc : P.cellsOf e = 1) (x y : List Nat) (hx : x.length = n) (hy : y.length = n) :
    (binOp .neq t (.agg (bv x)) (.agg (bv y))).run P w = .ok (.bool (!decide (x = y))) w := by
  rw [run_neq_struct, run_equalIn_bytes w 9998 hu he hc x y hx hy]; rfl
/-- the operations -/
theorem wl_eql {ops : Array Oper} {rest : List Oper} {a : Act} {w : World} {Q : Exit → Act → World → Prop} {dst : Tmp} {ty typ ty2 : TypeId} {x y : Operand} {pos : String} {after : Array Edge}
    (e : TypeId) (n : Nat) (l k : List Nat) (hu : P.underlying ty = some (.array n e)) (he : P.underlying e = some (.int .u8)) (hc : P.cellsOf e = 1) (hm : P.eqGuardType P.depth ty = false)
    (hx : a.eval x = .agg (bv l)) (hy : a.eval y = .agg (bv k)) (hl : l.length = n) (hk : k.length = n)
    (h : wpList P ops Q rest (a.put (some dst) (.bool (decide (l = k)))) w) : wpList P ops Q (⟨some dst, .binOp .eql ty x y ty2, typ, pos, after, none⟩ :: rest) a w := by
  refine wpList_plain rfl fun K hK => ?_
  unfold Oper.wp execOp
  simp only [hx, hy, Sem.run_bind, run_eqGuard_agg w .eql ty x y (bv l) (bv k) hm, Result.andThen_ok, run_eql_bytes w hu he hc l k hl hk, Sem.run_pure]
  exact hK _ _ h
theorem wl_neq {ops : Array Oper} {rest : List Oper} {a : Act} {w : World} {Q : Exit → Act → World → Prop} {dst : Tmp} {ty typ ty2 : TypeId} {x y : Operand} {pos : String} {after : Array Edge}
    (e : TypeId) (n : Nat) (l k : List Nat) (hu : P.underlying ty = some (.array n e)) (he : P.underlying e = some (.int .u8)) (hc : P.cellsOf e = 1) (hm : P.eqGuardType P.depth ty = false)
    (hx : a.eval x = .agg (bv l)) (hy : a.eval y = .agg (bv k)) (hl : l.length = n) (hk : k.length = n)
    (h : wpList P ops Q rest (a.put (some dst) (.bool (!decide (l = k)))) w) : wpList P ops Q (⟨some dst, .binOp .neq ty x y ty2, typ, pos, after, none⟩ :: rest) a w := by
  refine wpList_plain rfl fun K hK => ?_
  unfold Oper.wp execOp
  simp only [hx, hy, Sem.run_bind, run_eqGuard_agg w .neq ty x y (bv l) (bv k) hm, Result.andThen_ok, run_neq_bytes w hu he hc l k hl hk, Sem.run_pure]
  exact hK _ _ h
end Go.Sha
