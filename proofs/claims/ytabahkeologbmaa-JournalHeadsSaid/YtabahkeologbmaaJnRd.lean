/- Contract of readData. -/
import Derived.Test.YtabahkeologbmaaJnC
namespace Go.Proofs.Ytabahkeologbmaa.Jn
open Go.RowKit Go.Shelf Go.Dk Go.Jn Go.Sha Go.Proofs.Ytabahkeologbmaa.Dk

theorem run_subH (w : World) (p : Option Addr) (L cap hi : Nat) (k : IntKind) (h : Int) (hh : h = (hi : Int)) (h1 : hi ≤ cap) :
    (Instr.sliceAt 40 (.slice p L cap) none (some (.int k h)) none).run Try.prog w = .ok (.slice (sbp p cap 0) hi cap) w := by
  subst hh
  rw [run_sliceAt_slice _ _ _ _ _ _ undB, run_slice_h _ _ _ _ _ undB _ _ (by omega) (by omega), elemB, sizeB, Result.andThen_ok]
  unfold sliced sbp
  rw [Int.toNat_natCast, Nat.sub_zero, Nat.sub_zero]
theorem wl_subH {ops : Array Oper} {rest : List Oper} {a : Act} {w : World} {Q : Exit → Act → World → Prop} {dst : Tmp} {x z : Operand} {typ : TypeId} {pos : String} {after : Array Edge}
    (p : Option Addr) (L cap hi : Nat) (k : IntKind) (h : Int) (hx : a.eval x = .slice p L cap) (hz : a.eval z = .int k h) (hh : h = (hi : Int)) (h1 : hi ≤ cap)
    (hK : wpList Try.prog ops Q rest (a.put (some dst) (.slice (sbp p cap 0) hi cap)) w) : wpList Try.prog ops Q (⟨some dst, .slice 40 x none (some z) none, typ, pos, after, none⟩ :: rest) a w := by
  refine wpList_plain rfl fun K hK' => ?_
  unfold Oper.wp execOp
  simp only [hx, hz, Option.map_some, Option.map_none, Sem.run_bind, run_subH w p L cap hi k h hh h1, Result.andThen_ok, Sem.run_pure]
  exact hK' _ _ hK
theorem own_take {w : World} {base L cap k : Nat} {p : Option Addr} {l : By} (h : w.ownsRow base 5 1 (.slice p L cap) L (Lib.byteCells l)) (hL : l.length = L) (hk : k ≤ L) : OwnB w base (.slice (sbp p cap 0) k cap) (l.take k) := by
  have hlen : (l.take k).length = k := by rw [List.length_take]; omega
  show w.ownsRow base 5 1 _ (l.take k).length _
  rw [hlen]
  obtain ⟨_, ⟨e, e2⟩ | ⟨g, cap', cur, e, hb, hg, hn, hm, hs, ht⟩⟩ := h
  · simp only [Value.slice.injEq] at e
    obtain ⟨rfl, rfl, rfl⟩ := e
    obtain rfl : k = 0 := by omega
    exact ⟨by rw [byl_len, hlen], Or.inl ⟨rfl, rfl⟩⟩
  · simp only [Value.slice.injEq, true_and] at e
    obtain ⟨rfl, rfl⟩ := e
    refine ⟨by rw [byl_len, hlen, Nat.mul_one], Or.inr ⟨g, cap, cur, ?_, hb, hg, by omega, hm, hs, ?_⟩⟩
    · have : sbp (some ⟨g, 0, none⟩) cap 0 = some ⟨g, 0, none⟩ := by
        unfold sbp; split
        · rfl
        · rfl
      rw [this]
    · rw [Nat.mul_one] at ht ⊢
      rw [← byl_take, ← ht, List.take_take, Nat.min_eq_left hk]
def DatP (rs : List By) (t : By) (w : World) (e : Ending) (w' : World) : Prop := (if t = [] then ∃ v, e = .returned (.tuple #[v, .int .i64 0]) ∧ OwnB w' w.heap.size v (dat rs) else e = .returned (.tuple #[.slice none 0 0, .int .i64 130])) ∧ Below w.heap.size w w'
set_option maxRecDepth 100000 in
set_option maxHeartbeats 800000 in
theorem readData_any {D L M : Nat} {d : Dk} {w : World} (h : DkAt w D L M d) (hd : d.dead = false) (h4 : 4 ≤ d.n) (len : Nat) (hlen : len ≤ 64 * (d.n - 2)) (rs : List By) (t : By) (hdt : (rdsL d 2 (secs len)).take len = dat rs ++ t) (ht : Stuck t) :
    Calls Try.prog 30 #[pD D, .int .u64 (len : Int)] w (DatP rs t w) := by
  have hn2 := h.ok.n2
  have hn1 := h.ok.n1
  have hse : secs len * 64 ≤ len + 63 := by unfold secs; omega
  have hse2 : len ≤ secs len * 64 := by unfold secs; omega
  have hfit : 2 + secs len ≤ d.n ∨ secs len = 0 := by omega
  have hrl := rds_len h.ok 2 (secs len)
  have HRD := Lib.hid (fun hh => read_any h hd 2 (secs len) hh)
  have HSF := Lib.hid (sectorsFor_any len (by omega) w)
  have HRL := Lib.hid hrl
  have hlI : (len : Int) ≤ 1000000 := by omega
  have hl0 : (0 : Int) ≤ (len : Int) := Int.natCast_nonneg _
  have HW := Lib.hid (u64_in (x := (len : Int)) (by omega) (by omega))
  have hdl : (dat rs ++ t).length = len := by rw [← hdt, List.length_take, hrl]; omega
  have hsz : 2 + secs len ≤ d.n := by omega
  have HR := Lib.hid (HRD.out hsz)
  have HDT := Lib.hid hdt
  have HDL := Lib.hid hdl
  have HSE := Lib.hid hse2
  clear h hd hdt hrl hse hse2 hfit hsz hdl HRD hlen hn2 hn1 h4
  go_enter Try.func30, Try.ntmps30
  go_wp2_with (first
    | (go_at_call 47; refine (HSF.out).mono ?_; rintro e w1 ⟨rfl, rfl⟩)
    | (go_at_call 21; refine (HR.out).mono ?_; rintro e w1 ⟨v, rfl, hrow, hb⟩; obtain ⟨p, cap, rfl⟩ := own_slice hrow)
    | (go_at_call 48; fail)
    | ((with_reducible refine wl_subH (dst := 22) p (rdsL d 2 (secs len)).length cap len .u64 (len : Int) ?_ ?_ rfl ?_ ?_); (· rfl); (· rfl); (· obtain ⟨_, _, e, hc, _⟩ := row_own (F := fun _ => True) hrow (fun _ _ => trivial); cases e; rw [HRL.out] at hc; have := HSE.out; omega)))
  have ho := own_take hrow rfl (show len ≤ (rdsL d 2 (secs len)).length from by rw [HRL.out]; have := HSE.out; omega)
  rw [HDT.out] at ho
  have HO := Lib.hid ho
  have hlt := fun b (e : some b = (Value.slice (sbp p cap 0) len cap).ownBlock) => (own_lt ho e.symm).2
  have hbf := row_own (F := fun b => some b = (Value.slice (sbp p cap 0) len cap).ownBlock) ho (fun b e => e.symm)
  rw [← HDL.out] at hbf hlt
  have HAR := Lib.hid (are_any rs t ht (by rw [HDL.out]; omega) (sbp p cap 0) cap (fun b => some b = (Value.slice (sbp p cap 0) (dat rs ++ t).length cap).ownBlock) w1 hlt hbf)
  have HB := Lib.hid hb
  rw [HDL.out] at HAR
  clear ho hlt hbf hb hrow
  by_cases h0 : t = []
  · have ht0 : decide (t = []) = true := decide_eq_true h0
    go_wp2_with (go_at_call 48; refine (HAR.out).mono ?_; rintro e w2 ⟨rfl, hb2⟩)
    go_ret2
    have ho := HO.out
    rw [h0, List.append_nil] at ho
    refine ⟨(if_pos h0).mpr ⟨_, rfl, ?_⟩, HB.out.trans (hb2.mono HB.out.size)⟩
    have hl : (dat rs).length = len := by rw [← HDL.out, h0, List.append_nil]
    rw [h0, List.append_nil] at HDL
    have ho2 : OwnB w1 w.heap.size (.slice (sbp p cap 0) len cap) (dat rs) := ho
    exact own_keep ho2 (fun g cs _ hg => (hb2.block _ (lt_of_heap hg)).trans hg)
  · have ht0 : decide (t = []) = false := decide_eq_false h0
    go_wp2_with (go_at_call 48; refine (HAR.out).mono ?_; rintro e w2 ⟨rfl, hb2⟩)
    go_ret2
    exact ⟨(if_neg h0).mpr rfl, HB.out.trans (hb2.mono HB.out.size)⟩
end Go.Proofs.Ytabahkeologbmaa.Jn
