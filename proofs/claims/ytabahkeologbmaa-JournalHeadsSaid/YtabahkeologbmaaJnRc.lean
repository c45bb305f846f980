/- The iterator over records. -/
import Derived.Test.YtabahkeologbmaaJnS
import Derived.Test.YtabahkeologbmaaDkL
namespace Go.Jn
open Go.Dk
/-- where the k-th record begins -/
def stA (rs : List By) (k : Nat) : Nat := (dat (rs.take k)).length
theorem stA_zero (rs : List By) : stA rs 0 = 0 := rfl
theorem dat_at {rs : List By} {k : Nat} {r : By} (h : rs[k]? = some r) : dat rs = dat (rs.take k) ++ (beL 4 r.length ++ (r ++ dat (rs.drop (k + 1)))) := by
  obtain ⟨hk, rfl⟩ := List.getElem?_eq_some_iff.1 h
  have e : rs = rs.take k ++ (rs[k] :: rs.drop (k + 1)) := by rw [← List.drop_eq_getElem_cons hk, List.take_append_drop]
  have e2 : dat rs = dat (rs.take k ++ (rs[k] :: rs.drop (k + 1))) := congrArg dat e
  rw [e2, dat_app]
  show _ ++ (recB _ ++ dat _) = _
  rw [recB, List.append_assoc]
theorem stA_succ {rs : List By} {k : Nat} {r : By} (h : rs[k]? = some r) : stA rs (k + 1) = stA rs k + 4 + r.length := by
  unfold stA
  rw [List.take_add_one, h]
  exact dat_snoc_len _ _
theorem stA_all (rs : List By) : stA rs rs.length = (dat rs).length := by unfold stA; rw [List.take_length]
theorem dat_len {rs : List By} {k : Nat} {r : By} (h : rs[k]? = some r) (t : By) : stA rs k + 4 + r.length ≤ (dat rs ++ t).length := by
  rw [dat_at h]; unfold stA; simp only [List.length_append, beL_len]; omega
theorem dat_head {rs : List By} {k : Nat} {r : By} (h : rs[k]? = some r) (t : By) : ((dat rs ++ t).drop (stA rs k)).take 4 = beL 4 r.length := by
  rw [dat_at h]; unfold stA
  rw [List.append_assoc, List.drop_append_of_le_length (Nat.le_refl _), List.drop_of_length_le (Nat.le_refl _), List.nil_append, List.append_assoc, List.take_append_of_le_length (by rw [beL_len]; omega), List.take_of_length_le (by rw [beL_len]; omega)]
theorem dat_body {rs : List By} {k : Nat} {r : By} (h : rs[k]? = some r) (t : By) : ((dat rs ++ t).drop (stA rs k + 4)).take r.length = r := by
  rw [dat_at h]; unfold stA
  rw [List.append_assoc, ← List.drop_drop, List.drop_append_of_le_length (Nat.le_refl _), List.drop_of_length_le (Nat.le_refl _), List.nil_append, List.append_assoc, List.drop_append_of_le_length (by rw [beL_len]; omega), List.drop_of_length_le (by rw [beL_len]; omega), List.nil_append, List.append_assoc, List.take_append_of_le_length (Nat.le_refl _), List.take_of_length_le (Nat.le_refl _)]
theorem dat_tail (rs : List By) (t : By) : (dat rs ++ t).drop (stA rs rs.length) = t := by
  rw [stA_all, List.drop_append_of_le_length (Nat.le_refl _), List.drop_of_length_le (Nat.le_refl _), List.nil_append]
theorem val_len {r : By} (h : r.length ≤ 1000000) : valB (beL 4 r.length) = r.length := by rw [valB_beL, Nat.mod_eq_of_lt (by have : (256 : Nat) ^ 4 = 4294967296 := rfl; omega)]
end Go.Jn
namespace Go.Proofs.Ytabahkeologbmaa.Jn
open Go.RowKit Go.Shelf Go.Dk Go.Jn Go.Sha Go.Proofs.Ytabahkeologbmaa.Dk
attribute [local go_sem] Oper.semAt_some

/-- where a slice that begins at k points to -/
def sbp (p : Option Addr) (cap k : Nat) : Option Addr := if cap = k then p else p.map (·.add (k * 1))
theorem elemB : Try.prog.elem 40 = 5 := by kernel_rfl
theorem undB : Try.prog.underlying 40 = some (.slice (Try.prog.elem 40)) := by rw [elemB]; exact Try.underlying40
theorem sizeB (w : World) : (sizeOf 5).run Try.prog w = .ok 1 w := by
  obtain ⟨i0, hi0, _, hz1, _⟩ := info_parts par_u8
  simp [sizeOf, typeInfo, hi0, hz1]
theorem run_subLH (w : World) (p : Option Addr) (L cap lo : Nat) (l h : Int) (k : Nat) (hl : l = (lo : Int)) (hh : h = ((lo + k : Nat) : Int)) (h1 : lo + k ≤ cap) :
    (Instr.sliceAt 40 (.slice p L cap) (some (.int .i64 l)) (some (.int .i64 h)) none).run Try.prog w = .ok (.slice (sbp p cap lo) k (cap - lo)) w := by
  subst hl; subst hh
  rw [run_sliceAt_slice _ _ _ _ _ _ undB, run_slice_lh _ _ _ _ _ undB _ _ _ _ (by omega) (by omega) (by omega), elemB, sizeB, Result.andThen_ok]
  unfold sliced sbp
  rw [Int.toNat_natCast, Int.toNat_natCast, show lo + k - lo = k by omega]
theorem run_subL (w : World) (p : Option Addr) (L cap lo : Nat) (l : Int) (hl : l = (lo : Int)) (h1 : lo ≤ L) :
    (Instr.sliceAt 40 (.slice p L cap) (some (.int .i64 l)) none none).run Try.prog w = .ok (.slice (sbp p cap lo) (L - lo) (cap - lo)) w := by
  subst hl
  rw [run_sliceAt_slice _ _ _ _ _ _ undB, run_slice_l _ _ _ _ _ undB _ _ (by omega) (by omega), elemB, sizeB, Result.andThen_ok]
  unfold sliced sbp
  rw [Int.toNat_natCast]
theorem row_sub {w : World} {F : Nat → Prop} {L cap : Nat} {p : Option Addr} {l : By} (h : BysF w F (.slice p L cap) l) (lo k : Nat) (hL : l.length = L) (hk : lo + k ≤ L) : BysF w F (.slice (sbp p cap lo) k (cap - lo)) ((l.drop lo).take k) := by
  obtain ⟨p', cap', e, hc, hp⟩ := h
  cases e
  have hlen : ((l.drop lo).take k).length = k := by rw [List.length_take, List.length_drop]; omega
  refine ⟨sbp p cap lo, cap - lo, by rw [hlen], by rw [hlen]; omega, fun h0 => ?_⟩
  rw [hlen] at h0
  obtain ⟨b, o, rfl, e2, e3⟩ := hp (by omega)
  refine ⟨b, o + lo, ?_, e2, fun j u hu => ?_⟩
  · unfold sbp
    rw [if_neg (by omega), Option.map_some, Nat.mul_one, Addr.add_mid]
  · have hj : j < k := by have := (List.getElem?_eq_some_iff.1 hu).1; rw [byl_len, hlen] at this; exact this
    rw [show o + lo + j = o + (lo + j) by omega]
    refine e3 (lo + j) u ?_
    unfold Lib.byteCells at hu ⊢
    rw [List.getElem?_map, List.getElem?_take, if_pos hj, List.getElem?_drop] at hu
    rw [List.getElem?_map]; exact hu
theorem wlI_subLH {F : Fence} {nF : Nat} {ops : Array Oper} {rest : List Oper} {a : Act} {w : World} {Q : Exit → Act → World → Prop} {dst : Tmp} {x y z : Operand} {typ : TypeId} {pos : String} {after : Array Edge}
    (p : Option Addr) (L cap lo k : Nat) (l h : Int) (hx : a.eval x = .slice p L cap) (hy : a.eval y = .int .i64 l) (hz : a.eval z = .int .i64 h) (hl : l = (lo : Int)) (hh : h = ((lo + k : Nat) : Int)) (h1 : lo + k ≤ cap)
    (hK : wpListIn F nF Try.prog ops Q rest (a.put (some dst) (.slice (sbp p cap lo) k (cap - lo))) w) : wpListIn F nF Try.prog ops Q (⟨some dst, .slice 40 x (some y) (some z) none, typ, pos, after, none⟩ :: rest) a w := by
  refine wpListIn_plain rfl fun K' hK' => ?_
  unfold Oper.wpIn
  refine ⟨by simp [Oper.about], ?_⟩
  rw [Oper.semAt_plain F _ _ (by intro c hc'; cases hc')]
  unfold execOp
  simp only [hx, hy, hz, Option.map_some, Option.map_none, Sem.run_bind, run_subLH w p L cap lo l h k hl hh h1, Result.andThen_ok, Sem.run_pure]
  exact hK' _ _ hK
/-- records by their numbers -/
abbrev Rx (m : Nat) := { k : Nat // k < m }
structure RcE (Bd n0 : Nat) (F : Nat → Prop) (v : Value) (data : By) (W : World) : Prop where
  bx : W.heap[Bd]? = some (.cells #[v] 40 (0, 0))
  row : BysF W F v data
  sz : n0 ≤ W.heap.size
theorem RcE.kept {X : Nat → Prop} {Bd n0 : Nat} {F : Nat → Prop} {v : Value} {data : By} {W W' : World} (h : RcE Bd n0 F v data W) (hk : KpX X n0 W W') (hX : ¬ X Bd) (hF : ∀ b, F b → ¬ X b ∧ b < n0) : RcE Bd n0 F v data W' :=
  ⟨hk.cells hX h.bx, h.row.kept (fun b hb => ⟨hb, by
    have hlt : b < W.heap.size := Nat.lt_of_lt_of_le (hF b hb).2 h.sz
    have ho : W.heap[b]? = some W.heap[b] := Array.getElem?_eq_getElem hlt
    rw [ho]
    exact hk.2 b _ (hF b hb).1 ho (.inr (hF b hb).2)⟩), Nat.le_trans h.sz hk.1⟩
/-- the slice of the k-th record -/
abbrev rcV (p : Option Addr) (cap : Nat) (rs : List By) (k : Nat) : Value := .slice (sbp p cap (stA rs k + 4)) (rs.getD k []).length (cap - (stA rs k + 4))
set_option maxRecDepth 100000 in
set_option maxHeartbeats 2000000 in
theorem recs1_in (n : Nat) (hn : 2 ≤ n) (l : Nat) (X : Nat → Prop) (n0 : Nat) (Bd : Nat) (F : Nat → Prop) (p : Option Addr) (cap : Nat) (rs : List By) (t : By) (ht : Stuck t) (hlen : (dat rs ++ t).length ≤ 1000000) (hX : ¬ X Bd) (hF : ∀ b, F b → ¬ X b ∧ b < n0)
    (J Jx : List (Rx rs.length) → World → Prop) (W : World)
    (hY : ∀ pre (x : Rx rs.length) W, J pre W → pre.length < rs.length → YieldAt Fence.wide (n - 1) Try.prog l #[.int .i64 (stA rs (x.1 + 1) : Int), rcV p cap rs x.1] W fun e W' =>
      (e = .returned (.bool true) ∧ J (pre ++ [x]) W' ∧ KpX X n0 W W') ∨ (e = .returned (.bool false) ∧ Jx (pre ++ [x]) W'))
    (hE : RcE Bd n0 F (.slice p (dat rs ++ t).length cap) (dat rs ++ t) W) (h0 : J [] W) :
    CallsIn Fence.wide n Try.prog 50 #[.func (.yield l) #[] #[], .pointer (some ⟨Bd, 0, none⟩)] W fun e W' => (∃ v, e = .returned v) ∧
      ((∃ ys, ys = pcs rs.length rs.length ∧ J ys W') ∨ (∃ pre, True ∧ Jx pre W')) := by
  have hl1 : ((dat rs ++ t).length : Int) ≤ 1000000 := by omega
  refine callsIn_of_wp Try.func50 rfl trivial ?_ rfl
  simp only [Try.ntmps50, List.size_toArray, List.length_cons, List.length_nil, Nat.reduceAdd, Nat.reduceSub, Array.replicate_succ, Array.replicate_zero, List.push_toArray, List.append_toArray, List.nil_append, List.cons_append]
  have HEa := Lib.hid hE
  have HLN := Lib.hid hlen
  clear hE hlen
  have h1n : 1 ≤ n := by omega
  gi_wp2
  gi_loopw [3] (fun i wr => ∃ k : Nat, k ≤ rs.length ∧ i = .int .i64 (stA rs k : Int) ∧ J (pcs rs.length k) wr ∧ RcE Bd n0 F (.slice p (dat rs ++ t).length cap) (dat rs ++ t) wr)
    (fun i _ => (dat rs ++ t).length - (intOf i).toNat)
  case atStart => exact ⟨0, Nat.zero_le _, rfl, h0, HEa.out⟩
  case round =>
    obtain ⟨k, hk, rfl, hJs, hE⟩ := hrel
    have HJ := Lib.hid hJs
    have HE := Lib.hid hE
    have cs : wr.cell? ⟨Bd, 0, none⟩ = some (.slice p (dat rs ++ t).length cap) := cell_of_arr hE.bx 0
    have hcap : (dat rs ++ t).length ≤ cap := by obtain ⟨_, _, e, h, _⟩ := hE.row; cases e; exact h
    clear hJs hE
    by_cases hlt : k < rs.length
    · obtain ⟨r, hr⟩ : ∃ r, rs[k]? = some r := ⟨_, List.getElem?_eq_getElem hlt⟩
      have hd := dat_len hr t
      have hsu := stA_succ hr
      have hrr : rs.getD k [] = r := by rw [List.getD_eq_getElem?_getD, hr]; rfl
      have hrl : r.length ≤ 1000000 := by have := HLN.out; omega
      have HRN := Lib.hid (read_num (((dat rs ++ t).drop (stA rs k)).take 4) (by rw [List.length_take]; omega) _ F wr (row_sub HE.out.row (stA rs k) 4 rfl (by omega)))
      have hval : valB (((dat rs ++ t).drop (stA rs k)).take 4) = r.length := by rw [dat_head hr, val_len hrl]
      rw [hval] at HRN
      have HY := Lib.hid (hY (pcs rs.length k) ⟨k, hlt⟩ wr HJ.out (by rw [pcs_len hk]; exact hlt))
      have HSU := Lib.hid hsu
      dsimp only [rcV] at HY
      rw [hrr] at HY
      obtain ⟨fn, tmps, assign, body, hy, hR⟩ := HY.out
      have HRR := Lib.hid hR
      have HN := Lib.hid hlt
      rw [hsu] at hy
      clear hR hY hval hrr hr hsu HY
      generalize (dat rs ++ t).length = L at *
      generalize hst : stA rs k = st at *
      generalize hrL : r.length = rl at *
      rw [show ((st + 4 + rl : Nat) : Int) = (st : Int) + 4 + (rl : Int) by omega] at hy
      have s0 : (0 : Int) ≤ (st : Int) := Int.natCast_nonneg _
      have s1 : (0 : Int) ≤ (rl : Int) := Int.natCast_nonneg _
      have s2 : (st : Int) + 4 + (rl : Int) ≤ (L : Int) := by omega
      have i1 : decide ((4 : Int) ≤ (L : Int) - (st : Int)) = true := decide_eq_true (by omega)
      have i2 : IntKind.u64.wrap ((L : Int) - ((st : Int) + 4)) = (L : Int) - ((st : Int) + 4) := u64_in (by omega) (by omega)
      have i3 : decide ((L : Int) - ((st : Int) + 4) < (rl : Int)) = false := decide_eq_false (by omega)
      have hST := Lib.hid hst
      have hRL := Lib.hid hrL
      have hD := Lib.hid hd
      clear hst hrL hd
      gi_wp2_with first
        | ((with_reducible refine wlI_subLH (dst := 16) p L cap st 4 (st : Int) ((st : Int) + 4) ?_ ?_ ?_ rfl (by omega) (by omega) ?_); (· rfl); (· rfl); (· rfl))
        | (refine ⟨trivial, ?_⟩; gi_at_call 49; refine (callsIn_wide.2 HRN.out).mono ?_; rintro e w1 ⟨rfl, rfl⟩)
        | ((with_reducible refine wlI_subLH (dst := 34) p L cap (st + 4) rl ((st : Int) + 4) ((st : Int) + 4 + (rl : Int)) ?_ ?_ ?_ (by omega) (by omega) (by have := hD.out; omega) ?_); (· rfl); (· rfl); (· rfl))
      refine (HRR.out).mono ?_
      rintro e W3 (⟨rfl, hJ3, hk3⟩ | ⟨rfl, hJx3⟩)
      · have HE4 := Lib.hid (HE.out.kept hk3 hX hF)
        have HJ4 := Lib.hid hJ3
        clear hk3 hJ3
        gi_wp2
        go_roundw
        case rel => exact ⟨k + 1, HN.out, by rw [HSU.out]; go_num, by rw [pcs_succ hlt]; exact HJ4.out, HE4.out⟩
        case measure => simp [intOf]; have := hD.out; omega
      · gi_wp2
        refine bodyPost_ret (results_none rfl _ _ _) rfl ?_
        exact ⟨⟨_, rfl⟩, .inr ⟨_, trivial, hJx3⟩⟩
    · obtain rfl : k = rs.length := by omega
      have htl : stA rs rs.length + t.length = (dat rs ++ t).length := by rw [stA_all, List.length_append]
      have hst0 := dat_tail rs t
      by_cases ht4 : t.length < 4
      · generalize (dat rs ++ t).length = L at *
        generalize stA rs rs.length = st at *
        have i1 : decide ((4 : Int) ≤ (L : Int) - (st : Int)) = false := decide_eq_false (by omega)
        have s0 : (0 : Int) ≤ (st : Int) := Int.natCast_nonneg _
        have s1 : (st : Int) ≤ (L : Int) := by omega
        gi_wp2
        go_end0
        exact ⟨⟨_, rfl⟩, .inl ⟨_, rfl, HJ.out⟩⟩
      · have hv : t.length - 4 < valB (t.take 4) := ht.resolve_left ht4
        have HRN := Lib.hid (read_num (((dat rs ++ t).drop (stA rs rs.length)).take 4) (by rw [List.length_take]; omega) _ F wr (row_sub HE.out.row (stA rs rs.length) 4 rfl (by omega)))
        rw [hst0] at HRN
        generalize (dat rs ++ t).length = L at *
        generalize stA rs rs.length = st at *
        generalize valB (t.take 4) = V at *
        have i1 : decide ((4 : Int) ≤ (L : Int) - (st : Int)) = true := decide_eq_true (by omega)
        have s0 : (0 : Int) ≤ (st : Int) := Int.natCast_nonneg _
        have s1 : (st : Int) + 4 ≤ (L : Int) := by omega
        have i2 : IntKind.u64.wrap ((L : Int) - ((st : Int) + 4)) = (L : Int) - ((st : Int) + 4) := u64_in (by omega) (by omega)
        have i3 : decide ((L : Int) - ((st : Int) + 4) < (V : Int)) = true := decide_eq_true (by omega)
        have HTL := Lib.hid htl
        clear htl hst0 hv ht4 hlt
        gi_wp2_with first
          | ((with_reducible refine wlI_subLH (dst := 16) p L cap st 4 (st : Int) ((st : Int) + 4) ?_ ?_ ?_ rfl (by omega) (by omega) ?_); (· rfl); (· rfl); (· rfl))
          | (refine ⟨trivial, ?_⟩; gi_at_call 49; refine (callsIn_wide.2 HRN.out).mono ?_; rintro e w1 ⟨rfl, rfl⟩)
        refine bodyPost_ret (results_none rfl _ _ _) rfl ?_
        exact ⟨⟨_, rfl⟩, .inl ⟨_, rfl, HJ.out⟩⟩
theorem rcE_below {Bd n0 : Nat} {F : Nat → Prop} {v : Value} {data : By} {w W : World} (h : RcE Bd n0 F v data w) (hb : Below w.heap.size w W) (hF : ∀ b, F b → b < n0) : RcE Bd n0 F v data W :=
  ⟨(hb.block _ (lt_of_heap h.bx)).trans h.bx, h.row.kept (fun b hb' => ⟨hb', hb.block b (Nat.lt_of_lt_of_le (hF b hb') h.sz)⟩), Nat.le_trans h.sz hb.size⟩
set_option maxRecDepth 100000 in
theorem recs_in (F : Fence) (n : Nat) (hF : F.fn 33) (hro : F.round = none) (p : Option Addr) (L cap : Nat) (w : World) :
    CallsIn F n Try.prog 33 #[.slice p L cap] w fun e w' => e = .returned (.func (.func 50) #[] #[.pointer (some ⟨w.heap.size, 0, none⟩)]) ∧ w' = w.alloc (.cells #[.slice p L cap] 40) := by
  refine callsIn_of_wp Try.func33 rfl hF ?_ hro
  simp only [Try.ntmps33, List.size_toArray, List.length_cons, List.length_nil, Nat.reduceAdd, Nat.reduceSub, Array.replicate_succ, Array.replicate_zero, List.push_toArray, List.append_toArray, List.nil_append, List.cons_append]
  gi_wp2
  go_ret
  exact ⟨rfl, rfl⟩
theorem recs_stops (n : Nat) (hn : 2 ≤ n) (X : Nat → Prop) (n0 : Nat) (Bd : Nat) (F : Nat → Prop) (p : Option Addr) (cap : Nat) (rs : List By) (t : By) (ht : Stuck t) (hlen : (dat rs ++ t).length ≤ 1000000) (hX : ¬ X Bd) (hF : ∀ b, F b → ¬ X b ∧ b < n0) (w : World)
    (hE : RcE Bd n0 F (.slice p (dat rs ++ t).length cap) (dat rs ++ t) w) :
    SeqStopsK Fence.wide n Try.prog 50 #[.pointer (some ⟨Bd, 0, none⟩)] (fun x : Rx rs.length => #[.int .i64 (stA rs (x.1 + 1) : Int), rcV p cap rs x.1]) (KpX X n0) (fun ys => ys = pcs rs.length rs.length) (fun _ => True) rs.length w := fun l J Jx W hW _ _ hY h0 =>
  recs1_in n hn l X n0 Bd F p cap rs t ht hlen hX hF J Jx W hY (rcE_below hE hW (fun b h => (hF b h).2)) h0
end Go.Proofs.Ytabahkeologbmaa.Jn
