/- Contract: the kind that a segment tells, and its fields. -/
import Derived.Test.YtgaoeljdlpemnaaGreatDoorMgSg
import Derived.DeepKeys4
import Derived.Maps.OwnSet
/- Contracts: the texts, and the numbers, that a segment's elements tell. -/
namespace Go.Proofs.YtgaoeljdlpemnaaGreatDoor
open Go.RowKit Go.Edi Go.Wrap Go.Lib

theorem ones_none : ∀ {l : List (List Tx)} {e : List Tx}, e ∈ l → e.length ≠ 1 → onesL l = none
  | x :: r, e, h, he => by
    rcases List.mem_cons.1 h with rfl | h2
    · match e, he with
      | [], _ => rfl
      | [t], he => exact absurd rfl he
      | _ :: _ :: _, _ => rfl
    · match x with
      | [] => rfl
      | [t] =>
        show (onesL r).map (t :: ·) = none
        rw [ones_none h2 he]; rfl
      | _ :: _ :: _ => rfl
/-- blocks that are made by the call -/
abbrev Fr (w w' : World) (b : Nat) : Prop := w.heap.size ≤ b ∧ b < w'.heap.size
def ElsP (o : Option (List Tx)) (w : World) (e : Ending) (w' : World) : Prop :=
  Below w.heap.size w w' ∧ ((∃ l v, o = some l ∧ e = .returned (.tuple #[v, .bool true]) ∧ StrsF w' (Fr w w') v l) ∨ (o = none ∧ e = .returned (.tuple #[.slice none 0 0, .bool false])))
theorem take_ones {els : List (List Tx)} {pre : List Tx} {k : Nat} {t : Tx} (hk : k < els.length) (h : els.take k = pre.map fun x => [x]) (he : els[k] = [t]) : els.take (k + 1) = (pre ++ [t]).map fun x => [x] := by
  rw [← List.take_append_getElem hk, h, he, List.map_append]; rfl
set_option maxRecDepth 100000 in
set_option maxHeartbeats 1600000 in
theorem elementsOf_any (s : Sg) (ve : Value) (tag : Tx) (w : World) (hv : ElsF w (· < w.heap.size) ve s.els) (hl : s.els.length ≤ 1000) :
    Calls Tryz.prog 107 #[.agg #[str s.tag, ve], str tag] w (ElsP (elsOf s tag) w) := by
  obtain ⟨ys, hrow, hys⟩ := hv
  have hle := ElC.len hys
  obtain ⟨p, cap, rfl, hnc, hp⟩ := hrow
  by_cases ht : s.tag = tag
  · have hO : elsOf s tag = onesL s.els := by unfold elsOf; rw [if_pos ht]
    rw [hO]
    have hne : ((tx s.tag).toList == (tx tag).toList) = true := by rw [ht]; simp
    have HP := Lib.hid hp
    have HY := Lib.hid hys
    have hmk := mk_strs s.els.length (by omega)
    have lI : (s.els.length : Int) ≤ 1000 := by omega
    have HZ := Lib.hid (blk_zSt ((w.alloc (.cells #[str s.tag, .slice p s.els.length cap] 112))) s.els.length)
    have HB0 := Lib.hid (show Below w.heap.size w ((w.alloc (.cells #[str s.tag, .slice p s.els.length cap] 112)).alloc (.cells (zSt s.els.length) 9)) from ((Below.refl _ _).alloc (Nat.le_refl _) _).alloc (by simp only [size_a]; omega) _)
    clear hp hys hl ht hO
    go_enter Tryz.func107, Tryz.ntmps107
    go_wp2
    go_loopw [7, 8, 20] (fun _ _ i wr => ∃ (k : Nat) (pre : List Tx), i = .int .i64 k ∧ k ≤ s.els.length ∧ Hid (pre.length = k ∧ s.els.take k = pre.map fun x => [x]) ∧ Hid (Blk wr (w.heap.size + 1) 9 (pre.map str ++ List.replicate (s.els.length - k) (str []))) ∧ Hid (Below w.heap.size w wr)) (fun _ _ i _ => s.els.length - (intOf i).toNat)
    case atStart => exact ⟨0, [], rfl, Nat.zero_le _, ⟨rfl, rfl⟩, (show Blk _ _ _ _ by have := HZ.out; rw [size_a] at this; simpa using this), HB0.out⟩
    case round =>
      obtain ⟨k, pre, rfl, hk, hpre, hB, hb⟩ := hrel
      have HPR := Lib.hid hpre.out
      have HB := Lib.hid hB.out
      have HBB := Lib.hid hb.out
      clear hB hb hpre
      by_cases hlt : (k : Int) < (s.els.length : Int)
      · have hkl : k < s.els.length := by omega
        have hk0 : (0 : Int) ≤ (k : Int) := Int.natCast_nonneg _
        obtain ⟨b, o, rfl, hFb, hc⟩ := HP.out (by omega)
        obtain ⟨y, hy1, py, cy, rfl, hcy, hpy⟩ := HY.out.get k hkl
        have hck : wr.cell? ⟨b, o + k, none⟩ = some (.slice py (s.els[k]).length cy) := (World.cell?_of_block (a := ⟨b, o + k, none⟩) (HBB.out.block b hFb)).trans (hc k _ hy1)
        obtain ⟨el, hel⟩ : ∃ el, el = s.els[k] := ⟨_, rfl⟩
        rw [← hel] at hck hcy hpy
        have HEL := Lib.hid hel
        have HPY := Lib.hid hpy
        have HKL := Lib.hid hkl
        by_cases h1 : el.length = 1
        · obtain ⟨t, ht⟩ : ∃ t, el = [t] := by
            match el, h1 with
            | [t], _ => exact ⟨t, rfl⟩
          subst ht
          obtain ⟨b2, o2, rfl, hFb2, hc2⟩ := HPY.out (by simp)
          have hct : wr.cell? ⟨b2, o2, none⟩ = some (str t) := (World.cell?_of_block (a := ⟨b2, o2, none⟩) (HBB.out.block b2 hFb2)).trans (hc2 0 _ rfl)
          have hG : pre.length = k := HPR.out.1
          have cw : wr.cell? ⟨w.heap.size + 1, k, none⟩ = some (str []) := by
            rw [HB.out.cell, List.getElem?_append_right (by simp; omega), List.length_map, hG, Nat.sub_self, List.getElem?_replicate, if_pos (by omega)]
          have fw := HB.out.frozen k
          have hwl : w.heap.size + 1 < wr.heap.size := HB.out.lt
          clear hc hel hpy hy1 hc2 hG h1
          simp only [List.length_cons, List.length_nil] at hck
          go_wp2
          go_roundw
          case rel =>
            refine ⟨k + 1, pre ++ [t], by go_num, by omega, ⟨by simp [HPR.out.1], take_ones HKL.out HPR.out.2 HEL.out.symm⟩, ?_, HBB.out.setCell (p := ⟨w.heap.size + 1, k, none⟩) (by show _ ≤ w.heap.size + 1; omega) _⟩
            have h := HB.out.set k (str t)
            have e : (pre.map str ++ List.replicate (s.els.length - k) (str [])).set k (str t) = (pre ++ [t]).map str ++ List.replicate (s.els.length - (k + 1)) (str []) := by
              have := HKL.out
              rw [List.set_append_right _ _ (by rw [List.length_map, HPR.out.1]; exact Nat.le_refl _), List.length_map, HPR.out.1, Nat.sub_self, show s.els.length - k = (s.els.length - (k + 1)) + 1 by omega, List.replicate_succ, List.set_cons_zero, List.map_append, List.append_assoc]
              rfl
            rw [e] at h
            exact h
          case measure => simp [intOf]; omega
        · have hN := Lib.hid (ones_none (List.getElem_mem hkl) (by rw [← hel]; exact h1))
          have h1' : ¬ (el.length : Int) = 1 := by omega
          clear hc hel hpy hy1 h1
          go_wp2
          go_ret2
          exact ⟨HBB.out, .inr ⟨hN.out, rfl⟩⟩
      · obtain rfl : k = s.els.length := by omega
        go_wp2
        go_ret2
        have hp1 := HPR.out.1
        have hp2 := HPR.out.2
        rw [List.take_length] at hp2
        have h := HB.out
        rw [Nat.sub_self, List.replicate_zero, List.append_nil] at h
        refine ⟨HBB.out, .inl ⟨pre, _, by rw [hp2, onesL_map], rfl, ?_⟩⟩
        rw [← hp1]
        exact (blk_strs h).kept (fun b hb => ⟨by subst hb; exact ⟨Nat.le_succ _, h.lt⟩, rfl⟩)
  · have hO : elsOf s tag = none := by unfold elsOf; rw [if_neg ht]
    rw [hO]
    have hne : ((tx s.tag).toList == (tx tag).toList) = false := by rw [txl, txl]; simpa using ht
    clear hp hys hl ht hO
    go_enter Tryz.func107, Tryz.ntmps107
    go_wp2
    go_ret2
    exact ⟨(Below.refl _ _).alloc (Nat.le_refl _) _, .inr ⟨rfl, rfl⟩⟩
def NumsP (o : Option (List Int)) (w : World) (e : Ending) (w' : World) : Prop :=
  Below w.heap.size w w' ∧ ((∃ l v, o = some l ∧ e = .returned (.tuple #[v, .bool true]) ∧ I64R w' (Fr w w') v l) ∨ (o = none ∧ e = .returned (.tuple #[.slice none 0 0, .bool false])))
theorem vals_none : ∀ {l : List Tx} {k : Nat} (h : k < l.length), valL l[k] = none → valsL l = none
  | t :: r, 0, _, h => by
    show (match valL t, valsL r with | some n, some l => some (n :: l) | _, _ => none) = none
    have h' : valL t = none := h
    rw [h']
  | t :: r, k + 1, hk, h => by
    show (match valL t, valsL r with | some n, some l => some (n :: l) | _, _ => none) = none
    have h' : valsL r = none := vals_none (k := k) (by simpa using hk) (by simpa using h)
    rw [h']
    cases valL t <;> rfl
theorem vals_all : ∀ {l : List Tx} {ns : List Int}, l.length = ns.length → (∀ (j : Nat) (h1 : j < l.length) (h2 : j < ns.length), valL l[j] = some ns[j]) → valsL l = some ns
  | [], [], _, _ => rfl
  | t :: r, n :: ns, hl, h => by
    have e : valsL (t :: r) = (match valL t, valsL r with | some n, some l => some (n :: l) | _, _ => none) := rfl
    have h0 : valL t = some n := h 0 (by simp) (by simp)
    rw [e, h0, vals_all (by simpa using hl) (fun j h1 h2 => by
      have := h (j + 1) (by simpa using h1) (by simpa using h2)
      simpa using this)]
theorem i64_blk {w : World} {g : Nat} {l : List Int} (h : Blk w g 2 (l.map fun n => Value.int .i64 n)) : I64R w (· = g) (.slice (some ⟨g, 0, none⟩) l.length l.length) l :=
  ⟨_, _, rfl, Nat.le_refl _, fun _ => ⟨g, 0, rfl, rfl, fun j u hu => by rw [Nat.zero_add, h.cell]; exact hu⟩⟩
set_option maxRecDepth 100000 in
set_option maxHeartbeats 1600000 in
theorem numbersOf_any (s : Sg) (ve : Value) (tag : Tx) (B : Nat) (w : World) (hv : ElsF w (· < w.heap.size) ve s.els) (hl : s.els.length ≤ 1000) (hsz : ∀ e ∈ s.els, ∀ t ∈ e, t.length ≤ 281474976710656) (he : Env B w) (hB : B ≤ w.heap.size) :
    Calls Tryz.prog 105 #[.agg #[str s.tag, ve], str tag] w (NumsP (numsOf s tag) w) := by
  obtain ⟨w0, hw0⟩ : ∃ w0, w0 = w.alloc (.cells #[str s.tag, ve] 112) := ⟨_, rfl⟩
  have hb0 : Below w.heap.size w w0 := by rw [hw0]; exact (Below.refl _ _).alloc (Nat.le_refl _) _
  have hs0 : w0.heap.size = w.heap.size + 1 := by rw [hw0, size_a]
  have HEL := Lib.hid (elementsOf_any s ve tag w0 (hv.kept (fun b hb => ⟨by rw [hs0]; omega, hb0.block b hb⟩)) hl)
  have HE := Lib.hid (fun W (h : Below w.heap.size w W) => he.on (h.mono hB))
  have HBB := Lib.hid hB
  have HB0 := Lib.hid hb0
  have HS0 := Lib.hid hs0
  have c0 : w0.cell? ⟨w.heap.size, 0, none⟩ = some (str s.tag) := by rw [hw0]; exact cell_of_arr (at_last _ _) 0
  have c1 : w0.cell? ⟨w.heap.size, 1, none⟩ = some ve := by rw [hw0]; exact cell_of_arr (at_last _ _) 1
  rcases hO : elsOf s tag with _ | ts
  · have hN : numsOf s tag = none := by unfold numsOf; rw [hO]; rfl
    have HN := Lib.hid hN
    rw [hO] at HEL
    clear hv hl hsz he hB hb0 hs0 hO hN
    go_enter Tryz.func105, Tryz.ntmps105
    go_wp2_with fail
    rw [← hw0]
    clear hw0
    refine (HEL.out).mono ?_
    rintro e w1 ⟨hb1, ⟨l, v, hx, _⟩ | ⟨_, rfl⟩⟩
    · cases hx
    have HB1 := Lib.hid (HB0.out.trans (hb1.mono HB0.out.size))
    clear hb1
    go_wp2
    go_ret2
    exact ⟨HB1.out, .inr ⟨HN.out, rfl⟩⟩
  · have hN : numsOf s tag = valsL ts := by unfold numsOf; rw [hO]; rfl
    rw [hN]
    have hts := elsOf_some hO
    have hln : ts.length = s.els.length := by rw [hts]; simp [sgL]
    have hz : ∀ t ∈ ts, t.length ≤ 281474976710656 := fun t ht => hsz [t] (by rw [hts]; exact List.mem_map_of_mem ht) t (by simp)
    have HZ := Lib.hid hz
    have hmk := mk_i64s ts.length (by omega)
    have lI : (ts.length : Int) ≤ 1000 := by omega
    rw [hO] at HEL
    clear hv hl hsz he hB hb0 hs0 hO hN hts hln hz
    go_enter Tryz.func105, Tryz.ntmps105
    go_wp2_with fail
    rw [← hw0]
    clear hw0
    refine (HEL.out).mono ?_
    rintro e w1 ⟨hb1, ⟨l, v, hx, rfl, hs⟩ | ⟨hx, _⟩⟩
    · obtain rfl := Option.some.inj hx
      obtain ⟨p, cap, rfl, hnc, hp⟩ := hs
      have HP := Lib.hid hp
      have HB1 := Lib.hid (HB0.out.trans (hb1.mono HB0.out.size))
      have HZ6 := Lib.hid (blk_zI6 w1 ts.length)
      clear hb1 hx hp c0 c1
      go_wp2
      go_loopw [7, 9, 10, 24] (fun _ _ _ i wr => ∃ (k : Nat) (pre : List Int), i = .int .i64 k ∧ k ≤ ts.length ∧ Hid (pre.length = k ∧ ∀ (j : Nat) (h1 : j < ts.length) (h2 : j < pre.length), valL ts[j] = some pre[j]) ∧ Hid (Blk wr w1.heap.size 2 (pre.map (fun n => Value.int .i64 n) ++ List.replicate (ts.length - k) (Value.int .i64 0))) ∧ Hid (Below w1.heap.size w1 wr)) (fun _ _ _ i _ => ts.length - (intOf i).toNat)
      case atStart => exact ⟨0, [], rfl, Nat.zero_le _, ⟨rfl, fun j h1 h2 => by simp at h2⟩, (show Blk _ _ _ _ by simpa using HZ6.out), (Below.refl _ _).alloc (Nat.le_refl _) _⟩
      case round =>
        obtain ⟨k, pre, rfl, hk, hpre, hB, hb⟩ := hrel
        have HPR := Lib.hid hpre.out
        have HB := Lib.hid hB.out
        have HBX := Lib.hid hb.out
        clear hB hb hpre
        by_cases hlt : (k : Int) < (ts.length : Int)
        · have hkl : k < ts.length := by omega
          have hk0 : (0 : Int) ≤ (k : Int) := Int.natCast_nonneg _
          obtain ⟨b, o, rfl, hFb, hc⟩ := HP.out (by omega)
          have hck : wr.cell? ⟨b, o + k, none⟩ = some (str ts[k]) := (World.cell?_of_block (a := ⟨b, o + k, none⟩) (HBX.out.block b hFb.2)).trans (hc k _ (by rw [List.getElem?_map, List.getElem?_eq_getElem hkl]; rfl))
          have HW1 := Lib.hid (HB1.out.trans (HBX.out.mono HB1.out.size))
          have HV := Lib.hid (value_any' ts[k] (HZ.out _ (List.getElem_mem hkl)) B wr (HE.out _ HW1.out) (Nat.le_trans HBB.out HW1.out.size))
          have hG : pre.length = k := HPR.out.1
          obtain ⟨t, ht⟩ : ∃ t, t = ts[k] := ⟨_, rfl⟩
          rw [← ht] at hck HV
          have HT := Lib.hid ht
          have HC := Lib.hid (fun W (h : Below wr.heap.size wr W) => HB.out.keep h HB.out.lt)
          have HKL := Lib.hid hkl
          have hq : (pre.map (fun n => Value.int .i64 n) ++ List.replicate (ts.length - k) (Value.int .i64 0))[k]? = some (.int .i64 0) := by
            rw [List.getElem?_append_right (by simp; omega), List.length_map, hG, Nat.sub_self, List.getElem?_replicate, if_pos (by omega)]
          have HQ := Lib.hid hq
          clear hc hG ht hq
          go_wp2_with fail
          refine (HV.out).mono ?_
          rintro e w2 (⟨n, hn, rfl, hb2⟩ | ⟨hn, rfl, hb2⟩)
          · have hB2 := HC.out _ hb2
            have cw : w2.cell? ⟨w1.heap.size, k, none⟩ = some (.int .i64 0) := by rw [hB2.cell]; exact HQ.out
            have fw := hB2.frozen k
            have HB2 := Lib.hid hB2
            have HN := Lib.hid hn
            have HX2 := Lib.hid (HBX.out.trans (hb2.mono HBX.out.size))
            clear hb2 hB2 hn
            go_wp2
            go_roundw
            case rel =>
              refine ⟨k + 1, pre ++ [n], by go_num, by have := HKL.out; omega, ⟨by simp [HPR.out.1], fun j h1 h2 => ?_⟩, ?_, HX2.out.setCell (p := ⟨w1.heap.size, k, none⟩) (Nat.le_refl _) _⟩
              · by_cases hj : j < pre.length
                · rw [List.getElem_append_left hj]; exact HPR.out.2 j h1 hj
                · have hje : j = k := by
                    have := HPR.out.1
                    rw [List.length_append, List.length_singleton] at h2
                    omega
                  subst hje
                  rw [List.getElem_append_right (by omega)]
                  simp only [HPR.out.1, Nat.sub_self, List.getElem_cons_zero]
                  rw [← HT.out]; exact HN.out
              · have h := HB2.out.set k (.int .i64 n)
                have e : (pre.map (fun n => Value.int .i64 n) ++ List.replicate (ts.length - k) (Value.int .i64 0)).set k (.int .i64 n) = (pre ++ [n]).map (fun n => Value.int .i64 n) ++ List.replicate (ts.length - (k + 1)) (Value.int .i64 0) := by
                  have := HKL.out
                  rw [List.set_append_right _ _ (by rw [List.length_map, HPR.out.1]; exact Nat.le_refl _), List.length_map, HPR.out.1, Nat.sub_self, show ts.length - k = (ts.length - (k + 1)) + 1 by omega, List.replicate_succ, List.set_cons_zero, List.map_append, List.append_assoc]
                  rfl
                rw [e] at h
                exact h
            case measure => simp [intOf]; have := HKL.out; omega
          · have hB2 := HC.out _ hb2
            have cw : w2.cell? ⟨w1.heap.size, k, none⟩ = some (.int .i64 0) := by rw [hB2.cell]; exact HQ.out
            have fw := hB2.frozen k
            have HX2 := Lib.hid (HW1.out.trans (hb2.mono HW1.out.size))
            have HN := Lib.hid (vals_none HKL.out (by rw [← HT.out]; exact hn))
            clear hb2 hB2 hn
            go_wp2
            go_ret2
            exact ⟨HX2.out.setCell (p := ⟨w1.heap.size, k, none⟩) HB1.out.size _, .inr ⟨HN.out, rfl⟩⟩
        · obtain rfl : k = ts.length := by omega
          go_wp2
          go_ret2
          have hp1 := HPR.out.1
          have h := HB.out
          rw [Nat.sub_self, List.replicate_zero, List.append_nil] at h
          refine ⟨HB1.out.trans (HBX.out.mono HB1.out.size), .inl ⟨pre, _, vals_all hp1.symm HPR.out.2, rfl, ?_⟩⟩
          rw [← hp1]
          exact (i64_blk h).kept (fun b hb => ⟨by subst hb; exact ⟨HB1.out.size, h.lt⟩, rfl⟩)
    · cases hx
end Go.Proofs.YtgaoeljdlpemnaaGreatDoor
/- Contract: which fields a kind has: a map's literal of lists of fields. -/
namespace Go.Proofs.YtgaoeljdlpemnaaGreatDoor
open Go.RowKit Go.Edi Go.Wrap Go.Lib
open Go.Maps (Keyed)

theorem wpList_insert {H : Type} {P : Program} {w : World} {ops : Array Oper} {rest : List Oper} {o : Oper} {a : Act} {Q : Exit → Act → World → Prop}
    (hg : o.guard = none) (m x v : Operand) (t : TypeId) (hop : o.op = Op.insert t m x v) (hd : o.dst = none)
    (k e : TypeId) (KK : Keyed P k) (ht : P.underlying t = some (.map k e)) (R : Value → Option (DataW H × List MemPlace)) (b n : Nat) (D : DataW H)
    (hm : a.eval m = .map (some b)) (hown : w.ownsMap P k R b n D) (hn : n < maxLen) (key val : Value) (kl : Lit) (hx : a.eval x = key) (hv : a.eval v = val) (hkey : keyOf P k key = some kl)
    (d : DataW H) (ps : List MemPlace) (hval : R val = some (d, ps))
    (hK : ∀ w', w'.ownsMap P k R b (n + 1) (D.put kl d) → w.grownBy w' (some b) → wpList P ops Q rest a w') : wpList P ops Q (o :: rest) a w := by
  refine wpList_plain hg fun K' hK' => ?_
  obtain ⟨w', hrun, r1, r2⟩ := hown.update KK ht hn hkey hval
  unfold Oper.wp
  simp [execOp, hop, hm, hx, hv, hrun, Result.andThen, Oper.upon, hd]
  exact hK' _ _ (hK w' r1 r2)
def RV (v : Value) : Option (DataW Value × List MemPlace) := some (.held v, [])
theorem KU8 : Keyed Tryz.prog 5 := Maps.int_keyed Tryz.underlying5
theorem key8 (n : Nat) (h : n < 256) : keyOf Tryz.prog 5 (.int .u8 (n : Int)) = some (.int .u8 (n : Int)) := Maps.keyOf_int_mk Tryz.underlying5 (by
  have e1 : IntKind.u8.min = 0 := rfl
  have e2 : IntKind.u8.max = 255 := rfl
  simp only [Lit.wf, e1, e2, Bool.and_eq_true, decide_eq_true_eq]
  omega)
/-- a list of fields in memory -/
abbrev FldsF (w : World) (F : Nat → Prop) (v : Value) (fds : List Fd) : Prop := RowF w F v fds.length (fds.flatMap fdV)
def KD : Nat → List Value → List (Lit × DataW Value)
  | _, [] => []
  | k, v :: r => (.int .u8 (k : Int), .held v) :: KD (k + 1) r
structure KM (w : World) (B b1 b2 b3 : Nat) (vs : List Value) (wr : World) : Prop where
  own : wr.ownsMap Tryz.prog 5 RV B vs.length (.map (KD 1 vs))
  r1 : wr.heap[b1]? = some (.cells (fdV .cpn).toArray 153 (0, 0))
  r2 : wr.heap[b2]? = some (.cells (fdV .amt).toArray 153 (0, 0))
  r3 : wr.heap[b3]? = some (.cells (fdV .cod).toArray 153 (0, 0))
  fl : ∀ (i : Nat) (v : Value) (fds : List Fd), vs[i]? = some v → fdsL (i + 1) = some fds → FldsF wr (fun b => w.heap.size ≤ b ∧ b < wr.heap.size ∧ b ≠ B) v fds
  bl : Below w.heap.size w wr
  hB : w.heap.size ≤ B
  n1 : b1 ≠ B
  n2 : b2 ≠ B
  n3 : b3 ≠ B
theorem KM.step {w wr w2 : World} {B b1 b2 b3 : Nat} {vs : List Value} (h : KM w B b1 b2 b3 vs wr) (fds : List Fd) (A : Array Value) (g : Nat) (hgs : g = wr.heap.size) (hf : fdsL (vs.length + 1) = some fds) (hA : A = (fds.flatMap fdV).toArray)
    (ho : w2.ownsMap Tryz.prog 5 RV B (vs.length + 1) ((DataW.map (KD 1 vs)).put (.int .u8 ((vs.length + 1 : Nat) : Int)) (.held (.slice (some ⟨g, 0, none⟩) fds.length fds.length))))
    (hD : (DataW.map (KD 1 vs)).put (.int .u8 ((vs.length + 1 : Nat) : Int)) (.held (.slice (some ⟨g, 0, none⟩) fds.length fds.length)) = .map (KD 1 (vs ++ [.slice (some ⟨g, 0, none⟩) fds.length fds.length])))
    (hg : (wr.alloc (.cells A 153)).grownBy w2 (some B)) : KM w B b1 b2 b3 (vs ++ [.slice (some ⟨g, 0, none⟩) fds.length fds.length]) w2 := by
  subst hgs
  have hBl : B < wr.heap.size := h.own.lt
  have hs : wr.heap.size + 1 ≤ w2.heap.size := by have := hg.size; simpa only [size_a] using this
  have hk : ∀ b, b < wr.heap.size → b ≠ B → w2.heap[b]? = wr.heap[b]? := fun b hb hne => (hg.block b (by simp only [size_a]; omega) (fun e => hne (by simpa using e))).trans (Below.heap_alloc _ _ _ hb)
  have hnew : w2.heap[wr.heap.size]? = some (.cells A 153 (0, 0)) := (hg.block _ (by simp only [size_a]; omega) (fun e => by
    have : wr.heap.size = B := by simpa using e
    omega)).trans (at_last _ _)
  refine ⟨?_, (hk _ (lt_of_heap h.r1) h.n1).trans h.r1, (hk _ (lt_of_heap h.r2) h.n2).trans h.r2, (hk _ (lt_of_heap h.r3) h.n3).trans h.r3, ?_, (h.bl.alloc h.bl.size _).grown hg (by have := h.bl.size; simp only [size_a]; omega) (fun k e => by cases e; exact h.hB), h.hB, h.n1, h.n2, h.n3⟩
  · rw [hD] at ho
    rw [List.length_append]
    exact ho
  · intro i v fs hi hfs
    by_cases hlt : i < vs.length
    · rw [List.getElem?_append_left hlt] at hi
      exact (h.fl i v fs hi hfs).kept (fun b hb => ⟨⟨hb.1, Nat.lt_of_lt_of_le hb.2.1 (by omega), hb.2.2⟩, hk b hb.2.1 hb.2.2⟩)
    · have hie : i = vs.length := by
        have := (List.getElem?_eq_some_iff.1 hi).1
        rw [List.length_append, List.length_singleton] at this
        omega
      subst hie
      rw [hf] at hfs
      obtain rfl := Option.some.inj hfs
      rw [List.getElem?_append_right (Nat.le_refl _), Nat.sub_self] at hi
      obtain rfl := Option.some.inj hi
      exact ⟨_, _, rfl, Nat.le_refl _, fun _ => ⟨wr.heap.size, 0, rfl, ⟨h.bl.size, by omega, by omega⟩, fun j u hu => by rw [Nat.zero_add, cell_of_arr hnew j, hA]; simpa using hu⟩⟩
theorem lit8_ne {a b : Nat} (h : a ≠ b) : (Lit.int .u8 (a : Int)) ≠ Lit.int .u8 (b : Int) := fun e => by
  simp only [Lit.int.injEq, true_and] at e
  omega
/-- what kinds answers -/
def KindsP (w : World) (e : Ending) (w' : World) : Prop :=
  ∃ (B : Nat) (D : DataW Value), e = .returned (.map (some B)) ∧ w'.ownsMap Tryz.prog 5 RV B 8 D ∧ w.heap.size ≤ B ∧ Below w.heap.size w w' ∧
    (∀ k fds, fdsL k = some fds → ∃ v, (∀ z, D.atKey (.int .u8 (k : Int)) z = .held v) ∧ Maps.has D (.int .u8 (k : Int)) = true ∧ FldsF w' (fun b => w.heap.size ≤ b ∧ b < w'.heap.size) v fds) ∧
    (∀ k, fdsL k = none → (∀ z, D.atKey (.int .u8 (k : Int)) z = z) ∧ Maps.has D (.int .u8 (k : Int)) = false)
theorem fds_kind {k : Nat} {fds : List Fd} (h : fdsL k = some fds) : k = 1 ∨ k = 2 ∨ k = 3 ∨ k = 4 ∨ k = 5 ∨ k = 6 ∨ k = 7 ∨ k = 8 := by
  unfold fdsL at h
  split at h <;> first | (cases h; done) | omega
theorem kinds_end {w wr : World} {B b1 b2 b3 : Nat} {v1 v2 v3 v4 v5 v6 v7 v8 : Value} (h : KM w B b1 b2 b3 [v1, v2, v3, v4, v5, v6, v7, v8] wr) : KindsP w (.returned (.map (some B))) wr := by
  refine ⟨B, _, rfl, h.own, h.hB, h.bl, fun k fds hk => ?_, fun k hk => ?_⟩
  · have hw : ∀ (i : Nat) (v : Value), [v1, v2, v3, v4, v5, v6, v7, v8][i]? = some v → fdsL (i + 1) = some fds → FldsF wr (fun b => w.heap.size ≤ b ∧ b < wr.heap.size) v fds := fun i v hi hf =>
      (h.fl i v fds hi hf).kept (fun b hb => ⟨⟨hb.1, hb.2.1⟩, rfl⟩)
    rcases fds_kind hk with rfl | rfl | rfl | rfl | rfl | rfl | rfl | rfl
    · exact ⟨v1, fun z => rfl, rfl, hw 0 v1 rfl hk⟩
    · exact ⟨v2, fun z => rfl, rfl, hw 1 v2 rfl hk⟩
    · exact ⟨v3, fun z => rfl, rfl, hw 2 v3 rfl hk⟩
    · exact ⟨v4, fun z => rfl, rfl, hw 3 v4 rfl hk⟩
    · exact ⟨v5, fun z => rfl, rfl, hw 4 v5 rfl hk⟩
    · exact ⟨v6, fun z => rfl, rfl, hw 5 v6 rfl hk⟩
    · exact ⟨v7, fun z => rfl, rfl, hw 6 v7 rfl hk⟩
    · exact ⟨v8, fun z => rfl, rfl, hw 7 v8 rfl hk⟩
  · have hne : ∀ j : Nat, j ∈ [1, 2, 3, 4, 5, 6, 7, 8] → k ≠ j := by
      intro j hj e
      subst e
      simp only [List.mem_cons, List.not_mem_nil, or_false] at hj
      rcases hj with rfl | rfl | rfl | rfl | rfl | rfl | rfl | rfl <;> cases hk
    have hE : (DataW.map (KD 1 [v1, v2, v3, v4, v5, v6, v7, v8]) : DataW Value) = ((((((((DataW.map []).put (.int .u8 ((1 : Nat) : Int)) (.held v1)).put (.int .u8 ((2 : Nat) : Int)) (.held v2)).put (.int .u8 ((3 : Nat) : Int)) (.held v3)).put (.int .u8 ((4 : Nat) : Int)) (.held v4)).put (.int .u8 ((5 : Nat) : Int)) (.held v5)).put (.int .u8 ((6 : Nat) : Int)) (.held v6)).put (.int .u8 ((7 : Nat) : Int)) (.held v7)).put (.int .u8 ((8 : Nat) : Int)) (.held v8) := rfl
    rw [hE]
    constructor
    · intro z
      rw [Maps.atKey_put_other (lit8_ne (hne 8 (by simp))), Maps.atKey_put_other (lit8_ne (hne 7 (by simp))), Maps.atKey_put_other (lit8_ne (hne 6 (by simp))), Maps.atKey_put_other (lit8_ne (hne 5 (by simp))), Maps.atKey_put_other (lit8_ne (hne 4 (by simp))), Maps.atKey_put_other (lit8_ne (hne 3 (by simp))), Maps.atKey_put_other (lit8_ne (hne 2 (by simp))), Maps.atKey_put_other (lit8_ne (hne 1 (by simp)))]
      rfl
    · rw [Maps.has_put_other (lit8_ne (hne 8 (by simp))), Maps.has_put_other (lit8_ne (hne 7 (by simp))), Maps.has_put_other (lit8_ne (hne 6 (by simp))), Maps.has_put_other (lit8_ne (hne 5 (by simp))), Maps.has_put_other (lit8_ne (hne 4 (by simp))), Maps.has_put_other (lit8_ne (hne 3 (by simp))), Maps.has_put_other (lit8_ne (hne 2 (by simp))), Maps.has_put_other (lit8_ne (hne 1 (by simp)))]
      rfl
set_option maxRecDepth 100000 in
set_option maxHeartbeats 3200000 in
theorem kinds_any (w : World) : Calls Tryz.prog 67 #[] w (KindsP w) := by
  have hmk := @run_makeMap Tryz.prog
  go_enter Tryz.func67, Tryz.ntmps67
  go_upto_region 2 with (first
    | (go_at_call 90; refine (fld_cpn _).mono ?_; rintro e w1 ⟨rfl, hb1⟩)
    | (go_at_call 91; refine (fld_amt _).mono ?_; rintro e w2 ⟨rfl, hb2⟩)
    | (go_at_call 92; refine (fld_cod _).mono ?_; rintro e w3 ⟨rfl, hb3⟩))
  have hb0 : Below w.heap.size w w3 := (hb1.trans (hb2.mono hb1.size)).trans (hb3.mono (Nat.le_trans hb1.size hb2.size))
  obtain ⟨w4, hw4⟩ : ∃ w4, w4 = ((w3.alloc (.cells (fdV .cpn).toArray 153)).alloc (.cells (fdV .amt).toArray 153)).alloc (.cells (fdV .cod).toArray 153) := ⟨_, rfl⟩
  have h4s : w4.heap.size = w3.heap.size + 1 + 1 + 1 := by rw [hw4]; simp only [size_a]
  have hb4 : Below w.heap.size w w4 := by rw [hw4]; exact ((hb0.alloc hb0.size _).alloc (by have := hb0.size; simp only [size_a]; omega) _).alloc (by have := hb0.size; simp only [size_a]; omega) _
  have hr1 : w4.heap[w3.heap.size]? = some (.cells (fdV .cpn).toArray 153 (0, 0)) := by rw [hw4]; exact heap_past _ _ _ (by simp only [size_a]; omega) (heap_past _ _ _ (by simp only [size_a]; omega) (heap_new _ _ _ rfl))
  have hr2 : w4.heap[w3.heap.size + 1]? = some (.cells (fdV .amt).toArray 153 (0, 0)) := by rw [hw4]; exact heap_past _ _ _ (by simp only [size_a]; omega) (heap_new _ _ _ (by simp only [size_a]))
  have hr3 : w4.heap[w3.heap.size + 1 + 1]? = some (.cells (fdV .cod).toArray 153 (0, 0)) := by rw [hw4]; exact heap_new _ _ _ (by simp only [size_a])
  have hw4' : ((w3.alloc (.cells #[str [67, 80, 78], .func (.func 110) #[] #[], .func (.func 111) #[] #[]] 153)).alloc (.cells #[str [65, 77, 84], .func (.func 116) #[] #[], .func (.func 117) #[] #[]] 153)).alloc (.cells #[str [67, 79, 68], .func (.func 118) #[] #[], .func (.func 119) #[] #[]] 153) = w4 := hw4.symm
  rw [hw4']
  have HK0 := Lib.hid (show KM w w4.heap.size w3.heap.size (w3.heap.size + 1) (w3.heap.size + 1 + 1) [] (w4.alloc (.map #[] 0)) from
    ⟨World.ownsMap_made _ _ _ _, heap_past _ _ _ (by omega) hr1, heap_past _ _ _ (by omega) hr2, heap_past _ _ _ (by omega) hr3, fun i v fds hi => by simp at hi, hb4.alloc hb4.size _, hb4.size, by omega, by omega, by omega⟩)
  have HS4 := Lib.hid (show (w4.alloc (.map #[] 0)).heap.size = w4.heap.size + 1 from size_a _ _)
  clear hw4 hw4' hb0 hb1 hb2 hb3 hb4 hr1 hr2 hr3 h4s
  generalize w3.heap.size = b at *
  go_wp2_with (first
    | (refine wpList_load_row rfl 153 _ rfl b rfl 153 (fdV .cpn).toArray (0, 0) _ (HK0.out.r1) Tryz.underlying153 rfl sizeField ?_)
    | (refine wpList_load_row rfl 153 _ rfl (b + 1) rfl 153 (fdV .amt).toArray (0, 0) _ (HK0.out.r2) Tryz.underlying153 rfl sizeField ?_)
    | (refine wpList_load_row rfl 153 _ rfl (b + 1 + 1) rfl 153 (fdV .cod).toArray (0, 0) _ (HK0.out.r3) Tryz.underlying153 rfl sizeField ?_)
    | (refine wpList_insert rfl _ _ _ _ rfl rfl 5 143 KU8 Tryz.underlying145 RV w4.heap.size 0 _ rfl (HK0.out.own.alloc _) (by decide) (.int .u8 1) (.slice (some ⟨w4.heap.size + 1, 0, none⟩) 0 0) _ rfl rfl (key8 1 (by decide)) _ [] rfl ?_))
  intro k1 ho hg
  have HK1 := Lib.hid (HK0.out.step [] _ _ HS4.out.symm rfl rfl ho rfl hg)
  clear ho hg
  go_wp2_with (first
    | (refine wpList_load_row rfl 153 _ rfl b rfl 153 (fdV .cpn).toArray (0, 0) _ (HK1.out.r1) Tryz.underlying153 rfl sizeField ?_)
    | (refine wpList_load_row rfl 153 _ rfl (b + 1) rfl 153 (fdV .amt).toArray (0, 0) _ (HK1.out.r2) Tryz.underlying153 rfl sizeField ?_)
    | (refine wpList_load_row rfl 153 _ rfl (b + 1 + 1) rfl 153 (fdV .cod).toArray (0, 0) _ (HK1.out.r3) Tryz.underlying153 rfl sizeField ?_)
    | (refine wpList_insert rfl _ _ _ _ rfl rfl 5 143 KU8 Tryz.underlying145 RV w4.heap.size 1 _ rfl (HK1.out.own.alloc _) (by decide) (.int .u8 2) (.slice (some ⟨k1.heap.size, 0, none⟩) 1 1) _ rfl rfl (key8 2 (by decide)) _ [] rfl ?_))
  intro k2 ho hg
  have HK2 := Lib.hid (HK1.out.step [.cpn] _ _ rfl rfl rfl ho rfl hg)
  clear ho hg
  go_wp2_with (first
    | (refine wpList_load_row rfl 153 _ rfl b rfl 153 (fdV .cpn).toArray (0, 0) _ (HK2.out.r1) Tryz.underlying153 rfl sizeField ?_)
    | (refine wpList_load_row rfl 153 _ rfl (b + 1) rfl 153 (fdV .amt).toArray (0, 0) _ (HK2.out.r2) Tryz.underlying153 rfl sizeField ?_)
    | (refine wpList_load_row rfl 153 _ rfl (b + 1 + 1) rfl 153 (fdV .cod).toArray (0, 0) _ (HK2.out.r3) Tryz.underlying153 rfl sizeField ?_)
    | (refine wpList_insert rfl _ _ _ _ rfl rfl 5 143 KU8 Tryz.underlying145 RV w4.heap.size 2 _ rfl (HK2.out.own.alloc _) (by decide) (.int .u8 3) (.slice (some ⟨k2.heap.size, 0, none⟩) 1 1) _ rfl rfl (key8 3 (by decide)) _ [] rfl ?_))
  intro k3 ho hg
  have HK3 := Lib.hid (HK2.out.step [.cod] _ _ rfl rfl rfl ho rfl hg)
  clear ho hg
  go_wp2_with (first
    | (refine wpList_load_row rfl 153 _ rfl b rfl 153 (fdV .cpn).toArray (0, 0) _ (HK3.out.r1) Tryz.underlying153 rfl sizeField ?_)
    | (refine wpList_load_row rfl 153 _ rfl (b + 1) rfl 153 (fdV .amt).toArray (0, 0) _ (HK3.out.r2) Tryz.underlying153 rfl sizeField ?_)
    | (refine wpList_load_row rfl 153 _ rfl (b + 1 + 1) rfl 153 (fdV .cod).toArray (0, 0) _ (HK3.out.r3) Tryz.underlying153 rfl sizeField ?_)
    | (refine wpList_insert rfl _ _ _ _ rfl rfl 5 143 KU8 Tryz.underlying145 RV w4.heap.size 3 _ rfl (HK3.out.own.alloc _) (by decide) (.int .u8 4) (.slice (some ⟨k3.heap.size, 0, none⟩) 0 0) _ rfl rfl (key8 4 (by decide)) _ [] rfl ?_))
  intro k4 ho hg
  have HK4 := Lib.hid (HK3.out.step [] _ _ rfl rfl rfl ho rfl hg)
  clear ho hg
  go_wp2_with (first
    | (refine wpList_load_row rfl 153 _ rfl b rfl 153 (fdV .cpn).toArray (0, 0) _ (HK4.out.r1) Tryz.underlying153 rfl sizeField ?_)
    | (refine wpList_load_row rfl 153 _ rfl (b + 1) rfl 153 (fdV .amt).toArray (0, 0) _ (HK4.out.r2) Tryz.underlying153 rfl sizeField ?_)
    | (refine wpList_load_row rfl 153 _ rfl (b + 1 + 1) rfl 153 (fdV .cod).toArray (0, 0) _ (HK4.out.r3) Tryz.underlying153 rfl sizeField ?_)
    | (refine wpList_insert rfl _ _ _ _ rfl rfl 5 143 KU8 Tryz.underlying145 RV w4.heap.size 4 _ rfl (HK4.out.own.alloc _) (by decide) (.int .u8 5) (.slice (some ⟨k4.heap.size, 0, none⟩) 1 1) _ rfl rfl (key8 5 (by decide)) _ [] rfl ?_))
  intro k5 ho hg
  have HK5 := Lib.hid (HK4.out.step [.cpn] _ _ rfl rfl rfl ho rfl hg)
  clear ho hg
  go_wp2_with (first
    | (refine wpList_load_row rfl 153 _ rfl b rfl 153 (fdV .cpn).toArray (0, 0) _ (HK5.out.r1) Tryz.underlying153 rfl sizeField ?_)
    | (refine wpList_load_row rfl 153 _ rfl (b + 1) rfl 153 (fdV .amt).toArray (0, 0) _ (HK5.out.r2) Tryz.underlying153 rfl sizeField ?_)
    | (refine wpList_load_row rfl 153 _ rfl (b + 1 + 1) rfl 153 (fdV .cod).toArray (0, 0) _ (HK5.out.r3) Tryz.underlying153 rfl sizeField ?_)
    | (refine wpList_insert rfl _ _ _ _ rfl rfl 5 143 KU8 Tryz.underlying145 RV w4.heap.size 5 _ rfl (HK5.out.own.alloc _) (by decide) (.int .u8 6) (.slice (some ⟨k5.heap.size, 0, none⟩) 1 1) _ rfl rfl (key8 6 (by decide)) _ [] rfl ?_))
  intro k6 ho hg
  have HK6 := Lib.hid (HK5.out.step [.amt] _ _ rfl rfl rfl ho rfl hg)
  clear ho hg
  go_wp2_with (first
    | (refine wpList_load_row rfl 153 _ rfl b rfl 153 (fdV .cpn).toArray (0, 0) _ (HK6.out.r1) Tryz.underlying153 rfl sizeField ?_)
    | (refine wpList_load_row rfl 153 _ rfl (b + 1) rfl 153 (fdV .amt).toArray (0, 0) _ (HK6.out.r2) Tryz.underlying153 rfl sizeField ?_)
    | (refine wpList_load_row rfl 153 _ rfl (b + 1 + 1) rfl 153 (fdV .cod).toArray (0, 0) _ (HK6.out.r3) Tryz.underlying153 rfl sizeField ?_)
    | (refine wpList_insert rfl _ _ _ _ rfl rfl 5 143 KU8 Tryz.underlying145 RV w4.heap.size 6 _ rfl (HK6.out.own.alloc _) (by decide) (.int .u8 7) (.slice (some ⟨k6.heap.size, 0, none⟩) 1 1) _ rfl rfl (key8 7 (by decide)) _ [] rfl ?_))
  intro k7 ho hg
  have HK7 := Lib.hid (HK6.out.step [.amt] _ _ rfl rfl rfl ho rfl hg)
  clear ho hg
  go_wp2_with (first
    | (refine wpList_load_row rfl 153 _ rfl b rfl 153 (fdV .cpn).toArray (0, 0) _ (HK7.out.r1) Tryz.underlying153 rfl sizeField ?_)
    | (refine wpList_load_row rfl 153 _ rfl (b + 1) rfl 153 (fdV .amt).toArray (0, 0) _ (HK7.out.r2) Tryz.underlying153 rfl sizeField ?_)
    | (refine wpList_load_row rfl 153 _ rfl (b + 1 + 1) rfl 153 (fdV .cod).toArray (0, 0) _ (HK7.out.r3) Tryz.underlying153 rfl sizeField ?_)
    | (refine wpList_insert rfl _ _ _ _ rfl rfl 5 143 KU8 Tryz.underlying145 RV w4.heap.size 7 _ rfl (HK7.out.own.alloc _) (by decide) (.int .u8 8) (.slice (some ⟨k7.heap.size, 0, none⟩) 2 2) _ rfl rfl (key8 8 (by decide)) _ [] rfl ?_))
  intro k8 ho hg
  have HK8 := Lib.hid (HK7.out.step [.amt, .cod] _ _ rfl rfl rfl ho rfl hg)
  clear ho hg
  go_wp2
  go_ret
  exact kinds_end HK8.out
end Go.Proofs.YtgaoeljdlpemnaaGreatDoor
namespace Go.Proofs.YtgaoeljdlpemnaaGreatDoor
open Go.RowKit Go.Edi Go.Wrap Go.Lib

def RkP (o : Option (Nat × List Fd)) (b : Nat) (ty : TypeId) (pre : List Value) (m : Ms) (w : World) (e : Ending) (w' : World) : Prop :=
  w.grownBy w' (some b) ∧ ((∃ k fds v, o = some (k, fds) ∧ e = .returned (.tuple #[v, .bool true]) ∧ FldsF w' (Fr w w') v fds ∧ MsgAt w' b ty pre { m with kind := k }) ∨ (o = none ∧ ∃ v, e = .returned (.tuple #[v, .bool false])))
theorem grown_below {w w' : World} {g : Option Nat} (h : Below w.heap.size w w') : w.grownBy w' g := ⟨h.os, h.tape, h.output, h.size, fun j hj _ => h.block j hj⟩
theorem MsgAt.lt {w : World} {b : Nat} {ty : TypeId} {pre : List Value} {m : Ms} (h : MsgAt w b ty pre m) : b < w.heap.size := lt_of_heap h
theorem MsgAt.keep {w w' : World} {b : Nat} {ty : TypeId} {pre : List Value} {m : Ms} (h : MsgAt w b ty pre m) (hb : Below w.heap.size w w') : MsgAt w' b ty pre m := (hb.block b h.lt).trans h
theorem msg_cell {w : World} {b : Nat} {ty : TypeId} {pre : List Value} {m : Ms} (h : MsgAt w b ty pre m) (i : Nat) (u : Value) (hu : (msV m)[i]? = some u) : w.cell? ⟨b, pre.length + i, none⟩ = some u := by
  rw [cell_of_arr h, List.getElem?_toArray, List.getElem?_append_right (Nat.le_add_right _ _), Nat.add_sub_cancel_left]
  exact hu
theorem RowF.grown {w w' : World} {F F' : Nat → Prop} {v : Value} {n b : Nat} {xs : List Value} (h : RowF w F v n xs) (hg : w.grownBy w' (some b)) (hF : ∀ j, F j → j < w.heap.size ∧ j ≠ b ∧ F' j) : RowF w' F' v n xs :=
  h.kept (fun j hj => ⟨(hF j hj).2.2, hg.block j (hF j hj).1 (fun e => (hF j hj).2.1 (by simpa using e))⟩)
theorem zero_fields (W : World) : (zeroValue 143).run Tryz.prog W = .ok (.slice none 0 0) W := by kernel_rfl
theorem kind_not {s : Sg} (h : numsOf s kindT = none) : kindOf s = none := by unfold kindOf; rw [h]
theorem kind_len {s : Sg} {l : List Int} (h : numsOf s kindT = some l) (hl : l.length ≠ 1) : kindOf s = none := by
  unfold kindOf; rw [h]
  match l, hl with
  | [], _ => rfl
  | [_], hl => exact absurd rfl hl
  | _ :: _ :: _, _ => rfl
theorem kind_out {s : Sg} {n : Int} (h : numsOf s kindT = some [n]) (hn : ¬ (0 ≤ n ∧ n ≤ 255)) : kindOf s = none := by
  unfold kindOf; rw [h]
  show (if inB n 0 255 then _ else none) = none
  rw [if_neg (fun e => hn ((inB_iff _ _ _).1 e))]
theorem kind_in {s : Sg} {n : Int} (h : numsOf s kindT = some [n]) (hn : 0 ≤ n ∧ n ≤ 255) : kindOf s = (fdsL n.toNat).map fun f => (n.toNat, f) := by
  unfold kindOf; rw [h]
  show (if inB n 0 255 then _ else none) = _
  rw [if_pos ((inB_iff _ _ _).2 hn)]
set_option maxRecDepth 100000 in
set_option maxHeartbeats 1600000 in
theorem readKind_any (s : Sg) (ve : Value) (b : Nat) (ty : TypeId) (pre : List Value) (m : Ms) (B : Nat) (w : World) (hm : MsgAt w b ty pre m) (hv : ElsF w (· < w.heap.size) ve s.els) (hl : s.els.length ≤ 1000) (hsz : ∀ e ∈ s.els, ∀ t ∈ e, t.length ≤ 281474976710656) (he : Env B w) (hB : B ≤ w.heap.size) :
    Calls Tryz.prog 87 #[.pointer (some ⟨b, pre.length, none⟩), .agg #[str s.tag, ve]] w (RkP (kindOf s) b ty pre m w) := by
  obtain ⟨w0, hw0⟩ : ∃ w0, w0 = w.alloc (.cells #[str s.tag, ve] 112) := ⟨_, rfl⟩
  have hb0 : Below w.heap.size w w0 := by rw [hw0]; exact (Below.refl _ _).alloc (Nat.le_refl _) _
  have hs0 : w0.heap.size = w.heap.size + 1 := by rw [hw0, size_a]
  have HNB := Lib.hid (numbersOf_any s ve kindT B w0 (hv.kept (fun b hb => ⟨by rw [hs0]; omega, hb0.block b hb⟩)) hl hsz (he.on (hb0.mono hB)) (by omega))
  have HB0 := Lib.hid hb0
  have HM := Lib.hid hm
  have HS0 := Lib.hid hs0
  have c0 : w0.cell? ⟨w.heap.size, 0, none⟩ = some (str s.tag) := by rw [hw0]; exact cell_of_arr (at_last _ _) 0
  have c1 : w0.cell? ⟨w.heap.size, 1, none⟩ = some ve := by rw [hw0]; exact cell_of_arr (at_last _ _) 1
  unfold kindT at HNB
  rcases hN : numsOf s kindT with _ | l
  · have HK := Lib.hid (kind_not hN)
    unfold kindT at hN
    rw [hN] at HNB
    clear hm hv hl hsz he hB hb0 hs0 hN
    go_enter Tryz.func87, Tryz.ntmps87
    go_wp2_with fail
    rw [← hw0]
    clear hw0
    refine (HNB.out).mono ?_
    rintro e wa ⟨hb1, ⟨l, v, hx, _⟩ | ⟨_, rfl⟩⟩
    · cases hx
    · have HX1 := Lib.hid (HB0.out.trans (hb1.mono HB0.out.size))
      clear hb1
      go_wp2
      refine wp_region_held (S := fun _ => True) (by kernel_rfl) ?_
      change wpAnyH _ _ _ _ _ _ _ _ (World.drew _)
      have HS0 := Lib.hid True.intro
      refine tkH (i := 0) (oi := ⟨some 15, .move (.tmp 7), _, _, _, none⟩) (v := .bool false) rfl qs HS0.out ?_
      simp only [Act.put, zs1, zs2, zs3]
      refine tkH (i := 1) (oi := ⟨some 16, .unOp .not 4 (.tmp 15), _, _, _, none⟩) (v := .bool true) rfl qs HS0.out ?_
      simp only [Act.put, zs1, zs2, zs3]
      refine tkH (i := 2) (oi := ⟨some 17, .move (.tmp 16), _, _, _, none⟩) (v := .bool true) rfl qs HS0.out ?_
      simp only [Act.put, zs1, zs2, zs3]
      refine tkH (i := 3) (oi := ⟨some 18, .move (.tmp 6), _, _, _, some (2, false)⟩) (v := undef) rfl sko HS0.out ?_
      simp only [Act.put, zs1, zs2, zs3]
      refine tkH (i := 4) (oi := ⟨some 19, .call ⟨.builtin .len, #[.tmp 18], _⟩, _, _, _, some (2, false)⟩) (v := undef) rfl sko HS0.out ?_
      simp only [Act.put, zs1, zs2, zs3]
      refine tkH (i := 5) (oi := ⟨some 20, .binOp .neq 3 (.tmp 19) (.const (.int .i64 1)) 3, _, _, _, some (2, false)⟩) (v := undef) rfl sko HS0.out ?_
      simp only [Act.put, zs1, zs2, zs3]
      refine tkH (i := 6) (oi := ⟨some 21, .pick (.tmp 17) (.const (.bool true)) (.tmp 20), _, _, _, none⟩) (v := .bool true) rfl qs HS0.out ?_
      simp only [Act.put, zs1, zs2, zs3]
      refine tkH (i := 7) (oi := ⟨some 22, .move (.tmp 21), _, _, _, none⟩) (v := .bool true) rfl qs HS0.out ?_
      simp only [Act.put, zs1, zs2, zs3]
      refine tkH (i := 8) (oi := ⟨some 23, .move (.tmp 0), _, _, _, some (7, false)⟩) (v := undef) rfl sko HS0.out ?_
      simp only [Act.put, zs1, zs2, zs3]
      refine tkH (i := 9) (oi := ⟨some 24, .nilCheck (.tmp 23), _, _, _, some (7, false)⟩) (v := undef) rfl sko HS0.out ?_
      simp only [Act.put, zs1, zs2, zs3]
      refine tkH (i := 10) (oi := ⟨some 25, .fieldAddr 36 (.tmp 24) 0, _, _, _, some (7, false)⟩) (v := undef) rfl sko HS0.out ?_
      simp only [Act.put, zs1, zs2, zs3]
      refine tkH (i := 11) (oi := ⟨some 26, .move (.tmp 6), _, _, _, some (7, false)⟩) (v := undef) rfl sko HS0.out ?_
      simp only [Act.put, zs1, zs2, zs3]
      refine tkH (i := 12) (oi := ⟨some 27, .indexAddr 155 (.tmp 26) (.const (.int .i64 0)), _, _, _, some (7, false)⟩) (v := undef) rfl sko HS0.out ?_
      simp only [Act.put, zs1, zs2, zs3]
      refine tkH (i := 13) (oi := ⟨some 28, .load 2 (.tmp 27), _, _, _, some (7, false)⟩) (v := undef) rfl sko HS0.out ?_
      simp only [Act.put, zs1, zs2, zs3]
      refine tkH (i := 14) (oi := ⟨some 29, .call ⟨.value (.func 106), #[.tmp 25, .tmp 28, .const (.int .i64 0), .const (.int .i64 255)], _⟩, _, _, _, some (7, false)⟩) (v := undef) rfl sko HS0.out ?_
      simp only [Act.put, zs1, zs2, zs3]
      refine tkH (i := 15) (oi := ⟨some 30, .unOp .not 4 (.tmp 29), _, _, _, some (7, false)⟩) (v := undef) rfl sko HS0.out ?_
      simp only [Act.put, zs1, zs2, zs3]
      refine tkH (i := 16) (oi := ⟨some 31, .pick (.tmp 22) (.const (.bool true)) (.tmp 30), _, _, _, none⟩) (v := .bool true) rfl qs HS0.out ?_
      simp only [Act.put, zs1, zs2, zs3]
      refine wpAnyH_done (by kernel_rfl) ?_ _
      go_wp2
      go_ret2
      exact ⟨grown_trans (grown_below HX1.out) (grown_drew _ _), .inr ⟨HK.out, _, rfl⟩⟩
  · by_cases h1 : l.length = 1
    · obtain ⟨n, rfl⟩ := list1 l h1
      by_cases hin : 0 ≤ n ∧ n ≤ 255
      · have hkin := kind_in hN hin
        have HKI := Lib.hid hkin
        unfold kindT at hN
        rw [hN] at HNB
        clear hm hv hl hsz he hB hb0 hs0 hN hkin
        go_enter Tryz.func87, Tryz.ntmps87
        go_wp2_with fail
        rw [← hw0]
        clear hw0
        refine (HNB.out).mono ?_
        rintro e wa ⟨hb1, ⟨l, v, hx, rfl, hr⟩ | ⟨hx, _⟩⟩
        rotate_left
        · cases hx
        obtain rfl := Option.some.inj hx
        obtain ⟨p, c, rfl, hnc, hp⟩ := id hr
        obtain ⟨nb, no, rfl, hnbF, hcell⟩ := row_cells hr (by simp)
        have hx1 := HB0.out.trans (hb1.mono HB0.out.size)
        have hmb := HM.out.lt
        have hnb : nb ≠ b := by have := hnbF.1; have := HS0.out; omega
        have HX1 := Lib.hid hx1
        have hcl := hcell 0 (by simp)
        have HM0 := Lib.hid (show wa.drew.heap[b]? = some (.cells (pre ++ msV m).toArray ty (0, 0)) from (HM.out.keep hx1 : MsgAt wa b ty pre m))
        have HG0 := Lib.hid (grown_trans (grown_below (g := some b) hx1) (grown_drew _ _))
        have HC0 := Lib.hid hcl
        have HNBF := Lib.hid hnbF
        clear hb1 hx hr hp hcell hx1 hmb hnbF hcl
        go_wp2
        refine wp_region_held (S := fun w' => w'.cell? ⟨nb, no, none⟩ = some (.int .i64 n)) (by kernel_rfl) ?_
        change wpAnyH _ _ _ _ _ _ _ _ (World.drew _)
        have HS0 := Lib.hid (show wa.drew.cell? ⟨nb, no, none⟩ = some (.int .i64 n) from HC0.out)
        refine tkH (i := 0) (oi := ⟨some 15, .move (.tmp 7), _, _, _, none⟩) (v := .bool true) rfl qs HS0.out ?_
        simp only [Act.put, zs1, zs2, zs3]
        refine tkH (i := 1) (oi := ⟨some 16, .unOp .not 4 (.tmp 15), _, _, _, none⟩) (v := .bool false) rfl qs HS0.out ?_
        simp only [Act.put, zs1, zs2, zs3]
        refine tkH (i := 2) (oi := ⟨some 17, .move (.tmp 16), _, _, _, none⟩) (v := .bool false) rfl qs HS0.out ?_
        simp only [Act.put, zs1, zs2, zs3]
        refine tkH (i := 3) (oi := ⟨some 18, .move (.tmp 6), _, _, _, some (2, false)⟩) (v := .slice (some ⟨nb, no, none⟩) 1 c) rfl qs HS0.out ?_
        simp only [Act.put, zs1, zs2, zs3]
        refine tkH (i := 4) (oi := ⟨some 19, .call ⟨.builtin .len, #[.tmp 18], _⟩, _, _, _, some (2, false)⟩) (v := .int .i64 1) rfl qs HS0.out ?_
        simp only [Act.put, zs1, zs2, zs3]
        refine tkH (i := 5) (oi := ⟨some 20, .binOp .neq 3 (.tmp 19) (.const (.int .i64 1)) 3, _, _, _, some (2, false)⟩) (v := .bool false) rfl qs HS0.out ?_
        simp only [Act.put, zs1, zs2, zs3]
        refine tkH (i := 6) (oi := ⟨some 21, .pick (.tmp 17) (.const (.bool true)) (.tmp 20), _, _, _, none⟩) (v := .bool false) rfl qs HS0.out ?_
        simp only [Act.put, zs1, zs2, zs3]
        refine tkH (i := 7) (oi := ⟨some 22, .move (.tmp 21), _, _, _, none⟩) (v := .bool false) rfl qs HS0.out ?_
        simp only [Act.put, zs1, zs2, zs3]
        refine tkH (i := 8) (oi := ⟨some 23, .move (.tmp 0), _, _, _, some (7, false)⟩) (v := .pointer (some ⟨b, pre.length, none⟩)) rfl qs HS0.out ?_
        simp only [Act.put, zs1, zs2, zs3]
        refine tkH (i := 9) (oi := ⟨some 24, .nilCheck (.tmp 23), _, _, _, some (7, false)⟩) (v := .pointer (some ⟨b, pre.length, none⟩)) rfl qs HS0.out ?_
        simp only [Act.put, zs1, zs2, zs3]
        refine tkH (i := 10) (oi := ⟨some 25, .fieldAddr 36 (.tmp 24) 0, _, _, _, some (7, false)⟩) (v := .pointer (some ⟨b, pre.length, none⟩)) rfl qs HS0.out ?_
        simp only [Act.put, zs1, zs2, zs3]
        refine tkH (i := 11) (oi := ⟨some 26, .move (.tmp 6), _, _, _, some (7, false)⟩) (v := .slice (some ⟨nb, no, none⟩) 1 c) rfl qs HS0.out ?_
        simp only [Act.put, zs1, zs2, zs3]
        refine tkH (i := 12) (oi := ⟨some 27, .indexAddr 155 (.tmp 26) (.const (.int .i64 0)), _, _, _, some (7, false)⟩) (v := .pointer (some ⟨nb, no, none⟩)) rfl qs HS0.out ?_
        simp only [Act.put, zs1, zs2, zs3]
        refine tkH (i := 13) (oi := ⟨some 28, .load 2 (.tmp 27), _, _, _, some (7, false)⟩) (v := .int .i64 n) rfl (Or.inl ⟨by rfl, fun w' hS => by have c := hS; go_simp⟩) HS0.out ?_
        simp only [Act.put, zs1, zs2, zs3]
        refine wpAnyH_ready (rs := [14]) (by kernel_rfl) (by simp) (AllReadyH.cons (o := ⟨some 29, .call ⟨.value (.func 106), #[.tmp 25, .tmp 28, .const (.int .i64 0), .const (.int .i64 255)], _⟩, _, _, _, some (7, false)⟩) rfl (fun K hK => ?_) AllReadyH.nil)
        go_simp
        refine (cutu8_yes b (pre.length) ((pre ++ msV m).toArray) ty n 0 255 _ HM0.out (by simp [msV]) hin.1 hin.2 (by omega) (by omega)).mono ?_
        rintro e w1 ⟨rfl, hm, hg⟩
        have HM1 := Lib.hid hm
        have HG1 := Lib.hid (grown_trans HG0.out hg)
        have HS1 := Lib.hid (show w1.cell? ⟨nb, no, none⟩ = some (.int .i64 n) from grown_cell hg hnb HS0.out)
        clear hm hg
        refine hK.out _ _ HS1.out (fun _ => ?_)
        clear hK K
        refine tkH (i := 15) (oi := ⟨some 30, .unOp .not 4 (.tmp 29), _, _, _, some (7, false)⟩) (v := .bool false) rfl qs HS1.out ?_
        simp only [Act.put, zs1, zs2, zs3]
        refine tkH (i := 16) (oi := ⟨some 31, .pick (.tmp 22) (.const (.bool true)) (.tmp 30), _, _, _, none⟩) (v := .bool false) rfl qs HS1.out ?_
        simp only [Act.put, zs1, zs2, zs3]
        refine wpAnyH_done (by kernel_rfl) ?_ _
        go_wp2
        have HMK := Lib.hid (show MsgAt w1 b ty pre { m with kind := n.toNat } from by
          have hh := HM1.out
          have h3 := msv_set pre m 0 (.int .u8 n) (msV m) (by simp [msV]) _ rfl
          rw [Nat.add_zero] at h3
          rw [h3] at hh
          unfold MsgAt
          rw [hh]
          have e := Int.toNat_of_nonneg hin.1
          simp only [msV, List.set_cons_zero, e])
        have hk0 := msg_cell HMK.out 0 (.int .u8 (n.toNat : Int)) rfl
        rw [Nat.add_zero] at hk0
        obtain ⟨k, hk⟩ : ∃ k, k = n.toNat := ⟨_, rfl⟩
        have hk256 : k < 256 := by omega
        rw [← hk] at hk0 HMK HKI
        have HKD := Lib.hid (fun W => kinds_any W)
        clear HM1 HM0 HC0 hin hnb hk
        refine wp_region_held (S := fun w' => w'.cell? ⟨b, pre.length, none⟩ = some (.int .u8 (k : Int))) (by kernel_rfl) ?_
        change wpAnyH _ _ _ _ _ _ _ _ (World.drew _)
        have HS4 := Lib.hid (show w1.drew.cell? ⟨b, pre.length, none⟩ = some (.int .u8 (k : Int)) from hk0)
        clear hk0
        refine tkH (i := 1) (oi := ⟨some 34, .move (.tmp 0), _, _, _, none⟩) (v := .pointer (some ⟨b, pre.length, none⟩)) rfl qs HS4.out ?_
        simp only [Act.put, zs1, zs2, zs3]
        refine tkH (i := 2) (oi := ⟨some 35, .nilCheck (.tmp 34), _, _, _, none⟩) (v := .pointer (some ⟨b, pre.length, none⟩)) rfl qs HS4.out ?_
        simp only [Act.put, zs1, zs2, zs3]
        refine tkH (i := 3) (oi := ⟨some 36, .fieldAddr 36 (.tmp 35) 0, _, _, _, none⟩) (v := .pointer (some ⟨b, pre.length, none⟩)) rfl qs HS4.out ?_
        simp only [Act.put, zs1, zs2, zs3]
        refine tkH (i := 4) (oi := ⟨some 37, .load 5 (.tmp 36), _, _, _, none⟩) (v := .int .u8 (k : Int)) rfl (Or.inl ⟨by rfl, fun w' hS => by have c := hS; go_simp⟩) HS4.out ?_
        simp only [Act.put, zs1, zs2, zs3]
        refine wpAnyH_ready (rs := [0]) (by kernel_rfl) (by simp) (AllReadyH.cons (o := ⟨some 33, .call ⟨.value (.func 67), #[], _⟩, _, _, _, none⟩) rfl (fun K hK => ?_) AllReadyH.nil)
        go_simp
        refine (HKD.out _).mono ?_
        rintro e w5 ⟨Bm, D, rfl, hown, hBm, hbel, hyes, hno⟩
        have HBL := Lib.hid hbel
        have HOW := Lib.hid hown
        have HYE := Lib.hid hyes
        have HNO := Lib.hid hno
        have HMZ := Lib.hid (show MsgAt w5 b ty pre { m with kind := k } from (hbel.block b (show b < w1.drew.heap.size from HMK.out.lt)).trans HMK.out)
        have HS5 := Lib.hid (show w5.cell? ⟨b, pre.length, none⟩ = some (.int .u8 (k : Int)) from by have h := msg_cell HMZ.out 0 (.int .u8 (k : Int)) rfl; rw [Nat.add_zero] at h; exact h)
        clear hown hBm hbel hyes hno
        refine hK.out _ _ HS5.out (fun _ => ?_)
        clear hK K
        obtain ⟨V, ps, hrun, hV⟩ := HOW.out.look_ok KU8 Tryz.underlying145 (zero_fields _) (zd := .held (.slice none 0 0)) (zp := []) rfl (key8 k hk256)
        cases hf : fdsL k with
        | some fds =>
          obtain ⟨v, h1, h2, h3⟩ := HYE.out k fds hf
          rw [h1] at hV
          rw [h2] at hrun
          have hVe : V = v := by
            have h := (Prod.mk.inj (Option.some.inj hV)).1
            exact DataW.held.inj h
          subst hVe
          rw [hf] at HKI
          have H3 := Lib.hid h3
          clear hV h1 h2 h3 hf HYE HNO
          refine wpAnyH_ready (rs := [5]) (by kernel_rfl) (by simp) (AllReadyH.cons (o := ⟨some 38, .lookup 145 (.tmp 33) (.tmp 37) true, _, _, _, none⟩) rfl (fun K hK => ?_) AllReadyH.nil)
          go_simp
          have HS6 := Lib.hid (HS5.out)
          refine hK.out _ _ HS6.out (fun _ => ?_)
          clear hK K
          refine tkH (i := 6) (oi := ⟨some 32, .move (.tmp 38), _, _, _, none⟩) (v := .tuple #[V, .bool true]) rfl qs HS6.out ?_
          simp only [Act.put, zs1, zs2, zs3]
          refine tkH (i := 7) (oi := ⟨some 39, .extract (.tmp 32) 0, _, _, _, none⟩) (v := V) rfl qs HS6.out ?_
          simp only [Act.put, zs1, zs2, zs3]
          refine tkH (i := 8) (oi := ⟨some 40, .extract (.tmp 32) 1, _, _, _, none⟩) (v := .bool true) rfl qs HS6.out ?_
          simp only [Act.put, zs1, zs2, zs3]
          refine tkH (i := 9) (oi := ⟨some 8, .assign (.tmp 39), _, _, _, none⟩) (v := V) rfl qs HS6.out ?_
          simp only [Act.put, zs1, zs2, zs3]
          refine tkH (i := 10) (oi := ⟨some 9, .assign (.tmp 40), _, _, _, none⟩) (v := .bool true) rfl qs HS6.out ?_
          simp only [Act.put, zs1, zs2, zs3]
          refine wpAnyH_done (by kernel_rfl) ?_ _
          clear hrun
          go_wp2
          go_ret2
          refine ⟨grown_trans HG1.out (grown_trans (grown_drew _ _) (grown_below HBL.out)), .inl ⟨k, fds, V, HKI.out, rfl, H3.out.kept (fun j hj => ⟨⟨Nat.le_trans HG1.out.size hj.1, hj.2⟩, rfl⟩), HMZ.out⟩⟩
        | none =>
          obtain ⟨h1, h2⟩ := HNO.out k hf
          rw [h2] at hrun
          rw [hf] at HKI
          clear hV h1 h2 hf HYE HNO
          refine wpAnyH_ready (rs := [5]) (by kernel_rfl) (by simp) (AllReadyH.cons (o := ⟨some 38, .lookup 145 (.tmp 33) (.tmp 37) true, _, _, _, none⟩) rfl (fun K hK => ?_) AllReadyH.nil)
          go_simp
          have HS6 := Lib.hid (HS5.out)
          refine hK.out _ _ HS6.out (fun _ => ?_)
          clear hK K
          refine tkH (i := 6) (oi := ⟨some 32, .move (.tmp 38), _, _, _, none⟩) (v := .tuple #[V, .bool false]) rfl qs HS6.out ?_
          simp only [Act.put, zs1, zs2, zs3]
          refine tkH (i := 7) (oi := ⟨some 39, .extract (.tmp 32) 0, _, _, _, none⟩) (v := V) rfl qs HS6.out ?_
          simp only [Act.put, zs1, zs2, zs3]
          refine tkH (i := 8) (oi := ⟨some 40, .extract (.tmp 32) 1, _, _, _, none⟩) (v := .bool false) rfl qs HS6.out ?_
          simp only [Act.put, zs1, zs2, zs3]
          refine tkH (i := 9) (oi := ⟨some 8, .assign (.tmp 39), _, _, _, none⟩) (v := V) rfl qs HS6.out ?_
          simp only [Act.put, zs1, zs2, zs3]
          refine tkH (i := 10) (oi := ⟨some 9, .assign (.tmp 40), _, _, _, none⟩) (v := .bool false) rfl qs HS6.out ?_
          simp only [Act.put, zs1, zs2, zs3]
          refine wpAnyH_done (by kernel_rfl) ?_ _
          clear hrun
          go_wp2
          go_ret2
          exact ⟨grown_trans HG1.out (grown_trans (grown_drew _ _) (grown_below HBL.out)), .inr ⟨HKI.out, _, rfl⟩⟩
      · have HK := Lib.hid (kind_out hN hin)
        unfold kindT at hN
        rw [hN] at HNB
        clear hm hv hl hsz he hB hb0 hs0 hN
        go_enter Tryz.func87, Tryz.ntmps87
        go_wp2_with fail
        rw [← hw0]
        clear hw0
        refine (HNB.out).mono ?_
        rintro e wa ⟨hb1, ⟨l, v, hx, rfl, hr⟩ | ⟨hx, _⟩⟩
        rotate_left
        · cases hx
        obtain rfl := Option.some.inj hx
        obtain ⟨p, c, rfl, hnc, hp⟩ := id hr
        obtain ⟨nb, no, rfl, hnbF, hcell⟩ := row_cells hr (by simp)
        have hx1 := HB0.out.trans (hb1.mono HB0.out.size)
        have hcl := hcell 0 (by simp)
        have HG0 := Lib.hid (grown_trans (grown_below (g := some b) hx1) (grown_drew _ _))
        have HC0 := Lib.hid hcl
        clear hb1 hx hr hp hcell hx1 hnbF hcl
        go_wp2
        refine wp_region_held (S := fun w' => w'.cell? ⟨nb, no, none⟩ = some (.int .i64 n)) (by kernel_rfl) ?_
        change wpAnyH _ _ _ _ _ _ _ _ (World.drew _)
        have HS0 := Lib.hid (show wa.drew.cell? ⟨nb, no, none⟩ = some (.int .i64 n) from HC0.out)
        refine tkH (i := 0) (oi := ⟨some 15, .move (.tmp 7), _, _, _, none⟩) (v := .bool true) rfl qs HS0.out ?_
        simp only [Act.put, zs1, zs2, zs3]
        refine tkH (i := 1) (oi := ⟨some 16, .unOp .not 4 (.tmp 15), _, _, _, none⟩) (v := .bool false) rfl qs HS0.out ?_
        simp only [Act.put, zs1, zs2, zs3]
        refine tkH (i := 2) (oi := ⟨some 17, .move (.tmp 16), _, _, _, none⟩) (v := .bool false) rfl qs HS0.out ?_
        simp only [Act.put, zs1, zs2, zs3]
        refine tkH (i := 3) (oi := ⟨some 18, .move (.tmp 6), _, _, _, some (2, false)⟩) (v := .slice (some ⟨nb, no, none⟩) 1 c) rfl qs HS0.out ?_
        simp only [Act.put, zs1, zs2, zs3]
        refine tkH (i := 4) (oi := ⟨some 19, .call ⟨.builtin .len, #[.tmp 18], _⟩, _, _, _, some (2, false)⟩) (v := .int .i64 1) rfl qs HS0.out ?_
        simp only [Act.put, zs1, zs2, zs3]
        refine tkH (i := 5) (oi := ⟨some 20, .binOp .neq 3 (.tmp 19) (.const (.int .i64 1)) 3, _, _, _, some (2, false)⟩) (v := .bool false) rfl qs HS0.out ?_
        simp only [Act.put, zs1, zs2, zs3]
        refine tkH (i := 6) (oi := ⟨some 21, .pick (.tmp 17) (.const (.bool true)) (.tmp 20), _, _, _, none⟩) (v := .bool false) rfl qs HS0.out ?_
        simp only [Act.put, zs1, zs2, zs3]
        refine tkH (i := 7) (oi := ⟨some 22, .move (.tmp 21), _, _, _, none⟩) (v := .bool false) rfl qs HS0.out ?_
        simp only [Act.put, zs1, zs2, zs3]
        refine tkH (i := 8) (oi := ⟨some 23, .move (.tmp 0), _, _, _, some (7, false)⟩) (v := .pointer (some ⟨b, pre.length, none⟩)) rfl qs HS0.out ?_
        simp only [Act.put, zs1, zs2, zs3]
        refine tkH (i := 9) (oi := ⟨some 24, .nilCheck (.tmp 23), _, _, _, some (7, false)⟩) (v := .pointer (some ⟨b, pre.length, none⟩)) rfl qs HS0.out ?_
        simp only [Act.put, zs1, zs2, zs3]
        refine tkH (i := 10) (oi := ⟨some 25, .fieldAddr 36 (.tmp 24) 0, _, _, _, some (7, false)⟩) (v := .pointer (some ⟨b, pre.length, none⟩)) rfl qs HS0.out ?_
        simp only [Act.put, zs1, zs2, zs3]
        refine tkH (i := 11) (oi := ⟨some 26, .move (.tmp 6), _, _, _, some (7, false)⟩) (v := .slice (some ⟨nb, no, none⟩) 1 c) rfl qs HS0.out ?_
        simp only [Act.put, zs1, zs2, zs3]
        refine tkH (i := 12) (oi := ⟨some 27, .indexAddr 155 (.tmp 26) (.const (.int .i64 0)), _, _, _, some (7, false)⟩) (v := .pointer (some ⟨nb, no, none⟩)) rfl qs HS0.out ?_
        simp only [Act.put, zs1, zs2, zs3]
        refine tkH (i := 13) (oi := ⟨some 28, .load 2 (.tmp 27), _, _, _, some (7, false)⟩) (v := .int .i64 n) rfl (Or.inl ⟨by rfl, fun w' hS => by have c := hS; go_simp⟩) HS0.out ?_
        simp only [Act.put, zs1, zs2, zs3]
        refine wpAnyH_ready (rs := [14]) (by kernel_rfl) (by simp) (AllReadyH.cons (o := ⟨some 29, .call ⟨.value (.func 106), #[.tmp 25, .tmp 28, .const (.int .i64 0), .const (.int .i64 255)], _⟩, _, _, _, some (7, false)⟩) rfl (fun K hK => ?_) AllReadyH.nil)
        go_simp
        refine (cutu8_no _ n 0 255 _ (by omega)).mono ?_
        rintro e w1 ⟨rfl, rfl⟩
        have HG1 := Lib.hid HG0.out
        have HS1 := Lib.hid (HS0.out)
        refine hK.out _ _ HS1.out (fun _ => ?_)
        clear hK K
        refine tkH (i := 15) (oi := ⟨some 30, .unOp .not 4 (.tmp 29), _, _, _, some (7, false)⟩) (v := .bool true) rfl qs HS1.out ?_
        simp only [Act.put, zs1, zs2, zs3]
        refine tkH (i := 16) (oi := ⟨some 31, .pick (.tmp 22) (.const (.bool true)) (.tmp 30), _, _, _, none⟩) (v := .bool true) rfl qs HS1.out ?_
        simp only [Act.put, zs1, zs2, zs3]
        refine wpAnyH_done (by kernel_rfl) ?_ _
        go_wp2
        go_ret2
        exact ⟨HG1.out, .inr ⟨HK.out, _, rfl⟩⟩
    · have HK := Lib.hid (kind_len hN h1)
      have h1' : ¬ (l.length : Int) = 1 := by omega
      unfold kindT at hN
      rw [hN] at HNB
      clear hm hv hl hsz he hB hb0 hs0 hN h1
      go_enter Tryz.func87, Tryz.ntmps87
      go_wp2_with fail
      rw [← hw0]
      clear hw0
      refine (HNB.out).mono ?_
      rintro e wa ⟨hb1, ⟨l2, v, hx, rfl, hr⟩ | ⟨hx, _⟩⟩
      rotate_left
      · cases hx
      obtain rfl := Option.some.inj hx
      obtain ⟨p, c, rfl, hnc, hp⟩ := id hr
      have HX1 := Lib.hid (HB0.out.trans (hb1.mono HB0.out.size))
      clear hb1 hx hr hp
      go_wp2
      refine wp_region_held (S := fun _ => True) (by kernel_rfl) ?_
      change wpAnyH _ _ _ _ _ _ _ _ (World.drew _)
      have HS0 := Lib.hid True.intro
      refine tkH (i := 0) (oi := ⟨some 15, .move (.tmp 7), _, _, _, none⟩) (v := .bool true) rfl qs HS0.out ?_
      simp only [Act.put, zs1, zs2, zs3]
      refine tkH (i := 1) (oi := ⟨some 16, .unOp .not 4 (.tmp 15), _, _, _, none⟩) (v := .bool false) rfl qs HS0.out ?_
      simp only [Act.put, zs1, zs2, zs3]
      refine tkH (i := 2) (oi := ⟨some 17, .move (.tmp 16), _, _, _, none⟩) (v := .bool false) rfl qs HS0.out ?_
      simp only [Act.put, zs1, zs2, zs3]
      refine tkH (i := 3) (oi := ⟨some 18, .move (.tmp 6), _, _, _, some (2, false)⟩) (v := .slice (p) l.length c) rfl qs HS0.out ?_
      simp only [Act.put, zs1, zs2, zs3]
      refine tkH (i := 4) (oi := ⟨some 19, .call ⟨.builtin .len, #[.tmp 18], _⟩, _, _, _, some (2, false)⟩) (v := .int .i64 l.length) rfl qs HS0.out ?_
      simp only [Act.put, zs1, zs2, zs3]
      refine tkH (i := 5) (oi := ⟨some 20, .binOp .neq 3 (.tmp 19) (.const (.int .i64 1)) 3, _, _, _, some (2, false)⟩) (v := .bool true) rfl qs HS0.out ?_
      simp only [Act.put, zs1, zs2, zs3]
      refine tkH (i := 6) (oi := ⟨some 21, .pick (.tmp 17) (.const (.bool true)) (.tmp 20), _, _, _, none⟩) (v := .bool true) rfl qs HS0.out ?_
      simp only [Act.put, zs1, zs2, zs3]
      refine tkH (i := 7) (oi := ⟨some 22, .move (.tmp 21), _, _, _, none⟩) (v := .bool true) rfl qs HS0.out ?_
      simp only [Act.put, zs1, zs2, zs3]
      refine tkH (i := 8) (oi := ⟨some 23, .move (.tmp 0), _, _, _, some (7, false)⟩) (v := undef) rfl sko HS0.out ?_
      simp only [Act.put, zs1, zs2, zs3]
      refine tkH (i := 9) (oi := ⟨some 24, .nilCheck (.tmp 23), _, _, _, some (7, false)⟩) (v := undef) rfl sko HS0.out ?_
      simp only [Act.put, zs1, zs2, zs3]
      refine tkH (i := 10) (oi := ⟨some 25, .fieldAddr 36 (.tmp 24) 0, _, _, _, some (7, false)⟩) (v := undef) rfl sko HS0.out ?_
      simp only [Act.put, zs1, zs2, zs3]
      refine tkH (i := 11) (oi := ⟨some 26, .move (.tmp 6), _, _, _, some (7, false)⟩) (v := undef) rfl sko HS0.out ?_
      simp only [Act.put, zs1, zs2, zs3]
      refine tkH (i := 12) (oi := ⟨some 27, .indexAddr 155 (.tmp 26) (.const (.int .i64 0)), _, _, _, some (7, false)⟩) (v := undef) rfl sko HS0.out ?_
      simp only [Act.put, zs1, zs2, zs3]
      refine tkH (i := 13) (oi := ⟨some 28, .load 2 (.tmp 27), _, _, _, some (7, false)⟩) (v := undef) rfl sko HS0.out ?_
      simp only [Act.put, zs1, zs2, zs3]
      refine tkH (i := 14) (oi := ⟨some 29, .call ⟨.value (.func 106), #[.tmp 25, .tmp 28, .const (.int .i64 0), .const (.int .i64 255)], _⟩, _, _, _, some (7, false)⟩) (v := undef) rfl sko HS0.out ?_
      simp only [Act.put, zs1, zs2, zs3]
      refine tkH (i := 15) (oi := ⟨some 30, .unOp .not 4 (.tmp 29), _, _, _, some (7, false)⟩) (v := undef) rfl sko HS0.out ?_
      simp only [Act.put, zs1, zs2, zs3]
      refine tkH (i := 16) (oi := ⟨some 31, .pick (.tmp 22) (.const (.bool true)) (.tmp 30), _, _, _, none⟩) (v := .bool true) rfl qs HS0.out ?_
      simp only [Act.put, zs1, zs2, zs3]
      refine wpAnyH_done (by kernel_rfl) ?_ _
      go_wp2
      go_ret2
      exact ⟨grown_trans (grown_below HX1.out) (grown_drew _ _), .inr ⟨HK.out, _, rfl⟩⟩
end Go.Proofs.YtgaoeljdlpemnaaGreatDoor
