/- A journal in memory; contracts of bytes.Clone, Records. -/
import Derived.Test.YtabahkeologbmaaJnAr
import Derived.Test.YtabahkeologbmaaDkQ
import Derived.Laws.Cover3
namespace Go.Proofs.Ytabahkeologbmaa.Jn
open Go.RowKit Go.Shelf Go.Dk Go.Jn Go.Sha Go.Proofs.Ytabahkeologbmaa.Dk
attribute [local go_sem] Oper.semAt_some

abbrev pJ (J : Nat) : Value := .pointer (some ⟨J, 0, none⟩)
/-- a journal of records -/
structure JnAt (w : World) (J D base : Nat) (v : Value) (rs : List By) (num : Nat) (dead : Bool) : Prop where
  hj : w.heap[J]? = some (.cells #[pD D, .int .u64 (num : Int), v, .bool dead] 57 (0, 0))
  row : OwnB w base v (dat rs)
theorem eql_nilB (p : Option Addr) (l c : Nat) (W : World) : (binOp .eql 40 (.slice p l c) (.slice none 0 0)).run Try.prog W = .ok (.bool p.isNone) W := by
  cases p <;> simp [binOp, run_equal_slice_nil W 40 5 _ l c Try.underlying40]
def CloneP (l : By) (w : World) (e : Ending) (w' : World) : Prop := ∃ v, e = .returned v ∧ OwnB w' w.heap.size v l ∧ Below w.heap.size w w'
theorem own_nothing (w : World) (base : Nat) : OwnB w base (.slice none 0 0) [] := ⟨rfl, Or.inl ⟨rfl, rfl⟩⟩
set_option maxRecDepth 100000 in
theorem clone_any (l : By) (hl : l.length ≤ 1000000) (v : Value) (F : Nat → Prop) (w : World) (hF : ∀ b, F b → b < w.heap.size) (h : BysF w F v l) : Calls Try.prog 34 #[v] w (CloneP l w) := by
  obtain ⟨p, cap, rfl, hc, hp⟩ := h
  have hl0 : (0 : Int) ≤ (l.length : Int) := Int.natCast_nonneg _
  cases hpn : p with
  | none =>
    subst hpn
    have h0 : l = [] := by
      cases l with
      | nil => rfl
      | cons a b => obtain ⟨x, y, e, _⟩ := hp (by simp); cases e
    subst h0
    have q : ∀ W, (binOp .eql 40 (.slice none 0 cap) (.slice none 0 0)).run Try.prog W = .ok (.bool true) W := fun W => eql_nilB none 0 cap W
    clear hp hc
    go_enter Try.func34, Try.ntmps34
    go_wp2
    go_ret
    exact ⟨_, rfl, own_nothing w _, Below.refl _ _⟩
  | some a =>
    subst hpn
    have q : ∀ W, (binOp .eql 40 (.slice (some a) l.length cap) (.slice none 0 0)).run Try.prog W = .ok (.bool false) W := fun W => eql_nilB (some a) l.length cap W
    have h0 : (w.alloc (.cells #[] 5)).ownsRow w.heap.size 5 1 (.slice (some ⟨w.heap.size, 0, none⟩) 0 0) 0 [] := ⟨rfl, Or.inr ⟨w.heap.size, 0, #[], rfl, Nat.le_refl _, heap_last _ _ _ rfl, Nat.le_refl _, by unfold maxLen; omega, rfl, rfl⟩⟩
    obtain ⟨v', w', hr, ho, hg, hn⟩ := run_appF (w.alloc (.cells #[] 5)) 40 40 5 (.int .u8 0) 1 1 par_u8 Try.underlying40 rfl (by decide) (by decide) w.heap.size (.slice (some ⟨w.heap.size, 0, none⟩) 0 0) 0 [] h0 (.slice (some a) l.length cap) F l.length (Lib.byteCells l)
      ⟨_, _, rfl, hc, fun h0 => by
        obtain ⟨b, o, e, hb, hcc⟩ := hp h0
        exact ⟨b, o, e, hb, fun j u hu => (World.cell?_of_block (a := ⟨b, o + j, none⟩) (heap_prev _ _ _ (hF b hb))).trans (hcc j u hu)⟩⟩ (by rw [byl_len, Nat.mul_one]) (byl_one _) (by omega) (by simp)
    rw [Nat.zero_add, List.nil_append] at ho
    have HO := Lib.hid ho
    have HB := Lib.hid (show Below w.heap.size w w' from ((Below.refl _ w).alloc (Nat.le_refl _) _).grown hg (by simp) (fun k e => by cases e; exact Nat.le_refl _))
    clear hp hF hc ho hg hn h0
    go_enter Try.func34, Try.ntmps34
    go_wp2_with ((with_reducible refine wl_appB (dst := 7) (.slice (some ⟨w.heap.size, 0, none⟩) 0 0) (.slice (some a) l.length cap) v' ?_ ?_ hr ?_); (· rfl); (· rfl))
    go_ret
    exact ⟨v', rfl, HO.out, HB.out⟩
/-- rows of bytes of one's own -/
def BsO (w : World) (base : Nat) (v : Value) (rs : List By) : Prop := ∃ ys : List Value, w.ownsRow base 40 1 v rs.length ys ∧ ∀ (i : Nat) r, rs[i]? = some r → ∃ y, ys[i]? = some y ∧ OwnB w base y r
theorem BsO.len {w : World} {base : Nat} {v : Value} {rs : List By} (h : BsO w base v rs) : ∃ p cap, v = .slice p rs.length cap := by obtain ⟨ys, h1, _⟩ := h; exact own_slice h1
theorem BsO.keep {w w' : World} {base : Nat} {v : Value} {rs : List By} (h : BsO w base v rs) (hk : ∀ g cs t, base ≤ g → (t = 40 ∨ t = 5) → w.heap[g]? = some (.cells cs t (0, 0)) → w'.heap[g]? = some (.cells cs t (0, 0))) : BsO w' base v rs := by
  obtain ⟨ys, h1, h2⟩ := h
  refine ⟨ys, own_keep h1 (fun g cs e hg => hk g cs _ (own_lt h1 e).1 (.inl rfl) hg), fun i r hr => ?_⟩
  obtain ⟨y, hy, ho⟩ := h2 i r hr
  exact ⟨y, hy, own_keep ho (fun g cs e hg => hk g cs _ (own_lt ho e).1 (.inr rfl) hg)⟩
theorem BsO.less {w : World} {b c : Nat} {v : Value} {rs : List By} (h : BsO w b v rs) (hc : c ≤ b) : BsO w c v rs := by
  obtain ⟨ys, h1, h2⟩ := h
  have lo : ∀ {e : TypeId} {n : Nat} {v : Value} {xs : List Value}, w.ownsRow b e 1 v n xs → w.ownsRow c e 1 v n xs := fun {e n v xs} h => by
    obtain ⟨h1, h2 | ⟨g, cap', cur, e1, e2, e3⟩⟩ := h
    · exact ⟨h1, Or.inl h2⟩
    · exact ⟨h1, Or.inr ⟨g, cap', cur, e1, Nat.le_trans hc e2, e3⟩⟩
  exact ⟨ys, lo h1, fun i r hr => by obtain ⟨y, hy, ho⟩ := h2 i r hr; exact ⟨y, hy, lo ho⟩⟩
theorem own_nothings (w : World) (base : Nat) : BsO w base (.slice none 0 0) [] := ⟨[], ⟨rfl, Or.inl ⟨rfl, rfl⟩⟩, fun i r h => by simp at h⟩
theorem par_bytes : (Try.prog.info? 40).map (fun i => (i.zero, i.size, i.bytes)) = some (some (.slice none 0 0), 1, 24) := by kernel_rfl
/-- an append in a region that draws its order -/
theorem st_appB {a : Act} {w w' : World} {K : Act → World → Prop} {Q : Exit → Act → World → Prop} {E : Prop} {ys : Nat → Option Bool} {dst : Tmp} {s x : Operand} {t typ : TypeId} {pos : String} {after : Array Edge} {v u v' : Value}
    (hs : a.eval s = v) (hx : a.eval x = u) (hr : (Builtin.append_ #[t, t] typ #[v, u]).run Try.prog w = .ok v' w') (hK : K (a.put (some dst) v') w') :
    if Region.wanted (⟨some dst, .call { callee := .builtin .append, args := #[s, x], argTypes := #[t, t] }, typ, pos, after, none⟩ : Oper) ys = true then Oper.wp Try.prog ⟨some dst, .call { callee := .builtin .append, args := #[s, x], argTypes := #[t, t] }, typ, pos, after, none⟩ a w K Q else E := by
  rw [if_pos (by simp [Region.wanted])]
  unfold Oper.wp execOp
  simp only [resolve, invoke, builtin, Sem.run_bind, Sem.run_pure, Result.andThen_ok, List.map_toArray, List.map_cons, List.map_nil, hs, hx, hr]
  exact hK
/-- the records that have come -/
def cameL (rs : List By) (pre : List (Rx rs.length)) : List By := pre.map fun x => rs.getD x.1 []
theorem cameL_snoc (rs : List By) (pre : List (Rx rs.length)) (x : Rx rs.length) : cameL rs (pre ++ [x]) = cameL rs pre ++ [rs.getD x.1 []] := by simp [cameL]
theorem cameL_pcs (rs : List By) : ∀ k, k ≤ rs.length → cameL rs (pcs rs.length k) = rs.take k
  | 0, _ => by simp [pcs, cameL]
  | k + 1, h => by
    rw [pcs_succ (show k < rs.length by omega), cameL_snoc, cameL_pcs rs k (by omega), List.take_add_one]
    congr 1
    rw [List.getD_eq_getElem?_getD, List.getElem?_eq_getElem (show k < rs.length by omega)]; rfl
/-- between two rounds of Records -/
def RsI (n0 : Nat) (F : Nat → Prop) (v : Value) (rs : List By) (w : World) (pre : List (Rx rs.length)) (W : World) : Prop :=
  ((∃ u, W.heap[w.heap.size]? = some (.cells #[u] 28 (0, 0)) ∧ BsO W (w.heap.size + 2) u (cameL rs pre)) ∧ RcE (w.heap.size + 1) n0 F v (dat rs) W) ∧ Below w.heap.size w W
theorem rsI_own {n0 : Nat} {F : Nat → Prop} {v : Value} {rs : List By} {w : World} {B : Nat} (hB : w.heap.size ≤ B) (hn : n0 ≤ B) (hF : ∀ b, F b → b < n0) : OwnFrom B (RsI n0 F v rs w) :=
  OwnFrom.and (OwnFrom.and (fun _ _ _ _ hs hg hr => by
    obtain ⟨u, h1, h2⟩ := hs
    exact ⟨u, cells_kept h1 hg hr, h2.keep (fun g cs t _ _ h => cells_kept h hg hr)⟩) (rcE_own hn hF)) (ownFrom_below (Nat.le_refl _) hB)
def RecsP (rs : List By) (w : World) (e : Ending) (w' : World) : Prop := ∃ v, e = .returned v ∧ BsO w' w.heap.size v rs ∧ Below w.heap.size w w'
set_option maxRecDepth 100000 in
theorem records_nil (w : World) : Calls Try.prog 12 #[.pointer none] w fun e w' => e = .returned (.slice none 0 0) ∧ w = w' := by
  go_enter Try.func12, Try.ntmps12
  go_wp2
  go_ret
  exact ⟨rfl, rfl⟩
set_option maxRecDepth 100000 in
set_option maxHeartbeats 1600000 in
theorem records_any {w : World} {J D base : Nat} {v : Value} {rs : List By} {num : Nat} {dead : Bool} (h : JnAt w J D base v rs num dead) (hlen : (dat rs).length ≤ 1000000) :
    Calls Try.prog 12 #[pJ J] w (RecsP rs w) := by
  obtain ⟨p, cap, rfl⟩ := own_slice h.row
  have hrow := row_own (F := fun b => some b = (Value.slice p (dat rs).length cap).ownBlock) h.row (fun b e => e.symm)
  have hF : ∀ b, some b = (Value.slice p (dat rs).length cap).ownBlock → b < w.heap.size := fun b e => (own_lt h.row e.symm).2
  generalize hFd : (fun b => some b = (Value.slice p (dat rs).length cap).ownBlock) = F at hrow
  have hF : ∀ b, F b → b < w.heap.size := by rw [← hFd]; exact hF
  have c2 : w.cell? ⟨J, 2, none⟩ = some (.slice p (dat rs).length cap) := cell_of_arr h.hj 2
  have HL := Lib.hid hlen
  have HF := Lib.hid hF
  obtain ⟨w1, hw1⟩ : ∃ w1, w.alloc (.cells #[.slice none 0 0] 28) = w1 := ⟨_, rfl⟩
  have hs1 : w1.heap.size = w.heap.size + 1 := by rw [← hw1]; simp
  have hc1 : w1.heap[w.heap.size]? = some (.cells #[.slice none 0 0] 28 (0, 0)) := by rw [← hw1]; exact heap_last _ _ _ rfl
  have hb1 : Below w.heap.size w w1 := by rw [← hw1]; exact (Below.refl _ _).alloc (Nat.le_refl _) _
  have hb2 : Below w.heap.size w (w1.alloc (.cells #[.slice p (dat rs).length cap] 40)) := hb1.alloc hb1.size _
  have HI0 := Lib.hid (show RsI w.heap.size F (.slice p (dat rs).length cap) rs w [] (w1.alloc (.cells #[.slice p (dat rs).length cap] 40)) from
    ⟨⟨⟨_, (heap_prev _ _ _ (by omega)).trans hc1, own_nothings _ _⟩, ⟨heap_last _ _ _ hs1.symm, hrow.kept (fun b hb => ⟨hb, hb2.block _ (hF b hb)⟩), hb2.size⟩⟩, hb2⟩)
  have HS1 := Lib.hid hs1
  have HW1 := Lib.hid hw1
  have hc1 : w1.cell? ⟨J, 2, none⟩ = some (.slice p (dat rs).length cap) := (World.cell?_of_block (a := ⟨J, 2, none⟩) (hb1.block J (lt_of_heap h.hj))).trans c2
  have HC1 := Lib.hid hc1
  generalize hL : (dat rs).length = L at *
  have HLL := Lib.hid hL
  clear hb1 hb2 h hF hs1 hL hlen hw1 hrow c2 hc1
  have c2 : (w.alloc (.cells #[.slice none 0 0] 28)).cell? ⟨J, 2, none⟩ = some (.slice p L cap) := by rw [HW1.out]; exact HC1.out
  refine (callsIn_wide (n := 6)).1 ?_
  refine callsIn_of_wp_marks Try.func12 rfl trivial ?_ rfl
  simp only [Try.ntmps12, List.size_toArray, List.length_cons, List.length_nil, Nat.reduceAdd, Nat.reduceSub, Array.replicate_succ, Array.replicate_zero, List.push_toArray, List.append_toArray, List.nil_append, List.cons_append]
  gi_wp2_with
    (refine ⟨trivial, ?_⟩; gi_at_call 33; refine (recs_in Fence.wide _ trivial rfl p L cap _).mono ?_; rintro e w' ⟨rfl, rfl⟩)
  rw [HW1.out]
  have hss : (w1.alloc (.cells #[.slice p L cap] 40)).heap.size = w.heap.size + 2 := by have := HS1.out; simp; omega
  have HSS := Lib.hid hss
  have hl1 : L ≤ 1000000 := HL.out
  clear c2
  refine wpIn_rangeFunc_ownH rfl (by omega) (gf := 50) (lb := #[.pointer (some ⟨w.heap.size + 1, 0, none⟩)]) rfl trivial (enters_of Try.func50 (by kernel_rfl) rfl)
    (recs_stops _ (by omega) (rcX (w.heap.size + 1) w.heap.size) w.heap.size (w.heap.size + 1) F p cap rs [] stuck_nil (by rw [List.append_nil, HLL.out]; exact hl1) (by simp [rcX]) (fun b hb => ⟨by have := HF.out b hb; simp [rcX, this], HF.out b hb⟩) (w1.alloc (.cells #[.slice p L cap] 40)) (by rw [List.append_nil, HLL.out]; exact HI0.out.1.2))
    kpX_t (kpX_b (by omega)) (Below.refl _ _) (fun _ => rfl)
    (RsI w.heap.size F (.slice p L cap) rs w) (fun _ _ _ => False) (rsI_own (by omega) (by omega) HF.out) (fun _ _ _ _ _ hs _ _ => hs) HI0.out
    (fun x a' _ => a' = { tmps := #[pJ J, undef, .slice none 0 0, .pointer (some ⟨w.heap.size, 0, none⟩), undef, rcV p cap rs x.1, pJ J, .bool false, pJ J, pJ J, .pointer (some ⟨J, 2, none⟩), .slice p L cap, .func (.func 50) #[] #[.pointer (some ⟨w.heap.size + 1, 0, none⟩)], .int .i64 (stA rs (x.1 + 1) : Int), rcV p cap rs x.1, undef, undef, undef, undef, undef, undef], defers := [] })
    (fun _ _ _ _ _ _ hs _ _ => hs) ?assign ?body ?done ?stop
  case assign =>
    intro l pre x W K hI hK
    gi_wp2
    exact hK _ _ (KeepsFrom.refl _ _) (kpX_frq (Frq.refl _ _)) hI rfl
  case body =>
    rintro l pre x a' W hl hr ⟨⟨⟨u, hu, hus⟩, hE⟩, hB⟩ rfl hlen
    have hxr : rs[x.1]? = some (rs.getD x.1 []) := by rw [List.getD_eq_getElem?_getD, List.getElem?_eq_getElem x.2]; rfl
    have hst := dat_len hxr []
    have hbd := dat_body hxr []
    have hrl : (rs.getD x.1 []).length ≤ 1000000 := by rw [List.append_nil, HLL.out] at hst; omega
    have hsub : BysF W F (rcV p cap rs x.1) (rs.getD x.1 []) := by
      have := row_sub hE.row (stA rs x.1 + 4) (rs.getD x.1 []).length HLL.out (by rw [List.append_nil, HLL.out] at hst; omega)
      rw [← List.append_nil (dat rs), hbd] at this
      exact this
    obtain ⟨ys, hy1, hy2⟩ := hus
    have hcl : (cameL rs pre).length < rs.length := by unfold cameL; rw [List.length_map]; exact hlen
    have hrs : rs.length ≤ 1000000 := by
      have : ∀ l : List By, 4 * l.length ≤ (dat l).length := fun l => by
        induction l with
        | nil => exact Nat.zero_le _
        | cons a b ih =>
          show 4 * (b.length + 1) ≤ (recB a ++ dat b).length
          rw [List.length_append, recB_len]; omega
      have := this rs
      rw [HLL.out] at this; omega
    have hBg := hB.size
    have hBg2 : w.heap.size + 2 ≤ W.heap.size := lt_of_heap hE.bx
    have HU := Lib.hid hu
    have HE := Lib.hid hE
    have HB := Lib.hid hB
    have HY1 := Lib.hid hy1
    have HY2 := Lib.hid hy2
    have HSUB := Lib.hid hsub
    have HCL := Lib.hid hcl
    have cu : ∀ w3, Below W.heap.size W.drew w3 → w3.cell? ⟨w.heap.size, 0, none⟩ = some u := fun w3 h3 => cell_of_arr ((h3.block _ (lt_of_heap hu)).trans hu) 0
    have HCU := Lib.hid cu
    clear cu hu hE hB hy1 hy2 hsub hst hbd hcl hxr
    generalize hRR : rs.getD x.1 [] = r at *
    have HR := Lib.hid hRR
    clear hRR
    obtain ⟨up, ucap, rfl⟩ := own_slice HY1.out
    have HAP := Lib.hid (show ∀ w3 y, OwnB w3 W.drew.heap.size y r → Below W.drew.heap.size W.drew w3 → ∃ u5 w5, (Builtin.append_ #[28, 28] 28 #[.slice up (cameL rs pre).length ucap, .slice (some ⟨w3.heap.size, 0, none⟩) 1 1]).run Try.prog (w3.alloc (.cells #[y] 40)) = .ok u5 w5 ∧
        (BsO w5 (w.heap.size + 2) u5 (cameL rs pre ++ [r]) ∧ Frq (fun k => some k = (Value.slice up (cameL rs pre).length ucap).ownBlock) W w5 ∧ w5.heap[w.heap.size]? = some (.cells #[.slice up (cameL rs pre).length ucap] 28 (0, 0)) ∧ (∀ k, u5.ownBlock = some k → some k = (Value.slice up (cameL rs pre).length ucap).ownBlock ∨ W.heap.size ≤ k)) from fun w3 y ho3 hb3 => by
      have hsz3 : W.heap.size ≤ w3.heap.size := hb3.size
      have hbA : Below W.heap.size W (w3.alloc (.cells #[y] 40)) := (show Below W.heap.size W w3 from ⟨hb3.os, hb3.tape, hb3.output, hb3.size, hb3.block⟩).alloc hsz3 _
      obtain ⟨u5, w5, hr5, ho5, hg5, hn5⟩ := run_appF (w3.alloc (.cells #[y] 40)) 28 28 40 (.slice none 0 0) 1 24 par_bytes Try.underlying28 rfl (by decide) (by decide) (w.heap.size + 2) (.slice up (cameL rs pre).length ucap) (cameL rs pre).length ys (own_keep HY1.out (fun g cs _ hg => (hbA.block g (lt_of_heap hg)).trans hg)) (.slice (some ⟨w3.heap.size, 0, none⟩) 1 1) (fun _ => True) 1 [y]
        ⟨_, _, rfl, Nat.le_refl _, fun _ => ⟨w3.heap.size, 0, rfl, trivial, fun j v hv => by
          rw [Nat.zero_add, cell_of_arr (heap_last w3 _ _ rfl)]
          simpa using hv⟩⟩ rfl (fun v hv => by
            obtain rfl := List.mem_singleton.1 hv
            obtain ⟨p, c, rfl⟩ := own_slice ho3
            rfl) (by have := HCL.out; omega) (by simp; omega)
      have hnew : ∀ k, (Value.slice up (cameL rs pre).length ucap).ownBlock = some k → k < W.heap.size := fun k e => (own_lt HY1.out e).2
      have hfr : Frq (fun k => some k = (Value.slice up (cameL rs pre).length ucap).ownBlock) W w5 := (Frq.ofBelow hbA).grown hg5 (fun k e => .inl e.symm)
      refine ⟨u5, w5, hr5, ⟨ys ++ [y], by rw [List.length_append]; exact ho5, fun i r' hr' => ?_⟩, hfr, ?_, fun k e => ?_⟩
      · have hl := HY1.out.1
        rw [Nat.mul_one] at hl
        by_cases hi : i < (cameL rs pre).length
        · rw [List.getElem?_append_left hi] at hr'
          obtain ⟨z, hz, hoz⟩ := HY2.out i r' hr'
          refine ⟨z, by rw [List.getElem?_append_left (by omega)]; exact hz, own_keep hoz (fun g cs eg hg => (hfr.block g (lt_of_heap hg) (fun e => ?_)).trans hg)⟩
          exact own_not HY1.out hg (by decide) e
        · have e1 : i = (cameL rs pre).length := by
            have := (List.getElem?_eq_some_iff.1 hr').1
            rw [List.length_append, List.length_singleton] at this; omega
          subst e1
          rw [List.getElem?_append_right (Nat.le_refl _), Nat.sub_self] at hr'
          obtain rfl : r = r' := by simpa using hr'
          refine ⟨y, by rw [List.getElem?_append_right (by omega), hl, Nat.sub_self]; rfl, ?_⟩
          have ho4 : OwnB w5 W.drew.heap.size y r := own_keep ho3 (fun g cs eg hg => (hg5.block g (Nat.lt_of_lt_of_le (lt_of_heap hg) (by simp)) (fun e => by
            have h1 := (own_lt ho3 eg).1
            have h2 := hnew g e.symm
            have : W.drew.heap.size = W.heap.size := rfl
            omega)).trans ((heap_prev _ _ _ (lt_of_heap hg)).trans hg))
          obtain ⟨h1, h2 | ⟨g, cap', cur, e1, e2, e3⟩⟩ := ho4
          · exact ⟨h1, Or.inl h2⟩
          · exact ⟨h1, Or.inr ⟨g, cap', cur, e1, Nat.le_trans hBg2 e2, e3⟩⟩
      · exact (hfr.block _ (lt_of_heap HU.out) (own_not HY1.out HU.out (by decide))).trans HU.out
      · rcases hn5 with h | h
        · exact .inl (by rw [← e, h])
        · rw [h] at e
          have := Option.some.inj e
          right; rw [← this]; simp; omega)
    have HFIN := Lib.hid (show ∀ (w3 : World) (y u5 : Value) (w5 : World), OwnB w3 W.drew.heap.size y r → Below W.drew.heap.size W.drew w3 → (BsO w5 (w.heap.size + 2) u5 (cameL rs pre ++ [r]) ∧ Frq (fun k => some k = (Value.slice up (cameL rs pre).length ucap).ownBlock) W w5 ∧ w5.heap[w.heap.size]? = some (.cells #[.slice up (cameL rs pre).length ucap] 28 (0, 0)) ∧ (∀ k, u5.ownBlock = some k → some k = (Value.slice up (cameL rs pre).length ucap).ownBlock ∨ W.heap.size ≤ k)) →
        ∀ a3, ownPostG (w1.alloc (.cells #[.slice p L cap] 40)).heap.size (KpX (rcX (w.heap.size + 1) w.heap.size) w.heap.size) (RsI w.heap.size F (.slice p L cap) rs w) (fun _ _ _ => False) (pre ++ [x]) W .normal a3 (w5.setCell ⟨w.heap.size, 0, none⟩ u5) from fun w3 y u5 w5 _ _ h a3 => by
      obtain ⟨hb5, hf5, hh5, _⟩ := h
      have hf6 : Frq (fun k => some k = (Value.slice up (cameL rs pre).length ucap).ownBlock ∨ k = w.heap.size) W (w5.setCell ⟨w.heap.size, 0, none⟩ u5) := Frq.setCell (hf5.mono (fun k e => .inl e)) (p := ⟨w.heap.size, 0, none⟩) (.inl (.inr rfl)) _
      have hob : ∀ k, some k = (Value.slice up (cameL rs pre).length ucap).ownBlock → w.heap.size + 2 ≤ k ∧ ∃ cs, W.heap[k]? = some (.cells cs 40 (0, 0)) := fun k e => ⟨(own_lt HY1.out e.symm).1, own_cells HY1.out e.symm⟩
      have hk : KpX (rcX (w.heap.size + 1) w.heap.size) w.heap.size W (w5.setCell ⟨w.heap.size, 0, none⟩ u5) := by
        refine kpX_of hf6.size (fun b hb hbl => hf6.block b hbl (fun e => ?_))
        unfold rcX at hb
        have hX := Classical.not_not.1 hb
        rcases e with e | e
        · have h1 := (hob b e).1
          rcases hX with h2 | h2
          · omega
          · omega
        · omega
      refine ⟨⟨hf6.size, fun k o hkB ho hc => (hf6.block k (lt_of_heap ho) (fun e => ?_)).trans ho⟩, hk, ⟨⟨⟨u5, ?_, ?_⟩, HE.out.kept hk (by simp [rcX]) (fun b hb => ⟨by have := HF.out b hb; simp [rcX, this], HF.out b hb⟩)⟩, ?_⟩⟩
      · rcases e with e | e
        · obtain ⟨cs, hcs⟩ := (hob k e).2
          rw [ho] at hcs; cases hcs; cases hc
        · rw [e, HU.out] at ho; cases ho; cases hc
      · rw [set_heap hh5]; rfl
      · rw [cameL_snoc, HR.out]
        exact hb5.keep (fun g cs t _ ht hg => (Below.heap_setCell _ _ _ _ (fun e => by
          have e' : g = w.heap.size := e
          rw [e', hh5] at hg
          cases hg
          rcases ht with h | h <;> exact absurd h (by decide))).trans hg)
      · exact HB.out.trans (hf6.below HB.out.size (fun k e => e.elim (fun e => by have := (hob k e).1; omega) (fun e => by omega))))
    gi_wp2
    refine region_round (S := fun _ => True) (by kernel_rfl) (by kernel_rfl) (fun ⟨_, _, h⟩ => h) ?_
    refine wpAnyH_ready (rs := [0, 1]) (by kernel_rfl) (by simp) ?_
    refine AllReadyH.cons rfl (fun K' hK => ?_) (AllReadyH.cons rfl (fun K' hK => ?_) AllReadyH.nil)
    · have c0 : W.drew.cell? ⟨w.heap.size, 0, none⟩ = some (.slice up (cameL rs pre).length ucap) := HCU.out _ (Below.refl _ _)
      go_simp
      refine hK.out _ _ trivial (fun _ => ?_)
      clear hK K' c0
      refine wpAnyH_ready (rs := [1]) (by kernel_rfl) (by simp) ?_
      refine AllReadyH.cons rfl (fun K' hK => ?_) AllReadyH.nil
      go_simp
      refine hK.out _ _ trivial (fun _ => ?_)
      clear hK K'
      refine wpAnyH_ready (rs := [2]) (by kernel_rfl) (by simp) ?_
      refine AllReadyH.cons rfl (fun K' hK => ?_) AllReadyH.nil
      go_simp
      refine (clone_any r hrl _ F W.drew (fun b hb => Nat.lt_of_lt_of_le (HF.out b hb) hBg) HSUB.out).mono ?_
      rintro e w3 ⟨y, rfl, ho3, hb3⟩
      obtain ⟨yp, yc, rfl⟩ := own_slice ho3
      refine hK.out _ _ trivial (fun _ => ?_)
      clear hK K'
      have HO3 := Lib.hid ho3
      have HB3 := Lib.hid hb3
      clear ho3 hb3
      refine wpAnyH_ready (rs := [3]) (by kernel_rfl) (by simp) ?_
      refine AllReadyH.cons rfl (fun K' hK => ?_) AllReadyH.nil
      go_simp
      refine hK.out _ _ trivial (fun _ => ?_)
      clear hK K'
      obtain ⟨u5, w5, hr5, HR5⟩ := HAP.out w3 _ HO3.out HB3.out
      obtain ⟨p5, cp5, rfl⟩ := HR5.1.len
      refine wpAnyH_ready (rs := [4]) (by kernel_rfl) (by simp) ?_
      refine AllReadyH.cons rfl (fun K' hK => ?_) AllReadyH.nil
      refine st_appB (v := .slice up (cameL rs pre).length ucap) (u := .slice (some ⟨w3.heap.size, 0, none⟩) 1 1) (v' := .slice p5 (cameL rs pre ++ [r]).length cp5) (w' := w5) rfl rfl hr5 ?_
      refine hK.out _ _ trivial (fun _ => ?_)
      clear hK K'
      refine wpAnyH_ready (rs := [5]) (by kernel_rfl) (by simp) ?_
      refine AllReadyH.cons rfl (fun K' hK => ?_) AllReadyH.nil
      have c5 : w5.cell? ⟨w.heap.size, 0, none⟩ = some (.slice up (cameL rs pre).length ucap) := cell_of_arr (HR5.2.2.1) 0
      have f5 : w5.frozen? ⟨w.heap.size, 0, none⟩ = false := froz_of_arr (HR5.2.2.1) 0
      go_simp
      refine hK.out _ _ trivial (fun _ => ?_)
      clear hK K'
      refine wpAnyH_done (by kernel_rfl) ?_ _
      have q := HFIN.out w3 _ _ w5 HO3.out HB3.out HR5
      rw [show (cameL rs pre ++ [r]).length = (cameL rs pre).length + 1 from by simp] at q
      exact q ⟨#[], []⟩
    · go_simp
      refine hK.out _ _ trivial (fun _ => ?_)
      clear hK K'
      refine wpAnyH_ready (rs := [0, 2]) (by kernel_rfl) (by simp) ?_
      refine AllReadyH.cons rfl (fun K' hK => ?_) (AllReadyH.cons rfl (fun K' hK => ?_) AllReadyH.nil)
      · have c0 : W.drew.cell? ⟨w.heap.size, 0, none⟩ = some (.slice up (cameL rs pre).length ucap) := HCU.out _ (Below.refl _ _)
        go_simp
        refine hK.out _ _ trivial (fun _ => ?_)
        clear hK K' c0
        refine wpAnyH_ready (rs := [2]) (by kernel_rfl) (by simp) ?_
        refine AllReadyH.cons rfl (fun K' hK => ?_) AllReadyH.nil
        go_simp
        refine (clone_any r hrl _ F W.drew (fun b hb => Nat.lt_of_lt_of_le (HF.out b hb) hBg) HSUB.out).mono ?_
        rintro e w3 ⟨y, rfl, ho3, hb3⟩
        obtain ⟨yp, yc, rfl⟩ := own_slice ho3
        refine hK.out _ _ trivial (fun _ => ?_)
        clear hK K'
        have HO3 := Lib.hid ho3
        have HB3 := Lib.hid hb3
        clear ho3 hb3
        refine wpAnyH_ready (rs := [3]) (by kernel_rfl) (by simp) ?_
        refine AllReadyH.cons rfl (fun K' hK => ?_) AllReadyH.nil
        go_simp
        refine hK.out _ _ trivial (fun _ => ?_)
        clear hK K'
        obtain ⟨u5, w5, hr5, HR5⟩ := HAP.out w3 _ HO3.out HB3.out
        obtain ⟨p5, cp5, rfl⟩ := HR5.1.len
        refine wpAnyH_ready (rs := [4]) (by kernel_rfl) (by simp) ?_
        refine AllReadyH.cons rfl (fun K' hK => ?_) AllReadyH.nil
        refine st_appB (v := .slice up (cameL rs pre).length ucap) (u := .slice (some ⟨w3.heap.size, 0, none⟩) 1 1) (v' := .slice p5 (cameL rs pre ++ [r]).length cp5) (w' := w5) rfl rfl hr5 ?_
        refine hK.out _ _ trivial (fun _ => ?_)
        clear hK K'
        refine wpAnyH_ready (rs := [5]) (by kernel_rfl) (by simp) ?_
        refine AllReadyH.cons rfl (fun K' hK => ?_) AllReadyH.nil
        have c5 : w5.cell? ⟨w.heap.size, 0, none⟩ = some (.slice up (cameL rs pre).length ucap) := cell_of_arr (HR5.2.2.1) 0
        have f5 : w5.frozen? ⟨w.heap.size, 0, none⟩ = false := froz_of_arr (HR5.2.2.1) 0
        go_simp
        refine hK.out _ _ trivial (fun _ => ?_)
        clear hK K'
        refine wpAnyH_done (by kernel_rfl) ?_ _
        have q := HFIN.out w3 _ _ w5 HO3.out HB3.out HR5
        rw [show (cameL rs pre ++ [r]).length = (cameL rs pre).length + 1 from by simp] at q
        exact q ⟨#[], []⟩
      · go_simp
        refine (clone_any r hrl _ F W.drew (fun b hb => Nat.lt_of_lt_of_le (HF.out b hb) hBg) HSUB.out).mono ?_
        rintro e w3 ⟨y, rfl, ho3, hb3⟩
        obtain ⟨yp, yc, rfl⟩ := own_slice ho3
        refine hK.out _ _ trivial (fun _ => ?_)
        clear hK K'
        have HO3 := Lib.hid ho3
        have HB3 := Lib.hid hb3
        clear ho3 hb3
        refine wpAnyH_ready (rs := [0, 3]) (by kernel_rfl) (by simp) ?_
        refine AllReadyH.cons rfl (fun K' hK => ?_) (AllReadyH.cons rfl (fun K' hK => ?_) AllReadyH.nil)
        · have c0 : w3.cell? ⟨w.heap.size, 0, none⟩ = some (.slice up (cameL rs pre).length ucap) := HCU.out _ HB3.out
          go_simp
          refine hK.out _ _ trivial (fun _ => ?_)
          clear hK K' c0
          refine wpAnyH_ready (rs := [3]) (by kernel_rfl) (by simp) ?_
          refine AllReadyH.cons rfl (fun K' hK => ?_) AllReadyH.nil
          go_simp
          refine hK.out _ _ trivial (fun _ => ?_)
          clear hK K'
          obtain ⟨u5, w5, hr5, HR5⟩ := HAP.out w3 _ HO3.out HB3.out
          obtain ⟨p5, cp5, rfl⟩ := HR5.1.len
          refine wpAnyH_ready (rs := [4]) (by kernel_rfl) (by simp) ?_
          refine AllReadyH.cons rfl (fun K' hK => ?_) AllReadyH.nil
          refine st_appB (v := .slice up (cameL rs pre).length ucap) (u := .slice (some ⟨w3.heap.size, 0, none⟩) 1 1) (v' := .slice p5 (cameL rs pre ++ [r]).length cp5) (w' := w5) rfl rfl hr5 ?_
          refine hK.out _ _ trivial (fun _ => ?_)
          clear hK K'
          refine wpAnyH_ready (rs := [5]) (by kernel_rfl) (by simp) ?_
          refine AllReadyH.cons rfl (fun K' hK => ?_) AllReadyH.nil
          have c5 : w5.cell? ⟨w.heap.size, 0, none⟩ = some (.slice up (cameL rs pre).length ucap) := cell_of_arr (HR5.2.2.1) 0
          have f5 : w5.frozen? ⟨w.heap.size, 0, none⟩ = false := froz_of_arr (HR5.2.2.1) 0
          go_simp
          refine hK.out _ _ trivial (fun _ => ?_)
          clear hK K'
          refine wpAnyH_done (by kernel_rfl) ?_ _
          have q := HFIN.out w3 _ _ w5 HO3.out HB3.out HR5
          rw [show (cameL rs pre ++ [r]).length = (cameL rs pre).length + 1 from by simp] at q
          exact q ⟨#[], []⟩
        · go_simp
          refine hK.out _ _ trivial (fun _ => ?_)
          clear hK K'
          refine wpAnyH_ready (rs := [0]) (by kernel_rfl) (by simp) ?_
          refine AllReadyH.cons rfl (fun K' hK => ?_) AllReadyH.nil
          have c0 : (w3.alloc (.cells #[.slice yp r.length yc] 40)).cell? ⟨w.heap.size, 0, none⟩ = some (.slice up (cameL rs pre).length ucap) := HCU.out _ (HB3.out.alloc HB3.out.size _)
          go_simp
          refine hK.out _ _ trivial (fun _ => ?_)
          clear hK K' c0
          obtain ⟨u5, w5, hr5, HR5⟩ := HAP.out w3 _ HO3.out HB3.out
          obtain ⟨p5, cp5, rfl⟩ := HR5.1.len
          refine wpAnyH_ready (rs := [4]) (by kernel_rfl) (by simp) ?_
          refine AllReadyH.cons rfl (fun K' hK => ?_) AllReadyH.nil
          refine st_appB (v := .slice up (cameL rs pre).length ucap) (u := .slice (some ⟨w3.heap.size, 0, none⟩) 1 1) (v' := .slice p5 (cameL rs pre ++ [r]).length cp5) (w' := w5) rfl rfl hr5 ?_
          refine hK.out _ _ trivial (fun _ => ?_)
          clear hK K'
          refine wpAnyH_ready (rs := [5]) (by kernel_rfl) (by simp) ?_
          refine AllReadyH.cons rfl (fun K' hK => ?_) AllReadyH.nil
          have c5 : w5.cell? ⟨w.heap.size, 0, none⟩ = some (.slice up (cameL rs pre).length ucap) := cell_of_arr (HR5.2.2.1) 0
          have f5 : w5.frozen? ⟨w.heap.size, 0, none⟩ = false := froz_of_arr (HR5.2.2.1) 0
          go_simp
          refine hK.out _ _ trivial (fun _ => ?_)
          clear hK K'
          refine wpAnyH_done (by kernel_rfl) ?_ _
          have q := HFIN.out w3 _ _ w5 HO3.out HB3.out HR5
          rw [show (cameL rs pre ++ [r]).length = (cameL rs pre).length + 1 from by simp] at q
          exact q ⟨#[], []⟩
  case done =>
    rintro E ys W hD rfl ⟨⟨⟨u, hu, hus⟩, hE⟩, hB⟩ hK
    have cv : W.cell? ⟨w.heap.size, 0, none⟩ = some u := cell_of_arr hu 0
    rw [cameL_pcs rs _ (Nat.le_refl _), List.take_length] at hus
    have HU := Lib.hid hus
    have HB := Lib.hid hB
    clear hu hus hE hB
    gi_wp2
    refine ⟨by simp, .inl ⟨_, _, rfl, run_takeDeferred hK, ?_⟩⟩
    refine ⟨_, results_tmp rfl _ _ _, u, rfl, (HU.out.less (by omega)).keep (fun g cs t _ _ hg => (World.putObj_heap_other (fun e => by subst e; rw [hK] at hg; cases hg)).trans hg), HB.out.trans (belowK_b (w := w) (Nat.le_refl _) W E _ _ (by rw [HSS.out] at hD; omega) hK rfl rfl)⟩
  case stop =>
    rintro E c pre W _ _ h _
    exact h.elim
end Go.Proofs.Ytabahkeologbmaa.Jn
