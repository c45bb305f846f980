/- Contracts of roomOf, sectorsFor, wholeSectors, withRecord. -/
import Derived.Test.YtabahkeologbmaaJnWh
import Derived.Test.YtabahkeologbmaaDkR
import Derived.Deep.DeepAppendRoom
namespace Go.Proofs.Ytabahkeologbmaa.Jn
open Go.RowKit Go.Shelf Go.Dk Go.Jn Go.Sha Go.Proofs.Ytabahkeologbmaa.Dk

set_option maxRecDepth 100000 in
theorem roomOf_any {D L M : Nat} {d : Dk} {w : World} (h : DkAt w D L M d) (h2 : 2 ≤ d.n) : Calls Try.prog 46 #[pD D] w fun e w' => e = .returned (.int .i64 ((64 * (d.n - 2) : Nat) : Int)) ∧ w = w' := by
  have HS := Lib.hid (size_any h)
  have n1 := h.ok.n2
  have e1 : ((64 * (d.n - 2) : Nat) : Int) = ((d.n : Int) - 2) * 64 := by omega
  rw [e1]
  have n2 : (d.n : Int) ≤ 4096 := by omega
  have n3 : (2 : Int) ≤ (d.n : Int) := by omega
  clear h e1
  generalize d.n = n at *
  go_enter Try.func46, Try.ntmps46
  go_wp2_with (refine (HS.out).mono ?_; rintro e w1 ⟨rfl, rfl⟩)
  go_ret
  exact ⟨rfl, rfl⟩
set_option maxRecDepth 100000 in
theorem sectorsFor_any (n : Nat) (hn : n ≤ 1000000000) (w : World) : Calls Try.prog 47 #[.int .i64 (n : Int)] w fun e w' => e = .returned (.int .i64 (secs n : Int)) ∧ w = w' := by
  have e1 : (secs n : Int) = ((n : Int) + 64 - 1) / 64 := by unfold secs; omega
  rw [e1]
  have n0 : (0 : Int) ≤ (n : Int) := Int.natCast_nonneg _
  have n1 : (n : Int) ≤ 1000000000 := by omega
  clear e1
  go_enter Try.func47, Try.ntmps47
  go_wp2
  go_ret
  exact ⟨rfl, rfl⟩
theorem madeB (n : Nat) : madeCells #[Value.int .u8 0] n = bc (List.replicate n 0) := by
  have hs : (madeCells #[Value.int .u8 0] n).size = n := by rw [size_madeCells]
  apply Array.ext_getElem?
  intro k
  by_cases hk : k < n
  · rw [bc_get]
    unfold Lib.byteCells
    rw [List.getElem?_map, List.getElem?_replicate, if_pos hk]
    unfold madeCells
    simp [hk, Nat.mod_one]
  · rw [Array.getElem?_eq_none (by omega), Array.getElem?_eq_none (by rw [bc_size]; simp; omega)]
theorem mkB (n : Nat) (hn : n ≤ 1000000) (w : World) : (Instr.makeSlice 40 (.int .i64 (n : Int)) (.int .i64 (n : Int))).run Try.prog w = .ok (.slice (some ⟨w.heap.size, 0, none⟩) n n) (w.alloc (.cells (bc (List.replicate n 0)) 5)) := by
  obtain ⟨i, hi, h0, h1, h2⟩ := info_parts par_u8
  have := run_make (P := Try.prog) w 40 5 i (.int .u8 0) Try.underlying40 hi h0 .i64 .i64 (n : Int) (n : Int) (by omega) (by omega) (by rw [h2]; omega) (by omega)
  rw [h1, show ((n : Nat) : Int).toNat = n from rfl, Nat.mul_one] at this
  rw [← madeB]
  exact this
/-- a slice of a block's bytes from its beginning -/
def NewB (b : By) (w : World) (e : Ending) (w' : World) : Prop := e = .returned (.slice (some ⟨w.heap.size, 0, none⟩) b.length b.length) ∧ w'.heap[w.heap.size]? = some (.cells (bc b) 5 (0, 0)) ∧ Below w.heap.size w w'
theorem bc_pad (b : By) : ((bc (List.replicate (64 * secs b.length) 0)).toList.take 0 ++ Lib.byteCells b ++ (bc (List.replicate (64 * secs b.length) 0)).toList.drop (0 + (Lib.byteCells b).length)).toArray = bc (padS b) := by
  have h : b.length ≤ 64 * secs b.length := by unfold secs; omega
  rw [bc_list, List.take_zero, List.nil_append, Nat.zero_add, byl_len, byl_drop, List.drop_replicate, ← byl_app, ← bc_list, Array.toArray_toList]
  rfl
set_option maxRecDepth 100000 in
theorem wholeS_any (b : By) (v : Value) (F : Nat → Prop) (h0 : 0 < b.length) (hl : b.length ≤ 900000) (w : World) (hF : ∀ x, F x → x < w.heap.size) (h : BysF w F v b) : Calls Try.prog 54 #[v] w (NewB (padS b) w) := by
  obtain ⟨p, cap, rfl, hc, hp⟩ := h
  obtain ⟨bb, o, rfl, hb, hcell⟩ := hp h0
  have hbl := hF bb hb
  have e1 : 64 * secs b.length ≤ 1000000 := by unfold secs; omega
  have hmk : ∀ w : World, (Instr.makeSlice 40 (.int .i64 ((secs b.length : Int) * 64)) (.int .i64 ((secs b.length : Int) * 64))).run Try.prog w = .ok (.slice (some ⟨w.heap.size, 0, none⟩) (64 * secs b.length) (64 * secs b.length)) (w.alloc (.cells (bc (List.replicate (64 * secs b.length) 0)) 5)) := fun w => by
    rw [← mkB (64 * secs b.length) e1 w, show ((64 * secs b.length : Nat) : Int) = (secs b.length : Int) * 64 by omega]
  have HS := Lib.hid (sectorsFor_any b.length (by omega) w)
  have s0 : (0 : Int) ≤ (secs b.length : Int) := Int.natCast_nonneg _
  have s1 : (secs b.length : Int) ≤ 15626 := by omega
  have HC := Lib.hid (show ∀ j v, (Lib.byteCells b)[j]? = some v → (w.alloc (.cells (bc (List.replicate (64 * secs b.length) 0)) 5)).cell? ((⟨bb, o, none⟩ : Addr).add j) = some v from fun j v hv => by rw [Addr.add_mid]; exact (World.cell?_of_block (a := ⟨bb, o + j, none⟩) (heap_prev _ _ _ hbl)).trans (hcell j v hv))
  have hlt : b.length ≤ 64 * secs b.length := by unfold secs; omega
  have HP := Lib.hid (padS_len b)
  unfold NewB
  rw [HP.out]
  have hbs := bc_pad b
  clear hcell hp hF hb
  go_enter Try.func54, Try.ntmps54
  go_wp2_with (first
    | (go_at_call 47; refine (HS.out).mono ?_; rintro e w1 ⟨rfl, rfl⟩)
    | ((with_reducible refine wl_copy (dst := 11) 5 Try.underlying40 info_u8 w.heap.size 0 (64 * secs b.length) (64 * secs b.length) ⟨bb, o, none⟩ b.length cap (bc (List.replicate (64 * secs b.length) 0)) (bc (padS b)) 5 (Lib.byteCells b) ?_ ?_ ?_ ?_ ?_ ?_ ?_ ?_ ?_); (· rfl); (· rfl); (· exact heap_last _ _ _ rfl); (· rw [byl_len]; exact (Nat.min_eq_left hlt).symm); (· exact HC.out); (· rw [byl_len, bc_size, List.length_replicate]; omega); (· exact byl_one b); (· exact hbs); (rw [setRow_alloc_at _ _ _ _ _ rfl])))
  go_ret
  exact ⟨rfl, heap_last _ _ _ rfl, (Below.refl _ _).alloc (Nat.le_refl _) _⟩
/-- an append whose run is known -/
theorem wl_appB {ops : Array Oper} {rest : List Oper} {a : Act} {w w' : World} {Q : Exit → Act → World → Prop} {dst : Tmp} {s x : Operand} {t typ : TypeId} {pos : String} {after : Array Edge} (v u v' : Value)
    (hs : a.eval s = v) (hx : a.eval x = u) (hr : (Builtin.append_ #[t, t] typ #[v, u]).run Try.prog w = .ok v' w') (hK : wpList Try.prog ops Q rest (a.put (some dst) v') w') :
    wpList Try.prog ops Q (⟨some dst, .call { callee := .builtin .append, args := #[s, x], argTypes := #[t, t] }, typ, pos, after, none⟩ :: rest) a w := by
  refine wpList_plain rfl fun K hK' => ?_
  unfold Oper.wp execOp
  simp only [resolve, invoke, builtin, Sem.run_bind, Sem.run_pure, Result.andThen_ok, List.map_toArray, List.map_cons, List.map_nil, hs, hx, hr]
  exact hK' _ _ hK
def zero4 : By := List.replicate 4 0
theorem zero4_len : zero4.length = 4 := rfl
theorem zero_a4 (w : World) : (zeroValue 90).run Try.prog w = .ok (.agg (bc zero4)) w := by
  have : (zeroValue 90).run Try.prog w = .ok (.agg (Lib.byteCells zero4).toArray) w := by kernel_rfl
  rw [this, ← bc_list]
attribute [irreducible] zero4
attribute [local go_sem high, local simp high] zero_a4
theorem lay4 (A : By) : zero4.take 0 ++ (A ++ zero4.drop (0 + 4)) = A := by
  have e0 : zero4 = List.replicate 4 0 := by unfold zero4; rfl
  rw [e0]; simp
/-- behind an append the old row is as it was -/
theorem app_kept {w w' : World} {base n m : Nat} {v u v' : Value} {xs news : List Value} {F : Nat → Prop} (hown : w.ownsRow base 5 1 v n xs) (hsrc : RowF w F u m news) (hl : news.length = m) (h1 : ∀ x ∈ news, x.oneCell' = true) (hn : n + m ≤ 1000000000)
    (hr : (Builtin.append_ #[40, 40] 40 #[v, u]).run Try.prog w = .ok v' w') : w'.ownsRow base 5 1 v n xs := by
  obtain ⟨i0, hi0, hz0, hz1, hz2⟩ := info_parts par_u8
  obtain ⟨p, cap, rfl, _, hp⟩ := hsrc
  have hown' := hown
  obtain ⟨h1', ⟨rfl, rfl⟩ | ⟨g, gc, cur, rfl, hb, hg, hnc, hm, hs, ht⟩⟩ := hown
  · exact ⟨h1', Or.inl ⟨rfl, rfl⟩⟩
  have go : ∀ (ad : Addr), (∀ j u, news[j]? = some u → w.cell? (ad.add j) = some u) → p = some ad → w'.ownsRow base 5 1 (.slice (some ⟨g, 0, none⟩) n gc) n xs := by
    intro ad h hpa
    subst hpa
    by_cases hroom : n + m ≤ gc
    · obtain ⟨w2, hr2, ho2, _⟩ := run_append_own_spare (P := Try.prog) w base 40 40 5 i0 1 Try.underlying40 hi0 hz1 g n gc xs hown' ad m cap news (by omega) h h1 hroom
      rw [hr2] at hr
      injection hr with e1 e2
      subst e2
      obtain ⟨_, ⟨e, _⟩ | ⟨g2, gc2, cur2, e, hb2, hg2, hnc2, hm2, hs2, ht2⟩⟩ := ho2
      · cases e
      · simp only [Value.slice.injEq, Option.some.injEq, Addr.mk.injEq, and_true, true_and] at e
        obtain ⟨rfl, rfl⟩ := e
        refine ⟨h1', Or.inr ⟨g, gc, cur2, rfl, hb2, hg2, hnc, hm2, hs2, ?_⟩⟩
        have := congrArg (List.take (n * 1)) ht2
        rw [List.take_take, Nat.min_eq_left (by omega), List.take_append_of_le_length (by omega), List.take_of_length_le (l := xs) (by omega)] at this
        exact this
    · have holds : ∀ j u, xs[j]? = some u → w.cell? ((⟨g, 0, none⟩ : Addr).add j) = some u := hown'.cells (g := g) rfl
      have hr2 := run_append_grow (P := Try.prog) w 40 40 5 i0 (.int .u8 0) Try.underlying40 hi0 hz0 ⟨g, 0, none⟩ n gc xs (by rw [hz1]; exact h1') holds ad m cap news (by rw [hz1]; omega) h (by omega) (by omega) (growslice_fits (by omega) (by rw [hz2]; omega))
      rw [hr2] at hr
      injection hr with e1 e2
      subst e2
      exact ⟨h1', Or.inr ⟨g, gc, cur, rfl, hb, (heap_prev w.drew _ _ (show g < w.drew.heap.size from lt_of_heap hg)).trans hg, hnc, hm, hs, ht⟩⟩
  by_cases h0 : 0 < m
  · obtain ⟨b, o, rfl, _, hc⟩ := hp h0
    exact go ⟨b, o, none⟩ (fun j u hu => by rw [Addr.add_mid]; exact hc j u hu) rfl
  · obtain rfl : m = 0 := by omega
    obtain rfl : news = [] := List.eq_nil_of_length_eq_zero (by omega)
    cases p with
    | some ad => exact go ad (fun j u hu => by simp at hu) rfl
    | none =>
      rw [run_append_none w base 40 40 5 i0 1 cap Try.underlying40 hi0 _ n xs hown'] at hr
      injection hr with e1 e2
      subst e2
      exact hown'
theorem kept2 {w2 w3 : World} {base n n2 : Nat} {v v2 : Value} {xs ys : List Value} (hk2 : w2.ownsRow base 5 1 v n xs) (ho2 : w2.ownsRow base 5 1 v2 n2 (xs ++ ys)) (hk3 : w3.ownsRow base 5 1 v2 n2 (xs ++ ys)) (hg3 : w2.grownBy w3 v2.ownBlock) : w3.ownsRow base 5 1 v n xs := by
  obtain ⟨h1, ⟨rfl, rfl⟩ | ⟨g, cap, cur, rfl, hb, hg, hnc, hm, hs, ht⟩⟩ := hk2
  · exact ⟨h1, Or.inl ⟨rfl, rfl⟩⟩
  by_cases he : v2.ownBlock = some g
  · obtain ⟨_, ⟨rfl, _⟩ | ⟨g2, cap2, cur2, rfl, _, hg2, _, _, hs2, _⟩⟩ := ho2
    · cases he
    obtain ⟨h3, ⟨e, _⟩ | ⟨g3, cap3, cur3, e, hb3, hg3', hnc3, hm3, hs3, ht3⟩⟩ := hk3
    · cases e
    simp only [Value.slice.injEq, Option.some.injEq, Addr.mk.injEq, and_true, true_and] at e
    obtain ⟨rfl, rfl⟩ := e
    have e2 : g2 = g := Option.some.inj he
    subst e2
    rw [hg] at hg2
    simp only [Option.some.injEq, Obj.cells.injEq, and_true] at hg2
    subst hg2
    have hcap : cap = cap2 := by omega
    subst hcap
    have hn2 : n ≤ n2 := by rw [List.length_append] at h3; omega
    refine ⟨h1, Or.inr ⟨g2, cap, cur3, rfl, hb3, hg3', hnc, hm3, hs3, ?_⟩⟩
    have := congrArg (List.take (n * 1)) ht3
    rw [List.take_take, Nat.min_eq_left (by omega), List.take_append_of_le_length (by omega), List.take_of_length_le (l := xs) (by omega)] at this
    exact this
  · exact ⟨h1, Or.inr ⟨g, cap, cur, rfl, hb, (hg3.block g (lt_of_heap hg) (fun e => he e.symm)).trans hg, hnc, hm, hs, ht⟩⟩
/-- data with a record behind them -/
def WithP (base : Nat) (v : Value) (data b : By) (w : World) (e : Ending) (w' : World) : Prop := ∃ v', e = .returned v' ∧ OwnB w' base v' (data ++ (beL 4 b.length ++ b)) ∧ Frq (fun k => some k = v.ownBlock) w w' ∧ (v'.ownBlock = v.ownBlock ∨ ∃ g, v'.ownBlock = some g ∧ w.heap.size ≤ g) ∧ OwnB w' base v data
set_option maxRecDepth 100000 in
set_option maxHeartbeats 800000 in
theorem with_any (base : Nat) (v u : Value) (data b : By) (F : Nat → Prop) (w : World) (hbase : base ≤ w.heap.size) (hd : data.length ≤ 1000000) (hb : b.length ≤ 900000) (hv : OwnB w base v data) (hu : BysF w F u b) (hF : ∀ x, F x → x < w.heap.size ∧ some x ≠ v.ownBlock) :
    Calls Try.prog 36 #[v, u] w (WithP base v data b w) := by
  have HV := Lib.hid hv
  have HU := Lib.hid hu
  have HF := Lib.hid hF
  obtain ⟨p, cap, rfl⟩ := own_slice hv
  obtain ⟨up, ucap, rfl, _, _⟩ := hu
  have HZ := Lib.hid zero4_len
  clear hv hF
  have b0 : (0 : Int) ≤ (b.length : Int) := Int.natCast_nonneg _
  have b1 : (b.length : Int) ≤ 900000 := by omega
  go_enter Try.func36, Try.ntmps36
  go_wp2_with fail
  refine (lay_any w.heap.size 0 4 4 b.length zero4 90 (by omega) (by omega) (by rw [zero4_len]; omega) _ (heap_last _ _ _ rfl)).mono ?_
  rintro e w1 ⟨rfl, hb1, hf1⟩
  rw [lay4] at hb1
  have hbel : Below w.heap.size w w1 := ((Below.refl _ w).alloc (Nat.le_refl _) _).trans (hf1.below (by simp) (fun k e => by omega))
  have hv1 : OwnB w1 base (.slice p data.length cap) data := own_keep HV.out (fun g cs _ hg => (hbel.block _ (lt_of_heap hg)).trans hg)
  obtain ⟨v2, w2, hr2, ho2, hg2, hn2⟩ := run_appF w1 40 40 5 (.int .u8 0) 1 1 par_u8 Try.underlying40 rfl (by decide) (by decide) base (.slice p data.length cap) data.length (Lib.byteCells data) hv1 (.slice (some ⟨w.heap.size, 0, none⟩) 4 4) (· = w.heap.size) 4 (Lib.byteCells (beL 4 b.length))
    ⟨_, _, rfl, Nat.le_refl _, fun _ => ⟨_, 0, rfl, rfl, fun j u hu => by rw [Nat.zero_add, cell_of_arr hb1, bc_get]; exact hu⟩⟩ (by rw [byl_len, beL_len]) (byl_one _) (by omega) (Nat.le_trans hbase hbel.size)
  rw [← byl_app] at ho2
  have HH2 := Lib.hid (hn2)
  have hk2 : OwnB w2 base (.slice p data.length cap) data := app_kept hv1 (F := (· = w.heap.size)) ⟨_, _, rfl, Nat.le_refl _, fun _ => ⟨_, 0, rfl, rfl, fun j u hu => by rw [Nat.zero_add, cell_of_arr hb1, bc_get]; exact hu⟩⟩ (by rw [byl_len, beL_len]) (byl_one _) (by omega) hr2
  have HG2 := Lib.hid (show Frq (fun k => some k = (Value.slice p data.length cap).ownBlock) w w2 from (Frq.ofBelow hbel).grown hg2 (fun k e => .inl e.symm))
  have hu2 : BysF w2 F (.slice up b.length ucap) b := HU.out.kept (fun x hx => ⟨hx, HG2.out.block x (HF.out x hx).1 (HF.out x hx).2⟩)
  obtain ⟨p2, cap2, rfl⟩ := own_slice ho2
  have hs2 : w.heap.size < w2.heap.size := Nat.lt_of_lt_of_le (lt_of_heap hb1) hg2.size
  obtain ⟨v3, w3, hr3, ho3, hg3, hn3⟩ := run_appF w2 40 40 5 (.int .u8 0) 1 1 par_u8 Try.underlying40 rfl (by decide) (by decide) base (.slice p2 (data.length + 4) cap2) (data.length + 4) (Lib.byteCells (data ++ beL 4 b.length)) ho2 (.slice up b.length ucap) F b.length (Lib.byteCells b)
    hu2 (by rw [byl_len, Nat.mul_one]) (byl_one _) (by omega) (by omega)
  rw [← byl_app, List.append_assoc, show data.length + 4 + b.length = (data ++ (beL 4 b.length ++ b)).length by simp only [List.length_append, beL_len]; omega] at ho3
  have hk3 := app_kept ho2 (F := F) hu2 (by rw [byl_len]) (byl_one _) (by omega) hr3
  rw [byl_app] at ho2 hk3
  have HK3 := Lib.hid (show OwnB w3 base (.slice p data.length cap) data from kept2 hk2 ho2 hk3 hg3)
  have HO3 := Lib.hid ho3
  have HN3 := Lib.hid hn3
  have HS1 := Lib.hid (Nat.le_trans hbel.size hg2.size)
  have HSA := Lib.hid hbel.size
  have HG3 := Lib.hid (show Frq (fun k => some k = (Value.slice p data.length cap).ownBlock) w w3 from HG2.out.grown hg3 (fun k e => by
    rcases HH2.out with h | h
    · rw [h] at e; exact .inl e.symm
    · rw [h] at e; have e' := Option.some.inj e; exact .inr (by have := HSA.out; omega)))
  clear hv1 ho2 hg2 hn2 hu2 ho3 hg3 hn3 hb1 hf1 hbel hs2 hk2 hk3
  go_wp2_with (first
    | ((with_reducible refine wl_appB (dst := 13) (.slice p data.length cap) (.slice (some ⟨w.heap.size, 0, none⟩) 4 4) (.slice p2 (data.length + 4) cap2) ?_ ?_ hr2 ?_); (· rfl); (· rfl))
    | ((with_reducible refine wl_appB (dst := 16) (.slice p2 (data.length + 4) cap2) (.slice up b.length ucap) v3 ?_ ?_ hr3 ?_); (· rfl); (· rfl)))
  go_ret
  refine ⟨v3, rfl, HO3.out, HG3.out, ?_, HK3.out⟩
  rcases HN3.out with h | h
  · rw [h]
    rcases HH2.out with h2 | h2
    · exact .inl h2
    · exact .inr ⟨_, h2, HSA.out⟩
  · exact .inr ⟨_, h, HS1.out⟩
end Go.Proofs.Ytabahkeologbmaa.Jn
