/- The document's Head; bytes with zeros behind. -/
import Derived.Test.YtabahkeologbmaaJnDn
import Derived.Lib.AppendZerosOnto
namespace Go.Proofs.Ytabahkeologbmaa.Jn
open Go.RowKit Go.Shelf Go.Dk Go.Jn Go.Sha Go.Proofs.Ytabahkeologbmaa.Dk

theorem zeroCells_u8 (k : Nat) : (Builtin.zeroCells (Value.int .u8 0).cells k).toList = Lib.byteCells (List.replicate k 0) := by
  apply List.ext_getElem?
  intro j
  unfold Lib.byteCells
  rw [List.getElem?_map, List.getElem?_replicate]
  unfold Builtin.zeroCells
  by_cases hj : j < k
  · simp [hj, Value.cells, Nat.mod_one]
  · simp [hj, Value.cells]
theorem app_zeros {w : World} {base g n cap : Nat} {l : By} (h : OwnB w base (.slice (some ⟨g, 0, none⟩) n cap) l) (hn : n = l.length) (k : Nat) (h0 : 0 < k) (hk : n + k ≤ 1000000) (hbase : base ≤ w.heap.size) (t : TypeId) :
    ∃ v' w', (Builtin.append_ #[40, 3] t #[.slice (some ⟨g, 0, none⟩) n cap, .int .i64 k]).run Try.prog w = .ok v' w' ∧ OwnB w' base v' (l ++ List.replicate k 0) ∧ w.grownBy w' (some g) := by
  subst hn
  obtain ⟨i, hi, z0, z1, z2⟩ := info_parts par_u8
  have hl2 : (l ++ List.replicate k (0 : UInt8)).length = l.length + k := by simp
  obtain ⟨h1, ⟨e, _⟩ | ⟨g2, cap', cur, e, hb, hg, hnc, hcm, hcs, htake⟩⟩ := id h
  · cases e
  simp only [Value.slice.injEq, Option.some.injEq, Addr.mk.injEq, and_true, true_and] at e
  obtain ⟨rfl, rfl⟩ := e
  have hw : IntKind.i64.wrap (k : Int) = k := by rw [IntKind.wrap_i64]; omega
  have hneg : ¬ ((k : Int) < 0) := by omega
  have hk0 : k ≠ 0 := by omega
  have h48i : ¬ (281474976710656 < (k : Int) * (i.bytes : Int)) := by rw [z2]; omega
  have hns : ¬ (k * i.size = 0) := by rw [z1]; omega
  by_cases hroom : l.length + k ≤ cap
  · have hst := run_storeCells_at (P := Try.prog) g (l.length * 1) 5 (Lib.byteCells (List.replicate k 0)) 0 cur w hg (by rw [byl_len, List.length_replicate, hcs]; omega) (fun v hv => by
      unfold Lib.byteCells at hv
      obtain ⟨c, _, rfl⟩ := List.mem_map.1 hv
      rfl)
    rw [Nat.mul_one] at hst hcs
    simp only [Nat.add_zero] at hst
    refine ⟨.slice (some ⟨g, 0, none⟩) (l.length + k) cap, w.setRow g (cur.toList.take l.length ++ Lib.byteCells (List.replicate k 0) ++ cur.toList.drop (l.length + (Lib.byteCells (List.replicate k 0)).length)).toArray, ?_, ?_, ?_⟩
    rotate_left
    · show World.ownsRow _ _ _ _ _ (l ++ List.replicate k (0 : UInt8)).length _
      rw [hl2]
      refine ⟨by rw [byl_len, hl2, Nat.mul_one], Or.inr ⟨g, cap, _, rfl, hb, setRow_heap w g cur _ 5 _ hg, hroom, hcm, ?_, ?_⟩⟩
      · simp only [List.size_toArray, List.length_append, List.length_take, List.length_drop, Array.length_toList, byl_len, List.length_replicate]
        omega
      · rw [Nat.mul_one] at htake
        rw [htake, ← byl_app, Nat.mul_one]
        exact List.take_left' (by rw [byl_len, hl2])
    · exact ⟨rfl, rfl, rfl, by simp, fun k _ hk => setRow_other w g k _ (fun e => hk (by rw [e]))⟩
    · simp [Builtin.append_, run_underlying Try.underlying40, run_underlying Try.underlying3, sizeOf, typeInfo, zeroValue, hi, z0, asInt, asIntOf, hw, hneg, h48i, hroom, z1, hns, hk0, zeroCells_u8, Addr.add_mid, hst]
  · have hold := run_firstCells_some (P := Try.prog) w.drew i.size l.length ⟨g, 0, none⟩ l.length cap (Lib.byteCells l) (by rw [byl_len, z1, Nat.mul_one]) (by
      intro j v hv
      exact h.cells (g := g) rfl j v hv)
    have hge := grownCap_ge w (l.length + k) cap 5
    have hcm := grownCap_le_maxLen w (l.length + k) cap 5 (by unfold maxLen; omega)
    have hr := Lib.run_append_grow_zeros (P := Try.prog) w 40 3 t 5 i (.int .u8 0) .i64 .i64 Try.underlying40 Try.underlying3 hi z0 (some ⟨g, 0, none⟩) l.length cap (Lib.byteCells l) hold k h0 (by rw [z1]; omega) (by omega) (by omega) (by rw [z2]; omega) (growslice_fits (by omega) (by rw [z2]; omega))
    refine ⟨_, _, hr, ?_, ⟨rfl, rfl, rfl, by simp, fun k hk _ => heap_alloc_old w.drew _ k hk⟩⟩
    show World.ownsRow _ _ _ _ _ (l ++ List.replicate k (0 : UInt8)).length _
    rw [hl2]
    refine ⟨by rw [byl_len, hl2, Nat.mul_one], Or.inr ⟨w.heap.size, _, _, rfl, hbase, heap_alloc_new w.drew _, hge, hcm, ?_, ?_⟩⟩
    · simp only [Array.size_append, List.size_toArray, size_zeroCells, byl_len, Value.cells]
      simp
      omega
    · simp only [Array.toList_append, List.append_assoc, zeroCells_u8]
      rw [← List.append_assoc, ← byl_app, Nat.mul_one]
      exact List.take_left' (by rw [byl_len, hl2])
/-- bytes behind one's own -/
theorem own_cat {w : World} {base : Nat} {v y : Value} {l m : By} {F : Nat → Prop} (h : OwnB w base v l) (hy : BysF w F y m) (hb : base ≤ w.heap.size) (hl : l.length + m.length ≤ 1000000) (t : TypeId) :
    ∃ v' w', (Builtin.append_ #[40, 40] t #[v, y]).run Try.prog w = .ok v' w' ∧ OwnB w' base v' (l ++ m) ∧ w.grownBy w' v.ownBlock ∧ (v'.ownBlock = v.ownBlock ∨ v'.ownBlock = some w.heap.size) := by
  obtain ⟨v', w', hr, ho, hg, hn⟩ := run_appF w 40 t 5 (.int .u8 0) 1 1 par_u8 Try.underlying40 rfl (by decide) (by decide) base v l.length (Lib.byteCells l) h y F m.length (Lib.byteCells m) hy (by rw [byl_len, Nat.mul_one]) (fun u hu => by
    unfold Lib.byteCells at hu
    obtain ⟨c, _, rfl⟩ := List.mem_map.1 hu
    rfl) (by omega) hb
  refine ⟨v', w', hr, ?_, hg, hn⟩
  unfold OwnB
  rw [List.length_append, byl_app]
  exact ho
theorem wl_appX {ops : Array Oper} {rest : List Oper} {a : Act} {w w' : World} {Q : Exit → Act → World → Prop} {dst : Tmp} {s x : Operand} {t t2 typ : TypeId} {pos : String} {after : Array Edge} (v u v' : Value)
    (hs : a.eval s = v) (hx : a.eval x = u) (hr : (Builtin.append_ #[t, t2] typ #[v, u]).run Try.prog w = .ok v' w') (hK : wpList Try.prog ops Q rest (a.put (some dst) v') w') :
    wpList Try.prog ops Q (⟨some dst, .call { callee := .builtin .append, args := #[s, x], argTypes := #[t, t2] }, typ, pos, after, none⟩ :: rest) a w := by
  refine wpList_plain rfl fun K hK' => ?_
  unfold Oper.wp execOp
  simp only [resolve, invoke, builtin, Sem.run_bind, Sem.run_pure, Result.andThen_ok, List.map_toArray, List.map_cons, List.map_nil, hs, hx, hr]
  exact hK' _ _ hK
def RHeadP (num len : Nat) (w : World) (e : Ending) (w' : World) : Prop := ∃ u, e = .returned u ∧ OwnB w' w.heap.size u (headB num len) ∧ Below w.heap.size w w'
theorem own_gr {w w' : World} {base : Nat} {v : Value} {l : By} (h : OwnB w base v l) {row : Option Nat} (hg : w.grownBy w' row) (hne : ∀ k, v.ownBlock = some k → row ≠ some k) : OwnB w' base v l :=
  own_keep h (fun g cs e hgg => (((Frq.refl (fun k => row = some k) w).grown hg (fun k e => .inl e)).block g (lt_of_heap hgg) (hne g e)).trans hgg)
set_option maxRecDepth 100000 in
set_option maxHeartbeats 3200000 in
theorem refhead_any (num len : Nat) (hn : num < 18446744073709551616) (hl : len < 18446744073709551616) (w : World) : Calls Try.prog 22 #[.int .u64 (num : Int), .int .u64 (len : Int)] w (RHeadP num len w) := by
  have HN := Lib.hid hn
  have HL := Lib.hid hl
  have HN1 := Lib.hid (refnum_any 8 num (by omega) hn w)
  clear hn hl
  go_enter Try.func22, Try.ntmps22
  go_wp2_with fail
  refine (HN1.out).mono ?_
  rintro e w1 ⟨u1, rfl, ho1, hb1⟩
  have HL1 := Lib.hid (refnum_any 8 len (by omega) HL.out w1)
  have HO1 := Lib.hid ho1
  have HB1 := Lib.hid hb1
  clear ho1 hb1
  go_wp2_with fail
  refine (HL1.out).mono ?_
  rintro e w2 ⟨u2, rfl, ho2, hb2⟩
  have ho1 : OwnB w2 w.heap.size u1 (beL 8 num) := own_keep HO1.out (fun g cs e hg => (hb2.block g (lt_of_heap hg)).trans hg)
  have hB2 := HB1.out.trans (hb2.mono HB1.out.size)
  obtain ⟨u3, w3, hr3, ho3, hg3, hn3⟩ := own_cat ho1 (row_own (F := fun _ => True) ho2 (fun _ _ => trivial)) hB2.size (by rw [beL_len, beL_len]; omega) 40
  have hf3 : Below w.heap.size w w3 := hB2.trans (((Frq.refl (fun k => u1.ownBlock = some k) w2).grown hg3 (fun k e => .inl e)).below hB2.size (fun k e => (own_lt ho1 e).1))
  obtain ⟨g, n3, cap3, rfl⟩ : ∃ g n3 cap3, u3 = .slice (some ⟨g, 0, none⟩) n3 cap3 := by
    obtain ⟨p, c, rfl⟩ := own_slice ho3
    obtain ⟨g, hg, _⟩ := own_ptr ho3 (by rw [List.length_append, beL_len]; omega)
    exact ⟨g, _, c, by rw [hg]⟩
  have hn3' : n3 = (beL 8 num ++ beL 8 len).length := by obtain ⟨p, c, e⟩ := own_slice ho3; simp only [Value.slice.injEq] at e; exact e.2.1
  have h16 : n3 = 16 := by rw [hn3', List.length_append, beL_len, beL_len]
  obtain ⟨u4, w4, hr4, ho4, hg4⟩ := app_zeros ho3 hn3' 40 (by omega) (by omega) hf3.size 40
  have hf4 : Below w.heap.size w w4 := hf3.trans (((Frq.refl (fun k => some g = some k) w3).grown hg4 (fun k e => .inl e)).below hf3.size (fun k e => by
    obtain rfl := Option.some.inj e
    exact (own_lt ho3 rfl).1))
  obtain ⟨p1, c1, rfl⟩ := own_slice ho1
  obtain ⟨p2, c2, rfl⟩ := own_slice ho2
  obtain ⟨p4, c4, rfl⟩ := own_slice ho4
  have HO4 := Lib.hid ho4
  have HB4 := Lib.hid hf4
  have HN4 := Lib.hid (refnum_any 8 num (by omega) HN.out w4)
  subst h16
  rw [show (beL 8 num).length = 8 from beL_len _ _, show (beL 8 len).length = 8 from beL_len _ _] at hr3
  rw [show (beL 8 num ++ beL 8 len ++ List.replicate 40 (0 : UInt8)).length = 56 by simp [beL_len]] at hr4
  clear ho1 ho2 hb2 hB2 ho3 hg3 hn3 hf3 hn3' hg4 hf4 ho4 HN1 HL1 HO1 HB1
  simp only [beL_len]
  go_wp2_with (first | ((with_reducible refine wl_appX (.slice p1 8 c1) (.slice p2 8 c2) (.slice (some ⟨g, 0, none⟩) 16 cap3) ?_ ?_ hr3 ?_); (· rfl); (· rfl)) | ((with_reducible refine wl_appX (.slice (some ⟨g, 0, none⟩) 16 cap3) (.int .i64 40) (.slice p4 56 c4) ?_ ?_ hr4 ?_); (· rfl); (· rfl)))
  refine (HN4.out).mono ?_
  rintro e w5 ⟨u5, rfl, ho5, hb5⟩
  have ho4 : OwnB w5 w.heap.size (.slice p4 56 c4) (beL 8 num ++ beL 8 len ++ List.replicate 40 0) := by
    have h : OwnB w4 w.heap.size (.slice p4 56 c4) (beL 8 num ++ beL 8 len ++ List.replicate 40 0) := by
      have := HO4.out
      rw [show (beL 8 num ++ beL 8 len ++ List.replicate 40 (0 : UInt8)).length = 56 by simp [beL_len]] at this
      exact this
    exact own_keep h (fun g cs e hg => (hb5.block g (lt_of_heap hg)).trans hg)
  have hB5 := HB4.out.trans (hb5.mono HB4.out.size)
  obtain ⟨u6, w6, hr6, ho6, hg6, hn6⟩ := own_cat ho4 (row_own (F := fun _ => True) ho5 (fun _ _ => trivial)) hB5.size (by simp [beL_len]) 40
  have hf6 : Below w.heap.size w w6 := hB5.trans (((Frq.refl (fun k => (Value.slice p4 56 c4).ownBlock = some k) w5).grown hg6 (fun k e => .inl e)).below hB5.size (fun k e => (own_lt ho4 e).1))
  obtain ⟨p5, c5, rfl⟩ := own_slice ho5
  obtain ⟨p6, c6, rfl⟩ := own_slice ho6
  have HO6 := Lib.hid ho6
  have HB6 := Lib.hid hf6
  rw [beL_len] at hr6
  rw [show (beL 8 num ++ beL 8 len ++ List.replicate 40 (0 : UInt8) ++ beL 8 num).length = 64 by simp [beL_len]] at hr6
  clear ho4 hB5 ho5 hb5 hg6 hn6 hf6 ho6 HN4
  simp only [beL_len]
  go_wp2_with ((with_reducible refine wl_appX (.slice p4 56 c4) (.slice p5 8 c5) (.slice p6 64 c6) ?_ ?_ hr6 ?_); (· rfl); (· rfl))
  go_ret
  refine ⟨_, rfl, ?_, HB6.out⟩
  have h := HO6.out
  rw [show (beL 8 num ++ beL 8 len ++ List.replicate 40 (0 : UInt8) ++ beL 8 num).length = 64 by simp [beL_len]] at h
  unfold headB
  rw [List.append_assoc, List.append_assoc] at h
  exact h
end Go.Proofs.Ytabahkeologbmaa.Jn
