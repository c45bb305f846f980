/- Contract: Get. -/
import Derived.Test.YtjdfdihopgceoaaCdPu
namespace Go.Proofs.Ytjdfdihopgceoaa.Cd
open Go.RowKit Go.Shelf Go.Dk Go.Jn Go.Cod

abbrev nilV : Value := .slice none 0 0
def GetP (b : By) (w : World) (e : Ending) (w' : World) : Prop :=
  Below w.heap.size w w' ∧ match getL b with
    | none => e = .returned (.tuple #[.agg (recC zRc nilV nilV).toArray, .int .i64 140])
    | some r => ∃ lv tv, e = .returned (.tuple #[.agg (recC r lv tv).toArray, .int .i64 0]) ∧
      ((r.kind = 1 ∧ OwnL 36 3 w.heap.size w' lv r.cmd.legs.length (flt lgC r.cmd.legs) ∧ OwnL 58 2 w.heap.size w' tv r.cmd.taxes.length (flt txC r.cmd.taxes)) ∨ (r.kind ≠ 1 ∧ lv = nilV ∧ tv = nilV))
theorem okz_cmd : OkCmd false zCmd := ⟨by decide, by decide, by decide, by decide, by decide, by decide, by decide, ⟨by decide, .inr rfl⟩, ⟨by decide, .inr rfl, fun l h => by simp [zCmd] at h⟩, ⟨by decide, .inr rfl, fun l h => by simp [zCmd] at h⟩⟩
theorem okz_rc : OkRc false zRc := ⟨by decide, okz_cmd, by decide, by decide, rfl, fun j k v hk hv => by
  have : v = 0 := by
    have h : v ∈ zMsg := List.mem_of_getElem? hv
    simp [zMsg] at h; exact h
  subst this
  exact Nat.pow_pos (by decide)⟩
theorem rowf_nil (w : World) (F : Nat → Prop) : RowF w F nilV 0 [] := ⟨none, 0, rfl, Nat.le_refl _, fun h => absurd h (by omega)⟩
theorem zcells : (recC zRc nilV nilV).toArray = #[.int .u8 0, .int .u8 0, .int .u8 0, .int .u64 0, .int .u8 0, .string ⟨#[]⟩, .slice none 0 0, .int .i64 0, .slice none 0 0, .int .i64 0, .int .i64 0, .int .u8 0, .int .u64 0, .int .u8 0, .int .u8 0, .int .u64 0, .int .u8 0, .int .u8 0, .int .u16 0, .int .u32 0, .int .i64 0, .int .u8 0, .int .u32 0, .int .i64 0, .int .i64 0] := by
  have h : wrap64 ((0 : Nat) : Int) = 0 := wrap_nat 0 (by decide)
  simp only [recC, zRc, zCmd, zMsg, messageK, cellsK, cellK, h]
  rfl
theorem cellK_one (k : K) (v : Nat) : (cellK k v).oneCell' = true := by cases k <;> rfl
theorem cellsK_one : ∀ (fs : List K) (vs : List Nat), ∀ u ∈ cellsK fs vs, u.oneCell' = true
  | k :: fs, v :: vs, u, h => by
    simp only [cellsK, List.mem_cons] at h
    rcases h with rfl | h
    · exact cellK_one k v
    · exact cellsK_one fs vs u h
  | [], _, u, h => by simp [cellsK] at h
  | _ :: _, [], u, h => by simp [cellsK] at h
theorem recC_one (r : Rc) {lv tv : Value} (h1 : lv.oneCell' = true) (h2 : tv.oneCell' = true) : (recC r lv tv).toArray.all (·.oneCell') = true := by
  rw [Array.all_eq_true_iff_forall_mem]
  intro u hu
  simp only [recC, List.mem_toArray, List.mem_cons] at hu
  rcases hu with rfl | rfl | rfl | rfl | rfl | rfl | rfl | rfl | rfl | rfl | rfl | rfl | rfl | h
  all_goals first | rfl | assumption | exact cellsK_one _ _ u h
theorem OwnL.one {t : TypeId} {k lo n : Nat} {w : World} {v : Value} {xs : List Value} (h : OwnL t k lo w v n xs) : v.oneCell' = true := by
  rcases h with ⟨_, rfl⟩ | ⟨g, cap, arr, rfl, _⟩ <;> rfl
theorem results_rec {fn : Func} {p u : Tmp} {ty : TypeId} (h : fn.results = #[.cell p ty, .tmp u]) (tmps : Array Value) (w : World) (g : Nat) (t : TypeId) (cs : Array Value) (fr : Nat × Nat) (fs : Array Field)
    (hp : tmps.getD p undef = .pointer (some ⟨g, 0, none⟩)) (hg : w.heap[g]? = some (.cells cs t fr))
    (hu : Try.prog.underlying ty = some (.struct fs)) (hi : (Try.prog.info? ty).map (·.size) = some cs.size) :
    (results fn tmps).run Try.prog w = .ok (.tuple #[.agg cs, tmps.getD u undef]) w := by
  rw [results_cell_tmp h, hp]
  simp only [asAddr, Sem.run_pure, Result.andThen_ok, run_loadVar_row w g t ty cs fr _ hg hu rfl hi]
theorem rcM_len (m : Bool) (s : St) (r : Rc) (h : r.msg.length = 12) : (rcM m s r).2.msg.length = 12 := by
  unfold rcM
  simp only
  split
  · exact h
  · split
    · exact (nusM_vld m _ _ _ h).1
    · split <;> exact h
set_option maxRecDepth 100000 in
set_option maxHeartbeats 3200000 in
theorem get_any (b : By) (p : Option Addr) (cap : Nat) (w : World) (hl : b.length ≤ 100000) (hb : BysF w (· < w.heap.size) (.slice p b.length cap) b) : Calls Try.prog 16 #[.slice p b.length cap] w (GetP b w) := by
  obtain ⟨Z, hZ⟩ : ∃ Z, (recC zRc nilV nilV).toArray = Z := ⟨_, rfl⟩
  have hz := hZ.symm.trans zcells
  obtain ⟨wa, hwa⟩ : ∃ wa, w.alloc (.cells Z 44) = wa := ⟨_, rfl⟩
  obtain ⟨wb, hwb⟩ : ∃ wb, wa.alloc (.cells Z 44) = wb := ⟨_, rfl⟩
  obtain ⟨w1, hw1⟩ : ∃ w1, wb.alloc (.cells #[.slice p b.length cap] 62) = w1 := ⟨_, rfl⟩
  have sa : wa.heap.size = w.heap.size + 1 := by rw [← hwa]; simp
  have sb : wb.heap.size = w.heap.size + 1 + 1 := by rw [← hwb]; simp [sa]
  have s1 : w1.heap.size = w.heap.size + 1 + 1 + 1 := by rw [← hw1]; simp [sb]
  have ba : Below w.heap.size w wa := by rw [← hwa]; exact (Below.refl _ _).alloc (Nat.le_refl _) _
  have bb : Below w.heap.size w wb := by rw [← hwb]; exact ba.alloc (by omega) _
  have b1 : Below w.heap.size w w1 := by rw [← hw1]; exact bb.alloc (by omega) _
  have ca : w1.heap[w.heap.size]? = some (.cells Z 44 (0, 0)) := by
    rw [← hw1, heap_prev _ _ _ (by omega), ← hwb, heap_prev _ _ _ (by omega), ← hwa]; exact heap_last _ _ _ rfl
  have cb : w1.heap[w.heap.size + 1]? = some (.cells Z 44 (0, 0)) := by
    rw [← hw1, heap_prev _ _ _ (by omega), ← hwb]; exact heap_last _ _ _ sa.symm
  have cc : w1.heap[w.heap.size + 1 + 1]? = some (.cells #[.slice p b.length cap] 62 (0, 0)) := by
    rw [← hw1]; exact heap_last _ _ _ sb.symm
  have hrow : RowM false w.heap.size (w.heap.size + 1 + 1) NoX b w1 := ⟨p, cap, cc, hb.kept (fun k hk => ⟨hk, b1.block k hk⟩)⟩
  have HW := Lib.hid (walkOver_any (m := false) (B := w.heap.size) (rb := w.heap.size + 1 + 1) (qb := w.heap.size + 1) (n := b.length) (L := b) (r := zRc) (lp := none) (tp := none) (lc := 0) (tc := 0) (w := w1) hrow (by rw [← hZ] at cb; exact cb)
    (rowf_nil _ _) (rowf_nil _ _) okz_rc (Nat.le_refl _) (by omega) (by omega) (by omega) (by omega))
  have hzs : (Try.prog.info? 44).map (·.size) = some Z.size := by rw [← hZ]; exact sizeRec rfl
  have hbuild : ∀ w : World, (Instr.build 44 #[]).run Try.prog w = .ok (.agg Z) w := fun w => by rw [hz]; kernel_rfl
  have hone : Z.all (·.oneCell') = true := by rw [← hZ]; exact recC_one _ rfl rfl
  have HZ1 := Lib.hid (And.intro hZ (And.intro hzs hone))
  have HB1 := Lib.hid b1
  have HCA := Lib.hid ca
  have HS1 := Lib.hid s1
  clear cc cb ca b1 bb ba s1 hrow hb hZ hzs hone
  go_enter Try.func16, Try.ntmps16
  go_wp2_with fail
  rw [← hz, hwa, hwb, hw1]
  have HZL := Lib.hid hz
  clear hz hwa hwb hw1 sa sb
  refine (HW.out).mono ?_
  rintro e w2 ⟨rfl, hr2, hln2, hf2, lv, tv, hq2, hown⟩
  have hg2 : w2.heap[w.heap.size]? = some (.cells Z 44 (0, 0)) := hf2.keep _ _ _ _ HCA.out (by decide) (by omega)
  have hbel : Below w.heap.size w w2 := HB1.out.trans (hf2.below HB1.out.size)
  obtain ⟨p4, cap4, hrc, _⟩ := hr2
  have q0 := cell_of_arr hrc 0
  simp only [List.getElem?_toArray, List.getElem?_cons_zero] at q0
  obtain ⟨L', hL'⟩ : ∃ L', (rcM false ⟨true, b⟩ zRc).1.L = L' := ⟨_, rfl⟩
  obtain ⟨ok', hok'⟩ : ∃ ok', (rcM false ⟨true, b⟩ zRc).1.ok = ok' := ⟨_, rfl⟩
  rw [hL'] at q0 hln2
  rw [hok']
  have l0 : (0 : Int) ≤ (L'.length : Int) := Int.natCast_nonneg _
  have l1 : (L'.length : Int) ≤ 101000 := by omega
  have hrs : (Try.prog.info? 44).map (·.size) = some (recC (rcM false ⟨true, b⟩ zRc).2 lv tv).toArray.size := sizeRec (rcM_len _ _ _ rfl)
  have hbad : (ok' && decide (L'.length = 0)) = false → ∀ w3, w3 = w2.setRow w.heap.size Z → GetP b w (.returned (.tuple #[.agg Z, .int .i64 140])) w3 := fun hx w3 hw3 => by
    subst hw3
    refine ⟨below_setRow hbel (Nat.le_refl _) _, ?_⟩
    have : getL b = none := by unfold getL; rw [hL', hok', hx]; rfl
    rw [this, HZ1.out.1]
  have hst : ∀ cs : Array Value, (w2.setRow w.heap.size cs).heap[w.heap.size]? = some (.cells cs 44 (0, 0)) := fun cs => setRow_heap w2 w.heap.size _ _ _ _ hg2
  have hgood : (ok' && decide (L'.length = 0)) = true → ∀ w3, w3 = w2.setRow w.heap.size (recC (rcM false ⟨true, b⟩ zRc).2 lv tv).toArray → GetP b w (.returned (.tuple #[.agg (recC (rcM false ⟨true, b⟩ zRc).2 lv tv).toArray, .int .i64 0])) w3 := fun hx w3 hw3 => by
    subst hw3
    refine ⟨below_setRow hbel (Nat.le_refl _) _, ?_⟩
    have : getL b = some (rcM false ⟨true, b⟩ zRc).2 := by unfold getL; rw [hL', hok', hx]; rfl
    rw [this]
    refine ⟨lv, tv, rfl, ?_⟩
    have hs1 := HS1.out
    have hk : ∀ (t : TypeId) (k n : Nat) (v : Value) (xs : List Value), OwnL t k w1.heap.size w2 v n xs → OwnL t k w.heap.size (w2.setRow w.heap.size (recC (rcM false ⟨true, b⟩ zRc).2 lv tv).toArray) v n xs := fun t k n v xs h => by
      rcases h with h | ⟨g, cap, arr, h1, h2, h3, h4, h5⟩
      · exact .inl h
      · exact .inr ⟨g, cap, arr, h1, by omega, h3, (setRow_other w2 w.heap.size g _ (by omega)).trans h4, h5⟩
    rcases hown with ⟨h1, h2, h3⟩ | ⟨h1, h2, h3⟩
    · exact .inl ⟨h1, hk _ _ _ _ _ h2, hk _ _ _ _ _ h3⟩
    · exact .inr ⟨h1, h2, h3⟩
  have hrone : (recC (rcM false ⟨true, b⟩ zRc).2 lv tv).toArray.all (·.oneCell') = true := by
    rcases hown with ⟨_, h2, h3⟩ | ⟨_, rfl, rfl⟩
    · exact recC_one _ h2.one h3.one
    · exact recC_one _ rfl rfl
  have HBAD := Lib.hid hbad
  have HST := Lib.hid hst
  have HGOOD := Lib.hid hgood
  have HG2 := Lib.hid hg2
  have HQ2 := Lib.hid (show ∀ cs, (w2.setRow w.heap.size cs).heap[w.heap.size]? = _ from hst)
  obtain ⟨R, hR⟩ : ∃ R, (recC (rcM false ⟨true, b⟩ zRc).2 lv tv).toArray = R := ⟨_, rfl⟩
  rw [hR] at HGOOD hrs hrone hq2
  have HRS := Lib.hid hrs
  have HRO := Lib.hid hrone
  have HQ := Lib.hid hq2
  have HZSR := Lib.hid (show Z.size = R.size by
    have h1 := HZ1.out.2.1
    rw [hrs] at h1
    exact (Option.some.inj h1).symm)
  clear hbad hst hgood hown hrc hq2 hf2 hbel hg2 HW HQ2 hR hrs hrone hln2 hL' hok' hbuild
  have hzl := HZL.out
  clear HZL
  subst hzl
  cases ok'
  · go_wp2_with (refine wpList_store_row rfl 44 _ _ rfl w.heap.size _ rfl rfl 44 _ HG2.out HZ1.out.2.1 rfl HZ1.out.2.2 ?_)
    refine bodyPost_ret (results_rec rfl _ _ w.heap.size 44 _ (0, 0) _ rfl (HST.out _) Try.underlying44 HZ1.out.2.1) rfl ?_
    exact HBAD.out rfl _ rfl
  · by_cases hl0 : (L'.length : Int) = 0
    · have hd : decide (L'.length = 0) = true := decide_eq_true (by omega)
      go_wp2_with (first | (refine wpList_store_row rfl 44 _ _ rfl w.heap.size R rfl rfl 44 _ HG2.out HRS.out HZSR.out HRO.out ?_) | (refine wpList_load_row rfl 44 _ rfl (w.heap.size + 1) rfl 44 R (0, 0) _ HQ.out Try.underlying44 rfl HRS.out ?_))
      refine bodyPost_ret (results_rec rfl _ _ w.heap.size 44 R (0, 0) _ rfl (HST.out R) Try.underlying44 HRS.out) rfl ?_
      exact HGOOD.out (by rw [hd]; rfl) _ rfl
    · have hd : decide (L'.length = 0) = false := decide_eq_false (by omega)
      have hl1 : (0 : Int) < (L'.length : Int) := by omega
      go_wp2_with (refine wpList_store_row rfl 44 _ _ rfl w.heap.size _ rfl rfl 44 _ HG2.out HZ1.out.2.1 rfl HZ1.out.2.2 ?_)
      refine bodyPost_ret (results_rec rfl _ _ w.heap.size 44 _ (0, 0) _ rfl (HST.out _) Try.underlying44 HZ1.out.2.1) rfl ?_
      exact HBAD.out (by rw [hd]; rfl) _ rfl
end Go.Proofs.Ytjdfdihopgceoaa.Cd
