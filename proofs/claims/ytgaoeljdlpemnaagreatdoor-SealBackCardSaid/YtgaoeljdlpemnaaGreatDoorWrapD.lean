/- told: a segment of numbers, each an element of one component. -/
import Derived.Test.YtgaoeljdlpemnaaGreatDoorEdiR6
import Derived.Laws.IdiomStrings
import Derived.Test.YtgaoeljdlpemnaaGreatDoorEdiR3
import Derived.Test.YtgaoeljdlpemnaaGreatDoorEdiW2
import Derived.Test.YtgaoeljdlpemnaaGreatDoorEdiOw
import Derived.Deep.DeepCutAuto
/- Contract of edi.Parse: what the plain reader answers, in memory of its own. -/
namespace Go.Proofs.YtgaoeljdlpemnaaGreatDoor
open Go.RowKit Go.Edi

theorem tx_size (t : Tx) : (tx t).size = t.length := by simp [tx, ByteArray.size]
theorem Bd.of_good {s : RS} (h : good s) : Bd s := by
  obtain ⟨_, h2, h3⟩ := h
  cases hmd : s.md <;> rw [hmd] at h3
  · rw [h3]; simp [Bd, rest]; omega
  · obtain ⟨_, _, e1, e2, e3, _, _⟩ := h3; simp [Bd, e1, e2]; omega
  · obtain ⟨_, _, e1, e2, e3, _⟩ := h3; simp [Bd, e1, e2, e3]; omega
  · have := h3.wdl; have := h3.ell; have := h3.elsl; simp [Bd]; omega
  · have := h3.wdl; have := h3.ell; have := h3.elsl; simp [Bd]; omega
set_option maxRecDepth 100000 in
set_option maxHeartbeats 800000 in
theorem newReader_v (w : World) : Calls Tryz.prog 57 #[] w fun e w' => e = .returned (.pointer (some ⟨w.heap.size, 0, none⟩)) ∧ RdAt w.heap.size w.heap.size s0 w' ∧ Below w.heap.size w w' := by
  have hmf : ∀ (fn : Fn) (first cap : Array Value) (w : World), (Instr.makeFunc fn first cap).run Tryz.prog w = .ok (.func fn first cap) w := fun _ _ _ _ => rfl
  go_enter Tryz.func57, Tryz.ntmps57
  go_wp2
  go_ret
  refine ⟨rfl, ⟨fun _ => False, nx w.heap.size .out, .slice none 0 0, .slice none 0 0, .slice none 0 0, .slice none 0 0, ?_⟩, (Below.refl _ _).alloc (Nat.le_refl _) _⟩
  exact ⟨Nat.le_refl _, at_last _ _, rfl, ⟨[], World.ownsRow_nil _ _ _ _, True.intro⟩, ⟨[], World.ownsRow_nil _ _ _ _, True.intro⟩, World.ownsRow_nil _ _ _ _, World.ownsRow_nil _ _ _ _, ⟨fun _ => (0, 0), [], [], World.ownsRow_nil _ _ _ _, ⟨rfl, fun k hk => by simp [s0] at hk⟩, World.ownsRow_nil _ _ _ _, rfl, fun k hk => by simp [s0] at hk⟩, fun b hb => hb.elim⟩
/-- segments in memory of one's own, each row in a block of its own -/
def SegsO (w : World) (B : Nat) (F : Nat → Prop) (v : Value) (sl : List Sg) : Prop := ∃ φ xs, w.ownsRow B 112 2 v sl.length xs ∧ (∀ b, v.ownBlock = some b → F b) ∧ SO w B F φ sl xs
theorem segso_nil (w : World) (B : Nat) (F : Nat → Prop) : SegsO w B F (.slice none 0 0) [] := ⟨fun _ => (0, 0), [], World.ownsRow_nil _ _ _ _, fun b hb => by simp [Value.ownBlock] at hb, rfl, fun k hk => by simp at hk⟩
/-- what Parse answers -/
def PaAt (B : Nat) (t : Tx) (e : Ending) (w w' : World) : Prop :=
  (∃ v F, e = .returned (.tuple #[v, .int .i64 ((parseL t).2.1 : Nat), .int .i64 ((parseL t).2.2 : Nat)]) ∧ SegsF w' F v (parseL t).1 ∧ ∀ b, F b → B ≤ b ∧ b < w'.heap.size) ∧ Below B w w'
/-- what Parse answers, and that it is one's own -/
def PaO (B : Nat) (t : Tx) (e : Ending) (w w' : World) : Prop :=
  (∃ v F, e = .returned (.tuple #[v, .int .i64 ((parseL t).2.1 : Nat), .int .i64 ((parseL t).2.2 : Nat)]) ∧ SegsF w' F v (parseL t).1 ∧ SegsO w' B F v (parseL t).1 ∧ ∀ b, F b → B ≤ b ∧ b < w'.heap.size) ∧ Below B w w'
theorem PaO.weak {B : Nat} {t : Tx} {e : Ending} {w w' : World} (h : PaO B t e w w') : PaAt B t e w w' := by
  obtain ⟨⟨v, F, h1, h2, _, h3⟩, h4⟩ := h
  exact ⟨⟨v, F, h1, h2, h3⟩, h4⟩
theorem segs_nil (w : World) (F : Nat → Prop) : SegsF w F (.slice none 0 0) [] := ⟨[], ⟨none, 0, rfl, Nat.le_refl _, fun h => absurd h (by simp)⟩, True.intro⟩
theorem drop_at (t : Tx) (k : Nat) (h : k < t.length) : t.drop k = t[k] :: t.drop (k + 1) := List.drop_eq_getElem_cons h
theorem runL_cons_ok {s : RS} {k : Nat} {c : UInt8} {r : Tx} (h : (Go.Edi.step s c).1 = 0) : runL s k (c :: r) = runL (Go.Edi.step s c).2 (k + 1) r := by
  show (if _ then _ else _) = _
  rw [if_pos h]
theorem runL_cons_bad {s : RS} {k : Nat} {c : UInt8} {r : Tx} (h : ¬ (Go.Edi.step s c).1 = 0) : runL s k (c :: r) = (k, Go.Edi.step s c) := by
  show (if _ then _ else _) = _
  rw [if_neg h]
/-- where the reader stands behind k bytes -/
def PaR (B : Nat) (t : Tx) (w : World) (k : Nat) (wr : World) : Prop := ∃ s, runL s0 0 t = runL s k (t.drop k) ∧ good s ∧ RdAt B B s wr ∧ Below B w wr
set_option maxRecDepth 100000 in
set_option maxHeartbeats 3200000 in
theorem parse_own (t : Tx) (w : World) : Calls Tryz.prog 38 #[str t] w fun e w' => PaO w.heap.size t e w w' := by
  have hsz := tx_size t
  by_cases hl : (65536 : Int) < (t.length : Int)
  · have HP := Lib.hid (show parseL t = ([], 0, 2) by unfold parseL; rw [if_pos (by omega)])
    go_enter Tryz.func38, Tryz.ntmps38
    go_wp2
    go_ret3
    unfold PaO
    rw [HP.out]
    exact ⟨⟨_, fun _ => False, rfl, segs_nil _ _, segso_nil _ _ _, fun b hb => hb.elim⟩, Below.refl _ _⟩
  · go_enter Tryz.func38, Tryz.ntmps38
    go_wp2_with (go_at_call 57; refine (newReader_v _).mono ?_)
    first | rintro e w1 rfl hr hb | rintro e w1 ⟨rfl, hr, hb⟩
    have HST := Lib.hid (show PaR w.heap.size t w 0 w1 from ⟨s0, rfl, good_s0, hr, hb⟩)
    have HW := Lib.hid hb
    clear hr hb
    go_wp2
    go_loopw [14] (fun i wr => ∃ k : Nat, i = .int .i64 k ∧ k ≤ t.length ∧ PaR w.heap.size t w k wr) (fun i _ => t.length - (intOf i).toNat)
    case atStart => exact ⟨0, rfl, Nat.zero_le _, HST.out⟩
    case round =>
      obtain ⟨k, rfl, hk, s, hrun, hgood, ⟨F, vn, vs, ve, vl, vw, hR⟩, hb⟩ := hrel
      by_cases hlt : (k : Int) < (t.length : Int)
      · obtain ⟨f, hvn, hf, hd⟩ := next_v t[k] _ hR.drew (show w.heap.size ≤ wr.heap.size from hb.size) (Bd.of_good hgood)
        have hrun2 : (Go.Edi.step s t[k]).1 = 0 → runL s0 0 t = runL (Go.Edi.step s t[k]).2 (k + 1) (t.drop (k + 1)) := fun e => by
          rw [hrun, drop_at t k (by omega), runL_cons_ok e]
        have hrun3 : ¬ (Go.Edi.step s t[k]).1 = 0 → parseL t = ([], k, (Go.Edi.step s t[k]).1) := fun e => by
          have : runL s0 0 t = (k, Go.Edi.step s t[k]) := by rw [hrun, drop_at t k (by omega), runL_cons_bad e]
          unfold parseL
          rw [if_neg (by omega), this, if_neg e]
        have hgood2 : (Go.Edi.step s t[k]).1 = 0 → good (Go.Edi.step s t[k]).2 := fun e => (step_inv hgood (show Go.Edi.step s t[k] = (0, (Go.Edi.step s t[k]).2) by rw [← e])).1
        generalize Go.Edi.step s t[k] = r at *
        obtain ⟨code, s'⟩ := r
        have c0 : wr.cell? ⟨w.heap.size, 0, none⟩ = some vn := (hR.cell 0).trans rfl
        subst hvn
        have HD := Lib.hid hd
        have HR2 := Lib.hid hrun2
        have HR3 := Lib.hid hrun3
        have HG2 := Lib.hid hgood2
        have HB := Lib.hid (show Below w.heap.size w wr.drew from hb.drew)
        have hk0 : (0 : Int) ≤ (k : Int) := Int.natCast_nonneg _
        clear hd hrun2 hrun3 hgood2 hb hR hgood hrun
        have hen : ∀ args w, (callFunc f args).run Tryz.prog w = .ok (.enter f args) w := by
          rcases hf with rfl | rfl | rfl | rfl | rfl
          · exact enters_of Tryz.func82 (by kernel_rfl) rfl
          · exact enters_of Tryz.func104 (by kernel_rfl) rfl
          · exact enters_of Tryz.func132 (by kernel_rfl) rfl
          · exact enters_of Tryz.func161 (by kernel_rfl) rfl
          · exact enters_of Tryz.func171 (by kernel_rfl) rfl
        clear hf
        by_cases h0 : (code : Int) = 0
        · go_wp2
          go_region_law
            (go_simp
             refine (HD.out).mono ?_
             first | rintro e w2 rfl hr hb2 | rintro e w2 ⟨rfl, hr, hb2⟩
             have H2 := Lib.hid hr
             have HB2 := Lib.hid hb2
             clear hr hb2)
          all_goals
            go_wp2
            go_roundw
            case rel =>
              exact ⟨k + 1, by go_num, by omega, s', HR2.out (by omega), HG2.out (by omega), H2.out, HB.out.trans HB2.out⟩
            case measure => simp [intOf]; omega
        · go_wp2
          go_region_law
            (go_simp
             refine (HD.out).mono ?_
             first | rintro e w2 rfl hr hb2 | rintro e w2 ⟨rfl, hr, hb2⟩
             have H2 := Lib.hid hr
             have HB2 := Lib.hid hb2
             clear hr hb2)
          all_goals
            go_wp2
            go_ret3
            unfold PaO
            rw [HR3.out (by omega)]
            exact ⟨⟨_, fun _ => False, rfl, segs_nil _ _, segso_nil _ _ _, fun b hb => hb.elim⟩, HB.out.trans HB2.out⟩
      · obtain rfl : k = t.length := by omega
        have hend : runL s0 0 t = (t.length, 0, s) := by rw [hrun, List.drop_length]; rfl
        have HB := Lib.hid hb
        have c6 : wr.cell? ⟨w.heap.size, 6, none⟩ = some (.bool s.wi) := (hR.cell 6).trans rfl
        have c1 : wr.cell? ⟨w.heap.size, 1, none⟩ = some vs := (hR.cell 1).trans rfl
        obtain ⟨xs, hvs, hxs⟩ := hR.segs
        obtain ⟨ps, caps, rfl⟩ := own_slice hvs
        have HR := Lib.hid hR
        have HVS := Lib.hid hvs
        have HXS := Lib.hid hxs
        clear hb hR hgood hrun hvs hxs
        by_cases hw : s.wi = true
        · have HP := Lib.hid (show parseL t = ([], t.length, 31) by unfold parseL; rw [if_neg (by omega), hend, if_pos rfl, if_pos hw])
          rw [hw] at c6
          clear hend
          go_wp2
          go_ret3
          unfold PaO
          rw [HP.out]
          exact ⟨⟨_, fun _ => False, rfl, segs_nil _ _, segso_nil _ _ _, fun b hb => hb.elim⟩, HB.out⟩
        · have HP := Lib.hid (show parseL t = (s.segs, 0, 0) by unfold parseL; rw [if_neg (by omega), hend, if_pos rfl, if_neg hw])
          rw [show s.wi = false by simpa using hw] at c6
          clear hend
          go_wp2
          go_ret3
          unfold PaO
          rw [HP.out]
          refine ⟨⟨_, fun b => F b ∨ (Value.slice ps s.segs.length caps).ownBlock = some b, rfl, ⟨xs, row_own HVS.out (fun b e => Or.inr e), HXS.out.kept (fun b hb => ⟨Or.inl hb, rfl⟩)⟩, ?_, fun b hb => ?_⟩, HB.out⟩
          · obtain ⟨φ, xs', ys', o1, o2, o3, o4⟩ := HR.out.ow
            exact ⟨φ, xs', o1, fun b hb => Or.inr hb, o2.kept (fun b hb => ⟨Or.inl hb, rfl⟩) (fun _ _ => rfl)⟩
          · rcases hb with hb | hb
            · exact ⟨(HR.out.fz b hb).1, (HR.out.fz b hb).2.1⟩
            · exact HVS.out.lt b hb
theorem parse_any (t : Tx) (w : World) : Calls Tryz.prog 38 #[str t] w fun e w' => PaAt w.heap.size t e w w' := (parse_own t w).mono fun _ _ h => h.weak
end Go.Proofs.YtgaoeljdlpemnaaGreatDoor
/- What must be of segments, asked one behind the other: opened's contract. -/
namespace Go.Proofs.YtgaoeljdlpemnaaGreatDoor
open Go.RowKit Go.Edi Go.Wrap

theorem sizeWrap : (Tryz.prog.info? 74).map (·.size) = some 4 := by kernel_rfl
theorem results_cell_tmp_row {P : Program} {fn : Func} {p u : Tmp} {ty : TypeId} (h : fn.results = #[.cell p ty, .tmp u]) (tmps : Array Value) (w : World) (g : Nat) (t : TypeId) (cs : Array Value) (fr : Nat × Nat) (d : TypeDesc)
    (hp : tmps.getD p undef = .pointer (some ⟨g, 0, none⟩)) (hg : w.heap[g]? = some (.cells cs t fr))
    (hu : P.underlying ty = some d) (hd : (match d with | .struct _ | .array _ _ => true | _ => false) = true) (hi : (P.info? ty).map (·.size) = some cs.size) :
    (results fn tmps).run P w = .ok (.tuple #[.agg cs, tmps.getD u undef]) w := by
  rw [results_cell_tmp h, hp]
  simp only [asAddr, Sem.run_pure, Result.andThen_ok, run_loadVar_row w g t ty cs fr d hg hu hd hi]
theorem set4 {W : World} {g : Nat} {x y z u : Value} {ty : TypeId} (h : W.heap[g]? = some (.cells #[x, y, z, u] ty (0, 0))) (a b c d : Value) :
    (((((W.setCell ⟨g, 0, none⟩ a).setCell ⟨g, 1, none⟩ b).setCell ⟨g, 2, none⟩ c).setCell ⟨g, 3, none⟩ d).drew).heap[g]? = some (.cells #[a, b, c, d] ty (0, 0)) := by
  have h1 : (W.setCell ⟨g, 0, none⟩ a).heap[g]? = some (.cells #[a, y, z, u] ty (0, 0)) := set_arr h 0 a
  have h2 : ((W.setCell ⟨g, 0, none⟩ a).setCell ⟨g, 1, none⟩ b).heap[g]? = some (.cells #[a, b, z, u] ty (0, 0)) := set_arr h1 1 b
  have h3 : (((W.setCell ⟨g, 0, none⟩ a).setCell ⟨g, 1, none⟩ b).setCell ⟨g, 2, none⟩ c).heap[g]? = some (.cells #[a, b, c, u] ty (0, 0)) := set_arr h2 2 c
  exact set_arr h3 3 d
theorem set4n {W : World} {g : Nat} {x y z u : Value} {ty : TypeId} (h : W.heap[g]? = some (.cells #[x, y, z, u] ty (0, 0))) (a b c d : Value) :
    ((((W.setCell ⟨g, 0, none⟩ a).setCell ⟨g, 1, none⟩ b).setCell ⟨g, 2, none⟩ c).setCell ⟨g, 3, none⟩ d).heap[g]? = some (.cells #[a, b, c, d] ty (0, 0)) := set4 h a b c d
theorem set_other {W : World} {g h : Nat} {i : Nat} {v : Value} {o : Obj} (hg : W.heap[g]? = some o) (hne : g ≠ h) : (W.setCell ⟨h, i, none⟩ v).heap[g]? = some o := (Below.heap_setCell W ⟨h, i, none⟩ v g hne).trans hg
def rulesV (B : Nat) : Array Value := #[.func (.func 58) #[] #[.pointer (some ⟨B, 0, none⟩)], .int .i64 40,
  .func (.func 59) #[] #[.pointer (some ⟨B, 0, none⟩), .pointer (some ⟨B + 1 + 1, 0, none⟩)], .int .i64 40,
  .func (.func 63) #[] #[.pointer (some ⟨B, 0, none⟩), .pointer (some ⟨B + 1 + 1 + 1 + 1 + 1, 0, none⟩), .pointer (some ⟨B + 1 + 1 + 1, 0, none⟩), .pointer (some ⟨B + 1 + 1 + 1 + 1, 0, none⟩)], .int .i64 40,
  .func (.func 64) #[] #[.pointer (some ⟨B + 1 + 1 + 1, 0, none⟩), .pointer (some ⟨B, 0, none⟩)], .int .i64 41,
  .func (.func 65) #[] #[.pointer (some ⟨B + 1 + 1 + 1 + 1, 0, none⟩), .pointer (some ⟨B + 1 + 1, 0, none⟩)], .int .i64 42]
abbrev wrV (f t r : Nat) (v : Value) : Array Value := #[.int .u8 (f : Int), .int .u8 (t : Int), .int .u64 (r : Int), v]
structure OpM (B : Nat) (l : List Sg) (p : Option Addr) (cap f t r c a : Nat) (wr : World) : Prop where
  big : B + 7 ≤ wr.heap.size
  c0 : wr.heap[B]? = some (.cells #[.slice p l.length cap] 72 (0, 0))
  r1 : wr.heap[B + 1]? = some (.cells (wrV 0 0 0 (.slice none 0 0)) 74 (0, 0))
  g2 : wr.heap[B + 1 + 1]? = some (.cells (wrV f t r (.slice none 0 0)) 74 (0, 0))
  c3 : wr.heap[B + 1 + 1 + 1]? = some (.cells #[.int .u64 (c : Int)] 22 (0, 0))
  d4 : wr.heap[B + 1 + 1 + 1 + 1]? = some (.cells #[.int .u64 (a : Int)] 22 (0, 0))
  n5 : wr.heap[B + 1 + 1 + 1 + 1 + 1]? = some (.cells #[.int .i64 ((l.length : Int) - 1)] 3 (0, 0))
  q6 : wr.heap[B + 1 + 1 + 1 + 1 + 1 + 1]? = some (.cells (rulesV B) 133 (0, 0))
theorem OpM.keep {B : Nat} {l : List Sg} {p : Option Addr} {cap f t r c a : Nat} {w w' : World} (h : OpM B l p cap f t r c a w) (hs : w.heap.size ≤ w'.heap.size) (hk : ∀ b, b < B + 7 → w'.heap[b]? = w.heap[b]?) : OpM B l p cap f t r c a w' :=
  ⟨Nat.le_trans h.big hs, (hk _ (by omega)).trans h.c0, (hk _ (by omega)).trans h.r1, (hk _ (by omega)).trans h.g2, (hk _ (by omega)).trans h.c3, (hk _ (by omega)).trans h.d4, (hk _ (by omega)).trans h.n5, (hk _ (by omega)).trans h.q6⟩
theorem OpM.alloc {B : Nat} {l : List Sg} {p : Option Addr} {cap f t r c a : Nat} {w : World} (h : OpM B l p cap f t r c a w) (o : Obj) : OpM B l p cap f t r c a (w.alloc o) :=
  h.keep (by simp) (fun b hb => Below.heap_alloc _ _ _ (Nat.lt_of_lt_of_le hb h.big))
theorem OpM.head {B : Nat} {l : List Sg} {p : Option Addr} {cap f t r c a f' t' r' : Nat} {w w' : World} (h : OpM B l p cap f t r c a w) (hf : Frq (· = B + 1 + 1) w w') (hg : w'.heap[B + 1 + 1]? = some (.cells (wrV f' t' r' (.slice none 0 0)) 74 (0, 0))) : OpM B l p cap f' t' r' c a w' := by
  have hk : ∀ b, b < B + 7 → b ≠ B + 1 + 1 → w'.heap[b]? = w.heap[b]? := fun b hb hn => hf.block b (Nat.lt_of_lt_of_le hb h.big) hn
  exact ⟨Nat.le_trans h.big hf.size, (hk _ (by omega) (by omega)).trans h.c0, (hk _ (by omega) (by omega)).trans h.r1, hg, (hk _ (by omega) (by omega)).trans h.c3, (hk _ (by omega) (by omega)).trans h.d4, (hk _ (by omega) (by omega)).trans h.n5, (hk _ (by omega) (by omega)).trans h.q6⟩
theorem OpM.tail {B : Nat} {l : List Sg} {p : Option Addr} {cap f t r c a c' a' : Nat} {w w' : World} (h : OpM B l p cap f t r c a w) (hf : Frq (fun k => k = B + 1 + 1 + 1 ∨ k = B + 1 + 1 + 1 + 1) w w') (hc : w'.heap[B + 1 + 1 + 1]? = some (.cells #[.int .u64 (c' : Int)] 22 (0, 0))) (hd : w'.heap[B + 1 + 1 + 1 + 1]? = some (.cells #[.int .u64 (a' : Int)] 22 (0, 0))) : OpM B l p cap f t r c' a' w' := by
  have hk : ∀ b, b < B + 7 → b ≠ B + 1 + 1 + 1 → b ≠ B + 1 + 1 + 1 + 1 → w'.heap[b]? = w.heap[b]? := fun b hb hn hn2 => hf.block b (Nat.lt_of_lt_of_le hb h.big) (fun e => e.elim hn hn2)
  exact ⟨Nat.le_trans h.big hf.size, (hk _ (by omega) (by omega) (by omega)).trans h.c0, (hk _ (by omega) (by omega) (by omega)).trans h.r1, (hk _ (by omega) (by omega) (by omega)).trans h.g2, hc, hd, (hk _ (by omega) (by omega) (by omega)).trans h.n5, (hk _ (by omega) (by omega) (by omega)).trans h.q6⟩
theorem heap_new (w : World) (o : Obj) (n : Nat) (h : n = w.heap.size) : (w.alloc o).heap[n]? = some o := by subst h; exact at_last w o
theorem heap_past (w : World) (o : Obj) (n : Nat) {x : Obj} (h : n < w.heap.size) (hx : w.heap[n]? = some x) : (w.alloc o).heap[n]? = some x := (Below.heap_alloc w o n h).trans hx
theorem size_a (w : World) (o : Obj) : (w.alloc o).heap.size = w.heap.size + 1 := by simp
theorem start_below (w : World) (a b c d e f g : Obj) : Below w.heap.size w (((((((w.alloc a).alloc b).alloc c).alloc d).alloc e).alloc f).alloc g) := by
  refine (((((((Below.refl _ _).alloc ?_ _).alloc ?_ _).alloc ?_ _).alloc ?_ _).alloc ?_ _).alloc ?_ _).alloc ?_ _ <;> (try simp only [size_a]) <;> omega
theorem start_mem (w : World) (a b c d e f g : Obj) (l : List Sg) (p : Option Addr) (cap : Nat)
    (ha : a = .cells #[.slice p l.length cap] 72) (hb : b = .cells (wrV 0 0 0 (.slice none 0 0)) 74) (hc : c = .cells (wrV 0 0 0 (.slice none 0 0)) 74) (hd : d = .cells #[.int .u64 0] 22)
    (he : e = .cells #[.int .u64 0] 22) (hf : f = .cells #[.int .i64 ((l.length : Int) - 1)] 3) (hg : g = .cells (rulesV w.heap.size) 133) :
    OpM w.heap.size l p cap 0 0 0 0 0 (((((((w.alloc a).alloc b).alloc c).alloc d).alloc e).alloc f).alloc g) := by
  subst ha hb hc hd he hf hg
  refine ⟨by simp only [size_a]; omega, ?_, ?_, ?_, ?_, ?_, ?_, ?_⟩
  · exact heap_past _ _ _ (by (try simp only [size_a]); omega) (heap_past _ _ _ (by (try simp only [size_a]); omega) (heap_past _ _ _ (by (try simp only [size_a]); omega) (heap_past _ _ _ (by (try simp only [size_a]); omega) (heap_past _ _ _ (by (try simp only [size_a]); omega) (heap_past _ _ _ (by (try simp only [size_a]); omega) (heap_new _ _ _ (rfl)))))))
  · exact heap_past _ _ _ (by (try simp only [size_a]); omega) (heap_past _ _ _ (by (try simp only [size_a]); omega) (heap_past _ _ _ (by (try simp only [size_a]); omega) (heap_past _ _ _ (by (try simp only [size_a]); omega) (heap_past _ _ _ (by (try simp only [size_a]); omega) (heap_new _ _ _ (by simp only [size_a]))))))
  · exact heap_past _ _ _ (by (try simp only [size_a]); omega) (heap_past _ _ _ (by (try simp only [size_a]); omega) (heap_past _ _ _ (by (try simp only [size_a]); omega) (heap_past _ _ _ (by (try simp only [size_a]); omega) (heap_new _ _ _ (by simp only [size_a])))))
  · exact heap_past _ _ _ (by (try simp only [size_a]); omega) (heap_past _ _ _ (by (try simp only [size_a]); omega) (heap_past _ _ _ (by (try simp only [size_a]); omega) (heap_new _ _ _ (by simp only [size_a]))))
  · exact heap_past _ _ _ (by (try simp only [size_a]); omega) (heap_past _ _ _ (by (try simp only [size_a]); omega) (heap_new _ _ _ (by simp only [size_a])))
  · exact heap_past _ _ _ (by (try simp only [size_a]); omega) (heap_new _ _ _ (by simp only [size_a]))
  · exact heap_new _ _ _ (by simp only [size_a])
structure OpK (l : List Sg) (k f t r c a : Nat) : Prop where
  k1 : 1 ≤ k → 2 ≤ l.length
  k2 : 2 ≤ k → headV (l.getD 0 ⟨[], []⟩) = some (f, t, r)
  k3 : 3 ≤ k → tailV (l.getD (l.length - 1) ⟨[], []⟩) = some (c, a)
  k4 : 4 ≤ k → c = l.length - 2
  k5 : 5 ≤ k → a = r
theorem openL_short {l : List Sg} (h : ¬ 2 ≤ l.length) : openL l = (Wr.nil, 40) := by unfold openL; rw [if_pos (by omega)]
theorem openL_head {l : List Sg} (h : headV (l.getD 0 ⟨[], []⟩) = none) : openL l = (Wr.nil, 40) := by
  unfold openL
  split
  · rfl
  · rw [h]
theorem openL_tail {l : List Sg} (h : tailV (l.getD (l.length - 1) ⟨[], []⟩) = none) : openL l = (Wr.nil, 40) := by
  unfold openL
  split
  · rfl
  · rw [h]; split <;> simp_all
theorem openL_count {l : List Sg} {f t r c a : Nat} (h2 : 2 ≤ l.length) (hh : headV (l.getD 0 ⟨[], []⟩) = some (f, t, r)) (ht : tailV (l.getD (l.length - 1) ⟨[], []⟩) = some (c, a)) (hc : ¬ c = l.length - 2) : openL l = (Wr.nil, 41) := by
  unfold openL
  rw [if_neg (by omega), hh, ht]
  simp only
  rw [if_neg hc]
theorem openL_ref {l : List Sg} {f t r c a : Nat} (h2 : 2 ≤ l.length) (hh : headV (l.getD 0 ⟨[], []⟩) = some (f, t, r)) (ht : tailV (l.getD (l.length - 1) ⟨[], []⟩) = some (c, a)) (hc : c = l.length - 2) (ha : ¬ a = r) : openL l = (Wr.nil, 42) := by
  unfold openL
  rw [if_neg (by omega), hh, ht]
  simp only
  rw [if_pos hc, if_neg ha]
theorem openL_ok {l : List Sg} {f t r c a : Nat} (h2 : 2 ≤ l.length) (hh : headV (l.getD 0 ⟨[], []⟩) = some (f, t, r)) (ht : tailV (l.getD (l.length - 1) ⟨[], []⟩) = some (c, a)) (hc : c = l.length - 2) (ha : a = r) : openL l = (⟨f, t, r, (l.take (l.length - 1)).drop 1⟩, 0) := by
  unfold openL
  rw [if_neg (by omega), hh, ht]
  simp only
  rw [if_pos hc, if_pos ha]
def OpA (l : List Sg) (F : Nat → Prop) (w : World) (e : Ending) (w' : World) : Prop :=
  ∃ v, e = .returned (.tuple #[.agg (wrV (openL l).1.from_ (openL l).1.to_ (openL l).1.ref v), .int .i64 ((openL l).2 : Int)]) ∧ SegsF w' F v (openL l).1.segs ∧ Below w.heap.size w w'
set_option maxRecDepth 100000 in
set_option maxHeartbeats 3200000 in
theorem opened_any (l : List Sg) (p : Option Addr) (cap : Nat) (w : World) (F : Nat → Prop) (hv : SegsF w F (.slice p l.length cap) l) (hF : ∀ b, F b → b < w.heap.size) (hfit : sane l) :
    Calls Tryz.prog 39 #[.slice p l.length cap] w (OpA l F w) := by
  have hlb : (l.length : Int) ≤ 1000000000000 := by have := hfit.1; omega
  have HV := Lib.hid hv
  have HFF := Lib.hid hF
  have HFit := Lib.hid hfit
  clear hv hF hfit
  go_enter Tryz.func39, Tryz.ntmps39
  go_wp2
  generalize hW : World.alloc _ _ = W
  have hM : OpM w.heap.size l p cap 0 0 0 0 0 W := by
    subst hW
    exact start_mem w _ _ _ _ _ _ _ l p cap rfl rfl rfl rfl rfl rfl rfl
  have hB : Below w.heap.size w W := by
    subst hW
    exact start_below w _ _ _ _ _ _ _
  have HM := Lib.hid hM
  have HB := Lib.hid hB
  clear hM hB hW
  go_loopw [25] (fun i wr => ∃ k f t r c a : Nat, i = .int .i64 k ∧ k ≤ 5 ∧ OpM w.heap.size l p cap f t r c a wr ∧ OpK l k f t r c a ∧ Below w.heap.size w wr) (fun i _ => 5 - (intOf i).toNat)
  case atStart => exact ⟨0, 0, 0, 0, 0, 0, rfl, by omega, HM.out, ⟨by omega, by omega, by omega, by omega, by omega⟩, HB.out⟩
  case round =>
    obtain ⟨k, f, t, r, c, a, rfl, hk, hm, hK, hb⟩ := hrel
    have HMr := Lib.hid hm
    have HK := Lib.hid hK
    have HBr := Lib.hid hb
    have q := hm.q6
    clear hm hK hb HM HB
    match k, hk with
    | 0, _ =>
      have e0 : wr.cell? ⟨w.heap.size + 1 + 1 + 1 + 1 + 1 + 1, 0, none⟩ = some (.func (.func 58) #[] #[.pointer (some ⟨w.heap.size, 0, none⟩)]) := cell_of_arr q 0
      have e1 : wr.cell? ⟨w.heap.size + 1 + 1 + 1 + 1 + 1 + 1, 1, none⟩ = some (.int .i64 40) := cell_of_arr q 1
      have hM2 := HMr.out.alloc (.cells #[.func (.func 58) #[] #[.pointer (some ⟨w.heap.size, 0, none⟩)], .int .i64 40] 133)
      have hB2 : Below w.heap.size w (wr.alloc (.cells #[.func (.func 58) #[] #[.pointer (some ⟨w.heap.size, 0, none⟩)], .int .i64 40] 133)) := HBr.out.alloc HBr.out.size _
      have hE2 : (wr.alloc (.cells #[.func (.func 58) #[] #[.pointer (some ⟨w.heap.size, 0, none⟩)], .int .i64 40] 133)).cell? ⟨wr.heap.size, 1, none⟩ = some (.int .i64 40) := World.cell?_alloc_at _ _ _ _ rfl
      have hz2 : wr.heap.size < (wr.alloc (.cells #[.func (.func 58) #[] #[.pointer (some ⟨w.heap.size, 0, none⟩)], .int .i64 40] 133)).heap.size := by simp
      have HM2 := Lib.hid hM2
      have HB2 := Lib.hid hB2
      have HE2 := Lib.hid hE2
      have HZ2 := Lib.hid hz2
      clear hM2 hB2 hE2 hz2
      by_cases h2 : 2 ≤ l.length
      · have hq1 := fun W hc => two_any W w.heap.size p l.length cap hc
        rw [decide_eq_true h2] at hq1
        have HQ1 := Lib.hid hq1
        have HL := Lib.hid h2
        clear hq1 h2
        go_wp2_with (go_at_call 58; refine (HQ1.out _ (cell_of_arr HM2.out.c0 0)).mono ?_; rintro e w2 ⟨rfl, rfl⟩)
        go_roundw
        case rel => exact ⟨1, f, t, r, c, a, rfl, by omega, HM2.out, ⟨fun _ => HL.out, by omega, by omega, by omega, by omega⟩, HB2.out⟩
        case measure => simp [intOf]
      · have hq1 := fun W hc => two_any W w.heap.size p l.length cap hc
        rw [decide_eq_false h2] at hq1
        have HQ1 := Lib.hid hq1
        have HL := Lib.hid h2
        clear hq1 h2
        go_wp2_with (go_at_call 58; refine (HQ1.out _ (cell_of_arr HM2.out.c0 0)).mono ?_; rintro e w2 ⟨rfl, rfl⟩)
        generalize wr.alloc _ = w2 at *
        have HR := Lib.hid HM2.out.r1
        have hE2 := HE2.out
        have hR := HR.out
        have r0 : w2.cell? ⟨w.heap.size + 1, 0, none⟩ = some (.int .u8 0) := cell_of_arr hR 0
        have r1 : w2.cell? ⟨w.heap.size + 1, 1, none⟩ = some (.int .u8 0) := cell_of_arr hR 1
        have r2 : w2.cell? ⟨w.heap.size + 1, 2, none⟩ = some (.int .u64 0) := cell_of_arr hR 2
        have r3 : w2.cell? ⟨w.heap.size + 1, 3, none⟩ = some (.slice none 0 0) := cell_of_arr hR 3
        have f0 := frozen_of_arr hR 0
        have f1 := frozen_of_arr hR 1
        have f2 := frozen_of_arr hR 2
        have f3 := frozen_of_arr hR 3
        have hne : ¬ wr.heap.size = w.heap.size + 1 := by have := HMr.out.big; omega
        have hne2 : ¬ w.heap.size + 1 = wr.heap.size := by have := HMr.out.big; omega
        clear hR HBr HMr HK q e0 e1
        go_region
        all_goals
          go_wp2
          refine bodyPost_ret (results_cell_tmp_row rfl _ _ (w.heap.size + 1) 74 _ (0, 0) _ rfl (set4 HR.out _ _ _ _) Tryz.underlying74 rfl sizeWrap) rfl ?_
          unfold OpA
          rw [openL_short HL.out]
          exact ⟨_, rfl, segs_nil _ _, (((((HB2.out.setCell (Nat.le_succ _) _).setCell (Nat.le_succ _) _).setCell (Nat.le_succ _) _).setCell (Nat.le_succ _) _).drew)⟩
    | 1, _ =>
      have e0 : wr.cell? ⟨w.heap.size + 1 + 1 + 1 + 1 + 1 + 1, 2, none⟩ = some (.func (.func 59) #[] #[.pointer (some ⟨w.heap.size, 0, none⟩), .pointer (some ⟨w.heap.size + 1 + 1, 0, none⟩)]) := cell_of_arr q 2
      have e1 : wr.cell? ⟨w.heap.size + 1 + 1 + 1 + 1 + 1 + 1, 3, none⟩ = some (.int .i64 40) := cell_of_arr q 3
      have hM2 := HMr.out.alloc (.cells #[.func (.func 59) #[] #[.pointer (some ⟨w.heap.size, 0, none⟩), .pointer (some ⟨w.heap.size + 1 + 1, 0, none⟩)], .int .i64 40] 133)
      have hB2 : Below w.heap.size w (wr.alloc (.cells #[.func (.func 59) #[] #[.pointer (some ⟨w.heap.size, 0, none⟩), .pointer (some ⟨w.heap.size + 1 + 1, 0, none⟩)], .int .i64 40] 133)) := HBr.out.alloc HBr.out.size _
      have hE2 : (wr.alloc (.cells #[.func (.func 59) #[] #[.pointer (some ⟨w.heap.size, 0, none⟩), .pointer (some ⟨w.heap.size + 1 + 1, 0, none⟩)], .int .i64 40] 133)).cell? ⟨wr.heap.size, 1, none⟩ = some (.int .i64 40) := World.cell?_alloc_at _ _ _ _ rfl
      have hz2 : wr.heap.size < (wr.alloc (.cells #[.func (.func 59) #[] #[.pointer (some ⟨w.heap.size, 0, none⟩), .pointer (some ⟨w.heap.size + 1 + 1, 0, none⟩)], .int .i64 40] 133)).heap.size := by simp
      have HM2 := Lib.hid hM2
      have HB2 := Lib.hid hB2
      have HE2 := Lib.hid hE2
      have HZ2 := Lib.hid hz2
      clear hM2 hB2 hE2 hz2
      have HL := Lib.hid (HK.out.k1 (by omega))
      have hh := head_any l (.slice p l.length cap) (wr.alloc (.cells #[.func (.func 59) #[] #[.pointer (some ⟨w.heap.size, 0, none⟩), .pointer (some ⟨w.heap.size + 1 + 1, 0, none⟩)], .int .i64 40] 133)) w.heap.size (w.heap.size + 1 + 1) _ _ _ (.slice none 0 0) F (cell_of_arr HM2.out.c0 0) (HV.out.kept fun b hb => ⟨hb, HB2.out.block b (HFF.out b hb)⟩)
        (fun b hb => ⟨Nat.lt_of_lt_of_le (HFF.out b hb) HB2.out.size, by have := HFF.out b hb; omega⟩) (by have := HL.out; omega) HFit.out HM2.out.g2
      have hge : l.getD 0 ⟨[], []⟩ = l[0]'(by have := HL.out; omega) := by rw [List.getD_eq_getElem?_getD, List.getElem?_eq_getElem (by have := HL.out; omega)]; rfl
      have HGE := Lib.hid hge
      clear hge
      cases hv : headV (l[0]'(by have := HL.out; omega)) with
      | some x =>
        obtain ⟨f', t', r'⟩ := x
        have hq1 : Calls Tryz.prog 59 #[.pointer (some ⟨w.heap.size, 0, none⟩), .pointer (some ⟨w.heap.size + 1 + 1, 0, none⟩)] (wr.alloc (.cells #[.func (.func 59) #[] #[.pointer (some ⟨w.heap.size, 0, none⟩), .pointer (some ⟨w.heap.size + 1 + 1, 0, none⟩)], .int .i64 40] 133)) (fun e w2 => e = .returned (.bool true) ∧ w2.heap[w.heap.size + 1 + 1]? = some (.cells (wrV f' t' r' (.slice none 0 0)) 74 (0, 0)) ∧ Frq (· = w.heap.size + 1 + 1) (wr.alloc (.cells #[.func (.func 59) #[] #[.pointer (some ⟨w.heap.size, 0, none⟩), .pointer (some ⟨w.heap.size + 1 + 1, 0, none⟩)], .int .i64 40] 133)) w2) := by
          refine hh.mono ?_
          rintro e w2 ⟨ok, rfl, h1, h2, h3⟩
          exact ⟨by rw [h1, hv]; rfl, h2 _ _ _ hv, h3⟩
        have HQ1 := Lib.hid hq1
        have HHV := Lib.hid hv
        clear hq1 hh hv
        go_wp2_with (go_at_call 59; refine (HQ1.out).mono ?_; rintro e w2 ⟨rfl, h2, h3⟩; have H2 := Lib.hid h2; have H3 := Lib.hid h3; clear h2 h3)
        go_roundw
        case rel => exact ⟨2, f', t', r', c, a, rfl, by omega, HM2.out.head H3.out H2.out, ⟨fun _ => HL.out, fun _ => HGE.out ▸ HHV.out, by omega, by omega, by omega⟩, HB2.out.trans (H3.out.below HB2.out.size (fun k hk => by omega))⟩
        case measure => simp [intOf]
      | none =>
        have hq1 : Calls Tryz.prog 59 #[.pointer (some ⟨w.heap.size, 0, none⟩), .pointer (some ⟨w.heap.size + 1 + 1, 0, none⟩)] (wr.alloc (.cells #[.func (.func 59) #[] #[.pointer (some ⟨w.heap.size, 0, none⟩), .pointer (some ⟨w.heap.size + 1 + 1, 0, none⟩)], .int .i64 40] 133)) (fun e w2 => e = .returned (.bool false) ∧ Frq (· = w.heap.size + 1 + 1) (wr.alloc (.cells #[.func (.func 59) #[] #[.pointer (some ⟨w.heap.size, 0, none⟩), .pointer (some ⟨w.heap.size + 1 + 1, 0, none⟩)], .int .i64 40] 133)) w2) := by
          refine hh.mono ?_
          rintro e w2 ⟨ok, rfl, h1, h2, h3⟩
          exact ⟨by rw [h1, hv]; rfl, h3⟩
        have HQ1 := Lib.hid hq1
        have HHV := Lib.hid (HGE.out ▸ hv : headV (l.getD 0 ⟨[], []⟩) = none)
        clear hq1 hh hv
        go_wp2_with (go_at_call 59; refine (HQ1.out).mono ?_; rintro e w2 ⟨rfl, h3⟩; have H3 := Lib.hid h3; clear h3)
        have hR0 : w2.heap[w.heap.size + 1]? = _ := (H3.out.block (w.heap.size + 1) (by have := HM2.out.big; omega) (by omega)).trans HM2.out.r1
        have hE0 : w2.cell? ⟨wr.heap.size, 1, none⟩ = _ := (World.cell?_of_block (a := ⟨wr.heap.size, 1, none⟩) (H3.out.block wr.heap.size HZ2.out (by have := HMr.out.big; omega))).trans HE2.out
        have hB0 := HB2.out.trans (H3.out.below HB2.out.size (fun k hk => by omega))
        clear HE2 HB2 HQ1 H3 HM2 HZ2
        have HR := Lib.hid hR0
        have HE2 := Lib.hid hE0
        have HB2 := Lib.hid hB0
        clear hR0 hE0 hB0
        have hE2 := HE2.out
        have hR := HR.out
        have r0 : w2.cell? ⟨w.heap.size + 1, 0, none⟩ = some (.int .u8 0) := cell_of_arr hR 0
        have r1 : w2.cell? ⟨w.heap.size + 1, 1, none⟩ = some (.int .u8 0) := cell_of_arr hR 1
        have r2 : w2.cell? ⟨w.heap.size + 1, 2, none⟩ = some (.int .u64 0) := cell_of_arr hR 2
        have r3 : w2.cell? ⟨w.heap.size + 1, 3, none⟩ = some (.slice none 0 0) := cell_of_arr hR 3
        have f0 := frozen_of_arr hR 0
        have f1 := frozen_of_arr hR 1
        have f2 := frozen_of_arr hR 2
        have f3 := frozen_of_arr hR 3
        have hne : ¬ wr.heap.size = w.heap.size + 1 := by have := HMr.out.big; omega
        have hne2 : ¬ w.heap.size + 1 = wr.heap.size := by have := HMr.out.big; omega
        clear hR HBr HMr HK q e0 e1
        go_region
        all_goals
          go_wp2
          refine bodyPost_ret (results_cell_tmp_row rfl _ _ (w.heap.size + 1) 74 _ (0, 0) _ rfl (set4 HR.out _ _ _ _) Tryz.underlying74 rfl sizeWrap) rfl ?_
          unfold OpA
          rw [openL_head HHV.out]
          exact ⟨_, rfl, segs_nil _ _, (((((HB2.out.setCell (Nat.le_succ _) _).setCell (Nat.le_succ _) _).setCell (Nat.le_succ _) _).setCell (Nat.le_succ _) _).drew)⟩
    | 2, _ =>
      have e0 : wr.cell? ⟨w.heap.size + 1 + 1 + 1 + 1 + 1 + 1, 4, none⟩ = some (.func (.func 63) #[] #[.pointer (some ⟨w.heap.size, 0, none⟩), .pointer (some ⟨w.heap.size + 1 + 1 + 1 + 1 + 1, 0, none⟩), .pointer (some ⟨w.heap.size + 1 + 1 + 1, 0, none⟩), .pointer (some ⟨w.heap.size + 1 + 1 + 1 + 1, 0, none⟩)]) := cell_of_arr q 4
      have e1 : wr.cell? ⟨w.heap.size + 1 + 1 + 1 + 1 + 1 + 1, 5, none⟩ = some (.int .i64 40) := cell_of_arr q 5
      have hM2 := HMr.out.alloc (.cells #[.func (.func 63) #[] #[.pointer (some ⟨w.heap.size, 0, none⟩), .pointer (some ⟨w.heap.size + 1 + 1 + 1 + 1 + 1, 0, none⟩), .pointer (some ⟨w.heap.size + 1 + 1 + 1, 0, none⟩), .pointer (some ⟨w.heap.size + 1 + 1 + 1 + 1, 0, none⟩)], .int .i64 40] 133)
      have hB2 : Below w.heap.size w (wr.alloc (.cells #[.func (.func 63) #[] #[.pointer (some ⟨w.heap.size, 0, none⟩), .pointer (some ⟨w.heap.size + 1 + 1 + 1 + 1 + 1, 0, none⟩), .pointer (some ⟨w.heap.size + 1 + 1 + 1, 0, none⟩), .pointer (some ⟨w.heap.size + 1 + 1 + 1 + 1, 0, none⟩)], .int .i64 40] 133)) := HBr.out.alloc HBr.out.size _
      have hE2 : (wr.alloc (.cells #[.func (.func 63) #[] #[.pointer (some ⟨w.heap.size, 0, none⟩), .pointer (some ⟨w.heap.size + 1 + 1 + 1 + 1 + 1, 0, none⟩), .pointer (some ⟨w.heap.size + 1 + 1 + 1, 0, none⟩), .pointer (some ⟨w.heap.size + 1 + 1 + 1 + 1, 0, none⟩)], .int .i64 40] 133)).cell? ⟨wr.heap.size, 1, none⟩ = some (.int .i64 40) := World.cell?_alloc_at _ _ _ _ rfl
      have hz2 : wr.heap.size < (wr.alloc (.cells #[.func (.func 63) #[] #[.pointer (some ⟨w.heap.size, 0, none⟩), .pointer (some ⟨w.heap.size + 1 + 1 + 1 + 1 + 1, 0, none⟩), .pointer (some ⟨w.heap.size + 1 + 1 + 1, 0, none⟩), .pointer (some ⟨w.heap.size + 1 + 1 + 1 + 1, 0, none⟩)], .int .i64 40] 133)).heap.size := by simp
      have HM2 := Lib.hid hM2
      have HB2 := Lib.hid hB2
      have HE2 := Lib.hid hE2
      have HZ2 := Lib.hid hz2
      clear hM2 hB2 hE2 hz2
      have HL := Lib.hid (HK.out.k1 (by omega))
      have HH := Lib.hid (HK.out.k2 (by omega))
      have hn5 : (wr.alloc (.cells #[.func (.func 63) #[] #[.pointer (some ⟨w.heap.size, 0, none⟩), .pointer (some ⟨w.heap.size + 1 + 1 + 1 + 1 + 1, 0, none⟩), .pointer (some ⟨w.heap.size + 1 + 1 + 1, 0, none⟩), .pointer (some ⟨w.heap.size + 1 + 1 + 1 + 1, 0, none⟩)], .int .i64 40] 133)).cell? ⟨w.heap.size + 1 + 1 + 1 + 1 + 1, 0, none⟩ = some (.int .i64 ((l.length - 1 : Nat) : Int)) := by
        rw [show ((l.length - 1 : Nat) : Int) = (l.length : Int) - 1 by have := HL.out; omega]
        exact cell_of_arr HM2.out.n5 0
      have hh := tail_any l (.slice p l.length cap) (wr.alloc (.cells #[.func (.func 63) #[] #[.pointer (some ⟨w.heap.size, 0, none⟩), .pointer (some ⟨w.heap.size + 1 + 1 + 1 + 1 + 1, 0, none⟩), .pointer (some ⟨w.heap.size + 1 + 1 + 1, 0, none⟩), .pointer (some ⟨w.heap.size + 1 + 1 + 1 + 1, 0, none⟩)], .int .i64 40] 133)) w.heap.size (w.heap.size + 1 + 1 + 1 + 1 + 1) (w.heap.size + 1 + 1 + 1) (w.heap.size + 1 + 1 + 1 + 1) (l.length - 1) _ _ F (cell_of_arr HM2.out.c0 0) (HV.out.kept fun b hb => ⟨hb, HB2.out.block b (HFF.out b hb)⟩)
        (fun b hb => ⟨Nat.lt_of_lt_of_le (HFF.out b hb) HB2.out.size, by have := HFF.out b hb; omega, by have := HFF.out b hb; omega⟩) (by have := HL.out; omega) HFit.out hn5 HM2.out.c3 HM2.out.d4 (by omega)
      have hge : l.getD (l.length - 1) ⟨[], []⟩ = l[l.length - 1]'(by have := HL.out; omega) := by rw [List.getD_eq_getElem?_getD, List.getElem?_eq_getElem (by have := HL.out; omega)]; rfl
      have HGE := Lib.hid hge
      clear hge hn5
      cases hv : tailV (l[l.length - 1]'(by have := HL.out; omega)) with
      | some x =>
        obtain ⟨c', a'⟩ := x
        have hq1 : Calls Tryz.prog 63 #[.pointer (some ⟨w.heap.size, 0, none⟩), .pointer (some ⟨w.heap.size + 1 + 1 + 1 + 1 + 1, 0, none⟩), .pointer (some ⟨w.heap.size + 1 + 1 + 1, 0, none⟩), .pointer (some ⟨w.heap.size + 1 + 1 + 1 + 1, 0, none⟩)] (wr.alloc (.cells #[.func (.func 63) #[] #[.pointer (some ⟨w.heap.size, 0, none⟩), .pointer (some ⟨w.heap.size + 1 + 1 + 1 + 1 + 1, 0, none⟩), .pointer (some ⟨w.heap.size + 1 + 1 + 1, 0, none⟩), .pointer (some ⟨w.heap.size + 1 + 1 + 1 + 1, 0, none⟩)], .int .i64 40] 133)) (fun e w2 => e = .returned (.bool true) ∧ w2.heap[w.heap.size + 1 + 1 + 1]? = some (.cells #[.int .u64 (c' : Int)] 22 (0, 0)) ∧ w2.heap[w.heap.size + 1 + 1 + 1 + 1]? = some (.cells #[.int .u64 (a' : Int)] 22 (0, 0)) ∧ Frq (fun k => k = w.heap.size + 1 + 1 + 1 ∨ k = w.heap.size + 1 + 1 + 1 + 1) (wr.alloc (.cells #[.func (.func 63) #[] #[.pointer (some ⟨w.heap.size, 0, none⟩), .pointer (some ⟨w.heap.size + 1 + 1 + 1 + 1 + 1, 0, none⟩), .pointer (some ⟨w.heap.size + 1 + 1 + 1, 0, none⟩), .pointer (some ⟨w.heap.size + 1 + 1 + 1 + 1, 0, none⟩)], .int .i64 40] 133)) w2) := by
          refine hh.mono ?_
          rintro e w2 ⟨ok, rfl, h1, h2, h3⟩
          exact ⟨by rw [h1, hv]; rfl, (h2 _ _ hv).1, (h2 _ _ hv).2, h3⟩
        have HQ1 := Lib.hid hq1
        have HHV := Lib.hid hv
        clear hq1 hh hv
        go_wp2_with (go_at_call 63; refine (HQ1.out).mono ?_; rintro e w2 ⟨rfl, h2, h2b, h3⟩; have H2 := Lib.hid h2; have H2b := Lib.hid h2b; have H3 := Lib.hid h3; clear h2 h2b h3)
        go_roundw
        case rel => exact ⟨3, f, t, r, c', a', rfl, by omega, HM2.out.tail H3.out H2.out H2b.out, ⟨fun _ => HL.out, fun _ => HH.out, fun _ => HGE.out ▸ HHV.out, by omega, by omega⟩, HB2.out.trans (H3.out.below HB2.out.size (fun k hk => by omega))⟩
        case measure => simp [intOf]
      | none =>
        have hq1 : Calls Tryz.prog 63 #[.pointer (some ⟨w.heap.size, 0, none⟩), .pointer (some ⟨w.heap.size + 1 + 1 + 1 + 1 + 1, 0, none⟩), .pointer (some ⟨w.heap.size + 1 + 1 + 1, 0, none⟩), .pointer (some ⟨w.heap.size + 1 + 1 + 1 + 1, 0, none⟩)] (wr.alloc (.cells #[.func (.func 63) #[] #[.pointer (some ⟨w.heap.size, 0, none⟩), .pointer (some ⟨w.heap.size + 1 + 1 + 1 + 1 + 1, 0, none⟩), .pointer (some ⟨w.heap.size + 1 + 1 + 1, 0, none⟩), .pointer (some ⟨w.heap.size + 1 + 1 + 1 + 1, 0, none⟩)], .int .i64 40] 133)) (fun e w2 => e = .returned (.bool false) ∧ Frq (fun k => k = w.heap.size + 1 + 1 + 1 ∨ k = w.heap.size + 1 + 1 + 1 + 1) (wr.alloc (.cells #[.func (.func 63) #[] #[.pointer (some ⟨w.heap.size, 0, none⟩), .pointer (some ⟨w.heap.size + 1 + 1 + 1 + 1 + 1, 0, none⟩), .pointer (some ⟨w.heap.size + 1 + 1 + 1, 0, none⟩), .pointer (some ⟨w.heap.size + 1 + 1 + 1 + 1, 0, none⟩)], .int .i64 40] 133)) w2) := by
          refine hh.mono ?_
          rintro e w2 ⟨ok, rfl, h1, h2, h3⟩
          exact ⟨by rw [h1, hv]; rfl, h3⟩
        have HQ1 := Lib.hid hq1
        have HHV := Lib.hid (HGE.out ▸ hv : tailV (l.getD (l.length - 1) ⟨[], []⟩) = none)
        clear hq1 hh hv
        go_wp2_with (go_at_call 63; refine (HQ1.out).mono ?_; rintro e w2 ⟨rfl, h3⟩; have H3 := Lib.hid h3; clear h3)
        have hR0 : w2.heap[w.heap.size + 1]? = _ := (H3.out.block (w.heap.size + 1) (by have := HM2.out.big; omega) (by omega)).trans HM2.out.r1
        have hE0 : w2.cell? ⟨wr.heap.size, 1, none⟩ = _ := (World.cell?_of_block (a := ⟨wr.heap.size, 1, none⟩) (H3.out.block wr.heap.size HZ2.out (by have := HMr.out.big; omega))).trans HE2.out
        have hB0 := HB2.out.trans (H3.out.below HB2.out.size (fun k hk => by omega))
        clear HE2 HB2 HQ1 H3 HM2 HZ2
        have HR := Lib.hid hR0
        have HE2 := Lib.hid hE0
        have HB2 := Lib.hid hB0
        clear hR0 hE0 hB0
        have hE2 := HE2.out
        have hR := HR.out
        have r0 : w2.cell? ⟨w.heap.size + 1, 0, none⟩ = some (.int .u8 0) := cell_of_arr hR 0
        have r1 : w2.cell? ⟨w.heap.size + 1, 1, none⟩ = some (.int .u8 0) := cell_of_arr hR 1
        have r2 : w2.cell? ⟨w.heap.size + 1, 2, none⟩ = some (.int .u64 0) := cell_of_arr hR 2
        have r3 : w2.cell? ⟨w.heap.size + 1, 3, none⟩ = some (.slice none 0 0) := cell_of_arr hR 3
        have f0 := frozen_of_arr hR 0
        have f1 := frozen_of_arr hR 1
        have f2 := frozen_of_arr hR 2
        have f3 := frozen_of_arr hR 3
        have hne : ¬ wr.heap.size = w.heap.size + 1 := by have := HMr.out.big; omega
        have hne2 : ¬ w.heap.size + 1 = wr.heap.size := by have := HMr.out.big; omega
        clear hR HBr HMr HK q e0 e1
        go_region
        all_goals
          go_wp2
          refine bodyPost_ret (results_cell_tmp_row rfl _ _ (w.heap.size + 1) 74 _ (0, 0) _ rfl (set4 HR.out _ _ _ _) Tryz.underlying74 rfl sizeWrap) rfl ?_
          unfold OpA
          rw [openL_tail HHV.out]
          exact ⟨_, rfl, segs_nil _ _, (((((HB2.out.setCell (Nat.le_succ _) _).setCell (Nat.le_succ _) _).setCell (Nat.le_succ _) _).setCell (Nat.le_succ _) _).drew)⟩
    | 3, _ =>
      have e0 : wr.cell? ⟨w.heap.size + 1 + 1 + 1 + 1 + 1 + 1, 6, none⟩ = some (.func (.func 64) #[] #[.pointer (some ⟨w.heap.size + 1 + 1 + 1, 0, none⟩), .pointer (some ⟨w.heap.size, 0, none⟩)]) := cell_of_arr q 6
      have e1 : wr.cell? ⟨w.heap.size + 1 + 1 + 1 + 1 + 1 + 1, 7, none⟩ = some (.int .i64 41) := cell_of_arr q 7
      have hM2 := HMr.out.alloc (.cells #[.func (.func 64) #[] #[.pointer (some ⟨w.heap.size + 1 + 1 + 1, 0, none⟩), .pointer (some ⟨w.heap.size, 0, none⟩)], .int .i64 41] 133)
      have hB2 : Below w.heap.size w (wr.alloc (.cells #[.func (.func 64) #[] #[.pointer (some ⟨w.heap.size + 1 + 1 + 1, 0, none⟩), .pointer (some ⟨w.heap.size, 0, none⟩)], .int .i64 41] 133)) := HBr.out.alloc HBr.out.size _
      have hE2 : (wr.alloc (.cells #[.func (.func 64) #[] #[.pointer (some ⟨w.heap.size + 1 + 1 + 1, 0, none⟩), .pointer (some ⟨w.heap.size, 0, none⟩)], .int .i64 41] 133)).cell? ⟨wr.heap.size, 1, none⟩ = some (.int .i64 41) := World.cell?_alloc_at _ _ _ _ rfl
      have hz2 : wr.heap.size < (wr.alloc (.cells #[.func (.func 64) #[] #[.pointer (some ⟨w.heap.size + 1 + 1 + 1, 0, none⟩), .pointer (some ⟨w.heap.size, 0, none⟩)], .int .i64 41] 133)).heap.size := by simp
      have HM2 := Lib.hid hM2
      have HB2 := Lib.hid hB2
      have HE2 := Lib.hid hE2
      have HZ2 := Lib.hid hz2
      clear hM2 hB2 hE2 hz2
      have HL := Lib.hid (HK.out.k1 (by omega))
      have HH := Lib.hid (HK.out.k2 (by omega))
      have HT := Lib.hid (HK.out.k3 (by omega))
      have hq0 := count_any (wr.alloc (.cells #[.func (.func 64) #[] #[.pointer (some ⟨w.heap.size + 1 + 1 + 1, 0, none⟩), .pointer (some ⟨w.heap.size, 0, none⟩)], .int .i64 41] 133)) w.heap.size (w.heap.size + 1 + 1 + 1) p l.length cap c (cell_of_arr HM2.out.c0 0) (cell_of_arr HM2.out.c3 0) HL.out (by omega)
      by_cases h2 : c = l.length - 2
      · rw [decide_eq_true h2] at hq0
        have HQ1 := Lib.hid hq0
        have HC := Lib.hid h2
        clear hq0 h2
        go_wp2_with (go_at_call 64; refine (HQ1.out).mono ?_; rintro e w2 ⟨rfl, rfl⟩)
        go_roundw
        case rel => exact ⟨4, f, t, r, c, a, rfl, by omega, HM2.out, ⟨fun _ => HL.out, fun _ => HH.out, fun _ => HT.out, fun _ => HC.out, by omega⟩, HB2.out⟩
        case measure => simp [intOf]
      · rw [decide_eq_false h2] at hq0
        have HQ1 := Lib.hid hq0
        have HC := Lib.hid h2
        clear hq0 h2
        go_wp2_with (go_at_call 64; refine (HQ1.out).mono ?_; rintro e w2 ⟨rfl, rfl⟩)
        generalize wr.alloc _ = w2 at *
        have HR := Lib.hid HM2.out.r1
        have hE2 := HE2.out
        have hR := HR.out
        have r0 : w2.cell? ⟨w.heap.size + 1, 0, none⟩ = some (.int .u8 0) := cell_of_arr hR 0
        have r1 : w2.cell? ⟨w.heap.size + 1, 1, none⟩ = some (.int .u8 0) := cell_of_arr hR 1
        have r2 : w2.cell? ⟨w.heap.size + 1, 2, none⟩ = some (.int .u64 0) := cell_of_arr hR 2
        have r3 : w2.cell? ⟨w.heap.size + 1, 3, none⟩ = some (.slice none 0 0) := cell_of_arr hR 3
        have f0 := frozen_of_arr hR 0
        have f1 := frozen_of_arr hR 1
        have f2 := frozen_of_arr hR 2
        have f3 := frozen_of_arr hR 3
        have hne : ¬ wr.heap.size = w.heap.size + 1 := by have := HMr.out.big; omega
        have hne2 : ¬ w.heap.size + 1 = wr.heap.size := by have := HMr.out.big; omega
        clear hR HBr HMr HK q e0 e1
        go_region
        all_goals
          go_wp2
          refine bodyPost_ret (results_cell_tmp_row rfl _ _ (w.heap.size + 1) 74 _ (0, 0) _ rfl (set4 HR.out _ _ _ _) Tryz.underlying74 rfl sizeWrap) rfl ?_
          unfold OpA
          rw [openL_count HL.out HH.out HT.out HC.out]
          exact ⟨_, rfl, segs_nil _ _, (((((HB2.out.setCell (Nat.le_succ _) _).setCell (Nat.le_succ _) _).setCell (Nat.le_succ _) _).setCell (Nat.le_succ _) _).drew)⟩
    | 4, _ =>
      have e0 : wr.cell? ⟨w.heap.size + 1 + 1 + 1 + 1 + 1 + 1, 8, none⟩ = some (.func (.func 65) #[] #[.pointer (some ⟨w.heap.size + 1 + 1 + 1 + 1, 0, none⟩), .pointer (some ⟨w.heap.size + 1 + 1, 0, none⟩)]) := cell_of_arr q 8
      have e1 : wr.cell? ⟨w.heap.size + 1 + 1 + 1 + 1 + 1 + 1, 9, none⟩ = some (.int .i64 42) := cell_of_arr q 9
      have hM2 := HMr.out.alloc (.cells #[.func (.func 65) #[] #[.pointer (some ⟨w.heap.size + 1 + 1 + 1 + 1, 0, none⟩), .pointer (some ⟨w.heap.size + 1 + 1, 0, none⟩)], .int .i64 42] 133)
      have hB2 : Below w.heap.size w (wr.alloc (.cells #[.func (.func 65) #[] #[.pointer (some ⟨w.heap.size + 1 + 1 + 1 + 1, 0, none⟩), .pointer (some ⟨w.heap.size + 1 + 1, 0, none⟩)], .int .i64 42] 133)) := HBr.out.alloc HBr.out.size _
      have hE2 : (wr.alloc (.cells #[.func (.func 65) #[] #[.pointer (some ⟨w.heap.size + 1 + 1 + 1 + 1, 0, none⟩), .pointer (some ⟨w.heap.size + 1 + 1, 0, none⟩)], .int .i64 42] 133)).cell? ⟨wr.heap.size, 1, none⟩ = some (.int .i64 42) := World.cell?_alloc_at _ _ _ _ rfl
      have hz2 : wr.heap.size < (wr.alloc (.cells #[.func (.func 65) #[] #[.pointer (some ⟨w.heap.size + 1 + 1 + 1 + 1, 0, none⟩), .pointer (some ⟨w.heap.size + 1 + 1, 0, none⟩)], .int .i64 42] 133)).heap.size := by simp
      have HM2 := Lib.hid hM2
      have HB2 := Lib.hid hB2
      have HE2 := Lib.hid hE2
      have HZ2 := Lib.hid hz2
      clear hM2 hB2 hE2 hz2
      have HL := Lib.hid (HK.out.k1 (by omega))
      have HH := Lib.hid (HK.out.k2 (by omega))
      have HT := Lib.hid (HK.out.k3 (by omega))
      have HK4 := Lib.hid (HK.out.k4 (by omega))
      have hq0 := refs_any (wr.alloc (.cells #[.func (.func 65) #[] #[.pointer (some ⟨w.heap.size + 1 + 1 + 1 + 1, 0, none⟩), .pointer (some ⟨w.heap.size + 1 + 1, 0, none⟩)], .int .i64 42] 133)) (w.heap.size + 1 + 1 + 1 + 1) (w.heap.size + 1 + 1) a r (cell_of_arr HM2.out.d4 0) (cell_of_arr HM2.out.g2 2)
      by_cases h2 : a = r
      · rw [decide_eq_true h2] at hq0
        have HQ1 := Lib.hid hq0
        have HC := Lib.hid h2
        clear hq0 h2
        go_wp2_with (go_at_call 65; refine (HQ1.out).mono ?_; rintro e w2 ⟨rfl, rfl⟩)
        go_roundw
        case rel => exact ⟨5, f, t, r, c, a, rfl, by omega, HM2.out, ⟨fun _ => HL.out, fun _ => HH.out, fun _ => HT.out, fun _ => HK4.out, fun _ => HC.out⟩, HB2.out⟩
        case measure => simp [intOf]
      · rw [decide_eq_false h2] at hq0
        have HQ1 := Lib.hid hq0
        have HC := Lib.hid h2
        clear hq0 h2
        go_wp2_with (go_at_call 65; refine (HQ1.out).mono ?_; rintro e w2 ⟨rfl, rfl⟩)
        generalize wr.alloc _ = w2 at *
        have HR := Lib.hid HM2.out.r1
        have hE2 := HE2.out
        have hR := HR.out
        have r0 : w2.cell? ⟨w.heap.size + 1, 0, none⟩ = some (.int .u8 0) := cell_of_arr hR 0
        have r1 : w2.cell? ⟨w.heap.size + 1, 1, none⟩ = some (.int .u8 0) := cell_of_arr hR 1
        have r2 : w2.cell? ⟨w.heap.size + 1, 2, none⟩ = some (.int .u64 0) := cell_of_arr hR 2
        have r3 : w2.cell? ⟨w.heap.size + 1, 3, none⟩ = some (.slice none 0 0) := cell_of_arr hR 3
        have f0 := frozen_of_arr hR 0
        have f1 := frozen_of_arr hR 1
        have f2 := frozen_of_arr hR 2
        have f3 := frozen_of_arr hR 3
        have hne : ¬ wr.heap.size = w.heap.size + 1 := by have := HMr.out.big; omega
        have hne2 : ¬ w.heap.size + 1 = wr.heap.size := by have := HMr.out.big; omega
        clear hR HBr HMr HK q e0 e1
        go_region
        all_goals
          go_wp2
          refine bodyPost_ret (results_cell_tmp_row rfl _ _ (w.heap.size + 1) 74 _ (0, 0) _ rfl (set4 HR.out _ _ _ _) Tryz.underlying74 rfl sizeWrap) rfl ?_
          unfold OpA
          rw [openL_ref HL.out HH.out HT.out HK4.out HC.out]
          exact ⟨_, rfl, segs_nil _ _, (((((HB2.out.setCell (Nat.le_succ _) _).setCell (Nat.le_succ _) _).setCell (Nat.le_succ _) _).setCell (Nat.le_succ _) _).drew)⟩
    | 5, _ =>
      have HL := Lib.hid (HK.out.k1 (by omega))
      have HO := Lib.hid (openL_ok HL.out (HK.out.k2 (by omega)) (HK.out.k3 (by omega)) (HK.out.k4 (by omega)) (HK.out.k5 (by omega)))
      obtain ⟨xs, ⟨p', cap', he, hnc, hrow⟩, _⟩ := HV.out
      simp only [Value.slice.injEq, true_and] at he
      obtain ⟨rfl, rfl⟩ := he
      obtain ⟨b, o, rfl, hFb, _⟩ := hrow (by have := HL.out; omega)
      have hm := HMr.out
      have c0 := cell_of_arr hm.c0 0
      have c5 := cell_of_arr hm.n5 0
      have g0 := cell_of_arr hm.g2 0
      have g1 := cell_of_arr hm.g2 1
      have g2 := cell_of_arr hm.g2 2
      have g3 := cell_of_arr hm.g2 3
      have gf := frozen_of_arr hm.g2 3
      have r0 : wr.cell? ⟨w.heap.size + 1, 0, none⟩ = some (.int .u8 0) := cell_of_arr hm.r1 0
      have r1 : wr.cell? ⟨w.heap.size + 1, 1, none⟩ = some (.int .u8 0) := cell_of_arr hm.r1 1
      have r2 : wr.cell? ⟨w.heap.size + 1, 2, none⟩ = some (.int .u64 0) := cell_of_arr hm.r1 2
      have r3 : wr.cell? ⟨w.heap.size + 1, 3, none⟩ = some (.slice none 0 0) := cell_of_arr hm.r1 3
      have f0 := frozen_of_arr hm.r1 0
      have f1 := frozen_of_arr hm.r1 1
      have f2 := frozen_of_arr hm.r1 2
      have f3 := frozen_of_arr hm.r1 3
      have l2 : (2 : Int) ≤ (l.length : Int) := by have := HL.out; omega
      have lc : (l.length : Int) ≤ (cap : Int) := by omega
      have HR := Lib.hid hm.r1
      clear hm hrow hnc q
      go_wp2
      all_goals
        refine bodyPost_ret (results_cell_tmp_row rfl _ _ (w.heap.size + 1) 74 _ (0, 0) _ rfl (set4n (set_other HR.out (by omega)) _ _ _ _) Tryz.underlying74 rfl sizeWrap) rfl ?_
        unfold OpA
        rw [HO.out]
        have hbf := fun v v0 v1 v2 v3 => ((((HBr.out.setCell (p := ⟨w.heap.size + 1 + 1, 3, none⟩) (by show w.heap.size ≤ w.heap.size + 1 + 1; omega) v).setCell (p := ⟨w.heap.size + 1, 0, none⟩) (Nat.le_succ _) v0).setCell (p := ⟨w.heap.size + 1, 1, none⟩) (Nat.le_succ _) v1).setCell (p := ⟨w.heap.size + 1, 2, none⟩) (Nat.le_succ _) v2).setCell (p := ⟨w.heap.size + 1, 3, none⟩) (Nat.le_succ _) v3
        refine ⟨_, rfl, ?_, hbf _ _ _ _ _⟩
      · have h2 : ((l.take (l.length - 1)).drop 1).length = 0 := by simp; omega
        rw [List.length_eq_zero_iff.1 h2]
        exact ⟨[], ⟨_, _, rfl, Nat.le_refl _, fun h => absurd h (by simp)⟩, True.intro⟩
      · rw [show l.length - 1 - 1 = l.length - 2 by omega]
        exact (segs_mid HV.out HL.out).kept (fun b hb => ⟨hb, (hbf _ _ _ _ _).block b (HFF.out b hb)⟩)
    | k + 6, h => exact absurd h (by omega)
end Go.Proofs.YtgaoeljdlpemnaaGreatDoor
namespace Go.Proofs.YtgaoeljdlpemnaaGreatDoor
open Go.RowKit Go.Edi Go.Wrap

abbrev digs (n : Nat) : Tx := Lib.decDigits n
def numsE (ns : List Nat) : List (List Tx) := ns.map fun n => [digs n]
def NumsF (w : World) (F : Nat → Prop) (v : Value) (ns : List Nat) : Prop := RowF w F v ns.length (ns.map fun (n : Nat) => Value.int .u64 (n : Int))
theorem heap2 (w : World) (o o' : Obj) (b : Nat) (h : b < w.heap.size) : ((w.alloc o).alloc o').heap[b]? = w.heap[b]? := (Below.heap_alloc _ _ _ (by rw [size_a]; omega)).trans (Below.heap_alloc _ _ _ h)
theorem sizeSegm : (Tryz.prog.info? 112).map (·.size) = some 2 := by kernel_rfl
theorem set2 {W : World} {g : Nat} {x y : Value} {ty : TypeId} (h : W.heap[g]? = some (.cells #[x, y] ty (0, 0))) (a b : Value) :
    ((W.setCell ⟨g, 0, none⟩ a).setCell ⟨g, 1, none⟩ b).heap[g]? = some (.cells #[a, b] ty (0, 0)) := by
  have h1 : (W.setCell ⟨g, 0, none⟩ a).heap[g]? = some (.cells #[a, y] ty (0, 0)) := set_arr h 0 a
  exact set_arr h1 1 b
/-- what told has made, so far: its result's block is still empty -/
structure TdI (w : World) (F : Nat → Prop) (tag : Tx) (es : List (List Tx)) (ve : Value) (wr : World) : Prop where
  oi : OwI w.heap.size (w.heap.size + 1) F [] tag es (.slice none 0 0) ve wr
  r0 : wr.heap[w.heap.size]? = some (.cells #[str [], .slice none 0 0] 112 (0, 0))
  nf : ¬ F w.heap.size
  nv : ve.ownBlock ≠ some w.heap.size
  bl : Below w.heap.size w wr
theorem told_step {w wr w1 w4 : World} {F : Nat → Prop} {tag d : Tx} {es : List (List Tx)} {pe p2 : Option Addr} {cape cap2 k : Nat} {ys : List Value} (HI : TdI w F tag es (.slice pe k cape) wr) (hj : es.length = k) (hyc : ElC wr F es ys)
    (hys : wr.ownsRow w.heap.size 129 1 (.slice pe k cape) k ys) (hb1 : Below wr.heap.size wr w1) (h2 : w4.ownsRow w.heap.size 129 1 (.slice p2 (k + 1) cap2) (k + 1) (ys ++ [.slice (some ⟨w1.heap.size, 0, none⟩) 1 1]))
    (hg2 : ((w1.alloc (.cells #[str d] 9)).alloc (.cells #[.slice (some ⟨w1.heap.size, 0, none⟩) 1 1] 129)).grownBy w4 (Value.slice pe k cape).ownBlock)
    (hk2 : (Value.slice p2 (k + 1) cap2).ownBlock = (Value.slice pe k cape).ownBlock ∨ (Value.slice p2 (k + 1) cap2).ownBlock = some ((w1.alloc (.cells #[str d] 9)).alloc (.cells #[.slice (some ⟨w1.heap.size, 0, none⟩) 1 1] 129)).heap.size) :
    ∃ F', TdI w F' tag (es ++ [[d]]) (.slice p2 (k + 1) cap2) (w4.setCell ⟨w.heap.size + 1, 1, none⟩ (.slice p2 (k + 1) cap2)) := by
  subst hj
  have hs1 := hb1.size
  have hgl : w.heap.size + 1 < wr.heap.size := lt_of_heap HI.oi.hg
  have hs4 : w1.heap.size + 1 + 1 ≤ w4.heap.size := by have := hg2.size; simp only [size_a] at this; exact this
  have hold : ∀ b, b < wr.heap.size → (w1.alloc (.cells #[str d] 9)).heap[b]? = wr.heap[b]? := fun b hb => (Below.heap_alloc _ _ _ (by omega)).trans (hb1.block b hb)
  have h4 : ∀ b, b < wr.heap.size → (Value.slice pe es.length cape).ownBlock ≠ some b → w4.heap[b]? = wr.heap[b]? := fun b hb hne =>
    (hg2.block b (by simp only [size_a]; omega) (Ne.symm hne)).trans ((Below.heap_alloc _ _ _ (by rw [size_a]; omega)).trans (hold b hb))
  refine ⟨_, HI.oi.elem (e := [d]) (k1 := w1.heap.size) (w2 := w1.alloc (.cells #[str d] 9)) hys hyc rfl hs1 ⟨rfl, Or.inr ⟨w1.heap.size, 1, #[str d], rfl, by omega, at_last _ _, by simp, by unfold maxLen; omega, rfl, rfl⟩⟩ hold (by rw [size_a]; omega) h2 hg2 hk2, ?_, ?_, ?_, ?_⟩
  · exact (Below.heap_setCell _ _ _ _ (by show w.heap.size ≠ w.heap.size + 1; omega)).trans ((h4 _ (by omega) HI.nv).trans HI.r0)
  · rintro (h | h)
    · exact HI.nf h
    · simp only [Value.ownBlock, Option.some.injEq] at h; omega
  · rcases hk2 with e | e
    · rw [e]; exact HI.nv
    · rw [e]; simp only [size_a]; intro h; have := Option.some.inj h; omega
  · have hb2 : Below w.heap.size w w4 := (((HI.bl.trans (hb1.mono (by omega))).alloc (by omega) _).alloc (by rw [size_a]; omega) _).grown hg2 (by simp only [size_a]; omega) (fun k hk => (hys.lt k hk).1)
    exact hb2.setCell (by show w.heap.size ≤ w.heap.size + 1; omega) _
set_option maxRecDepth 100000 in
set_option maxHeartbeats 6400000 in
theorem told_any (tag : Tx) (ns : List Nat) (v : Value) (B : Nat) (w : World) (hv : NumsF w (· < w.heap.size) v ns) (hn : ns.length ≤ 1000) (hlt : ∀ n ∈ ns, n < 18446744073709551616) (htab : Tab B w) (hB : B ≤ w.heap.size) :
    Calls Tryz.prog 48 #[str tag, v] w fun e w' => ∃ ve F, e = .returned (.agg #[str tag, ve]) ∧ ElsF w' F ve (numsE ns) ∧ (∀ b, F b → w.heap.size ≤ b ∧ b < w'.heap.size) ∧ Below w.heap.size w w' := by
  obtain ⟨p, cap, rfl, hnc, hp⟩ := hv
  have HP := Lib.hid hp
  have HL := Lib.hid hlt
  have HT := Lib.hid htab
  have HBB := Lib.hid hB
  have HN := Lib.hid hn
  have hnI : (ns.length : Int) ≤ 1000 := by omega
  clear hp hlt htab hB hn
  go_enter Tryz.func48, Tryz.ntmps48
  go_wp2
  go_loopw [12] (fun i wr => ∃ (k : Nat) (F : Nat → Prop) (ve : Value), i = .int .i64 k ∧ k ≤ ns.length ∧ TdI w F tag (numsE (ns.take k)) ve wr) (fun i _ => ns.length - (intOf i).toNat)
  case atStart =>
    refine ⟨0, fun _ => False, .slice none 0 0, rfl, Nat.zero_le _, ⟨⟨Nat.le_succ _, ?_, ⟨[], World.ownsRow_nil _ _ _ _, True.intro⟩, ⟨[], World.ownsRow_nil _ _ _ _, True.intro⟩, by simp [Value.ownBlock], fun b hb => hb.elim⟩, ?_, fun h => h, by simp [Value.ownBlock], ?_⟩⟩
    · exact heap_new _ _ _ (by simp only [size_a])
    · exact heap_past _ _ _ (by simp only [size_a]; omega) (heap_new _ _ _ rfl)
    · exact ((Below.refl _ _).alloc (Nat.le_refl _) _).alloc (by simp only [size_a]; omega) _
  case round =>
    obtain ⟨k, F, ve, rfl, hk, ht⟩ := hrel
    have HTD := Lib.hid ht
    have HI := Lib.hid ht.oi
    have hb := ht.bl
    have HB := Lib.hid hb
    by_cases hlt : (k : Int) < (ns.length : Int)
    · have hkl : k < ns.length := by omega
      have hk0 : (0 : Int) ≤ (k : Int) := Int.natCast_nonneg _
      obtain ⟨b, o, rfl, hF, hc⟩ := HP.out (by omega)
      have hck : wr.cell? ⟨b, o + k, none⟩ = some (.int .u64 ((ns[k]'hkl : Nat) : Int)) := (World.cell?_of_block (a := ⟨b, o + k, none⟩) (hb.block b hF)).trans (hc k _ (by rw [List.getElem?_map, List.getElem?_eq_getElem hkl]; rfl))
      have hnk := HL.out _ (List.getElem_mem hkl)
      have HTK := Lib.hid (show numsE (ns.take (k + 1)) = numsE (ns.take k) ++ [[digs (ns[k]'hkl)]] by rw [numsE, numsE, ← List.take_append_getElem hkl, List.map_append]; rfl)
      generalize ns[k]'hkl = n at *
      obtain ⟨ys, hys, hyc⟩ := HI.out.els
      have hel : (numsE (ns.take k)).length = k := by simp [numsE]; omega
      have HEL := Lib.hid hel
      rw [hel] at hys
      obtain ⟨pe, cape, rfl⟩ := own_slice hys
      obtain ⟨_, cg, fg, hglt⟩ := HI.out.cells
      have HYS := Lib.hid hys
      have HYC := Lib.hid hyc
      have HGL := Lib.hid hglt
      have HNG := Lib.hid (own_not hys HI.out.hg (by decide))
      have HFU := Lib.hid (format_any n hnk B wr.drew (HT.out.on (HB.out.mono HBB.out).drew) (Nat.le_trans HBB.out HB.out.size))
      have cg2 : wr.drew.cell? ⟨w.heap.size + 1, 1, none⟩ = some (.slice pe k cape) := cg
      clear ht hb hys hyc hglt hel hnk hc
      go_upto_region 5 with fail
      go_region_law (first
        | (go_simp
           refine (HFU.out).mono ?_
           rintro e w1 ⟨rfl, hb1⟩
           have hb2 : Below wr.heap.size wr w1 := ⟨hb1.os, hb1.tape, hb1.output, hb1.size, hb1.block⟩
           have C1 : w1.cell? ⟨w.heap.size + 1, 1, none⟩ = some (.slice pe k cape) := (World.cell?_of_block (a := ⟨w.heap.size + 1, 1, none⟩) (hb2.block _ HGL.out)).trans cg
           have hs1 : w.heap.size + 1 < w1.heap.size := Nat.lt_of_lt_of_le HGL.out hb2.size
           have C2 : ∀ o : Obj, (w1.alloc o).cell? ⟨w.heap.size + 1, 1, none⟩ = some (.slice pe k cape) := fun o => (World.cell?_of_block (a := ⟨w.heap.size + 1, 1, none⟩) (Below.heap_alloc _ _ _ hs1)).trans C1
           have C3 : ∀ o o' : Obj, ((w1.alloc o).alloc o').cell? ⟨w.heap.size + 1, 1, none⟩ = some (.slice pe k cape) := fun o o' => (World.cell?_of_block (a := ⟨w.heap.size + 1, 1, none⟩) (Below.heap_alloc _ _ _ (Nat.lt_trans hs1 (by rw [size_a]; exact Nat.lt_succ_self _)))).trans (C2 o)
           have HB1 := Lib.hid hb2
           clear hb1 hb2 hs1)
        | (rw [if_pos (by rfl)]
           refine st_app1 110 129 (.slice none 0 0) 1 24 par_strs Tryz.underlying110 rfl (by decide) (by decide) w.heap.size (.slice pe k cape) k ys rfl (own_keep HYS.out (fun b e => (heap2 _ _ _ _ (by have := (HYS.out.lt b e).2; have := HB1.out.size; omega)).trans (HB1.out.block b (HYS.out.lt b e).2))) (w1.heap.size + 1) 1 [.slice (some ⟨w1.heap.size, 0, none⟩) 1 1] 129 (0, 0) rfl rfl (heap_new _ _ _ (by simp only [size_a])) (by intro u hu; simp at hu; subst hu; rfl) (by have := HN.out; omega) (by have := HB.out.size; have := HB1.out.size; simp only [size_a]; omega) ?_
           intro v2 w4 ho2 hgr2 hbk2
           obtain ⟨p2, cap2, rfl⟩ := own_slice ho2
           have hg4 : w4.heap[w.heap.size + 1]? = wr.heap[w.heap.size + 1]? := (hgr2.block _ (by have := HGL.out; have := HB1.out.size; simp only [size_a]; omega) HNG.out).trans ((heap2 _ _ _ _ (by have := HGL.out; have := HB1.out.size; omega)).trans (HB1.out.block _ HGL.out))
           have C5 : w4.cell? ⟨w.heap.size + 1, 1, none⟩ = some (.slice pe k cape) := (World.cell?_of_block (a := ⟨w.heap.size + 1, 1, none⟩) hg4).trans cg
           have F5 : w4.frozen? ⟨w.heap.size + 1, 1, none⟩ = false := (World.frozen?_of_block (a := ⟨w.heap.size + 1, 1, none⟩) hg4).trans fg
           have H2 := Lib.hid ho2
           have HGR2 := Lib.hid hgr2
           have HK2 := Lib.hid hbk2
           clear ho2 hgr2 hbk2 hg4))
      all_goals
        obtain ⟨F2, hE⟩ := told_step HTD.out HEL.out HYC.out HYS.out HB1.out H2.out HGR2.out HK2.out
        have HE := Lib.hid hE
        clear hE C1 C2 C3 C5 F5 cg fg cg2 hck
        go_wp2
        go_roundw
        case rel => exact ⟨k + 1, F2, _, by go_num, by omega, HTK.out ▸ HE.out⟩
        case measure => simp [intOf]; omega
    · obtain rfl : k = ns.length := by omega
      have hg := ht.oi.hg
      have c0 := cell_of_arr hg 0
      have c1 := cell_of_arr hg 1
      have r0 := cell_of_arr ht.r0 0
      have r1 := cell_of_arr ht.r0 1
      have f0 := frozen_of_arr ht.r0 0
      have f1 := frozen_of_arr ht.r0 1
      have hy := ht.oi.els
      obtain ⟨ys, hys, hyc⟩ := hy
      have hel : (numsE (ns.take ns.length)).length = ns.length := by simp [numsE]
      rw [hel] at hys
      obtain ⟨pe, cape, rfl⟩ := own_slice hys
      have HYS := Lib.hid hys
      have HYC := Lib.hid hyc
      clear hg hys hyc hel ht hb
      have HR0 := Lib.hid HTD.out.r0
      go_wp2
      refine bodyPost_ret (results_cell_row rfl _ _ w.heap.size 112 #[str tag, .slice pe ns.length cape] (0, 0) _ rfl (set2 HR0.out _ _) Tryz.underlying112 rfl sizeSegm) rfl ?_
      have hb := ((HB.out.setCell (p := ⟨w.heap.size, 0, none⟩) (Nat.le_refl _) (str tag)).setCell (p := ⟨w.heap.size, 1, none⟩) (Nat.le_refl _) (.slice pe ns.length cape))
      have hkp : ∀ b, b ≠ w.heap.size → ((wr.setCell ⟨w.heap.size, 0, none⟩ (str tag)).setCell ⟨w.heap.size, 1, none⟩ (.slice pe ns.length cape)).heap[b]? = wr.heap[b]? := fun b hne => (Below.heap_setCell _ _ _ _ hne).trans (Below.heap_setCell _ _ _ _ hne)
      have hsz : ((wr.setCell ⟨w.heap.size, 0, none⟩ (str tag)).setCell ⟨w.heap.size, 1, none⟩ (.slice pe ns.length cape)).heap.size = wr.heap.size := by simp [World.setCell]
      have hoo : ∀ b, (Value.slice pe ns.length cape).ownBlock = some b → b ≠ w.heap.size := fun b e e2 => HTD.out.nv (by rw [e, e2])
      have hff : ∀ b, F b → b ≠ w.heap.size := fun b e e2 => HTD.out.nf (e2 ▸ e)
      rw [List.take_length] at HYC
      refine ⟨_, rfl, fun b => F b ∨ (Value.slice pe ns.length cape).ownBlock = some b, ⟨ys, ?_, HYC.out.kept (fun b h => ⟨Or.inl h, hkp b (hff b h)⟩)⟩, ?_, hb⟩
      · rw [show (numsE ns).length = ns.length by simp [numsE]]
        exact row_own (own_keep HYS.out (fun b e => hkp b (hoo b e))) (fun b e => Or.inr e)
      · rintro b (h | h)
        · have := HTD.out.oi.fz b h
          exact ⟨this.1, by rw [hsz]; exact this.2.1⟩
        · have := HYS.out.lt b h
          exact ⟨this.1, by rw [hsz]; exact this.2⟩
end Go.Proofs.YtgaoeljdlpemnaaGreatDoor
