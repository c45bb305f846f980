/- Contracts: what a field's numbers are taken into. -/
import Derived.Test.YtgaoeljdlpemnaaGreatDoorMgShelf
import Derived.Shelf.SlSorted.Search
import Derived.Lib.AtoiErrMem
import Derived.Deep.RegionHeld
/- Contracts: a number's text, the number that a text tells, numbers cut to their fields' sizes. -/
namespace Go.Proofs.YtgaoeljdlpemnaaGreatDoor
open Go.RowKit Go.Edi Go.Wrap Go.Lib

/-- an error of the library's lies in its variable -/
def VarB (B : Nat) (w : World) (n : String) : Prop := ∀ w', Below B w w' → ∃ (tp : TypeId) (p : Value), w'.var? Tryz.prog n = some #[.iface tp p]
theorem VarB.on {B : Nat} {w w1 : World} {n : String} (h : VarB B w n) (hb : Below B w w1) : VarB B w1 n := fun w' h' => h w' (hb.trans h')
structure Env (B : Nat) (w : World) : Prop where
  tab : Tab B w
  syn : VarB B w "strconv.ErrSyntax"
  rng : VarB B w "strconv.ErrRange"
theorem Env.on {B : Nat} {w w1 : World} (h : Env B w) (hb : Below B w w1) : Env B w1 := ⟨h.tab.on hb, h.syn.on hb, h.rng.on hb⟩
theorem mgtext_any (n : Int) (h : i64B n) (B : Nat) (w : World) (he : Env B w) :
    Calls Tryz.prog 70 #[.int .i64 n] w fun e w' => e = .returned (str (sdig n)) ∧ Below w.heap.size w w' := by
  have H := Lib.hid (Tryz.strconv_FormatInt_10 n h.1 h.2 w he.tab.here)
  clear h he
  go_enter Tryz.func70, Tryz.ntmps70
  go_wp2_with (go_at_call 97; refine (H.out).mono ?_; rintro e w' ⟨rfl, k, os, rfl⟩)
  go_ret
  exact ⟨rfl, below_grown_sl _ _ _ _ (Nat.le_refl _)⟩
/-- what ParseInt answers -/
def PiP (t : Tx) (w : World) (e : Ending) (w' : World) : Prop :=
  (∃ v, Lib.parseIntB 64 t = .ok v ∧ e = .returned (.tuple #[.int .i64 v, .nilIface]) ∧ Below w.heap.size w w') ∨
  (∃ v N, (Lib.parseIntB 64 t = Lib.NumEnd.syntax ∨ Lib.parseIntB 64 t = .range) ∧ e = .returned (.tuple #[.int .i64 v, .iface 250 (.pointer (some ⟨N, 0, none⟩))]) ∧ Below w.heap.size w w')
theorem parseint_any (t : Tx) (ht : t.length ≤ 281474976710656) (B : Nat) (w : World) (he : Env B w) :
    Calls Tryz.prog 135 #[str t, .int .i64 10, .int .i64 64] w (PiP t w) := by
  have hsz : (tx t).size = t.length := by show t.toArray.size = _; simp
  have hdl : (tx t).data.toList = t := by show t.toArray.toList = _; simp
  cases hp : Lib.parseIntB 64 t
  · rename_i v
    refine (Tryz.strconv_ParseInt_10_at64_ok (tx t) (by omega) v (by rw [hdl]; exact hp) w).mono ?_
    rintro e w' ⟨rfl, h⟩
    refine .inl ⟨v, hp, rfl, ?_⟩
    rcases h with rfl | ⟨q, rfl⟩
    · exact Below.refl _ _
    · exact bytesWorld_below _ _ _
  · obtain ⟨tp, p, hv⟩ := he.syn w (Below.refl _ _)
    refine (Tryz.strconv_ParseInt_10_at64_syntax_var (tx t) (by omega) (by rw [hdl]; exact hp) tp p w hv).mono ?_
    rintro e w' ⟨N, rfl, _, _, hb⟩
    exact .inr ⟨_, N, .inl hp, rfl, hb⟩
  · obtain ⟨tp, p, hv⟩ := he.rng w (Below.refl _ _)
    refine (Tryz.strconv_ParseInt_10_at64_range_var (tx t) (by omega) (by rw [hdl]; exact hp) tp p w hv).mono ?_
    rintro e w' ⟨N, rfl, _, _, hb⟩
    exact .inr ⟨_, N, .inr hp, rfl, hb⟩
theorem txl (a : Tx) : (tx a).toList = a := by simp [tx]
def VaP (t : Tx) (w : World) (e : Ending) (w' : World) : Prop :=
  (∃ n, valL t = some n ∧ e = .returned (.tuple #[.int .i64 n, .bool true]) ∧ Below w.heap.size w w') ∨ (valL t = none ∧ e = .returned (.tuple #[.int .i64 0, .bool false]) ∧ Below w.heap.size w w')
set_option maxRecDepth 100000 in
theorem value_any' (t : Tx) (ht : t.length ≤ 281474976710656) (B : Nat) (w : World) (he : Env B w) (hB : B ≤ w.heap.size) :
    Calls Tryz.prog 109 #[str t] w (VaP t w) := by
  have HP := Lib.hid (parseint_any t ht B w he)
  have HE := Lib.hid (fun W (h : Below w.heap.size w W) => he.on (h.mono hB))
  clear ht he hB
  go_enter Tryz.func109, Tryz.ntmps109
  go_wp2_with fail
  refine (HP.out).mono ?_
  rintro e w1 (⟨v, hv, rfl, hb⟩ | ⟨v, N, hv, rfl, hb⟩)
  · have HV := Lib.hid hv
    have HB := Lib.hid hb
    have hi : i64B v := by
      have := Lib.parseIntB_bounds hv
      have e : ((2 ^ (64 - 1) : Nat) : Int) = 9223372036854775808 := rfl
      rw [e] at this
      unfold i64B; omega
    have HT := Lib.hid (mgtext_any v hi B w1 (HE.out _ hb))
    clear hv hb hi
    by_cases hq : sdig v = t
    · have hvt : valL t = some v := by unfold valL; rw [HV.out]; simp [hq]
      have HVT := Lib.hid hvt
      have hne : ((tx (sdig v)).toList == (tx t).toList) = true := by rw [hq]; simp
      clear hvt hq
      go_wp2_with (go_at_call 70; refine (HT.out).mono ?_; rintro e w2 ⟨rfl, hb2⟩)
      go_ret2
      exact .inl ⟨v, HVT.out, rfl, HB.out.trans (hb2.mono HB.out.size)⟩
    · have hvt : valL t = none := by unfold valL; rw [HV.out]; simp [hq]
      have HVT := Lib.hid hvt
      have hne : ((tx (sdig v)).toList == (tx t).toList) = false := by
        rw [txl, txl]; simpa using hq
      clear hvt hq
      go_wp2_with (go_at_call 70; refine (HT.out).mono ?_; rintro e w2 ⟨rfl, hb2⟩)
      go_ret2
      exact .inr ⟨HVT.out, rfl, HB.out.trans (hb2.mono HB.out.size)⟩
  · have hvt : valL t = none := by unfold valL; rcases hv with h | h <;> rw [h]
    have HVT := Lib.hid hvt
    have HB := Lib.hid hb
    clear hvt hb hv
    go_wp2
    go_ret2
    exact .inr ⟨HVT.out, rfl, HB.out⟩
end Go.Proofs.YtgaoeljdlpemnaaGreatDoor
/- Contracts: numbers cut to their fields' sizes; a message in memory. -/
namespace Go.Proofs.YtgaoeljdlpemnaaGreatDoor
open Go.RowKit Go.Edi Go.Wrap Go.Lib
theorem zs1 {α : Type} (l : List α) (i : Nat) (x : α) : l.toArray.setIfInBounds i x = (l.set i x).toArray := List.setIfInBounds_toArray l i x
theorem zs2 {α : Type} (a : α) (l : List α) (x : α) : (a :: l).set 0 x = x :: l := List.set_cons_zero
theorem zs3 {α : Type} (a : α) (l : List α) (n : Nat) (x : α) : (a :: l).set (n + 1) x = a :: l.set n x := List.set_cons_succ
/-- one operation of a drawn region taken first; one that reads and yields; one that is not wanted -/
theorem tkH {P : Program} {md : Region.Mode} {ops : Array Oper} {Q : Exit → Act → World → Prop} {S : World → Prop} {i : Nat} {oi : Oper} {v : Value} {fuel : Nat} {listed : Array Bool} {a : Act} {w : World} (hi : ops[i]? = some oi)
    (hy : YieldsIf P ops S oi v a) (hS : S w) (h : wpAnyH P md ops Q S fuel (listed.setIfInBounds i true) (a.put oi.dst v) w)
    (hb : (Region.noSelect ops && Region.free md ops listed i && (Region.ready md ops listed).contains i) = true := by kernel_rfl)
    (hQ : ∀ c a w, Q (.panic c) (a.put oi.dst v) w → Q (.panic c) a w := by exact fun _ _ _ h => h) : wpAnyH P md ops Q S (fuel + 1) listed a w := by
  simp only [Bool.and_eq_true] at hb
  exact wpAnyH_take hi hb.1.1 hb.1.2 hb.2 hQ hy hS h
theorem qs {P : Program} {ops : Array Oper} {S : World → Prop} {o : Oper} {v : Value} {a : Act} (hw : Region.wanted o (yielded ops a.tmps) = true := by rfl)
    (h : ∀ w, S w → (execOp a.eval o).run P w = .ok (.value v) w := by intro w' hS; go_simp) : YieldsIf P ops S o v a := .inl ⟨hw, h⟩
theorem sko {P : Program} {ops : Array Oper} {S : World → Prop} {o : Oper} {a : Act} (hw : Region.wanted o (yielded ops a.tmps) = false := by rfl) : YieldsIf P ops S o undef a := .inr ⟨hw, rfl⟩

def msV (m : Ms) : List Value := [.int .u8 (m.kind : Int), .int .u8 (m.car : Int), .int .u64 (m.ser : Int), .int .u8 (m.at_ : Int), .int .u8 (m.lc : Int), .int .u16 (m.lf : Int), .int .u32 (m.lw : Int), .int .i64 m.val, .int .u8 (m.st : Int), .int .u32 (m.non : Int), .int .i64 m.am, .int .i64 m.code]
/-- a message's cells in a block, behind others -/
def MsgAt (w : World) (b : Nat) (ty : TypeId) (pre : List Value) (m : Ms) : Prop := w.heap[b]? = some (.cells (pre ++ msV m).toArray ty (0, 0))
theorem arr_set (pre l : List Value) (i : Nat) (v : Value) (_h : i < l.length) : (pre ++ l).toArray.setIfInBounds (pre.length + i) v = (pre ++ l.set i v).toArray := by
  simp
def CutY (b k : Nat) (cs : Array Value) (ty : TypeId) (v : Value) (w : World) (e : Ending) (w' : World) : Prop :=
  e = .returned (.bool true) ∧ w'.heap[b]? = some (.cells (cs.setIfInBounds k v) ty (0, 0)) ∧ w.grownBy w' (some b)
theorem grown_set (w : World) (b k : Nat) (v : Value) : w.grownBy (w.setCell ⟨b, k, none⟩ v) (some b) :=
  ⟨rfl, rfl, rfl, by simp [World.setCell], fun j _ hj => Below.heap_setCell _ _ _ _ (fun e => hj (by rw [e]))⟩
theorem cell_in {w : World} {b k : Nat} {cs : Array Value} {ty : TypeId} (h : w.heap[b]? = some (.cells cs ty (0, 0))) (hk : k < cs.size) : w.cell? ⟨b, k, none⟩ = some cs[k] := by
  rw [cell_of_arr h]; exact Array.getElem?_eq_getElem hk
theorem cutu8_yes (b k : Nat) (cs : Array Value) (ty : TypeId) (n lo hi : Int) (w : World) (h : w.heap[b]? = some (.cells cs ty (0, 0))) (hk : k < cs.size) (h1 : lo ≤ n) (h2 : n ≤ hi) (h3 : 0 ≤ n) (h4 : n ≤ 255) :
    Calls Tryz.prog 106 #[.pointer (some ⟨b, k, none⟩), .int .i64 n, .int .i64 lo, .int .i64 hi] w (CutY b k cs ty (.int .u8 n) w) := by
  have c := cell_in h hk
  have f := frozen_of_arr h k
  have H := Lib.hid h
  clear h
  generalize cs[k] = u at c
  go_enter Tryz.func106, Tryz.ntmps106
  go_wp2
  go_ret
  exact ⟨rfl, heap_setCell_same w b k cs ty (.int .u8 n) H.out, grown_set _ _ _ _⟩
theorem cutu8_no (p : Value) (n lo hi : Int) (w : World) (h : n < lo ∨ (lo ≤ n ∧ hi < n)) :
    Calls Tryz.prog 106 #[p, .int .i64 n, .int .i64 lo, .int .i64 hi] w fun e w' => e = .returned (.bool false) ∧ w = w' := by
  rcases h with h | ⟨h, h'⟩
  all_goals
    go_enter Tryz.func106, Tryz.ntmps106
    go_wp2
    go_ret
    exact ⟨rfl, rfl⟩
theorem cutu16_yes (b k : Nat) (cs : Array Value) (ty : TypeId) (n lo hi : Int) (w : World) (h : w.heap[b]? = some (.cells cs ty (0, 0))) (hk : k < cs.size) (h1 : lo ≤ n) (h2 : n ≤ hi) (h3 : 0 ≤ n) (h4 : n ≤ 65535) :
    Calls Tryz.prog 112 #[.pointer (some ⟨b, k, none⟩), .int .i64 n, .int .i64 lo, .int .i64 hi] w (CutY b k cs ty (.int .u16 n) w) := by
  have c := cell_in h hk
  have f := frozen_of_arr h k
  have H := Lib.hid h
  clear h
  generalize cs[k] = u at c
  go_enter Tryz.func112, Tryz.ntmps112
  go_wp2
  go_ret
  exact ⟨rfl, heap_setCell_same w b k cs ty (.int .u16 n) H.out, grown_set _ _ _ _⟩
theorem cutu16_no (p : Value) (n lo hi : Int) (w : World) (h : n < lo ∨ (lo ≤ n ∧ hi < n)) :
    Calls Tryz.prog 112 #[p, .int .i64 n, .int .i64 lo, .int .i64 hi] w fun e w' => e = .returned (.bool false) ∧ w = w' := by
  rcases h with h | ⟨h, h'⟩
  all_goals
    go_enter Tryz.func112, Tryz.ntmps112
    go_wp2
    go_ret
    exact ⟨rfl, rfl⟩
theorem cutu32_yes (b k : Nat) (cs : Array Value) (ty : TypeId) (n lo hi : Int) (w : World) (h : w.heap[b]? = some (.cells cs ty (0, 0))) (hk : k < cs.size) (h1 : lo ≤ n) (h2 : n ≤ hi) (h3 : 0 ≤ n) (h4 : n ≤ 4294967295) :
    Calls Tryz.prog 113 #[.pointer (some ⟨b, k, none⟩), .int .i64 n, .int .i64 lo, .int .i64 hi] w (CutY b k cs ty (.int .u32 n) w) := by
  have c := cell_in h hk
  have f := frozen_of_arr h k
  have H := Lib.hid h
  clear h
  generalize cs[k] = u at c
  go_enter Tryz.func113, Tryz.ntmps113
  go_wp2
  go_ret
  exact ⟨rfl, heap_setCell_same w b k cs ty (.int .u32 n) H.out, grown_set _ _ _ _⟩
theorem cutu32_no (p : Value) (n lo hi : Int) (w : World) (h : n < lo ∨ (lo ≤ n ∧ hi < n)) :
    Calls Tryz.prog 113 #[p, .int .i64 n, .int .i64 lo, .int .i64 hi] w fun e w' => e = .returned (.bool false) ∧ w = w' := by
  rcases h with h | ⟨h, h'⟩
  all_goals
    go_enter Tryz.func113, Tryz.ntmps113
    go_wp2
    go_ret
    exact ⟨rfl, rfl⟩
theorem cuti64_yes (b k : Nat) (cs : Array Value) (ty : TypeId) (n lo hi : Int) (w : World) (h : w.heap[b]? = some (.cells cs ty (0, 0))) (hk : k < cs.size) (h1 : lo ≤ n) (h2 : n ≤ hi) (_h3 : -9223372036854775808 ≤ n) (_h4 : n ≤ 9223372036854775807) :
    Calls Tryz.prog 114 #[.pointer (some ⟨b, k, none⟩), .int .i64 n, .int .i64 lo, .int .i64 hi] w (CutY b k cs ty (.int .i64 n) w) := by
  have c := cell_in h hk
  have f := frozen_of_arr h k
  have H := Lib.hid h
  clear h
  generalize cs[k] = u at c
  go_enter Tryz.func114, Tryz.ntmps114
  go_wp2
  go_ret
  exact ⟨rfl, heap_setCell_same w b k cs ty (.int .i64 n) H.out, grown_set _ _ _ _⟩
theorem cuti64_no (p : Value) (n lo hi : Int) (w : World) (h : n < lo ∨ (lo ≤ n ∧ hi < n)) :
    Calls Tryz.prog 114 #[p, .int .i64 n, .int .i64 lo, .int .i64 hi] w fun e w' => e = .returned (.bool false) ∧ w = w' := by
  rcases h with h | ⟨h, h'⟩
  all_goals
    go_enter Tryz.func114, Tryz.ntmps114
    go_wp2
    go_ret
    exact ⟨rfl, rfl⟩
theorem cutSt_yes (b k : Nat) (cs : Array Value) (ty : TypeId) (n lo hi : Int) (w : World) (h : w.heap[b]? = some (.cells cs ty (0, 0))) (hk : k < cs.size) (h1 : lo ≤ n) (h2 : n ≤ hi) (h3 : 0 ≤ n) (h4 : n ≤ 255) :
    Calls Tryz.prog 115 #[.pointer (some ⟨b, k, none⟩), .int .i64 n, .int .i64 lo, .int .i64 hi] w (CutY b k cs ty (.int .u8 n) w) := by
  have c := cell_in h hk
  have f := frozen_of_arr h k
  have H := Lib.hid h
  clear h
  generalize cs[k] = u at c
  go_enter Tryz.func115, Tryz.ntmps115
  go_wp2
  go_ret
  exact ⟨rfl, heap_setCell_same w b k cs ty (.int .u8 n) H.out, grown_set _ _ _ _⟩
theorem cutSt_no (p : Value) (n lo hi : Int) (w : World) (h : n < lo ∨ (lo ≤ n ∧ hi < n)) :
    Calls Tryz.prog 115 #[p, .int .i64 n, .int .i64 lo, .int .i64 hi] w fun e w' => e = .returned (.bool false) ∧ w = w' := by
  rcases h with h | ⟨h, h'⟩
  all_goals
    go_enter Tryz.func115, Tryz.ntmps115
    go_wp2
    go_ret
    exact ⟨rfl, rfl⟩
theorem cutEr_yes (b k : Nat) (cs : Array Value) (ty : TypeId) (n lo hi : Int) (w : World) (h : w.heap[b]? = some (.cells cs ty (0, 0))) (hk : k < cs.size) (h1 : lo ≤ n) (h2 : n ≤ hi) (_h3 : -9223372036854775808 ≤ n) (_h4 : n ≤ 9223372036854775807) :
    Calls Tryz.prog 120 #[.pointer (some ⟨b, k, none⟩), .int .i64 n, .int .i64 lo, .int .i64 hi] w (CutY b k cs ty (.int .i64 n) w) := by
  have c := cell_in h hk
  have f := frozen_of_arr h k
  have H := Lib.hid h
  clear h
  generalize cs[k] = u at c
  go_enter Tryz.func120, Tryz.ntmps120
  go_wp2
  go_ret
  exact ⟨rfl, heap_setCell_same w b k cs ty (.int .i64 n) H.out, grown_set _ _ _ _⟩
theorem cutEr_no (p : Value) (n lo hi : Int) (w : World) (h : n < lo ∨ (lo ≤ n ∧ hi < n)) :
    Calls Tryz.prog 120 #[p, .int .i64 n, .int .i64 lo, .int .i64 hi] w fun e w' => e = .returned (.bool false) ∧ w = w' := by
  rcases h with h | ⟨h, h'⟩
  all_goals
    go_enter Tryz.func120, Tryz.ntmps120
    go_wp2
    go_ret
    exact ⟨rfl, rfl⟩
end Go.Proofs.YtgaoeljdlpemnaaGreatDoor
namespace Go.Proofs.YtgaoeljdlpemnaaGreatDoor
open Go.RowKit Go.Edi Go.Wrap Go.Lib

abbrev I64F (w : World) (F : Nat → Prop) (v : Value) (ns : List Int) : Prop := RowF w F v ns.length (ns.map fun n => Value.int .i64 n)
def TakeP (b : Nat) (ty : TypeId) (pre : List Value) (m : Ms) (f : Fd) (l : List Int) (w : World) (e : Ending) (w' : World) : Prop :=
  e = .returned (.bool (takeL m f l).isSome) ∧ w.grownBy w' (some b) ∧ ∀ m', takeL m f l = some m' → MsgAt w' b ty pre m'
theorem grown_trans {a b c : World} {g : Option Nat} (h : a.grownBy b g) (k : b.grownBy c g) : a.grownBy c g :=
  ⟨k.os.trans h.os, k.tape.trans h.tape, k.output.trans h.output, Nat.le_trans h.size k.size, fun j hj hg => (k.block j (Nat.lt_of_lt_of_le hj h.size) hg).trans (h.block j hj hg)⟩
theorem grown_refl (w : World) (g : Option Nat) : w.grownBy w g := ⟨rfl, rfl, rfl, Nat.le_refl _, fun _ _ _ => rfl⟩
theorem grown_drew (w : World) (g : Option Nat) : w.grownBy w.drew g := ⟨rfl, rfl, rfl, Nat.le_refl _, fun _ _ _ => rfl⟩
theorem grown_cell {w w' : World} {b nb k : Nat} {v : Value} (h : w.grownBy w' (some b)) (hne : nb ≠ b) (hc : w.cell? ⟨nb, k, none⟩ = some v) : w'.cell? ⟨nb, k, none⟩ = some v :=
  h.cell hc (by simpa using hne)
set_option maxRecDepth 100000 in
set_option maxHeartbeats 3200000 in
theorem take_cpn_0 (b : Nat) (ty : TypeId) (pre : List Value) (m : Ms) (nb no nc : Nat) (x0 x1 x2 x3 x4 x5 : Int) (w : World) (hm : MsgAt w b ty pre m) (_hnb : nb ≠ b) (hc : w.cell? ⟨nb, no, none⟩ = some (.int .i64 x0) ∧ w.cell? ⟨nb, no + 1, none⟩ = some (.int .i64 x1) ∧ w.cell? ⟨nb, no + 2, none⟩ = some (.int .i64 x2) ∧ w.cell? ⟨nb, no + 3, none⟩ = some (.int .i64 x3) ∧ w.cell? ⟨nb, no + 4, none⟩ = some (.int .i64 x4) ∧ w.cell? ⟨nb, no + 5, none⟩ = some (.int .i64 x5))  (hx0 : x0 < 0 ∨ (0 ≤ x0 ∧ 7 < x0)) :
    Calls Tryz.prog 111 #[.pointer (some ⟨b, pre.length, none⟩), .slice (some ⟨nb, no, none⟩) 6 nc] w fun e w' => e = .returned (.bool false) ∧ w.grownBy w' (some b) := by
  have HM := Lib.hid hm
  have HC := Lib.hid hc
  clear hm hc
  go_enter Tryz.func111, Tryz.ntmps111
  go_wp2
  refine wp_region_held (S := fun w' => w'.cell? ⟨nb, no, none⟩ = some (.int .i64 x0) ∧ w'.cell? ⟨nb, no + 1, none⟩ = some (.int .i64 x1) ∧ w'.cell? ⟨nb, no + 2, none⟩ = some (.int .i64 x2) ∧ w'.cell? ⟨nb, no + 3, none⟩ = some (.int .i64 x3) ∧ w'.cell? ⟨nb, no + 4, none⟩ = some (.int .i64 x4) ∧ w'.cell? ⟨nb, no + 5, none⟩ = some (.int .i64 x5)) (by kernel_rfl) ?_
  change wpAnyH _ _ _ _ _ _ _ _ (World.drew _)
  have HM0 := Lib.hid (show w.drew.heap[b]? = some (.cells (pre ++ msV m).toArray ty (0, 0)) from HM.out)
  have HG0 := Lib.hid (grown_drew w (some b))
  have HS0 := Lib.hid (show w.drew.cell? ⟨nb, no, none⟩ = some (.int .i64 x0) ∧ w.drew.cell? ⟨nb, no + 1, none⟩ = some (.int .i64 x1) ∧ w.drew.cell? ⟨nb, no + 2, none⟩ = some (.int .i64 x2) ∧ w.drew.cell? ⟨nb, no + 3, none⟩ = some (.int .i64 x3) ∧ w.drew.cell? ⟨nb, no + 4, none⟩ = some (.int .i64 x4) ∧ w.drew.cell? ⟨nb, no + 5, none⟩ = some (.int .i64 x5) from HC.out)
  refine tkH (i := 0) (oi := ⟨some 9, .move (.tmp 1), _, _, _, none⟩) (v := .slice (some ⟨nb, no, none⟩) 6 nc) rfl qs HS0.out ?_
  simp only [Act.put, zs1, zs2, zs3]
  refine tkH (i := 1) (oi := ⟨some 10, .call ⟨.builtin .len, #[.tmp 9], _⟩, _, _, _, none⟩) (v := .int .i64 6) rfl qs HS0.out ?_
  simp only [Act.put, zs1, zs2, zs3]
  refine tkH (i := 2) (oi := ⟨some 11, .binOp .eql 3 (.tmp 10) (.const (.int .i64 6)) 3, _, _, _, none⟩) (v := .bool true) rfl qs HS0.out ?_
  simp only [Act.put, zs1, zs2, zs3]
  refine tkH (i := 3) (oi := ⟨some 12, .move (.tmp 11), _, _, _, none⟩) (v := .bool true) rfl qs HS0.out ?_
  simp only [Act.put, zs1, zs2, zs3]
  refine tkH (i := 4) (oi := ⟨some 13, .move (.tmp 5), _, _, _, some (3, true)⟩) (v := .pointer (some ⟨b, pre.length + 4, none⟩)) rfl qs HS0.out ?_
  simp only [Act.put, zs1, zs2, zs3]
  refine tkH (i := 5) (oi := ⟨some 14, .nilCheck (.tmp 13), _, _, _, some (3, true)⟩) (v := .pointer (some ⟨b, pre.length + 4, none⟩)) rfl qs HS0.out ?_
  simp only [Act.put, zs1, zs2, zs3]
  refine tkH (i := 6) (oi := ⟨some 15, .fieldAddr 33 (.tmp 14) 0, _, _, _, some (3, true)⟩) (v := .pointer (some ⟨b, pre.length + 4, none⟩)) rfl qs HS0.out ?_
  simp only [Act.put, zs1, zs2, zs3]
  refine tkH (i := 7) (oi := ⟨some 16, .fieldAddr 30 (.tmp 15) 0, _, _, _, some (3, true)⟩) (v := .pointer (some ⟨b, pre.length + 4, none⟩)) rfl qs HS0.out ?_
  simp only [Act.put, zs1, zs2, zs3]
  refine tkH (i := 8) (oi := ⟨some 17, .move (.tmp 1), _, _, _, some (3, true)⟩) (v := .slice (some ⟨nb, no, none⟩) 6 nc) rfl qs HS0.out ?_
  simp only [Act.put, zs1, zs2, zs3]
  refine tkH (i := 9) (oi := ⟨some 18, .indexAddr 155 (.tmp 17) (.const (.int .i64 0)), _, _, _, some (3, true)⟩) (v := .pointer (some ⟨nb, no, none⟩)) rfl qs HS0.out ?_
  simp only [Act.put, zs1, zs2, zs3]
  refine tkH (i := 10) (oi := ⟨some 19, .load 2 (.tmp 18), _, _, _, some (3, true)⟩) (v := .int .i64 x0) rfl (Or.inl ⟨by rfl, fun w' hS => by have c := hS.1; go_simp⟩) HS0.out ?_
  simp only [Act.put, zs1, zs2, zs3]
  refine wpAnyH_ready (rs := [11]) (by kernel_rfl) (by simp) (AllReadyH.cons (o := ⟨some 20, .call ⟨.value (.func 106), #[.tmp 16, .tmp 19, .const (.int .i64 0), .const (.int .i64 7)], _⟩, _, _, _, some (3, true)⟩) rfl (fun K hK => ?_) AllReadyH.nil)
  go_simp
  refine (cutu8_no _ x0 0 7 _ hx0).mono ?_
  rintro e w1 ⟨rfl, rfl⟩
  have HG1 := Lib.hid HG0.out
  have HS1 := Lib.hid (HS0.out)
  refine hK.out _ _ HS1.out (fun _ => ?_)
  clear hK K
  refine tkH (i := 12) (oi := ⟨some 21, .pick (.tmp 12) (.tmp 20) (.const (.bool false)), _, _, _, none⟩) (v := .bool false) rfl qs HS1.out ?_
  simp only [Act.put, zs1, zs2, zs3]
  refine tkH (i := 13) (oi := ⟨some 22, .move (.tmp 21), _, _, _, none⟩) (v := .bool false) rfl qs HS1.out ?_
  simp only [Act.put, zs1, zs2, zs3]
  refine tkH (i := 14) (oi := ⟨some 23, .move (.tmp 5), _, _, _, some (13, true)⟩) (v := undef) rfl sko HS1.out ?_
  simp only [Act.put, zs1, zs2, zs3]
  refine tkH (i := 15) (oi := ⟨some 24, .nilCheck (.tmp 23), _, _, _, some (13, true)⟩) (v := undef) rfl sko HS1.out ?_
  simp only [Act.put, zs1, zs2, zs3]
  refine tkH (i := 16) (oi := ⟨some 25, .fieldAddr 33 (.tmp 24) 0, _, _, _, some (13, true)⟩) (v := undef) rfl sko HS1.out ?_
  simp only [Act.put, zs1, zs2, zs3]
  refine tkH (i := 17) (oi := ⟨some 26, .fieldAddr 30 (.tmp 25) 1, _, _, _, some (13, true)⟩) (v := undef) rfl sko HS1.out ?_
  simp only [Act.put, zs1, zs2, zs3]
  refine tkH (i := 18) (oi := ⟨some 27, .move (.tmp 1), _, _, _, some (13, true)⟩) (v := undef) rfl sko HS1.out ?_
  simp only [Act.put, zs1, zs2, zs3]
  refine tkH (i := 19) (oi := ⟨some 28, .indexAddr 155 (.tmp 27) (.const (.int .i64 1)), _, _, _, some (13, true)⟩) (v := undef) rfl sko HS1.out ?_
  simp only [Act.put, zs1, zs2, zs3]
  refine tkH (i := 20) (oi := ⟨some 29, .load 2 (.tmp 28), _, _, _, some (13, true)⟩) (v := undef) rfl sko HS1.out ?_
  simp only [Act.put, zs1, zs2, zs3]
  refine tkH (i := 21) (oi := ⟨some 30, .call ⟨.value (.func 112), #[.tmp 26, .tmp 29, .const (.int .i64 0), .const (.int .i64 65535)], _⟩, _, _, _, some (13, true)⟩) (v := undef) rfl sko HS1.out ?_
  simp only [Act.put, zs1, zs2, zs3]
  refine tkH (i := 22) (oi := ⟨some 31, .pick (.tmp 22) (.tmp 30) (.const (.bool false)), _, _, _, none⟩) (v := .bool false) rfl qs HS1.out ?_
  simp only [Act.put, zs1, zs2, zs3]
  refine tkH (i := 23) (oi := ⟨some 32, .move (.tmp 31), _, _, _, none⟩) (v := .bool false) rfl qs HS1.out ?_
  simp only [Act.put, zs1, zs2, zs3]
  refine tkH (i := 24) (oi := ⟨some 33, .move (.tmp 5), _, _, _, some (23, true)⟩) (v := undef) rfl sko HS1.out ?_
  simp only [Act.put, zs1, zs2, zs3]
  refine tkH (i := 25) (oi := ⟨some 34, .nilCheck (.tmp 33), _, _, _, some (23, true)⟩) (v := undef) rfl sko HS1.out ?_
  simp only [Act.put, zs1, zs2, zs3]
  refine tkH (i := 26) (oi := ⟨some 35, .fieldAddr 33 (.tmp 34) 0, _, _, _, some (23, true)⟩) (v := undef) rfl sko HS1.out ?_
  simp only [Act.put, zs1, zs2, zs3]
  refine tkH (i := 27) (oi := ⟨some 36, .fieldAddr 30 (.tmp 35) 2, _, _, _, some (23, true)⟩) (v := undef) rfl sko HS1.out ?_
  simp only [Act.put, zs1, zs2, zs3]
  refine tkH (i := 28) (oi := ⟨some 37, .move (.tmp 1), _, _, _, some (23, true)⟩) (v := undef) rfl sko HS1.out ?_
  simp only [Act.put, zs1, zs2, zs3]
  refine tkH (i := 29) (oi := ⟨some 38, .indexAddr 155 (.tmp 37) (.const (.int .i64 2)), _, _, _, some (23, true)⟩) (v := undef) rfl sko HS1.out ?_
  simp only [Act.put, zs1, zs2, zs3]
  refine tkH (i := 30) (oi := ⟨some 39, .load 2 (.tmp 38), _, _, _, some (23, true)⟩) (v := undef) rfl sko HS1.out ?_
  simp only [Act.put, zs1, zs2, zs3]
  refine tkH (i := 31) (oi := ⟨some 40, .call ⟨.value (.func 113), #[.tmp 36, .tmp 39, .const (.int .i64 0), .const (.int .i64 4294967295)], _⟩, _, _, _, some (23, true)⟩) (v := undef) rfl sko HS1.out ?_
  simp only [Act.put, zs1, zs2, zs3]
  refine tkH (i := 32) (oi := ⟨some 41, .pick (.tmp 32) (.tmp 40) (.const (.bool false)), _, _, _, none⟩) (v := .bool false) rfl qs HS1.out ?_
  simp only [Act.put, zs1, zs2, zs3]
  refine tkH (i := 33) (oi := ⟨some 42, .move (.tmp 41), _, _, _, none⟩) (v := .bool false) rfl qs HS1.out ?_
  simp only [Act.put, zs1, zs2, zs3]
  refine tkH (i := 34) (oi := ⟨some 43, .move (.tmp 5), _, _, _, some (33, true)⟩) (v := undef) rfl sko HS1.out ?_
  simp only [Act.put, zs1, zs2, zs3]
  refine tkH (i := 35) (oi := ⟨some 44, .nilCheck (.tmp 43), _, _, _, some (33, true)⟩) (v := undef) rfl sko HS1.out ?_
  simp only [Act.put, zs1, zs2, zs3]
  refine tkH (i := 36) (oi := ⟨some 45, .fieldAddr 33 (.tmp 44) 1, _, _, _, some (33, true)⟩) (v := undef) rfl sko HS1.out ?_
  simp only [Act.put, zs1, zs2, zs3]
  refine tkH (i := 37) (oi := ⟨some 46, .move (.tmp 1), _, _, _, some (33, true)⟩) (v := undef) rfl sko HS1.out ?_
  simp only [Act.put, zs1, zs2, zs3]
  refine tkH (i := 38) (oi := ⟨some 47, .indexAddr 155 (.tmp 46) (.const (.int .i64 3)), _, _, _, some (33, true)⟩) (v := undef) rfl sko HS1.out ?_
  simp only [Act.put, zs1, zs2, zs3]
  refine tkH (i := 39) (oi := ⟨some 48, .load 2 (.tmp 47), _, _, _, some (33, true)⟩) (v := undef) rfl sko HS1.out ?_
  simp only [Act.put, zs1, zs2, zs3]
  refine tkH (i := 40) (oi := ⟨some 49, .call ⟨.value (.func 114), #[.tmp 45, .tmp 48, .const (.int .i64 (-1125899906842624)), .const (.int .i64 1125899906842624)], _⟩, _, _, _, some (33, true)⟩) (v := undef) rfl sko HS1.out ?_
  simp only [Act.put, zs1, zs2, zs3]
  refine tkH (i := 41) (oi := ⟨some 50, .pick (.tmp 42) (.tmp 49) (.const (.bool false)), _, _, _, none⟩) (v := .bool false) rfl qs HS1.out ?_
  simp only [Act.put, zs1, zs2, zs3]
  refine tkH (i := 42) (oi := ⟨some 51, .move (.tmp 50), _, _, _, none⟩) (v := .bool false) rfl qs HS1.out ?_
  simp only [Act.put, zs1, zs2, zs3]
  refine tkH (i := 43) (oi := ⟨some 52, .move (.tmp 5), _, _, _, some (42, true)⟩) (v := undef) rfl sko HS1.out ?_
  simp only [Act.put, zs1, zs2, zs3]
  refine tkH (i := 44) (oi := ⟨some 53, .nilCheck (.tmp 52), _, _, _, some (42, true)⟩) (v := undef) rfl sko HS1.out ?_
  simp only [Act.put, zs1, zs2, zs3]
  refine tkH (i := 45) (oi := ⟨some 54, .fieldAddr 33 (.tmp 53) 2, _, _, _, some (42, true)⟩) (v := undef) rfl sko HS1.out ?_
  simp only [Act.put, zs1, zs2, zs3]
  refine tkH (i := 46) (oi := ⟨some 55, .move (.tmp 1), _, _, _, some (42, true)⟩) (v := undef) rfl sko HS1.out ?_
  simp only [Act.put, zs1, zs2, zs3]
  refine tkH (i := 47) (oi := ⟨some 56, .indexAddr 155 (.tmp 55) (.const (.int .i64 4)), _, _, _, some (42, true)⟩) (v := undef) rfl sko HS1.out ?_
  simp only [Act.put, zs1, zs2, zs3]
  refine tkH (i := 48) (oi := ⟨some 57, .load 2 (.tmp 56), _, _, _, some (42, true)⟩) (v := undef) rfl sko HS1.out ?_
  simp only [Act.put, zs1, zs2, zs3]
  refine tkH (i := 49) (oi := ⟨some 58, .call ⟨.value (.func 115), #[.tmp 54, .tmp 57, .const (.int .i64 1), .const (.int .i64 7)], _⟩, _, _, _, some (42, true)⟩) (v := undef) rfl sko HS1.out ?_
  simp only [Act.put, zs1, zs2, zs3]
  refine tkH (i := 50) (oi := ⟨some 59, .pick (.tmp 51) (.tmp 58) (.const (.bool false)), _, _, _, none⟩) (v := .bool false) rfl qs HS1.out ?_
  simp only [Act.put, zs1, zs2, zs3]
  refine tkH (i := 51) (oi := ⟨some 60, .move (.tmp 59), _, _, _, none⟩) (v := .bool false) rfl qs HS1.out ?_
  simp only [Act.put, zs1, zs2, zs3]
  refine tkH (i := 52) (oi := ⟨some 61, .move (.tmp 5), _, _, _, some (51, true)⟩) (v := undef) rfl sko HS1.out ?_
  simp only [Act.put, zs1, zs2, zs3]
  refine tkH (i := 53) (oi := ⟨some 62, .nilCheck (.tmp 61), _, _, _, some (51, true)⟩) (v := undef) rfl sko HS1.out ?_
  simp only [Act.put, zs1, zs2, zs3]
  refine tkH (i := 54) (oi := ⟨some 63, .fieldAddr 33 (.tmp 62) 3, _, _, _, some (51, true)⟩) (v := undef) rfl sko HS1.out ?_
  simp only [Act.put, zs1, zs2, zs3]
  refine tkH (i := 55) (oi := ⟨some 64, .move (.tmp 1), _, _, _, some (51, true)⟩) (v := undef) rfl sko HS1.out ?_
  simp only [Act.put, zs1, zs2, zs3]
  refine tkH (i := 56) (oi := ⟨some 65, .indexAddr 155 (.tmp 64) (.const (.int .i64 5)), _, _, _, some (51, true)⟩) (v := undef) rfl sko HS1.out ?_
  simp only [Act.put, zs1, zs2, zs3]
  refine tkH (i := 57) (oi := ⟨some 66, .load 2 (.tmp 65), _, _, _, some (51, true)⟩) (v := undef) rfl sko HS1.out ?_
  simp only [Act.put, zs1, zs2, zs3]
  refine tkH (i := 58) (oi := ⟨some 67, .call ⟨.value (.func 113), #[.tmp 63, .tmp 66, .const (.int .i64 0), .const (.int .i64 4294967295)], _⟩, _, _, _, some (51, true)⟩) (v := undef) rfl sko HS1.out ?_
  simp only [Act.put, zs1, zs2, zs3]
  refine tkH (i := 59) (oi := ⟨some 68, .pick (.tmp 60) (.tmp 67) (.const (.bool false)), _, _, _, none⟩) (v := .bool false) rfl qs HS1.out ?_
  simp only [Act.put, zs1, zs2, zs3]
  refine tkH (i := 60) (oi := ⟨some 4, .assign (.tmp 68), _, _, _, none⟩) (v := .bool false) rfl qs HS1.out ?_
  simp only [Act.put, zs1, zs2, zs3]
  refine wpAnyH_done (by kernel_rfl) ?_ _
  go_wp2
  go_ret
  exact ⟨rfl, HG1.out⟩
set_option maxRecDepth 100000 in
set_option maxHeartbeats 3200000 in
theorem take_cpn_1 (b : Nat) (ty : TypeId) (pre : List Value) (m : Ms) (nb no nc : Nat) (x0 x1 x2 x3 x4 x5 : Int) (w : World) (hm : MsgAt w b ty pre m) (hnb : nb ≠ b) (hc : w.cell? ⟨nb, no, none⟩ = some (.int .i64 x0) ∧ w.cell? ⟨nb, no + 1, none⟩ = some (.int .i64 x1) ∧ w.cell? ⟨nb, no + 2, none⟩ = some (.int .i64 x2) ∧ w.cell? ⟨nb, no + 3, none⟩ = some (.int .i64 x3) ∧ w.cell? ⟨nb, no + 4, none⟩ = some (.int .i64 x4) ∧ w.cell? ⟨nb, no + 5, none⟩ = some (.int .i64 x5)) (hx0 : 0 ≤ x0 ∧ x0 ≤ 7) (hx1 : x1 < 0 ∨ (0 ≤ x1 ∧ 65535 < x1)) :
    Calls Tryz.prog 111 #[.pointer (some ⟨b, pre.length, none⟩), .slice (some ⟨nb, no, none⟩) 6 nc] w fun e w' => e = .returned (.bool false) ∧ w.grownBy w' (some b) := by
  have HM := Lib.hid hm
  have HC := Lib.hid hc
  clear hm hc
  go_enter Tryz.func111, Tryz.ntmps111
  go_wp2
  refine wp_region_held (S := fun w' => w'.cell? ⟨nb, no, none⟩ = some (.int .i64 x0) ∧ w'.cell? ⟨nb, no + 1, none⟩ = some (.int .i64 x1) ∧ w'.cell? ⟨nb, no + 2, none⟩ = some (.int .i64 x2) ∧ w'.cell? ⟨nb, no + 3, none⟩ = some (.int .i64 x3) ∧ w'.cell? ⟨nb, no + 4, none⟩ = some (.int .i64 x4) ∧ w'.cell? ⟨nb, no + 5, none⟩ = some (.int .i64 x5)) (by kernel_rfl) ?_
  change wpAnyH _ _ _ _ _ _ _ _ (World.drew _)
  have HM0 := Lib.hid (show w.drew.heap[b]? = some (.cells (pre ++ msV m).toArray ty (0, 0)) from HM.out)
  have HG0 := Lib.hid (grown_drew w (some b))
  have HS0 := Lib.hid (show w.drew.cell? ⟨nb, no, none⟩ = some (.int .i64 x0) ∧ w.drew.cell? ⟨nb, no + 1, none⟩ = some (.int .i64 x1) ∧ w.drew.cell? ⟨nb, no + 2, none⟩ = some (.int .i64 x2) ∧ w.drew.cell? ⟨nb, no + 3, none⟩ = some (.int .i64 x3) ∧ w.drew.cell? ⟨nb, no + 4, none⟩ = some (.int .i64 x4) ∧ w.drew.cell? ⟨nb, no + 5, none⟩ = some (.int .i64 x5) from HC.out)
  refine tkH (i := 0) (oi := ⟨some 9, .move (.tmp 1), _, _, _, none⟩) (v := .slice (some ⟨nb, no, none⟩) 6 nc) rfl qs HS0.out ?_
  simp only [Act.put, zs1, zs2, zs3]
  refine tkH (i := 1) (oi := ⟨some 10, .call ⟨.builtin .len, #[.tmp 9], _⟩, _, _, _, none⟩) (v := .int .i64 6) rfl qs HS0.out ?_
  simp only [Act.put, zs1, zs2, zs3]
  refine tkH (i := 2) (oi := ⟨some 11, .binOp .eql 3 (.tmp 10) (.const (.int .i64 6)) 3, _, _, _, none⟩) (v := .bool true) rfl qs HS0.out ?_
  simp only [Act.put, zs1, zs2, zs3]
  refine tkH (i := 3) (oi := ⟨some 12, .move (.tmp 11), _, _, _, none⟩) (v := .bool true) rfl qs HS0.out ?_
  simp only [Act.put, zs1, zs2, zs3]
  refine tkH (i := 4) (oi := ⟨some 13, .move (.tmp 5), _, _, _, some (3, true)⟩) (v := .pointer (some ⟨b, pre.length + 4, none⟩)) rfl qs HS0.out ?_
  simp only [Act.put, zs1, zs2, zs3]
  refine tkH (i := 5) (oi := ⟨some 14, .nilCheck (.tmp 13), _, _, _, some (3, true)⟩) (v := .pointer (some ⟨b, pre.length + 4, none⟩)) rfl qs HS0.out ?_
  simp only [Act.put, zs1, zs2, zs3]
  refine tkH (i := 6) (oi := ⟨some 15, .fieldAddr 33 (.tmp 14) 0, _, _, _, some (3, true)⟩) (v := .pointer (some ⟨b, pre.length + 4, none⟩)) rfl qs HS0.out ?_
  simp only [Act.put, zs1, zs2, zs3]
  refine tkH (i := 7) (oi := ⟨some 16, .fieldAddr 30 (.tmp 15) 0, _, _, _, some (3, true)⟩) (v := .pointer (some ⟨b, pre.length + 4, none⟩)) rfl qs HS0.out ?_
  simp only [Act.put, zs1, zs2, zs3]
  refine tkH (i := 8) (oi := ⟨some 17, .move (.tmp 1), _, _, _, some (3, true)⟩) (v := .slice (some ⟨nb, no, none⟩) 6 nc) rfl qs HS0.out ?_
  simp only [Act.put, zs1, zs2, zs3]
  refine tkH (i := 9) (oi := ⟨some 18, .indexAddr 155 (.tmp 17) (.const (.int .i64 0)), _, _, _, some (3, true)⟩) (v := .pointer (some ⟨nb, no, none⟩)) rfl qs HS0.out ?_
  simp only [Act.put, zs1, zs2, zs3]
  refine tkH (i := 10) (oi := ⟨some 19, .load 2 (.tmp 18), _, _, _, some (3, true)⟩) (v := .int .i64 x0) rfl (Or.inl ⟨by rfl, fun w' hS => by have c := hS.1; go_simp⟩) HS0.out ?_
  simp only [Act.put, zs1, zs2, zs3]
  refine wpAnyH_ready (rs := [11]) (by kernel_rfl) (by simp) (AllReadyH.cons (o := ⟨some 20, .call ⟨.value (.func 106), #[.tmp 16, .tmp 19, .const (.int .i64 0), .const (.int .i64 7)], _⟩, _, _, _, some (3, true)⟩) rfl (fun K hK => ?_) AllReadyH.nil)
  go_simp
  refine (cutu8_yes b (pre.length + 4) ((pre ++ msV m).toArray) ty x0 0 7 _ HM0.out (by simp [msV]) hx0.1 hx0.2 (by omega) (by omega)).mono ?_
  rintro e w1 ⟨rfl, hm, hg⟩
  have HM1 := Lib.hid hm
  have HG1 := Lib.hid (grown_trans HG0.out hg)
  have HS1 := Lib.hid (show w1.cell? ⟨nb, no, none⟩ = some (.int .i64 x0) ∧ w1.cell? ⟨nb, no + 1, none⟩ = some (.int .i64 x1) ∧ w1.cell? ⟨nb, no + 2, none⟩ = some (.int .i64 x2) ∧ w1.cell? ⟨nb, no + 3, none⟩ = some (.int .i64 x3) ∧ w1.cell? ⟨nb, no + 4, none⟩ = some (.int .i64 x4) ∧ w1.cell? ⟨nb, no + 5, none⟩ = some (.int .i64 x5) from ⟨grown_cell hg hnb HS0.out.1, grown_cell hg hnb HS0.out.2.1, grown_cell hg hnb HS0.out.2.2.1, grown_cell hg hnb HS0.out.2.2.2.1, grown_cell hg hnb HS0.out.2.2.2.2.1, grown_cell hg hnb HS0.out.2.2.2.2.2⟩)
  clear hm hg
  refine hK.out _ _ HS1.out (fun _ => ?_)
  clear hK K
  refine tkH (i := 12) (oi := ⟨some 21, .pick (.tmp 12) (.tmp 20) (.const (.bool false)), _, _, _, none⟩) (v := .bool true) rfl qs HS1.out ?_
  simp only [Act.put, zs1, zs2, zs3]
  refine tkH (i := 13) (oi := ⟨some 22, .move (.tmp 21), _, _, _, none⟩) (v := .bool true) rfl qs HS1.out ?_
  simp only [Act.put, zs1, zs2, zs3]
  refine tkH (i := 14) (oi := ⟨some 23, .move (.tmp 5), _, _, _, some (13, true)⟩) (v := .pointer (some ⟨b, pre.length + 4, none⟩)) rfl qs HS1.out ?_
  simp only [Act.put, zs1, zs2, zs3]
  refine tkH (i := 15) (oi := ⟨some 24, .nilCheck (.tmp 23), _, _, _, some (13, true)⟩) (v := .pointer (some ⟨b, pre.length + 4, none⟩)) rfl qs HS1.out ?_
  simp only [Act.put, zs1, zs2, zs3]
  refine tkH (i := 16) (oi := ⟨some 25, .fieldAddr 33 (.tmp 24) 0, _, _, _, some (13, true)⟩) (v := .pointer (some ⟨b, pre.length + 4, none⟩)) rfl qs HS1.out ?_
  simp only [Act.put, zs1, zs2, zs3]
  refine tkH (i := 17) (oi := ⟨some 26, .fieldAddr 30 (.tmp 25) 1, _, _, _, some (13, true)⟩) (v := .pointer (some ⟨b, pre.length + 5, none⟩)) rfl qs HS1.out ?_
  simp only [Act.put, zs1, zs2, zs3]
  refine tkH (i := 18) (oi := ⟨some 27, .move (.tmp 1), _, _, _, some (13, true)⟩) (v := .slice (some ⟨nb, no, none⟩) 6 nc) rfl qs HS1.out ?_
  simp only [Act.put, zs1, zs2, zs3]
  refine tkH (i := 19) (oi := ⟨some 28, .indexAddr 155 (.tmp 27) (.const (.int .i64 1)), _, _, _, some (13, true)⟩) (v := .pointer (some ⟨nb, no + 1, none⟩)) rfl qs HS1.out ?_
  simp only [Act.put, zs1, zs2, zs3]
  refine tkH (i := 20) (oi := ⟨some 29, .load 2 (.tmp 28), _, _, _, some (13, true)⟩) (v := .int .i64 x1) rfl (Or.inl ⟨by rfl, fun w' hS => by have c := hS.2.1; go_simp⟩) HS1.out ?_
  simp only [Act.put, zs1, zs2, zs3]
  refine wpAnyH_ready (rs := [21]) (by kernel_rfl) (by simp) (AllReadyH.cons (o := ⟨some 30, .call ⟨.value (.func 112), #[.tmp 26, .tmp 29, .const (.int .i64 0), .const (.int .i64 65535)], _⟩, _, _, _, some (13, true)⟩) rfl (fun K hK => ?_) AllReadyH.nil)
  go_simp
  refine (cutu16_no _ x1 0 65535 _ hx1).mono ?_
  rintro e w2 ⟨rfl, rfl⟩
  have HG2 := Lib.hid HG1.out
  have HS2 := Lib.hid (HS1.out)
  refine hK.out _ _ HS2.out (fun _ => ?_)
  clear hK K
  refine tkH (i := 22) (oi := ⟨some 31, .pick (.tmp 22) (.tmp 30) (.const (.bool false)), _, _, _, none⟩) (v := .bool false) rfl qs HS2.out ?_
  simp only [Act.put, zs1, zs2, zs3]
  refine tkH (i := 23) (oi := ⟨some 32, .move (.tmp 31), _, _, _, none⟩) (v := .bool false) rfl qs HS2.out ?_
  simp only [Act.put, zs1, zs2, zs3]
  refine tkH (i := 24) (oi := ⟨some 33, .move (.tmp 5), _, _, _, some (23, true)⟩) (v := undef) rfl sko HS2.out ?_
  simp only [Act.put, zs1, zs2, zs3]
  refine tkH (i := 25) (oi := ⟨some 34, .nilCheck (.tmp 33), _, _, _, some (23, true)⟩) (v := undef) rfl sko HS2.out ?_
  simp only [Act.put, zs1, zs2, zs3]
  refine tkH (i := 26) (oi := ⟨some 35, .fieldAddr 33 (.tmp 34) 0, _, _, _, some (23, true)⟩) (v := undef) rfl sko HS2.out ?_
  simp only [Act.put, zs1, zs2, zs3]
  refine tkH (i := 27) (oi := ⟨some 36, .fieldAddr 30 (.tmp 35) 2, _, _, _, some (23, true)⟩) (v := undef) rfl sko HS2.out ?_
  simp only [Act.put, zs1, zs2, zs3]
  refine tkH (i := 28) (oi := ⟨some 37, .move (.tmp 1), _, _, _, some (23, true)⟩) (v := undef) rfl sko HS2.out ?_
  simp only [Act.put, zs1, zs2, zs3]
  refine tkH (i := 29) (oi := ⟨some 38, .indexAddr 155 (.tmp 37) (.const (.int .i64 2)), _, _, _, some (23, true)⟩) (v := undef) rfl sko HS2.out ?_
  simp only [Act.put, zs1, zs2, zs3]
  refine tkH (i := 30) (oi := ⟨some 39, .load 2 (.tmp 38), _, _, _, some (23, true)⟩) (v := undef) rfl sko HS2.out ?_
  simp only [Act.put, zs1, zs2, zs3]
  refine tkH (i := 31) (oi := ⟨some 40, .call ⟨.value (.func 113), #[.tmp 36, .tmp 39, .const (.int .i64 0), .const (.int .i64 4294967295)], _⟩, _, _, _, some (23, true)⟩) (v := undef) rfl sko HS2.out ?_
  simp only [Act.put, zs1, zs2, zs3]
  refine tkH (i := 32) (oi := ⟨some 41, .pick (.tmp 32) (.tmp 40) (.const (.bool false)), _, _, _, none⟩) (v := .bool false) rfl qs HS2.out ?_
  simp only [Act.put, zs1, zs2, zs3]
  refine tkH (i := 33) (oi := ⟨some 42, .move (.tmp 41), _, _, _, none⟩) (v := .bool false) rfl qs HS2.out ?_
  simp only [Act.put, zs1, zs2, zs3]
  refine tkH (i := 34) (oi := ⟨some 43, .move (.tmp 5), _, _, _, some (33, true)⟩) (v := undef) rfl sko HS2.out ?_
  simp only [Act.put, zs1, zs2, zs3]
  refine tkH (i := 35) (oi := ⟨some 44, .nilCheck (.tmp 43), _, _, _, some (33, true)⟩) (v := undef) rfl sko HS2.out ?_
  simp only [Act.put, zs1, zs2, zs3]
  refine tkH (i := 36) (oi := ⟨some 45, .fieldAddr 33 (.tmp 44) 1, _, _, _, some (33, true)⟩) (v := undef) rfl sko HS2.out ?_
  simp only [Act.put, zs1, zs2, zs3]
  refine tkH (i := 37) (oi := ⟨some 46, .move (.tmp 1), _, _, _, some (33, true)⟩) (v := undef) rfl sko HS2.out ?_
  simp only [Act.put, zs1, zs2, zs3]
  refine tkH (i := 38) (oi := ⟨some 47, .indexAddr 155 (.tmp 46) (.const (.int .i64 3)), _, _, _, some (33, true)⟩) (v := undef) rfl sko HS2.out ?_
  simp only [Act.put, zs1, zs2, zs3]
  refine tkH (i := 39) (oi := ⟨some 48, .load 2 (.tmp 47), _, _, _, some (33, true)⟩) (v := undef) rfl sko HS2.out ?_
  simp only [Act.put, zs1, zs2, zs3]
  refine tkH (i := 40) (oi := ⟨some 49, .call ⟨.value (.func 114), #[.tmp 45, .tmp 48, .const (.int .i64 (-1125899906842624)), .const (.int .i64 1125899906842624)], _⟩, _, _, _, some (33, true)⟩) (v := undef) rfl sko HS2.out ?_
  simp only [Act.put, zs1, zs2, zs3]
  refine tkH (i := 41) (oi := ⟨some 50, .pick (.tmp 42) (.tmp 49) (.const (.bool false)), _, _, _, none⟩) (v := .bool false) rfl qs HS2.out ?_
  simp only [Act.put, zs1, zs2, zs3]
  refine tkH (i := 42) (oi := ⟨some 51, .move (.tmp 50), _, _, _, none⟩) (v := .bool false) rfl qs HS2.out ?_
  simp only [Act.put, zs1, zs2, zs3]
  refine tkH (i := 43) (oi := ⟨some 52, .move (.tmp 5), _, _, _, some (42, true)⟩) (v := undef) rfl sko HS2.out ?_
  simp only [Act.put, zs1, zs2, zs3]
  refine tkH (i := 44) (oi := ⟨some 53, .nilCheck (.tmp 52), _, _, _, some (42, true)⟩) (v := undef) rfl sko HS2.out ?_
  simp only [Act.put, zs1, zs2, zs3]
  refine tkH (i := 45) (oi := ⟨some 54, .fieldAddr 33 (.tmp 53) 2, _, _, _, some (42, true)⟩) (v := undef) rfl sko HS2.out ?_
  simp only [Act.put, zs1, zs2, zs3]
  refine tkH (i := 46) (oi := ⟨some 55, .move (.tmp 1), _, _, _, some (42, true)⟩) (v := undef) rfl sko HS2.out ?_
  simp only [Act.put, zs1, zs2, zs3]
  refine tkH (i := 47) (oi := ⟨some 56, .indexAddr 155 (.tmp 55) (.const (.int .i64 4)), _, _, _, some (42, true)⟩) (v := undef) rfl sko HS2.out ?_
  simp only [Act.put, zs1, zs2, zs3]
  refine tkH (i := 48) (oi := ⟨some 57, .load 2 (.tmp 56), _, _, _, some (42, true)⟩) (v := undef) rfl sko HS2.out ?_
  simp only [Act.put, zs1, zs2, zs3]
  refine tkH (i := 49) (oi := ⟨some 58, .call ⟨.value (.func 115), #[.tmp 54, .tmp 57, .const (.int .i64 1), .const (.int .i64 7)], _⟩, _, _, _, some (42, true)⟩) (v := undef) rfl sko HS2.out ?_
  simp only [Act.put, zs1, zs2, zs3]
  refine tkH (i := 50) (oi := ⟨some 59, .pick (.tmp 51) (.tmp 58) (.const (.bool false)), _, _, _, none⟩) (v := .bool false) rfl qs HS2.out ?_
  simp only [Act.put, zs1, zs2, zs3]
  refine tkH (i := 51) (oi := ⟨some 60, .move (.tmp 59), _, _, _, none⟩) (v := .bool false) rfl qs HS2.out ?_
  simp only [Act.put, zs1, zs2, zs3]
  refine tkH (i := 52) (oi := ⟨some 61, .move (.tmp 5), _, _, _, some (51, true)⟩) (v := undef) rfl sko HS2.out ?_
  simp only [Act.put, zs1, zs2, zs3]
  refine tkH (i := 53) (oi := ⟨some 62, .nilCheck (.tmp 61), _, _, _, some (51, true)⟩) (v := undef) rfl sko HS2.out ?_
  simp only [Act.put, zs1, zs2, zs3]
  refine tkH (i := 54) (oi := ⟨some 63, .fieldAddr 33 (.tmp 62) 3, _, _, _, some (51, true)⟩) (v := undef) rfl sko HS2.out ?_
  simp only [Act.put, zs1, zs2, zs3]
  refine tkH (i := 55) (oi := ⟨some 64, .move (.tmp 1), _, _, _, some (51, true)⟩) (v := undef) rfl sko HS2.out ?_
  simp only [Act.put, zs1, zs2, zs3]
  refine tkH (i := 56) (oi := ⟨some 65, .indexAddr 155 (.tmp 64) (.const (.int .i64 5)), _, _, _, some (51, true)⟩) (v := undef) rfl sko HS2.out ?_
  simp only [Act.put, zs1, zs2, zs3]
  refine tkH (i := 57) (oi := ⟨some 66, .load 2 (.tmp 65), _, _, _, some (51, true)⟩) (v := undef) rfl sko HS2.out ?_
  simp only [Act.put, zs1, zs2, zs3]
  refine tkH (i := 58) (oi := ⟨some 67, .call ⟨.value (.func 113), #[.tmp 63, .tmp 66, .const (.int .i64 0), .const (.int .i64 4294967295)], _⟩, _, _, _, some (51, true)⟩) (v := undef) rfl sko HS2.out ?_
  simp only [Act.put, zs1, zs2, zs3]
  refine tkH (i := 59) (oi := ⟨some 68, .pick (.tmp 60) (.tmp 67) (.const (.bool false)), _, _, _, none⟩) (v := .bool false) rfl qs HS2.out ?_
  simp only [Act.put, zs1, zs2, zs3]
  refine tkH (i := 60) (oi := ⟨some 4, .assign (.tmp 68), _, _, _, none⟩) (v := .bool false) rfl qs HS2.out ?_
  simp only [Act.put, zs1, zs2, zs3]
  refine wpAnyH_done (by kernel_rfl) ?_ _
  go_wp2
  go_ret
  exact ⟨rfl, HG2.out⟩
set_option maxRecDepth 100000 in
set_option maxHeartbeats 3200000 in
theorem take_cpn_2 (b : Nat) (ty : TypeId) (pre : List Value) (m : Ms) (nb no nc : Nat) (x0 x1 x2 x3 x4 x5 : Int) (w : World) (hm : MsgAt w b ty pre m) (hnb : nb ≠ b) (hc : w.cell? ⟨nb, no, none⟩ = some (.int .i64 x0) ∧ w.cell? ⟨nb, no + 1, none⟩ = some (.int .i64 x1) ∧ w.cell? ⟨nb, no + 2, none⟩ = some (.int .i64 x2) ∧ w.cell? ⟨nb, no + 3, none⟩ = some (.int .i64 x3) ∧ w.cell? ⟨nb, no + 4, none⟩ = some (.int .i64 x4) ∧ w.cell? ⟨nb, no + 5, none⟩ = some (.int .i64 x5)) (hx0 : 0 ≤ x0 ∧ x0 ≤ 7) (hx1 : 0 ≤ x1 ∧ x1 ≤ 65535) (hx2 : x2 < 0 ∨ (0 ≤ x2 ∧ 4294967295 < x2)) :
    Calls Tryz.prog 111 #[.pointer (some ⟨b, pre.length, none⟩), .slice (some ⟨nb, no, none⟩) 6 nc] w fun e w' => e = .returned (.bool false) ∧ w.grownBy w' (some b) := by
  have HM := Lib.hid hm
  have HC := Lib.hid hc
  clear hm hc
  go_enter Tryz.func111, Tryz.ntmps111
  go_wp2
  refine wp_region_held (S := fun w' => w'.cell? ⟨nb, no, none⟩ = some (.int .i64 x0) ∧ w'.cell? ⟨nb, no + 1, none⟩ = some (.int .i64 x1) ∧ w'.cell? ⟨nb, no + 2, none⟩ = some (.int .i64 x2) ∧ w'.cell? ⟨nb, no + 3, none⟩ = some (.int .i64 x3) ∧ w'.cell? ⟨nb, no + 4, none⟩ = some (.int .i64 x4) ∧ w'.cell? ⟨nb, no + 5, none⟩ = some (.int .i64 x5)) (by kernel_rfl) ?_
  change wpAnyH _ _ _ _ _ _ _ _ (World.drew _)
  have HM0 := Lib.hid (show w.drew.heap[b]? = some (.cells (pre ++ msV m).toArray ty (0, 0)) from HM.out)
  have HG0 := Lib.hid (grown_drew w (some b))
  have HS0 := Lib.hid (show w.drew.cell? ⟨nb, no, none⟩ = some (.int .i64 x0) ∧ w.drew.cell? ⟨nb, no + 1, none⟩ = some (.int .i64 x1) ∧ w.drew.cell? ⟨nb, no + 2, none⟩ = some (.int .i64 x2) ∧ w.drew.cell? ⟨nb, no + 3, none⟩ = some (.int .i64 x3) ∧ w.drew.cell? ⟨nb, no + 4, none⟩ = some (.int .i64 x4) ∧ w.drew.cell? ⟨nb, no + 5, none⟩ = some (.int .i64 x5) from HC.out)
  refine tkH (i := 0) (oi := ⟨some 9, .move (.tmp 1), _, _, _, none⟩) (v := .slice (some ⟨nb, no, none⟩) 6 nc) rfl qs HS0.out ?_
  simp only [Act.put, zs1, zs2, zs3]
  refine tkH (i := 1) (oi := ⟨some 10, .call ⟨.builtin .len, #[.tmp 9], _⟩, _, _, _, none⟩) (v := .int .i64 6) rfl qs HS0.out ?_
  simp only [Act.put, zs1, zs2, zs3]
  refine tkH (i := 2) (oi := ⟨some 11, .binOp .eql 3 (.tmp 10) (.const (.int .i64 6)) 3, _, _, _, none⟩) (v := .bool true) rfl qs HS0.out ?_
  simp only [Act.put, zs1, zs2, zs3]
  refine tkH (i := 3) (oi := ⟨some 12, .move (.tmp 11), _, _, _, none⟩) (v := .bool true) rfl qs HS0.out ?_
  simp only [Act.put, zs1, zs2, zs3]
  refine tkH (i := 4) (oi := ⟨some 13, .move (.tmp 5), _, _, _, some (3, true)⟩) (v := .pointer (some ⟨b, pre.length + 4, none⟩)) rfl qs HS0.out ?_
  simp only [Act.put, zs1, zs2, zs3]
  refine tkH (i := 5) (oi := ⟨some 14, .nilCheck (.tmp 13), _, _, _, some (3, true)⟩) (v := .pointer (some ⟨b, pre.length + 4, none⟩)) rfl qs HS0.out ?_
  simp only [Act.put, zs1, zs2, zs3]
  refine tkH (i := 6) (oi := ⟨some 15, .fieldAddr 33 (.tmp 14) 0, _, _, _, some (3, true)⟩) (v := .pointer (some ⟨b, pre.length + 4, none⟩)) rfl qs HS0.out ?_
  simp only [Act.put, zs1, zs2, zs3]
  refine tkH (i := 7) (oi := ⟨some 16, .fieldAddr 30 (.tmp 15) 0, _, _, _, some (3, true)⟩) (v := .pointer (some ⟨b, pre.length + 4, none⟩)) rfl qs HS0.out ?_
  simp only [Act.put, zs1, zs2, zs3]
  refine tkH (i := 8) (oi := ⟨some 17, .move (.tmp 1), _, _, _, some (3, true)⟩) (v := .slice (some ⟨nb, no, none⟩) 6 nc) rfl qs HS0.out ?_
  simp only [Act.put, zs1, zs2, zs3]
  refine tkH (i := 9) (oi := ⟨some 18, .indexAddr 155 (.tmp 17) (.const (.int .i64 0)), _, _, _, some (3, true)⟩) (v := .pointer (some ⟨nb, no, none⟩)) rfl qs HS0.out ?_
  simp only [Act.put, zs1, zs2, zs3]
  refine tkH (i := 10) (oi := ⟨some 19, .load 2 (.tmp 18), _, _, _, some (3, true)⟩) (v := .int .i64 x0) rfl (Or.inl ⟨by rfl, fun w' hS => by have c := hS.1; go_simp⟩) HS0.out ?_
  simp only [Act.put, zs1, zs2, zs3]
  refine wpAnyH_ready (rs := [11]) (by kernel_rfl) (by simp) (AllReadyH.cons (o := ⟨some 20, .call ⟨.value (.func 106), #[.tmp 16, .tmp 19, .const (.int .i64 0), .const (.int .i64 7)], _⟩, _, _, _, some (3, true)⟩) rfl (fun K hK => ?_) AllReadyH.nil)
  go_simp
  refine (cutu8_yes b (pre.length + 4) ((pre ++ msV m).toArray) ty x0 0 7 _ HM0.out (by simp [msV]) hx0.1 hx0.2 (by omega) (by omega)).mono ?_
  rintro e w1 ⟨rfl, hm, hg⟩
  have HM1 := Lib.hid hm
  have HG1 := Lib.hid (grown_trans HG0.out hg)
  have HS1 := Lib.hid (show w1.cell? ⟨nb, no, none⟩ = some (.int .i64 x0) ∧ w1.cell? ⟨nb, no + 1, none⟩ = some (.int .i64 x1) ∧ w1.cell? ⟨nb, no + 2, none⟩ = some (.int .i64 x2) ∧ w1.cell? ⟨nb, no + 3, none⟩ = some (.int .i64 x3) ∧ w1.cell? ⟨nb, no + 4, none⟩ = some (.int .i64 x4) ∧ w1.cell? ⟨nb, no + 5, none⟩ = some (.int .i64 x5) from ⟨grown_cell hg hnb HS0.out.1, grown_cell hg hnb HS0.out.2.1, grown_cell hg hnb HS0.out.2.2.1, grown_cell hg hnb HS0.out.2.2.2.1, grown_cell hg hnb HS0.out.2.2.2.2.1, grown_cell hg hnb HS0.out.2.2.2.2.2⟩)
  clear hm hg
  refine hK.out _ _ HS1.out (fun _ => ?_)
  clear hK K
  refine tkH (i := 12) (oi := ⟨some 21, .pick (.tmp 12) (.tmp 20) (.const (.bool false)), _, _, _, none⟩) (v := .bool true) rfl qs HS1.out ?_
  simp only [Act.put, zs1, zs2, zs3]
  refine tkH (i := 13) (oi := ⟨some 22, .move (.tmp 21), _, _, _, none⟩) (v := .bool true) rfl qs HS1.out ?_
  simp only [Act.put, zs1, zs2, zs3]
  refine tkH (i := 14) (oi := ⟨some 23, .move (.tmp 5), _, _, _, some (13, true)⟩) (v := .pointer (some ⟨b, pre.length + 4, none⟩)) rfl qs HS1.out ?_
  simp only [Act.put, zs1, zs2, zs3]
  refine tkH (i := 15) (oi := ⟨some 24, .nilCheck (.tmp 23), _, _, _, some (13, true)⟩) (v := .pointer (some ⟨b, pre.length + 4, none⟩)) rfl qs HS1.out ?_
  simp only [Act.put, zs1, zs2, zs3]
  refine tkH (i := 16) (oi := ⟨some 25, .fieldAddr 33 (.tmp 24) 0, _, _, _, some (13, true)⟩) (v := .pointer (some ⟨b, pre.length + 4, none⟩)) rfl qs HS1.out ?_
  simp only [Act.put, zs1, zs2, zs3]
  refine tkH (i := 17) (oi := ⟨some 26, .fieldAddr 30 (.tmp 25) 1, _, _, _, some (13, true)⟩) (v := .pointer (some ⟨b, pre.length + 5, none⟩)) rfl qs HS1.out ?_
  simp only [Act.put, zs1, zs2, zs3]
  refine tkH (i := 18) (oi := ⟨some 27, .move (.tmp 1), _, _, _, some (13, true)⟩) (v := .slice (some ⟨nb, no, none⟩) 6 nc) rfl qs HS1.out ?_
  simp only [Act.put, zs1, zs2, zs3]
  refine tkH (i := 19) (oi := ⟨some 28, .indexAddr 155 (.tmp 27) (.const (.int .i64 1)), _, _, _, some (13, true)⟩) (v := .pointer (some ⟨nb, no + 1, none⟩)) rfl qs HS1.out ?_
  simp only [Act.put, zs1, zs2, zs3]
  refine tkH (i := 20) (oi := ⟨some 29, .load 2 (.tmp 28), _, _, _, some (13, true)⟩) (v := .int .i64 x1) rfl (Or.inl ⟨by rfl, fun w' hS => by have c := hS.2.1; go_simp⟩) HS1.out ?_
  simp only [Act.put, zs1, zs2, zs3]
  refine wpAnyH_ready (rs := [21]) (by kernel_rfl) (by simp) (AllReadyH.cons (o := ⟨some 30, .call ⟨.value (.func 112), #[.tmp 26, .tmp 29, .const (.int .i64 0), .const (.int .i64 65535)], _⟩, _, _, _, some (13, true)⟩) rfl (fun K hK => ?_) AllReadyH.nil)
  go_simp
  refine (cutu16_yes b (pre.length + 5) (((pre ++ msV m).toArray).setIfInBounds (pre.length + 4) (.int .u8 x0)) ty x1 0 65535 _ HM1.out (by simp [msV]) hx1.1 hx1.2 (by omega) (by omega)).mono ?_
  rintro e w2 ⟨rfl, hm, hg⟩
  have HM2 := Lib.hid hm
  have HG2 := Lib.hid (grown_trans HG1.out hg)
  have HS2 := Lib.hid (show w2.cell? ⟨nb, no, none⟩ = some (.int .i64 x0) ∧ w2.cell? ⟨nb, no + 1, none⟩ = some (.int .i64 x1) ∧ w2.cell? ⟨nb, no + 2, none⟩ = some (.int .i64 x2) ∧ w2.cell? ⟨nb, no + 3, none⟩ = some (.int .i64 x3) ∧ w2.cell? ⟨nb, no + 4, none⟩ = some (.int .i64 x4) ∧ w2.cell? ⟨nb, no + 5, none⟩ = some (.int .i64 x5) from ⟨grown_cell hg hnb HS1.out.1, grown_cell hg hnb HS1.out.2.1, grown_cell hg hnb HS1.out.2.2.1, grown_cell hg hnb HS1.out.2.2.2.1, grown_cell hg hnb HS1.out.2.2.2.2.1, grown_cell hg hnb HS1.out.2.2.2.2.2⟩)
  clear hm hg
  refine hK.out _ _ HS2.out (fun _ => ?_)
  clear hK K
  refine tkH (i := 22) (oi := ⟨some 31, .pick (.tmp 22) (.tmp 30) (.const (.bool false)), _, _, _, none⟩) (v := .bool true) rfl qs HS2.out ?_
  simp only [Act.put, zs1, zs2, zs3]
  refine tkH (i := 23) (oi := ⟨some 32, .move (.tmp 31), _, _, _, none⟩) (v := .bool true) rfl qs HS2.out ?_
  simp only [Act.put, zs1, zs2, zs3]
  refine tkH (i := 24) (oi := ⟨some 33, .move (.tmp 5), _, _, _, some (23, true)⟩) (v := .pointer (some ⟨b, pre.length + 4, none⟩)) rfl qs HS2.out ?_
  simp only [Act.put, zs1, zs2, zs3]
  refine tkH (i := 25) (oi := ⟨some 34, .nilCheck (.tmp 33), _, _, _, some (23, true)⟩) (v := .pointer (some ⟨b, pre.length + 4, none⟩)) rfl qs HS2.out ?_
  simp only [Act.put, zs1, zs2, zs3]
  refine tkH (i := 26) (oi := ⟨some 35, .fieldAddr 33 (.tmp 34) 0, _, _, _, some (23, true)⟩) (v := .pointer (some ⟨b, pre.length + 4, none⟩)) rfl qs HS2.out ?_
  simp only [Act.put, zs1, zs2, zs3]
  refine tkH (i := 27) (oi := ⟨some 36, .fieldAddr 30 (.tmp 35) 2, _, _, _, some (23, true)⟩) (v := .pointer (some ⟨b, pre.length + 6, none⟩)) rfl qs HS2.out ?_
  simp only [Act.put, zs1, zs2, zs3]
  refine tkH (i := 28) (oi := ⟨some 37, .move (.tmp 1), _, _, _, some (23, true)⟩) (v := .slice (some ⟨nb, no, none⟩) 6 nc) rfl qs HS2.out ?_
  simp only [Act.put, zs1, zs2, zs3]
  refine tkH (i := 29) (oi := ⟨some 38, .indexAddr 155 (.tmp 37) (.const (.int .i64 2)), _, _, _, some (23, true)⟩) (v := .pointer (some ⟨nb, no + 2, none⟩)) rfl qs HS2.out ?_
  simp only [Act.put, zs1, zs2, zs3]
  refine tkH (i := 30) (oi := ⟨some 39, .load 2 (.tmp 38), _, _, _, some (23, true)⟩) (v := .int .i64 x2) rfl (Or.inl ⟨by rfl, fun w' hS => by have c := hS.2.2.1; go_simp⟩) HS2.out ?_
  simp only [Act.put, zs1, zs2, zs3]
  refine wpAnyH_ready (rs := [31]) (by kernel_rfl) (by simp) (AllReadyH.cons (o := ⟨some 40, .call ⟨.value (.func 113), #[.tmp 36, .tmp 39, .const (.int .i64 0), .const (.int .i64 4294967295)], _⟩, _, _, _, some (23, true)⟩) rfl (fun K hK => ?_) AllReadyH.nil)
  go_simp
  refine (cutu32_no _ x2 0 4294967295 _ hx2).mono ?_
  rintro e w3 ⟨rfl, rfl⟩
  have HG3 := Lib.hid HG2.out
  have HS3 := Lib.hid (HS2.out)
  refine hK.out _ _ HS3.out (fun _ => ?_)
  clear hK K
  refine tkH (i := 32) (oi := ⟨some 41, .pick (.tmp 32) (.tmp 40) (.const (.bool false)), _, _, _, none⟩) (v := .bool false) rfl qs HS3.out ?_
  simp only [Act.put, zs1, zs2, zs3]
  refine tkH (i := 33) (oi := ⟨some 42, .move (.tmp 41), _, _, _, none⟩) (v := .bool false) rfl qs HS3.out ?_
  simp only [Act.put, zs1, zs2, zs3]
  refine tkH (i := 34) (oi := ⟨some 43, .move (.tmp 5), _, _, _, some (33, true)⟩) (v := undef) rfl sko HS3.out ?_
  simp only [Act.put, zs1, zs2, zs3]
  refine tkH (i := 35) (oi := ⟨some 44, .nilCheck (.tmp 43), _, _, _, some (33, true)⟩) (v := undef) rfl sko HS3.out ?_
  simp only [Act.put, zs1, zs2, zs3]
  refine tkH (i := 36) (oi := ⟨some 45, .fieldAddr 33 (.tmp 44) 1, _, _, _, some (33, true)⟩) (v := undef) rfl sko HS3.out ?_
  simp only [Act.put, zs1, zs2, zs3]
  refine tkH (i := 37) (oi := ⟨some 46, .move (.tmp 1), _, _, _, some (33, true)⟩) (v := undef) rfl sko HS3.out ?_
  simp only [Act.put, zs1, zs2, zs3]
  refine tkH (i := 38) (oi := ⟨some 47, .indexAddr 155 (.tmp 46) (.const (.int .i64 3)), _, _, _, some (33, true)⟩) (v := undef) rfl sko HS3.out ?_
  simp only [Act.put, zs1, zs2, zs3]
  refine tkH (i := 39) (oi := ⟨some 48, .load 2 (.tmp 47), _, _, _, some (33, true)⟩) (v := undef) rfl sko HS3.out ?_
  simp only [Act.put, zs1, zs2, zs3]
  refine tkH (i := 40) (oi := ⟨some 49, .call ⟨.value (.func 114), #[.tmp 45, .tmp 48, .const (.int .i64 (-1125899906842624)), .const (.int .i64 1125899906842624)], _⟩, _, _, _, some (33, true)⟩) (v := undef) rfl sko HS3.out ?_
  simp only [Act.put, zs1, zs2, zs3]
  refine tkH (i := 41) (oi := ⟨some 50, .pick (.tmp 42) (.tmp 49) (.const (.bool false)), _, _, _, none⟩) (v := .bool false) rfl qs HS3.out ?_
  simp only [Act.put, zs1, zs2, zs3]
  refine tkH (i := 42) (oi := ⟨some 51, .move (.tmp 50), _, _, _, none⟩) (v := .bool false) rfl qs HS3.out ?_
  simp only [Act.put, zs1, zs2, zs3]
  refine tkH (i := 43) (oi := ⟨some 52, .move (.tmp 5), _, _, _, some (42, true)⟩) (v := undef) rfl sko HS3.out ?_
  simp only [Act.put, zs1, zs2, zs3]
  refine tkH (i := 44) (oi := ⟨some 53, .nilCheck (.tmp 52), _, _, _, some (42, true)⟩) (v := undef) rfl sko HS3.out ?_
  simp only [Act.put, zs1, zs2, zs3]
  refine tkH (i := 45) (oi := ⟨some 54, .fieldAddr 33 (.tmp 53) 2, _, _, _, some (42, true)⟩) (v := undef) rfl sko HS3.out ?_
  simp only [Act.put, zs1, zs2, zs3]
  refine tkH (i := 46) (oi := ⟨some 55, .move (.tmp 1), _, _, _, some (42, true)⟩) (v := undef) rfl sko HS3.out ?_
  simp only [Act.put, zs1, zs2, zs3]
  refine tkH (i := 47) (oi := ⟨some 56, .indexAddr 155 (.tmp 55) (.const (.int .i64 4)), _, _, _, some (42, true)⟩) (v := undef) rfl sko HS3.out ?_
  simp only [Act.put, zs1, zs2, zs3]
  refine tkH (i := 48) (oi := ⟨some 57, .load 2 (.tmp 56), _, _, _, some (42, true)⟩) (v := undef) rfl sko HS3.out ?_
  simp only [Act.put, zs1, zs2, zs3]
  refine tkH (i := 49) (oi := ⟨some 58, .call ⟨.value (.func 115), #[.tmp 54, .tmp 57, .const (.int .i64 1), .const (.int .i64 7)], _⟩, _, _, _, some (42, true)⟩) (v := undef) rfl sko HS3.out ?_
  simp only [Act.put, zs1, zs2, zs3]
  refine tkH (i := 50) (oi := ⟨some 59, .pick (.tmp 51) (.tmp 58) (.const (.bool false)), _, _, _, none⟩) (v := .bool false) rfl qs HS3.out ?_
  simp only [Act.put, zs1, zs2, zs3]
  refine tkH (i := 51) (oi := ⟨some 60, .move (.tmp 59), _, _, _, none⟩) (v := .bool false) rfl qs HS3.out ?_
  simp only [Act.put, zs1, zs2, zs3]
  refine tkH (i := 52) (oi := ⟨some 61, .move (.tmp 5), _, _, _, some (51, true)⟩) (v := undef) rfl sko HS3.out ?_
  simp only [Act.put, zs1, zs2, zs3]
  refine tkH (i := 53) (oi := ⟨some 62, .nilCheck (.tmp 61), _, _, _, some (51, true)⟩) (v := undef) rfl sko HS3.out ?_
  simp only [Act.put, zs1, zs2, zs3]
  refine tkH (i := 54) (oi := ⟨some 63, .fieldAddr 33 (.tmp 62) 3, _, _, _, some (51, true)⟩) (v := undef) rfl sko HS3.out ?_
  simp only [Act.put, zs1, zs2, zs3]
  refine tkH (i := 55) (oi := ⟨some 64, .move (.tmp 1), _, _, _, some (51, true)⟩) (v := undef) rfl sko HS3.out ?_
  simp only [Act.put, zs1, zs2, zs3]
  refine tkH (i := 56) (oi := ⟨some 65, .indexAddr 155 (.tmp 64) (.const (.int .i64 5)), _, _, _, some (51, true)⟩) (v := undef) rfl sko HS3.out ?_
  simp only [Act.put, zs1, zs2, zs3]
  refine tkH (i := 57) (oi := ⟨some 66, .load 2 (.tmp 65), _, _, _, some (51, true)⟩) (v := undef) rfl sko HS3.out ?_
  simp only [Act.put, zs1, zs2, zs3]
  refine tkH (i := 58) (oi := ⟨some 67, .call ⟨.value (.func 113), #[.tmp 63, .tmp 66, .const (.int .i64 0), .const (.int .i64 4294967295)], _⟩, _, _, _, some (51, true)⟩) (v := undef) rfl sko HS3.out ?_
  simp only [Act.put, zs1, zs2, zs3]
  refine tkH (i := 59) (oi := ⟨some 68, .pick (.tmp 60) (.tmp 67) (.const (.bool false)), _, _, _, none⟩) (v := .bool false) rfl qs HS3.out ?_
  simp only [Act.put, zs1, zs2, zs3]
  refine tkH (i := 60) (oi := ⟨some 4, .assign (.tmp 68), _, _, _, none⟩) (v := .bool false) rfl qs HS3.out ?_
  simp only [Act.put, zs1, zs2, zs3]
  refine wpAnyH_done (by kernel_rfl) ?_ _
  go_wp2
  go_ret
  exact ⟨rfl, HG3.out⟩
set_option maxRecDepth 100000 in
set_option maxHeartbeats 3200000 in
theorem take_cpn_3 (b : Nat) (ty : TypeId) (pre : List Value) (m : Ms) (nb no nc : Nat) (x0 x1 x2 x3 x4 x5 : Int) (w : World) (hm : MsgAt w b ty pre m) (hnb : nb ≠ b) (hc : w.cell? ⟨nb, no, none⟩ = some (.int .i64 x0) ∧ w.cell? ⟨nb, no + 1, none⟩ = some (.int .i64 x1) ∧ w.cell? ⟨nb, no + 2, none⟩ = some (.int .i64 x2) ∧ w.cell? ⟨nb, no + 3, none⟩ = some (.int .i64 x3) ∧ w.cell? ⟨nb, no + 4, none⟩ = some (.int .i64 x4) ∧ w.cell? ⟨nb, no + 5, none⟩ = some (.int .i64 x5)) (hx0 : 0 ≤ x0 ∧ x0 ≤ 7) (hx1 : 0 ≤ x1 ∧ x1 ≤ 65535) (hx2 : 0 ≤ x2 ∧ x2 ≤ 4294967295) (hx3 : x3 < (-1125899906842624) ∨ ((-1125899906842624) ≤ x3 ∧ 1125899906842624 < x3)) :
    Calls Tryz.prog 111 #[.pointer (some ⟨b, pre.length, none⟩), .slice (some ⟨nb, no, none⟩) 6 nc] w fun e w' => e = .returned (.bool false) ∧ w.grownBy w' (some b) := by
  have HM := Lib.hid hm
  have HC := Lib.hid hc
  clear hm hc
  go_enter Tryz.func111, Tryz.ntmps111
  go_wp2
  refine wp_region_held (S := fun w' => w'.cell? ⟨nb, no, none⟩ = some (.int .i64 x0) ∧ w'.cell? ⟨nb, no + 1, none⟩ = some (.int .i64 x1) ∧ w'.cell? ⟨nb, no + 2, none⟩ = some (.int .i64 x2) ∧ w'.cell? ⟨nb, no + 3, none⟩ = some (.int .i64 x3) ∧ w'.cell? ⟨nb, no + 4, none⟩ = some (.int .i64 x4) ∧ w'.cell? ⟨nb, no + 5, none⟩ = some (.int .i64 x5)) (by kernel_rfl) ?_
  change wpAnyH _ _ _ _ _ _ _ _ (World.drew _)
  have HM0 := Lib.hid (show w.drew.heap[b]? = some (.cells (pre ++ msV m).toArray ty (0, 0)) from HM.out)
  have HG0 := Lib.hid (grown_drew w (some b))
  have HS0 := Lib.hid (show w.drew.cell? ⟨nb, no, none⟩ = some (.int .i64 x0) ∧ w.drew.cell? ⟨nb, no + 1, none⟩ = some (.int .i64 x1) ∧ w.drew.cell? ⟨nb, no + 2, none⟩ = some (.int .i64 x2) ∧ w.drew.cell? ⟨nb, no + 3, none⟩ = some (.int .i64 x3) ∧ w.drew.cell? ⟨nb, no + 4, none⟩ = some (.int .i64 x4) ∧ w.drew.cell? ⟨nb, no + 5, none⟩ = some (.int .i64 x5) from HC.out)
  refine tkH (i := 0) (oi := ⟨some 9, .move (.tmp 1), _, _, _, none⟩) (v := .slice (some ⟨nb, no, none⟩) 6 nc) rfl qs HS0.out ?_
  simp only [Act.put, zs1, zs2, zs3]
  refine tkH (i := 1) (oi := ⟨some 10, .call ⟨.builtin .len, #[.tmp 9], _⟩, _, _, _, none⟩) (v := .int .i64 6) rfl qs HS0.out ?_
  simp only [Act.put, zs1, zs2, zs3]
  refine tkH (i := 2) (oi := ⟨some 11, .binOp .eql 3 (.tmp 10) (.const (.int .i64 6)) 3, _, _, _, none⟩) (v := .bool true) rfl qs HS0.out ?_
  simp only [Act.put, zs1, zs2, zs3]
  refine tkH (i := 3) (oi := ⟨some 12, .move (.tmp 11), _, _, _, none⟩) (v := .bool true) rfl qs HS0.out ?_
  simp only [Act.put, zs1, zs2, zs3]
  refine tkH (i := 4) (oi := ⟨some 13, .move (.tmp 5), _, _, _, some (3, true)⟩) (v := .pointer (some ⟨b, pre.length + 4, none⟩)) rfl qs HS0.out ?_
  simp only [Act.put, zs1, zs2, zs3]
  refine tkH (i := 5) (oi := ⟨some 14, .nilCheck (.tmp 13), _, _, _, some (3, true)⟩) (v := .pointer (some ⟨b, pre.length + 4, none⟩)) rfl qs HS0.out ?_
  simp only [Act.put, zs1, zs2, zs3]
  refine tkH (i := 6) (oi := ⟨some 15, .fieldAddr 33 (.tmp 14) 0, _, _, _, some (3, true)⟩) (v := .pointer (some ⟨b, pre.length + 4, none⟩)) rfl qs HS0.out ?_
  simp only [Act.put, zs1, zs2, zs3]
  refine tkH (i := 7) (oi := ⟨some 16, .fieldAddr 30 (.tmp 15) 0, _, _, _, some (3, true)⟩) (v := .pointer (some ⟨b, pre.length + 4, none⟩)) rfl qs HS0.out ?_
  simp only [Act.put, zs1, zs2, zs3]
  refine tkH (i := 8) (oi := ⟨some 17, .move (.tmp 1), _, _, _, some (3, true)⟩) (v := .slice (some ⟨nb, no, none⟩) 6 nc) rfl qs HS0.out ?_
  simp only [Act.put, zs1, zs2, zs3]
  refine tkH (i := 9) (oi := ⟨some 18, .indexAddr 155 (.tmp 17) (.const (.int .i64 0)), _, _, _, some (3, true)⟩) (v := .pointer (some ⟨nb, no, none⟩)) rfl qs HS0.out ?_
  simp only [Act.put, zs1, zs2, zs3]
  refine tkH (i := 10) (oi := ⟨some 19, .load 2 (.tmp 18), _, _, _, some (3, true)⟩) (v := .int .i64 x0) rfl (Or.inl ⟨by rfl, fun w' hS => by have c := hS.1; go_simp⟩) HS0.out ?_
  simp only [Act.put, zs1, zs2, zs3]
  refine wpAnyH_ready (rs := [11]) (by kernel_rfl) (by simp) (AllReadyH.cons (o := ⟨some 20, .call ⟨.value (.func 106), #[.tmp 16, .tmp 19, .const (.int .i64 0), .const (.int .i64 7)], _⟩, _, _, _, some (3, true)⟩) rfl (fun K hK => ?_) AllReadyH.nil)
  go_simp
  refine (cutu8_yes b (pre.length + 4) ((pre ++ msV m).toArray) ty x0 0 7 _ HM0.out (by simp [msV]) hx0.1 hx0.2 (by omega) (by omega)).mono ?_
  rintro e w1 ⟨rfl, hm, hg⟩
  have HM1 := Lib.hid hm
  have HG1 := Lib.hid (grown_trans HG0.out hg)
  have HS1 := Lib.hid (show w1.cell? ⟨nb, no, none⟩ = some (.int .i64 x0) ∧ w1.cell? ⟨nb, no + 1, none⟩ = some (.int .i64 x1) ∧ w1.cell? ⟨nb, no + 2, none⟩ = some (.int .i64 x2) ∧ w1.cell? ⟨nb, no + 3, none⟩ = some (.int .i64 x3) ∧ w1.cell? ⟨nb, no + 4, none⟩ = some (.int .i64 x4) ∧ w1.cell? ⟨nb, no + 5, none⟩ = some (.int .i64 x5) from ⟨grown_cell hg hnb HS0.out.1, grown_cell hg hnb HS0.out.2.1, grown_cell hg hnb HS0.out.2.2.1, grown_cell hg hnb HS0.out.2.2.2.1, grown_cell hg hnb HS0.out.2.2.2.2.1, grown_cell hg hnb HS0.out.2.2.2.2.2⟩)
  clear hm hg
  refine hK.out _ _ HS1.out (fun _ => ?_)
  clear hK K
  refine tkH (i := 12) (oi := ⟨some 21, .pick (.tmp 12) (.tmp 20) (.const (.bool false)), _, _, _, none⟩) (v := .bool true) rfl qs HS1.out ?_
  simp only [Act.put, zs1, zs2, zs3]
  refine tkH (i := 13) (oi := ⟨some 22, .move (.tmp 21), _, _, _, none⟩) (v := .bool true) rfl qs HS1.out ?_
  simp only [Act.put, zs1, zs2, zs3]
  refine tkH (i := 14) (oi := ⟨some 23, .move (.tmp 5), _, _, _, some (13, true)⟩) (v := .pointer (some ⟨b, pre.length + 4, none⟩)) rfl qs HS1.out ?_
  simp only [Act.put, zs1, zs2, zs3]
  refine tkH (i := 15) (oi := ⟨some 24, .nilCheck (.tmp 23), _, _, _, some (13, true)⟩) (v := .pointer (some ⟨b, pre.length + 4, none⟩)) rfl qs HS1.out ?_
  simp only [Act.put, zs1, zs2, zs3]
  refine tkH (i := 16) (oi := ⟨some 25, .fieldAddr 33 (.tmp 24) 0, _, _, _, some (13, true)⟩) (v := .pointer (some ⟨b, pre.length + 4, none⟩)) rfl qs HS1.out ?_
  simp only [Act.put, zs1, zs2, zs3]
  refine tkH (i := 17) (oi := ⟨some 26, .fieldAddr 30 (.tmp 25) 1, _, _, _, some (13, true)⟩) (v := .pointer (some ⟨b, pre.length + 5, none⟩)) rfl qs HS1.out ?_
  simp only [Act.put, zs1, zs2, zs3]
  refine tkH (i := 18) (oi := ⟨some 27, .move (.tmp 1), _, _, _, some (13, true)⟩) (v := .slice (some ⟨nb, no, none⟩) 6 nc) rfl qs HS1.out ?_
  simp only [Act.put, zs1, zs2, zs3]
  refine tkH (i := 19) (oi := ⟨some 28, .indexAddr 155 (.tmp 27) (.const (.int .i64 1)), _, _, _, some (13, true)⟩) (v := .pointer (some ⟨nb, no + 1, none⟩)) rfl qs HS1.out ?_
  simp only [Act.put, zs1, zs2, zs3]
  refine tkH (i := 20) (oi := ⟨some 29, .load 2 (.tmp 28), _, _, _, some (13, true)⟩) (v := .int .i64 x1) rfl (Or.inl ⟨by rfl, fun w' hS => by have c := hS.2.1; go_simp⟩) HS1.out ?_
  simp only [Act.put, zs1, zs2, zs3]
  refine wpAnyH_ready (rs := [21]) (by kernel_rfl) (by simp) (AllReadyH.cons (o := ⟨some 30, .call ⟨.value (.func 112), #[.tmp 26, .tmp 29, .const (.int .i64 0), .const (.int .i64 65535)], _⟩, _, _, _, some (13, true)⟩) rfl (fun K hK => ?_) AllReadyH.nil)
  go_simp
  refine (cutu16_yes b (pre.length + 5) (((pre ++ msV m).toArray).setIfInBounds (pre.length + 4) (.int .u8 x0)) ty x1 0 65535 _ HM1.out (by simp [msV]) hx1.1 hx1.2 (by omega) (by omega)).mono ?_
  rintro e w2 ⟨rfl, hm, hg⟩
  have HM2 := Lib.hid hm
  have HG2 := Lib.hid (grown_trans HG1.out hg)
  have HS2 := Lib.hid (show w2.cell? ⟨nb, no, none⟩ = some (.int .i64 x0) ∧ w2.cell? ⟨nb, no + 1, none⟩ = some (.int .i64 x1) ∧ w2.cell? ⟨nb, no + 2, none⟩ = some (.int .i64 x2) ∧ w2.cell? ⟨nb, no + 3, none⟩ = some (.int .i64 x3) ∧ w2.cell? ⟨nb, no + 4, none⟩ = some (.int .i64 x4) ∧ w2.cell? ⟨nb, no + 5, none⟩ = some (.int .i64 x5) from ⟨grown_cell hg hnb HS1.out.1, grown_cell hg hnb HS1.out.2.1, grown_cell hg hnb HS1.out.2.2.1, grown_cell hg hnb HS1.out.2.2.2.1, grown_cell hg hnb HS1.out.2.2.2.2.1, grown_cell hg hnb HS1.out.2.2.2.2.2⟩)
  clear hm hg
  refine hK.out _ _ HS2.out (fun _ => ?_)
  clear hK K
  refine tkH (i := 22) (oi := ⟨some 31, .pick (.tmp 22) (.tmp 30) (.const (.bool false)), _, _, _, none⟩) (v := .bool true) rfl qs HS2.out ?_
  simp only [Act.put, zs1, zs2, zs3]
  refine tkH (i := 23) (oi := ⟨some 32, .move (.tmp 31), _, _, _, none⟩) (v := .bool true) rfl qs HS2.out ?_
  simp only [Act.put, zs1, zs2, zs3]
  refine tkH (i := 24) (oi := ⟨some 33, .move (.tmp 5), _, _, _, some (23, true)⟩) (v := .pointer (some ⟨b, pre.length + 4, none⟩)) rfl qs HS2.out ?_
  simp only [Act.put, zs1, zs2, zs3]
  refine tkH (i := 25) (oi := ⟨some 34, .nilCheck (.tmp 33), _, _, _, some (23, true)⟩) (v := .pointer (some ⟨b, pre.length + 4, none⟩)) rfl qs HS2.out ?_
  simp only [Act.put, zs1, zs2, zs3]
  refine tkH (i := 26) (oi := ⟨some 35, .fieldAddr 33 (.tmp 34) 0, _, _, _, some (23, true)⟩) (v := .pointer (some ⟨b, pre.length + 4, none⟩)) rfl qs HS2.out ?_
  simp only [Act.put, zs1, zs2, zs3]
  refine tkH (i := 27) (oi := ⟨some 36, .fieldAddr 30 (.tmp 35) 2, _, _, _, some (23, true)⟩) (v := .pointer (some ⟨b, pre.length + 6, none⟩)) rfl qs HS2.out ?_
  simp only [Act.put, zs1, zs2, zs3]
  refine tkH (i := 28) (oi := ⟨some 37, .move (.tmp 1), _, _, _, some (23, true)⟩) (v := .slice (some ⟨nb, no, none⟩) 6 nc) rfl qs HS2.out ?_
  simp only [Act.put, zs1, zs2, zs3]
  refine tkH (i := 29) (oi := ⟨some 38, .indexAddr 155 (.tmp 37) (.const (.int .i64 2)), _, _, _, some (23, true)⟩) (v := .pointer (some ⟨nb, no + 2, none⟩)) rfl qs HS2.out ?_
  simp only [Act.put, zs1, zs2, zs3]
  refine tkH (i := 30) (oi := ⟨some 39, .load 2 (.tmp 38), _, _, _, some (23, true)⟩) (v := .int .i64 x2) rfl (Or.inl ⟨by rfl, fun w' hS => by have c := hS.2.2.1; go_simp⟩) HS2.out ?_
  simp only [Act.put, zs1, zs2, zs3]
  refine wpAnyH_ready (rs := [31]) (by kernel_rfl) (by simp) (AllReadyH.cons (o := ⟨some 40, .call ⟨.value (.func 113), #[.tmp 36, .tmp 39, .const (.int .i64 0), .const (.int .i64 4294967295)], _⟩, _, _, _, some (23, true)⟩) rfl (fun K hK => ?_) AllReadyH.nil)
  go_simp
  refine (cutu32_yes b (pre.length + 6) ((((pre ++ msV m).toArray).setIfInBounds (pre.length + 4) (.int .u8 x0)).setIfInBounds (pre.length + 5) (.int .u16 x1)) ty x2 0 4294967295 _ HM2.out (by simp [msV]) hx2.1 hx2.2 (by omega) (by omega)).mono ?_
  rintro e w3 ⟨rfl, hm, hg⟩
  have HM3 := Lib.hid hm
  have HG3 := Lib.hid (grown_trans HG2.out hg)
  have HS3 := Lib.hid (show w3.cell? ⟨nb, no, none⟩ = some (.int .i64 x0) ∧ w3.cell? ⟨nb, no + 1, none⟩ = some (.int .i64 x1) ∧ w3.cell? ⟨nb, no + 2, none⟩ = some (.int .i64 x2) ∧ w3.cell? ⟨nb, no + 3, none⟩ = some (.int .i64 x3) ∧ w3.cell? ⟨nb, no + 4, none⟩ = some (.int .i64 x4) ∧ w3.cell? ⟨nb, no + 5, none⟩ = some (.int .i64 x5) from ⟨grown_cell hg hnb HS2.out.1, grown_cell hg hnb HS2.out.2.1, grown_cell hg hnb HS2.out.2.2.1, grown_cell hg hnb HS2.out.2.2.2.1, grown_cell hg hnb HS2.out.2.2.2.2.1, grown_cell hg hnb HS2.out.2.2.2.2.2⟩)
  clear hm hg
  refine hK.out _ _ HS3.out (fun _ => ?_)
  clear hK K
  refine tkH (i := 32) (oi := ⟨some 41, .pick (.tmp 32) (.tmp 40) (.const (.bool false)), _, _, _, none⟩) (v := .bool true) rfl qs HS3.out ?_
  simp only [Act.put, zs1, zs2, zs3]
  refine tkH (i := 33) (oi := ⟨some 42, .move (.tmp 41), _, _, _, none⟩) (v := .bool true) rfl qs HS3.out ?_
  simp only [Act.put, zs1, zs2, zs3]
  refine tkH (i := 34) (oi := ⟨some 43, .move (.tmp 5), _, _, _, some (33, true)⟩) (v := .pointer (some ⟨b, pre.length + 4, none⟩)) rfl qs HS3.out ?_
  simp only [Act.put, zs1, zs2, zs3]
  refine tkH (i := 35) (oi := ⟨some 44, .nilCheck (.tmp 43), _, _, _, some (33, true)⟩) (v := .pointer (some ⟨b, pre.length + 4, none⟩)) rfl qs HS3.out ?_
  simp only [Act.put, zs1, zs2, zs3]
  refine tkH (i := 36) (oi := ⟨some 45, .fieldAddr 33 (.tmp 44) 1, _, _, _, some (33, true)⟩) (v := .pointer (some ⟨b, pre.length + 7, none⟩)) rfl qs HS3.out ?_
  simp only [Act.put, zs1, zs2, zs3]
  refine tkH (i := 37) (oi := ⟨some 46, .move (.tmp 1), _, _, _, some (33, true)⟩) (v := .slice (some ⟨nb, no, none⟩) 6 nc) rfl qs HS3.out ?_
  simp only [Act.put, zs1, zs2, zs3]
  refine tkH (i := 38) (oi := ⟨some 47, .indexAddr 155 (.tmp 46) (.const (.int .i64 3)), _, _, _, some (33, true)⟩) (v := .pointer (some ⟨nb, no + 3, none⟩)) rfl qs HS3.out ?_
  simp only [Act.put, zs1, zs2, zs3]
  refine tkH (i := 39) (oi := ⟨some 48, .load 2 (.tmp 47), _, _, _, some (33, true)⟩) (v := .int .i64 x3) rfl (Or.inl ⟨by rfl, fun w' hS => by have c := hS.2.2.2.1; go_simp⟩) HS3.out ?_
  simp only [Act.put, zs1, zs2, zs3]
  refine wpAnyH_ready (rs := [40]) (by kernel_rfl) (by simp) (AllReadyH.cons (o := ⟨some 49, .call ⟨.value (.func 114), #[.tmp 45, .tmp 48, .const (.int .i64 (-1125899906842624)), .const (.int .i64 1125899906842624)], _⟩, _, _, _, some (33, true)⟩) rfl (fun K hK => ?_) AllReadyH.nil)
  go_simp
  refine (cuti64_no _ x3 (-1125899906842624) 1125899906842624 _ hx3).mono ?_
  rintro e w4 ⟨rfl, rfl⟩
  have HG4 := Lib.hid HG3.out
  have HS4 := Lib.hid (HS3.out)
  refine hK.out _ _ HS4.out (fun _ => ?_)
  clear hK K
  refine tkH (i := 41) (oi := ⟨some 50, .pick (.tmp 42) (.tmp 49) (.const (.bool false)), _, _, _, none⟩) (v := .bool false) rfl qs HS4.out ?_
  simp only [Act.put, zs1, zs2, zs3]
  refine tkH (i := 42) (oi := ⟨some 51, .move (.tmp 50), _, _, _, none⟩) (v := .bool false) rfl qs HS4.out ?_
  simp only [Act.put, zs1, zs2, zs3]
  refine tkH (i := 43) (oi := ⟨some 52, .move (.tmp 5), _, _, _, some (42, true)⟩) (v := undef) rfl sko HS4.out ?_
  simp only [Act.put, zs1, zs2, zs3]
  refine tkH (i := 44) (oi := ⟨some 53, .nilCheck (.tmp 52), _, _, _, some (42, true)⟩) (v := undef) rfl sko HS4.out ?_
  simp only [Act.put, zs1, zs2, zs3]
  refine tkH (i := 45) (oi := ⟨some 54, .fieldAddr 33 (.tmp 53) 2, _, _, _, some (42, true)⟩) (v := undef) rfl sko HS4.out ?_
  simp only [Act.put, zs1, zs2, zs3]
  refine tkH (i := 46) (oi := ⟨some 55, .move (.tmp 1), _, _, _, some (42, true)⟩) (v := undef) rfl sko HS4.out ?_
  simp only [Act.put, zs1, zs2, zs3]
  refine tkH (i := 47) (oi := ⟨some 56, .indexAddr 155 (.tmp 55) (.const (.int .i64 4)), _, _, _, some (42, true)⟩) (v := undef) rfl sko HS4.out ?_
  simp only [Act.put, zs1, zs2, zs3]
  refine tkH (i := 48) (oi := ⟨some 57, .load 2 (.tmp 56), _, _, _, some (42, true)⟩) (v := undef) rfl sko HS4.out ?_
  simp only [Act.put, zs1, zs2, zs3]
  refine tkH (i := 49) (oi := ⟨some 58, .call ⟨.value (.func 115), #[.tmp 54, .tmp 57, .const (.int .i64 1), .const (.int .i64 7)], _⟩, _, _, _, some (42, true)⟩) (v := undef) rfl sko HS4.out ?_
  simp only [Act.put, zs1, zs2, zs3]
  refine tkH (i := 50) (oi := ⟨some 59, .pick (.tmp 51) (.tmp 58) (.const (.bool false)), _, _, _, none⟩) (v := .bool false) rfl qs HS4.out ?_
  simp only [Act.put, zs1, zs2, zs3]
  refine tkH (i := 51) (oi := ⟨some 60, .move (.tmp 59), _, _, _, none⟩) (v := .bool false) rfl qs HS4.out ?_
  simp only [Act.put, zs1, zs2, zs3]
  refine tkH (i := 52) (oi := ⟨some 61, .move (.tmp 5), _, _, _, some (51, true)⟩) (v := undef) rfl sko HS4.out ?_
  simp only [Act.put, zs1, zs2, zs3]
  refine tkH (i := 53) (oi := ⟨some 62, .nilCheck (.tmp 61), _, _, _, some (51, true)⟩) (v := undef) rfl sko HS4.out ?_
  simp only [Act.put, zs1, zs2, zs3]
  refine tkH (i := 54) (oi := ⟨some 63, .fieldAddr 33 (.tmp 62) 3, _, _, _, some (51, true)⟩) (v := undef) rfl sko HS4.out ?_
  simp only [Act.put, zs1, zs2, zs3]
  refine tkH (i := 55) (oi := ⟨some 64, .move (.tmp 1), _, _, _, some (51, true)⟩) (v := undef) rfl sko HS4.out ?_
  simp only [Act.put, zs1, zs2, zs3]
  refine tkH (i := 56) (oi := ⟨some 65, .indexAddr 155 (.tmp 64) (.const (.int .i64 5)), _, _, _, some (51, true)⟩) (v := undef) rfl sko HS4.out ?_
  simp only [Act.put, zs1, zs2, zs3]
  refine tkH (i := 57) (oi := ⟨some 66, .load 2 (.tmp 65), _, _, _, some (51, true)⟩) (v := undef) rfl sko HS4.out ?_
  simp only [Act.put, zs1, zs2, zs3]
  refine tkH (i := 58) (oi := ⟨some 67, .call ⟨.value (.func 113), #[.tmp 63, .tmp 66, .const (.int .i64 0), .const (.int .i64 4294967295)], _⟩, _, _, _, some (51, true)⟩) (v := undef) rfl sko HS4.out ?_
  simp only [Act.put, zs1, zs2, zs3]
  refine tkH (i := 59) (oi := ⟨some 68, .pick (.tmp 60) (.tmp 67) (.const (.bool false)), _, _, _, none⟩) (v := .bool false) rfl qs HS4.out ?_
  simp only [Act.put, zs1, zs2, zs3]
  refine tkH (i := 60) (oi := ⟨some 4, .assign (.tmp 68), _, _, _, none⟩) (v := .bool false) rfl qs HS4.out ?_
  simp only [Act.put, zs1, zs2, zs3]
  refine wpAnyH_done (by kernel_rfl) ?_ _
  go_wp2
  go_ret
  exact ⟨rfl, HG4.out⟩
set_option maxRecDepth 100000 in
set_option maxHeartbeats 3200000 in
theorem take_cpn_4 (b : Nat) (ty : TypeId) (pre : List Value) (m : Ms) (nb no nc : Nat) (x0 x1 x2 x3 x4 x5 : Int) (w : World) (hm : MsgAt w b ty pre m) (hnb : nb ≠ b) (hc : w.cell? ⟨nb, no, none⟩ = some (.int .i64 x0) ∧ w.cell? ⟨nb, no + 1, none⟩ = some (.int .i64 x1) ∧ w.cell? ⟨nb, no + 2, none⟩ = some (.int .i64 x2) ∧ w.cell? ⟨nb, no + 3, none⟩ = some (.int .i64 x3) ∧ w.cell? ⟨nb, no + 4, none⟩ = some (.int .i64 x4) ∧ w.cell? ⟨nb, no + 5, none⟩ = some (.int .i64 x5)) (hx0 : 0 ≤ x0 ∧ x0 ≤ 7) (hx1 : 0 ≤ x1 ∧ x1 ≤ 65535) (hx2 : 0 ≤ x2 ∧ x2 ≤ 4294967295) (hx3 : (-1125899906842624) ≤ x3 ∧ x3 ≤ 1125899906842624) (hx4 : x4 < 1 ∨ (1 ≤ x4 ∧ 7 < x4)) :
    Calls Tryz.prog 111 #[.pointer (some ⟨b, pre.length, none⟩), .slice (some ⟨nb, no, none⟩) 6 nc] w fun e w' => e = .returned (.bool false) ∧ w.grownBy w' (some b) := by
  have HM := Lib.hid hm
  have HC := Lib.hid hc
  clear hm hc
  go_enter Tryz.func111, Tryz.ntmps111
  go_wp2
  refine wp_region_held (S := fun w' => w'.cell? ⟨nb, no, none⟩ = some (.int .i64 x0) ∧ w'.cell? ⟨nb, no + 1, none⟩ = some (.int .i64 x1) ∧ w'.cell? ⟨nb, no + 2, none⟩ = some (.int .i64 x2) ∧ w'.cell? ⟨nb, no + 3, none⟩ = some (.int .i64 x3) ∧ w'.cell? ⟨nb, no + 4, none⟩ = some (.int .i64 x4) ∧ w'.cell? ⟨nb, no + 5, none⟩ = some (.int .i64 x5)) (by kernel_rfl) ?_
  change wpAnyH _ _ _ _ _ _ _ _ (World.drew _)
  have HM0 := Lib.hid (show w.drew.heap[b]? = some (.cells (pre ++ msV m).toArray ty (0, 0)) from HM.out)
  have HG0 := Lib.hid (grown_drew w (some b))
  have HS0 := Lib.hid (show w.drew.cell? ⟨nb, no, none⟩ = some (.int .i64 x0) ∧ w.drew.cell? ⟨nb, no + 1, none⟩ = some (.int .i64 x1) ∧ w.drew.cell? ⟨nb, no + 2, none⟩ = some (.int .i64 x2) ∧ w.drew.cell? ⟨nb, no + 3, none⟩ = some (.int .i64 x3) ∧ w.drew.cell? ⟨nb, no + 4, none⟩ = some (.int .i64 x4) ∧ w.drew.cell? ⟨nb, no + 5, none⟩ = some (.int .i64 x5) from HC.out)
  refine tkH (i := 0) (oi := ⟨some 9, .move (.tmp 1), _, _, _, none⟩) (v := .slice (some ⟨nb, no, none⟩) 6 nc) rfl qs HS0.out ?_
  simp only [Act.put, zs1, zs2, zs3]
  refine tkH (i := 1) (oi := ⟨some 10, .call ⟨.builtin .len, #[.tmp 9], _⟩, _, _, _, none⟩) (v := .int .i64 6) rfl qs HS0.out ?_
  simp only [Act.put, zs1, zs2, zs3]
  refine tkH (i := 2) (oi := ⟨some 11, .binOp .eql 3 (.tmp 10) (.const (.int .i64 6)) 3, _, _, _, none⟩) (v := .bool true) rfl qs HS0.out ?_
  simp only [Act.put, zs1, zs2, zs3]
  refine tkH (i := 3) (oi := ⟨some 12, .move (.tmp 11), _, _, _, none⟩) (v := .bool true) rfl qs HS0.out ?_
  simp only [Act.put, zs1, zs2, zs3]
  refine tkH (i := 4) (oi := ⟨some 13, .move (.tmp 5), _, _, _, some (3, true)⟩) (v := .pointer (some ⟨b, pre.length + 4, none⟩)) rfl qs HS0.out ?_
  simp only [Act.put, zs1, zs2, zs3]
  refine tkH (i := 5) (oi := ⟨some 14, .nilCheck (.tmp 13), _, _, _, some (3, true)⟩) (v := .pointer (some ⟨b, pre.length + 4, none⟩)) rfl qs HS0.out ?_
  simp only [Act.put, zs1, zs2, zs3]
  refine tkH (i := 6) (oi := ⟨some 15, .fieldAddr 33 (.tmp 14) 0, _, _, _, some (3, true)⟩) (v := .pointer (some ⟨b, pre.length + 4, none⟩)) rfl qs HS0.out ?_
  simp only [Act.put, zs1, zs2, zs3]
  refine tkH (i := 7) (oi := ⟨some 16, .fieldAddr 30 (.tmp 15) 0, _, _, _, some (3, true)⟩) (v := .pointer (some ⟨b, pre.length + 4, none⟩)) rfl qs HS0.out ?_
  simp only [Act.put, zs1, zs2, zs3]
  refine tkH (i := 8) (oi := ⟨some 17, .move (.tmp 1), _, _, _, some (3, true)⟩) (v := .slice (some ⟨nb, no, none⟩) 6 nc) rfl qs HS0.out ?_
  simp only [Act.put, zs1, zs2, zs3]
  refine tkH (i := 9) (oi := ⟨some 18, .indexAddr 155 (.tmp 17) (.const (.int .i64 0)), _, _, _, some (3, true)⟩) (v := .pointer (some ⟨nb, no, none⟩)) rfl qs HS0.out ?_
  simp only [Act.put, zs1, zs2, zs3]
  refine tkH (i := 10) (oi := ⟨some 19, .load 2 (.tmp 18), _, _, _, some (3, true)⟩) (v := .int .i64 x0) rfl (Or.inl ⟨by rfl, fun w' hS => by have c := hS.1; go_simp⟩) HS0.out ?_
  simp only [Act.put, zs1, zs2, zs3]
  refine wpAnyH_ready (rs := [11]) (by kernel_rfl) (by simp) (AllReadyH.cons (o := ⟨some 20, .call ⟨.value (.func 106), #[.tmp 16, .tmp 19, .const (.int .i64 0), .const (.int .i64 7)], _⟩, _, _, _, some (3, true)⟩) rfl (fun K hK => ?_) AllReadyH.nil)
  go_simp
  refine (cutu8_yes b (pre.length + 4) ((pre ++ msV m).toArray) ty x0 0 7 _ HM0.out (by simp [msV]) hx0.1 hx0.2 (by omega) (by omega)).mono ?_
  rintro e w1 ⟨rfl, hm, hg⟩
  have HM1 := Lib.hid hm
  have HG1 := Lib.hid (grown_trans HG0.out hg)
  have HS1 := Lib.hid (show w1.cell? ⟨nb, no, none⟩ = some (.int .i64 x0) ∧ w1.cell? ⟨nb, no + 1, none⟩ = some (.int .i64 x1) ∧ w1.cell? ⟨nb, no + 2, none⟩ = some (.int .i64 x2) ∧ w1.cell? ⟨nb, no + 3, none⟩ = some (.int .i64 x3) ∧ w1.cell? ⟨nb, no + 4, none⟩ = some (.int .i64 x4) ∧ w1.cell? ⟨nb, no + 5, none⟩ = some (.int .i64 x5) from ⟨grown_cell hg hnb HS0.out.1, grown_cell hg hnb HS0.out.2.1, grown_cell hg hnb HS0.out.2.2.1, grown_cell hg hnb HS0.out.2.2.2.1, grown_cell hg hnb HS0.out.2.2.2.2.1, grown_cell hg hnb HS0.out.2.2.2.2.2⟩)
  clear hm hg
  refine hK.out _ _ HS1.out (fun _ => ?_)
  clear hK K
  refine tkH (i := 12) (oi := ⟨some 21, .pick (.tmp 12) (.tmp 20) (.const (.bool false)), _, _, _, none⟩) (v := .bool true) rfl qs HS1.out ?_
  simp only [Act.put, zs1, zs2, zs3]
  refine tkH (i := 13) (oi := ⟨some 22, .move (.tmp 21), _, _, _, none⟩) (v := .bool true) rfl qs HS1.out ?_
  simp only [Act.put, zs1, zs2, zs3]
  refine tkH (i := 14) (oi := ⟨some 23, .move (.tmp 5), _, _, _, some (13, true)⟩) (v := .pointer (some ⟨b, pre.length + 4, none⟩)) rfl qs HS1.out ?_
  simp only [Act.put, zs1, zs2, zs3]
  refine tkH (i := 15) (oi := ⟨some 24, .nilCheck (.tmp 23), _, _, _, some (13, true)⟩) (v := .pointer (some ⟨b, pre.length + 4, none⟩)) rfl qs HS1.out ?_
  simp only [Act.put, zs1, zs2, zs3]
  refine tkH (i := 16) (oi := ⟨some 25, .fieldAddr 33 (.tmp 24) 0, _, _, _, some (13, true)⟩) (v := .pointer (some ⟨b, pre.length + 4, none⟩)) rfl qs HS1.out ?_
  simp only [Act.put, zs1, zs2, zs3]
  refine tkH (i := 17) (oi := ⟨some 26, .fieldAddr 30 (.tmp 25) 1, _, _, _, some (13, true)⟩) (v := .pointer (some ⟨b, pre.length + 5, none⟩)) rfl qs HS1.out ?_
  simp only [Act.put, zs1, zs2, zs3]
  refine tkH (i := 18) (oi := ⟨some 27, .move (.tmp 1), _, _, _, some (13, true)⟩) (v := .slice (some ⟨nb, no, none⟩) 6 nc) rfl qs HS1.out ?_
  simp only [Act.put, zs1, zs2, zs3]
  refine tkH (i := 19) (oi := ⟨some 28, .indexAddr 155 (.tmp 27) (.const (.int .i64 1)), _, _, _, some (13, true)⟩) (v := .pointer (some ⟨nb, no + 1, none⟩)) rfl qs HS1.out ?_
  simp only [Act.put, zs1, zs2, zs3]
  refine tkH (i := 20) (oi := ⟨some 29, .load 2 (.tmp 28), _, _, _, some (13, true)⟩) (v := .int .i64 x1) rfl (Or.inl ⟨by rfl, fun w' hS => by have c := hS.2.1; go_simp⟩) HS1.out ?_
  simp only [Act.put, zs1, zs2, zs3]
  refine wpAnyH_ready (rs := [21]) (by kernel_rfl) (by simp) (AllReadyH.cons (o := ⟨some 30, .call ⟨.value (.func 112), #[.tmp 26, .tmp 29, .const (.int .i64 0), .const (.int .i64 65535)], _⟩, _, _, _, some (13, true)⟩) rfl (fun K hK => ?_) AllReadyH.nil)
  go_simp
  refine (cutu16_yes b (pre.length + 5) (((pre ++ msV m).toArray).setIfInBounds (pre.length + 4) (.int .u8 x0)) ty x1 0 65535 _ HM1.out (by simp [msV]) hx1.1 hx1.2 (by omega) (by omega)).mono ?_
  rintro e w2 ⟨rfl, hm, hg⟩
  have HM2 := Lib.hid hm
  have HG2 := Lib.hid (grown_trans HG1.out hg)
  have HS2 := Lib.hid (show w2.cell? ⟨nb, no, none⟩ = some (.int .i64 x0) ∧ w2.cell? ⟨nb, no + 1, none⟩ = some (.int .i64 x1) ∧ w2.cell? ⟨nb, no + 2, none⟩ = some (.int .i64 x2) ∧ w2.cell? ⟨nb, no + 3, none⟩ = some (.int .i64 x3) ∧ w2.cell? ⟨nb, no + 4, none⟩ = some (.int .i64 x4) ∧ w2.cell? ⟨nb, no + 5, none⟩ = some (.int .i64 x5) from ⟨grown_cell hg hnb HS1.out.1, grown_cell hg hnb HS1.out.2.1, grown_cell hg hnb HS1.out.2.2.1, grown_cell hg hnb HS1.out.2.2.2.1, grown_cell hg hnb HS1.out.2.2.2.2.1, grown_cell hg hnb HS1.out.2.2.2.2.2⟩)
  clear hm hg
  refine hK.out _ _ HS2.out (fun _ => ?_)
  clear hK K
  refine tkH (i := 22) (oi := ⟨some 31, .pick (.tmp 22) (.tmp 30) (.const (.bool false)), _, _, _, none⟩) (v := .bool true) rfl qs HS2.out ?_
  simp only [Act.put, zs1, zs2, zs3]
  refine tkH (i := 23) (oi := ⟨some 32, .move (.tmp 31), _, _, _, none⟩) (v := .bool true) rfl qs HS2.out ?_
  simp only [Act.put, zs1, zs2, zs3]
  refine tkH (i := 24) (oi := ⟨some 33, .move (.tmp 5), _, _, _, some (23, true)⟩) (v := .pointer (some ⟨b, pre.length + 4, none⟩)) rfl qs HS2.out ?_
  simp only [Act.put, zs1, zs2, zs3]
  refine tkH (i := 25) (oi := ⟨some 34, .nilCheck (.tmp 33), _, _, _, some (23, true)⟩) (v := .pointer (some ⟨b, pre.length + 4, none⟩)) rfl qs HS2.out ?_
  simp only [Act.put, zs1, zs2, zs3]
  refine tkH (i := 26) (oi := ⟨some 35, .fieldAddr 33 (.tmp 34) 0, _, _, _, some (23, true)⟩) (v := .pointer (some ⟨b, pre.length + 4, none⟩)) rfl qs HS2.out ?_
  simp only [Act.put, zs1, zs2, zs3]
  refine tkH (i := 27) (oi := ⟨some 36, .fieldAddr 30 (.tmp 35) 2, _, _, _, some (23, true)⟩) (v := .pointer (some ⟨b, pre.length + 6, none⟩)) rfl qs HS2.out ?_
  simp only [Act.put, zs1, zs2, zs3]
  refine tkH (i := 28) (oi := ⟨some 37, .move (.tmp 1), _, _, _, some (23, true)⟩) (v := .slice (some ⟨nb, no, none⟩) 6 nc) rfl qs HS2.out ?_
  simp only [Act.put, zs1, zs2, zs3]
  refine tkH (i := 29) (oi := ⟨some 38, .indexAddr 155 (.tmp 37) (.const (.int .i64 2)), _, _, _, some (23, true)⟩) (v := .pointer (some ⟨nb, no + 2, none⟩)) rfl qs HS2.out ?_
  simp only [Act.put, zs1, zs2, zs3]
  refine tkH (i := 30) (oi := ⟨some 39, .load 2 (.tmp 38), _, _, _, some (23, true)⟩) (v := .int .i64 x2) rfl (Or.inl ⟨by rfl, fun w' hS => by have c := hS.2.2.1; go_simp⟩) HS2.out ?_
  simp only [Act.put, zs1, zs2, zs3]
  refine wpAnyH_ready (rs := [31]) (by kernel_rfl) (by simp) (AllReadyH.cons (o := ⟨some 40, .call ⟨.value (.func 113), #[.tmp 36, .tmp 39, .const (.int .i64 0), .const (.int .i64 4294967295)], _⟩, _, _, _, some (23, true)⟩) rfl (fun K hK => ?_) AllReadyH.nil)
  go_simp
  refine (cutu32_yes b (pre.length + 6) ((((pre ++ msV m).toArray).setIfInBounds (pre.length + 4) (.int .u8 x0)).setIfInBounds (pre.length + 5) (.int .u16 x1)) ty x2 0 4294967295 _ HM2.out (by simp [msV]) hx2.1 hx2.2 (by omega) (by omega)).mono ?_
  rintro e w3 ⟨rfl, hm, hg⟩
  have HM3 := Lib.hid hm
  have HG3 := Lib.hid (grown_trans HG2.out hg)
  have HS3 := Lib.hid (show w3.cell? ⟨nb, no, none⟩ = some (.int .i64 x0) ∧ w3.cell? ⟨nb, no + 1, none⟩ = some (.int .i64 x1) ∧ w3.cell? ⟨nb, no + 2, none⟩ = some (.int .i64 x2) ∧ w3.cell? ⟨nb, no + 3, none⟩ = some (.int .i64 x3) ∧ w3.cell? ⟨nb, no + 4, none⟩ = some (.int .i64 x4) ∧ w3.cell? ⟨nb, no + 5, none⟩ = some (.int .i64 x5) from ⟨grown_cell hg hnb HS2.out.1, grown_cell hg hnb HS2.out.2.1, grown_cell hg hnb HS2.out.2.2.1, grown_cell hg hnb HS2.out.2.2.2.1, grown_cell hg hnb HS2.out.2.2.2.2.1, grown_cell hg hnb HS2.out.2.2.2.2.2⟩)
  clear hm hg
  refine hK.out _ _ HS3.out (fun _ => ?_)
  clear hK K
  refine tkH (i := 32) (oi := ⟨some 41, .pick (.tmp 32) (.tmp 40) (.const (.bool false)), _, _, _, none⟩) (v := .bool true) rfl qs HS3.out ?_
  simp only [Act.put, zs1, zs2, zs3]
  refine tkH (i := 33) (oi := ⟨some 42, .move (.tmp 41), _, _, _, none⟩) (v := .bool true) rfl qs HS3.out ?_
  simp only [Act.put, zs1, zs2, zs3]
  refine tkH (i := 34) (oi := ⟨some 43, .move (.tmp 5), _, _, _, some (33, true)⟩) (v := .pointer (some ⟨b, pre.length + 4, none⟩)) rfl qs HS3.out ?_
  simp only [Act.put, zs1, zs2, zs3]
  refine tkH (i := 35) (oi := ⟨some 44, .nilCheck (.tmp 43), _, _, _, some (33, true)⟩) (v := .pointer (some ⟨b, pre.length + 4, none⟩)) rfl qs HS3.out ?_
  simp only [Act.put, zs1, zs2, zs3]
  refine tkH (i := 36) (oi := ⟨some 45, .fieldAddr 33 (.tmp 44) 1, _, _, _, some (33, true)⟩) (v := .pointer (some ⟨b, pre.length + 7, none⟩)) rfl qs HS3.out ?_
  simp only [Act.put, zs1, zs2, zs3]
  refine tkH (i := 37) (oi := ⟨some 46, .move (.tmp 1), _, _, _, some (33, true)⟩) (v := .slice (some ⟨nb, no, none⟩) 6 nc) rfl qs HS3.out ?_
  simp only [Act.put, zs1, zs2, zs3]
  refine tkH (i := 38) (oi := ⟨some 47, .indexAddr 155 (.tmp 46) (.const (.int .i64 3)), _, _, _, some (33, true)⟩) (v := .pointer (some ⟨nb, no + 3, none⟩)) rfl qs HS3.out ?_
  simp only [Act.put, zs1, zs2, zs3]
  refine tkH (i := 39) (oi := ⟨some 48, .load 2 (.tmp 47), _, _, _, some (33, true)⟩) (v := .int .i64 x3) rfl (Or.inl ⟨by rfl, fun w' hS => by have c := hS.2.2.2.1; go_simp⟩) HS3.out ?_
  simp only [Act.put, zs1, zs2, zs3]
  refine wpAnyH_ready (rs := [40]) (by kernel_rfl) (by simp) (AllReadyH.cons (o := ⟨some 49, .call ⟨.value (.func 114), #[.tmp 45, .tmp 48, .const (.int .i64 (-1125899906842624)), .const (.int .i64 1125899906842624)], _⟩, _, _, _, some (33, true)⟩) rfl (fun K hK => ?_) AllReadyH.nil)
  go_simp
  refine (cuti64_yes b (pre.length + 7) (((((pre ++ msV m).toArray).setIfInBounds (pre.length + 4) (.int .u8 x0)).setIfInBounds (pre.length + 5) (.int .u16 x1)).setIfInBounds (pre.length + 6) (.int .u32 x2)) ty x3 (-1125899906842624) 1125899906842624 _ HM3.out (by simp [msV]) hx3.1 hx3.2 (by omega) (by omega)).mono ?_
  rintro e w4 ⟨rfl, hm, hg⟩
  have HM4 := Lib.hid hm
  have HG4 := Lib.hid (grown_trans HG3.out hg)
  have HS4 := Lib.hid (show w4.cell? ⟨nb, no, none⟩ = some (.int .i64 x0) ∧ w4.cell? ⟨nb, no + 1, none⟩ = some (.int .i64 x1) ∧ w4.cell? ⟨nb, no + 2, none⟩ = some (.int .i64 x2) ∧ w4.cell? ⟨nb, no + 3, none⟩ = some (.int .i64 x3) ∧ w4.cell? ⟨nb, no + 4, none⟩ = some (.int .i64 x4) ∧ w4.cell? ⟨nb, no + 5, none⟩ = some (.int .i64 x5) from ⟨grown_cell hg hnb HS3.out.1, grown_cell hg hnb HS3.out.2.1, grown_cell hg hnb HS3.out.2.2.1, grown_cell hg hnb HS3.out.2.2.2.1, grown_cell hg hnb HS3.out.2.2.2.2.1, grown_cell hg hnb HS3.out.2.2.2.2.2⟩)
  clear hm hg
  refine hK.out _ _ HS4.out (fun _ => ?_)
  clear hK K
  refine tkH (i := 41) (oi := ⟨some 50, .pick (.tmp 42) (.tmp 49) (.const (.bool false)), _, _, _, none⟩) (v := .bool true) rfl qs HS4.out ?_
  simp only [Act.put, zs1, zs2, zs3]
  refine tkH (i := 42) (oi := ⟨some 51, .move (.tmp 50), _, _, _, none⟩) (v := .bool true) rfl qs HS4.out ?_
  simp only [Act.put, zs1, zs2, zs3]
  refine tkH (i := 43) (oi := ⟨some 52, .move (.tmp 5), _, _, _, some (42, true)⟩) (v := .pointer (some ⟨b, pre.length + 4, none⟩)) rfl qs HS4.out ?_
  simp only [Act.put, zs1, zs2, zs3]
  refine tkH (i := 44) (oi := ⟨some 53, .nilCheck (.tmp 52), _, _, _, some (42, true)⟩) (v := .pointer (some ⟨b, pre.length + 4, none⟩)) rfl qs HS4.out ?_
  simp only [Act.put, zs1, zs2, zs3]
  refine tkH (i := 45) (oi := ⟨some 54, .fieldAddr 33 (.tmp 53) 2, _, _, _, some (42, true)⟩) (v := .pointer (some ⟨b, pre.length + 8, none⟩)) rfl qs HS4.out ?_
  simp only [Act.put, zs1, zs2, zs3]
  refine tkH (i := 46) (oi := ⟨some 55, .move (.tmp 1), _, _, _, some (42, true)⟩) (v := .slice (some ⟨nb, no, none⟩) 6 nc) rfl qs HS4.out ?_
  simp only [Act.put, zs1, zs2, zs3]
  refine tkH (i := 47) (oi := ⟨some 56, .indexAddr 155 (.tmp 55) (.const (.int .i64 4)), _, _, _, some (42, true)⟩) (v := .pointer (some ⟨nb, no + 4, none⟩)) rfl qs HS4.out ?_
  simp only [Act.put, zs1, zs2, zs3]
  refine tkH (i := 48) (oi := ⟨some 57, .load 2 (.tmp 56), _, _, _, some (42, true)⟩) (v := .int .i64 x4) rfl (Or.inl ⟨by rfl, fun w' hS => by have c := hS.2.2.2.2.1; go_simp⟩) HS4.out ?_
  simp only [Act.put, zs1, zs2, zs3]
  refine wpAnyH_ready (rs := [49]) (by kernel_rfl) (by simp) (AllReadyH.cons (o := ⟨some 58, .call ⟨.value (.func 115), #[.tmp 54, .tmp 57, .const (.int .i64 1), .const (.int .i64 7)], _⟩, _, _, _, some (42, true)⟩) rfl (fun K hK => ?_) AllReadyH.nil)
  go_simp
  refine (cutSt_no _ x4 1 7 _ hx4).mono ?_
  rintro e w5 ⟨rfl, rfl⟩
  have HG5 := Lib.hid HG4.out
  have HS5 := Lib.hid (HS4.out)
  refine hK.out _ _ HS5.out (fun _ => ?_)
  clear hK K
  refine tkH (i := 50) (oi := ⟨some 59, .pick (.tmp 51) (.tmp 58) (.const (.bool false)), _, _, _, none⟩) (v := .bool false) rfl qs HS5.out ?_
  simp only [Act.put, zs1, zs2, zs3]
  refine tkH (i := 51) (oi := ⟨some 60, .move (.tmp 59), _, _, _, none⟩) (v := .bool false) rfl qs HS5.out ?_
  simp only [Act.put, zs1, zs2, zs3]
  refine tkH (i := 52) (oi := ⟨some 61, .move (.tmp 5), _, _, _, some (51, true)⟩) (v := undef) rfl sko HS5.out ?_
  simp only [Act.put, zs1, zs2, zs3]
  refine tkH (i := 53) (oi := ⟨some 62, .nilCheck (.tmp 61), _, _, _, some (51, true)⟩) (v := undef) rfl sko HS5.out ?_
  simp only [Act.put, zs1, zs2, zs3]
  refine tkH (i := 54) (oi := ⟨some 63, .fieldAddr 33 (.tmp 62) 3, _, _, _, some (51, true)⟩) (v := undef) rfl sko HS5.out ?_
  simp only [Act.put, zs1, zs2, zs3]
  refine tkH (i := 55) (oi := ⟨some 64, .move (.tmp 1), _, _, _, some (51, true)⟩) (v := undef) rfl sko HS5.out ?_
  simp only [Act.put, zs1, zs2, zs3]
  refine tkH (i := 56) (oi := ⟨some 65, .indexAddr 155 (.tmp 64) (.const (.int .i64 5)), _, _, _, some (51, true)⟩) (v := undef) rfl sko HS5.out ?_
  simp only [Act.put, zs1, zs2, zs3]
  refine tkH (i := 57) (oi := ⟨some 66, .load 2 (.tmp 65), _, _, _, some (51, true)⟩) (v := undef) rfl sko HS5.out ?_
  simp only [Act.put, zs1, zs2, zs3]
  refine tkH (i := 58) (oi := ⟨some 67, .call ⟨.value (.func 113), #[.tmp 63, .tmp 66, .const (.int .i64 0), .const (.int .i64 4294967295)], _⟩, _, _, _, some (51, true)⟩) (v := undef) rfl sko HS5.out ?_
  simp only [Act.put, zs1, zs2, zs3]
  refine tkH (i := 59) (oi := ⟨some 68, .pick (.tmp 60) (.tmp 67) (.const (.bool false)), _, _, _, none⟩) (v := .bool false) rfl qs HS5.out ?_
  simp only [Act.put, zs1, zs2, zs3]
  refine tkH (i := 60) (oi := ⟨some 4, .assign (.tmp 68), _, _, _, none⟩) (v := .bool false) rfl qs HS5.out ?_
  simp only [Act.put, zs1, zs2, zs3]
  refine wpAnyH_done (by kernel_rfl) ?_ _
  go_wp2
  go_ret
  exact ⟨rfl, HG5.out⟩
set_option maxRecDepth 100000 in
set_option maxHeartbeats 3200000 in
theorem take_cpn_5 (b : Nat) (ty : TypeId) (pre : List Value) (m : Ms) (nb no nc : Nat) (x0 x1 x2 x3 x4 x5 : Int) (w : World) (hm : MsgAt w b ty pre m) (hnb : nb ≠ b) (hc : w.cell? ⟨nb, no, none⟩ = some (.int .i64 x0) ∧ w.cell? ⟨nb, no + 1, none⟩ = some (.int .i64 x1) ∧ w.cell? ⟨nb, no + 2, none⟩ = some (.int .i64 x2) ∧ w.cell? ⟨nb, no + 3, none⟩ = some (.int .i64 x3) ∧ w.cell? ⟨nb, no + 4, none⟩ = some (.int .i64 x4) ∧ w.cell? ⟨nb, no + 5, none⟩ = some (.int .i64 x5)) (hx0 : 0 ≤ x0 ∧ x0 ≤ 7) (hx1 : 0 ≤ x1 ∧ x1 ≤ 65535) (hx2 : 0 ≤ x2 ∧ x2 ≤ 4294967295) (hx3 : (-1125899906842624) ≤ x3 ∧ x3 ≤ 1125899906842624) (hx4 : 1 ≤ x4 ∧ x4 ≤ 7) (hx5 : x5 < 0 ∨ (0 ≤ x5 ∧ 4294967295 < x5)) :
    Calls Tryz.prog 111 #[.pointer (some ⟨b, pre.length, none⟩), .slice (some ⟨nb, no, none⟩) 6 nc] w fun e w' => e = .returned (.bool false) ∧ w.grownBy w' (some b) := by
  have HM := Lib.hid hm
  have HC := Lib.hid hc
  clear hm hc
  go_enter Tryz.func111, Tryz.ntmps111
  go_wp2
  refine wp_region_held (S := fun w' => w'.cell? ⟨nb, no, none⟩ = some (.int .i64 x0) ∧ w'.cell? ⟨nb, no + 1, none⟩ = some (.int .i64 x1) ∧ w'.cell? ⟨nb, no + 2, none⟩ = some (.int .i64 x2) ∧ w'.cell? ⟨nb, no + 3, none⟩ = some (.int .i64 x3) ∧ w'.cell? ⟨nb, no + 4, none⟩ = some (.int .i64 x4) ∧ w'.cell? ⟨nb, no + 5, none⟩ = some (.int .i64 x5)) (by kernel_rfl) ?_
  change wpAnyH _ _ _ _ _ _ _ _ (World.drew _)
  have HM0 := Lib.hid (show w.drew.heap[b]? = some (.cells (pre ++ msV m).toArray ty (0, 0)) from HM.out)
  have HG0 := Lib.hid (grown_drew w (some b))
  have HS0 := Lib.hid (show w.drew.cell? ⟨nb, no, none⟩ = some (.int .i64 x0) ∧ w.drew.cell? ⟨nb, no + 1, none⟩ = some (.int .i64 x1) ∧ w.drew.cell? ⟨nb, no + 2, none⟩ = some (.int .i64 x2) ∧ w.drew.cell? ⟨nb, no + 3, none⟩ = some (.int .i64 x3) ∧ w.drew.cell? ⟨nb, no + 4, none⟩ = some (.int .i64 x4) ∧ w.drew.cell? ⟨nb, no + 5, none⟩ = some (.int .i64 x5) from HC.out)
  refine tkH (i := 0) (oi := ⟨some 9, .move (.tmp 1), _, _, _, none⟩) (v := .slice (some ⟨nb, no, none⟩) 6 nc) rfl qs HS0.out ?_
  simp only [Act.put, zs1, zs2, zs3]
  refine tkH (i := 1) (oi := ⟨some 10, .call ⟨.builtin .len, #[.tmp 9], _⟩, _, _, _, none⟩) (v := .int .i64 6) rfl qs HS0.out ?_
  simp only [Act.put, zs1, zs2, zs3]
  refine tkH (i := 2) (oi := ⟨some 11, .binOp .eql 3 (.tmp 10) (.const (.int .i64 6)) 3, _, _, _, none⟩) (v := .bool true) rfl qs HS0.out ?_
  simp only [Act.put, zs1, zs2, zs3]
  refine tkH (i := 3) (oi := ⟨some 12, .move (.tmp 11), _, _, _, none⟩) (v := .bool true) rfl qs HS0.out ?_
  simp only [Act.put, zs1, zs2, zs3]
  refine tkH (i := 4) (oi := ⟨some 13, .move (.tmp 5), _, _, _, some (3, true)⟩) (v := .pointer (some ⟨b, pre.length + 4, none⟩)) rfl qs HS0.out ?_
  simp only [Act.put, zs1, zs2, zs3]
  refine tkH (i := 5) (oi := ⟨some 14, .nilCheck (.tmp 13), _, _, _, some (3, true)⟩) (v := .pointer (some ⟨b, pre.length + 4, none⟩)) rfl qs HS0.out ?_
  simp only [Act.put, zs1, zs2, zs3]
  refine tkH (i := 6) (oi := ⟨some 15, .fieldAddr 33 (.tmp 14) 0, _, _, _, some (3, true)⟩) (v := .pointer (some ⟨b, pre.length + 4, none⟩)) rfl qs HS0.out ?_
  simp only [Act.put, zs1, zs2, zs3]
  refine tkH (i := 7) (oi := ⟨some 16, .fieldAddr 30 (.tmp 15) 0, _, _, _, some (3, true)⟩) (v := .pointer (some ⟨b, pre.length + 4, none⟩)) rfl qs HS0.out ?_
  simp only [Act.put, zs1, zs2, zs3]
  refine tkH (i := 8) (oi := ⟨some 17, .move (.tmp 1), _, _, _, some (3, true)⟩) (v := .slice (some ⟨nb, no, none⟩) 6 nc) rfl qs HS0.out ?_
  simp only [Act.put, zs1, zs2, zs3]
  refine tkH (i := 9) (oi := ⟨some 18, .indexAddr 155 (.tmp 17) (.const (.int .i64 0)), _, _, _, some (3, true)⟩) (v := .pointer (some ⟨nb, no, none⟩)) rfl qs HS0.out ?_
  simp only [Act.put, zs1, zs2, zs3]
  refine tkH (i := 10) (oi := ⟨some 19, .load 2 (.tmp 18), _, _, _, some (3, true)⟩) (v := .int .i64 x0) rfl (Or.inl ⟨by rfl, fun w' hS => by have c := hS.1; go_simp⟩) HS0.out ?_
  simp only [Act.put, zs1, zs2, zs3]
  refine wpAnyH_ready (rs := [11]) (by kernel_rfl) (by simp) (AllReadyH.cons (o := ⟨some 20, .call ⟨.value (.func 106), #[.tmp 16, .tmp 19, .const (.int .i64 0), .const (.int .i64 7)], _⟩, _, _, _, some (3, true)⟩) rfl (fun K hK => ?_) AllReadyH.nil)
  go_simp
  refine (cutu8_yes b (pre.length + 4) ((pre ++ msV m).toArray) ty x0 0 7 _ HM0.out (by simp [msV]) hx0.1 hx0.2 (by omega) (by omega)).mono ?_
  rintro e w1 ⟨rfl, hm, hg⟩
  have HM1 := Lib.hid hm
  have HG1 := Lib.hid (grown_trans HG0.out hg)
  have HS1 := Lib.hid (show w1.cell? ⟨nb, no, none⟩ = some (.int .i64 x0) ∧ w1.cell? ⟨nb, no + 1, none⟩ = some (.int .i64 x1) ∧ w1.cell? ⟨nb, no + 2, none⟩ = some (.int .i64 x2) ∧ w1.cell? ⟨nb, no + 3, none⟩ = some (.int .i64 x3) ∧ w1.cell? ⟨nb, no + 4, none⟩ = some (.int .i64 x4) ∧ w1.cell? ⟨nb, no + 5, none⟩ = some (.int .i64 x5) from ⟨grown_cell hg hnb HS0.out.1, grown_cell hg hnb HS0.out.2.1, grown_cell hg hnb HS0.out.2.2.1, grown_cell hg hnb HS0.out.2.2.2.1, grown_cell hg hnb HS0.out.2.2.2.2.1, grown_cell hg hnb HS0.out.2.2.2.2.2⟩)
  clear hm hg
  refine hK.out _ _ HS1.out (fun _ => ?_)
  clear hK K
  refine tkH (i := 12) (oi := ⟨some 21, .pick (.tmp 12) (.tmp 20) (.const (.bool false)), _, _, _, none⟩) (v := .bool true) rfl qs HS1.out ?_
  simp only [Act.put, zs1, zs2, zs3]
  refine tkH (i := 13) (oi := ⟨some 22, .move (.tmp 21), _, _, _, none⟩) (v := .bool true) rfl qs HS1.out ?_
  simp only [Act.put, zs1, zs2, zs3]
  refine tkH (i := 14) (oi := ⟨some 23, .move (.tmp 5), _, _, _, some (13, true)⟩) (v := .pointer (some ⟨b, pre.length + 4, none⟩)) rfl qs HS1.out ?_
  simp only [Act.put, zs1, zs2, zs3]
  refine tkH (i := 15) (oi := ⟨some 24, .nilCheck (.tmp 23), _, _, _, some (13, true)⟩) (v := .pointer (some ⟨b, pre.length + 4, none⟩)) rfl qs HS1.out ?_
  simp only [Act.put, zs1, zs2, zs3]
  refine tkH (i := 16) (oi := ⟨some 25, .fieldAddr 33 (.tmp 24) 0, _, _, _, some (13, true)⟩) (v := .pointer (some ⟨b, pre.length + 4, none⟩)) rfl qs HS1.out ?_
  simp only [Act.put, zs1, zs2, zs3]
  refine tkH (i := 17) (oi := ⟨some 26, .fieldAddr 30 (.tmp 25) 1, _, _, _, some (13, true)⟩) (v := .pointer (some ⟨b, pre.length + 5, none⟩)) rfl qs HS1.out ?_
  simp only [Act.put, zs1, zs2, zs3]
  refine tkH (i := 18) (oi := ⟨some 27, .move (.tmp 1), _, _, _, some (13, true)⟩) (v := .slice (some ⟨nb, no, none⟩) 6 nc) rfl qs HS1.out ?_
  simp only [Act.put, zs1, zs2, zs3]
  refine tkH (i := 19) (oi := ⟨some 28, .indexAddr 155 (.tmp 27) (.const (.int .i64 1)), _, _, _, some (13, true)⟩) (v := .pointer (some ⟨nb, no + 1, none⟩)) rfl qs HS1.out ?_
  simp only [Act.put, zs1, zs2, zs3]
  refine tkH (i := 20) (oi := ⟨some 29, .load 2 (.tmp 28), _, _, _, some (13, true)⟩) (v := .int .i64 x1) rfl (Or.inl ⟨by rfl, fun w' hS => by have c := hS.2.1; go_simp⟩) HS1.out ?_
  simp only [Act.put, zs1, zs2, zs3]
  refine wpAnyH_ready (rs := [21]) (by kernel_rfl) (by simp) (AllReadyH.cons (o := ⟨some 30, .call ⟨.value (.func 112), #[.tmp 26, .tmp 29, .const (.int .i64 0), .const (.int .i64 65535)], _⟩, _, _, _, some (13, true)⟩) rfl (fun K hK => ?_) AllReadyH.nil)
  go_simp
  refine (cutu16_yes b (pre.length + 5) (((pre ++ msV m).toArray).setIfInBounds (pre.length + 4) (.int .u8 x0)) ty x1 0 65535 _ HM1.out (by simp [msV]) hx1.1 hx1.2 (by omega) (by omega)).mono ?_
  rintro e w2 ⟨rfl, hm, hg⟩
  have HM2 := Lib.hid hm
  have HG2 := Lib.hid (grown_trans HG1.out hg)
  have HS2 := Lib.hid (show w2.cell? ⟨nb, no, none⟩ = some (.int .i64 x0) ∧ w2.cell? ⟨nb, no + 1, none⟩ = some (.int .i64 x1) ∧ w2.cell? ⟨nb, no + 2, none⟩ = some (.int .i64 x2) ∧ w2.cell? ⟨nb, no + 3, none⟩ = some (.int .i64 x3) ∧ w2.cell? ⟨nb, no + 4, none⟩ = some (.int .i64 x4) ∧ w2.cell? ⟨nb, no + 5, none⟩ = some (.int .i64 x5) from ⟨grown_cell hg hnb HS1.out.1, grown_cell hg hnb HS1.out.2.1, grown_cell hg hnb HS1.out.2.2.1, grown_cell hg hnb HS1.out.2.2.2.1, grown_cell hg hnb HS1.out.2.2.2.2.1, grown_cell hg hnb HS1.out.2.2.2.2.2⟩)
  clear hm hg
  refine hK.out _ _ HS2.out (fun _ => ?_)
  clear hK K
  refine tkH (i := 22) (oi := ⟨some 31, .pick (.tmp 22) (.tmp 30) (.const (.bool false)), _, _, _, none⟩) (v := .bool true) rfl qs HS2.out ?_
  simp only [Act.put, zs1, zs2, zs3]
  refine tkH (i := 23) (oi := ⟨some 32, .move (.tmp 31), _, _, _, none⟩) (v := .bool true) rfl qs HS2.out ?_
  simp only [Act.put, zs1, zs2, zs3]
  refine tkH (i := 24) (oi := ⟨some 33, .move (.tmp 5), _, _, _, some (23, true)⟩) (v := .pointer (some ⟨b, pre.length + 4, none⟩)) rfl qs HS2.out ?_
  simp only [Act.put, zs1, zs2, zs3]
  refine tkH (i := 25) (oi := ⟨some 34, .nilCheck (.tmp 33), _, _, _, some (23, true)⟩) (v := .pointer (some ⟨b, pre.length + 4, none⟩)) rfl qs HS2.out ?_
  simp only [Act.put, zs1, zs2, zs3]
  refine tkH (i := 26) (oi := ⟨some 35, .fieldAddr 33 (.tmp 34) 0, _, _, _, some (23, true)⟩) (v := .pointer (some ⟨b, pre.length + 4, none⟩)) rfl qs HS2.out ?_
  simp only [Act.put, zs1, zs2, zs3]
  refine tkH (i := 27) (oi := ⟨some 36, .fieldAddr 30 (.tmp 35) 2, _, _, _, some (23, true)⟩) (v := .pointer (some ⟨b, pre.length + 6, none⟩)) rfl qs HS2.out ?_
  simp only [Act.put, zs1, zs2, zs3]
  refine tkH (i := 28) (oi := ⟨some 37, .move (.tmp 1), _, _, _, some (23, true)⟩) (v := .slice (some ⟨nb, no, none⟩) 6 nc) rfl qs HS2.out ?_
  simp only [Act.put, zs1, zs2, zs3]
  refine tkH (i := 29) (oi := ⟨some 38, .indexAddr 155 (.tmp 37) (.const (.int .i64 2)), _, _, _, some (23, true)⟩) (v := .pointer (some ⟨nb, no + 2, none⟩)) rfl qs HS2.out ?_
  simp only [Act.put, zs1, zs2, zs3]
  refine tkH (i := 30) (oi := ⟨some 39, .load 2 (.tmp 38), _, _, _, some (23, true)⟩) (v := .int .i64 x2) rfl (Or.inl ⟨by rfl, fun w' hS => by have c := hS.2.2.1; go_simp⟩) HS2.out ?_
  simp only [Act.put, zs1, zs2, zs3]
  refine wpAnyH_ready (rs := [31]) (by kernel_rfl) (by simp) (AllReadyH.cons (o := ⟨some 40, .call ⟨.value (.func 113), #[.tmp 36, .tmp 39, .const (.int .i64 0), .const (.int .i64 4294967295)], _⟩, _, _, _, some (23, true)⟩) rfl (fun K hK => ?_) AllReadyH.nil)
  go_simp
  refine (cutu32_yes b (pre.length + 6) ((((pre ++ msV m).toArray).setIfInBounds (pre.length + 4) (.int .u8 x0)).setIfInBounds (pre.length + 5) (.int .u16 x1)) ty x2 0 4294967295 _ HM2.out (by simp [msV]) hx2.1 hx2.2 (by omega) (by omega)).mono ?_
  rintro e w3 ⟨rfl, hm, hg⟩
  have HM3 := Lib.hid hm
  have HG3 := Lib.hid (grown_trans HG2.out hg)
  have HS3 := Lib.hid (show w3.cell? ⟨nb, no, none⟩ = some (.int .i64 x0) ∧ w3.cell? ⟨nb, no + 1, none⟩ = some (.int .i64 x1) ∧ w3.cell? ⟨nb, no + 2, none⟩ = some (.int .i64 x2) ∧ w3.cell? ⟨nb, no + 3, none⟩ = some (.int .i64 x3) ∧ w3.cell? ⟨nb, no + 4, none⟩ = some (.int .i64 x4) ∧ w3.cell? ⟨nb, no + 5, none⟩ = some (.int .i64 x5) from ⟨grown_cell hg hnb HS2.out.1, grown_cell hg hnb HS2.out.2.1, grown_cell hg hnb HS2.out.2.2.1, grown_cell hg hnb HS2.out.2.2.2.1, grown_cell hg hnb HS2.out.2.2.2.2.1, grown_cell hg hnb HS2.out.2.2.2.2.2⟩)
  clear hm hg
  refine hK.out _ _ HS3.out (fun _ => ?_)
  clear hK K
  refine tkH (i := 32) (oi := ⟨some 41, .pick (.tmp 32) (.tmp 40) (.const (.bool false)), _, _, _, none⟩) (v := .bool true) rfl qs HS3.out ?_
  simp only [Act.put, zs1, zs2, zs3]
  refine tkH (i := 33) (oi := ⟨some 42, .move (.tmp 41), _, _, _, none⟩) (v := .bool true) rfl qs HS3.out ?_
  simp only [Act.put, zs1, zs2, zs3]
  refine tkH (i := 34) (oi := ⟨some 43, .move (.tmp 5), _, _, _, some (33, true)⟩) (v := .pointer (some ⟨b, pre.length + 4, none⟩)) rfl qs HS3.out ?_
  simp only [Act.put, zs1, zs2, zs3]
  refine tkH (i := 35) (oi := ⟨some 44, .nilCheck (.tmp 43), _, _, _, some (33, true)⟩) (v := .pointer (some ⟨b, pre.length + 4, none⟩)) rfl qs HS3.out ?_
  simp only [Act.put, zs1, zs2, zs3]
  refine tkH (i := 36) (oi := ⟨some 45, .fieldAddr 33 (.tmp 44) 1, _, _, _, some (33, true)⟩) (v := .pointer (some ⟨b, pre.length + 7, none⟩)) rfl qs HS3.out ?_
  simp only [Act.put, zs1, zs2, zs3]
  refine tkH (i := 37) (oi := ⟨some 46, .move (.tmp 1), _, _, _, some (33, true)⟩) (v := .slice (some ⟨nb, no, none⟩) 6 nc) rfl qs HS3.out ?_
  simp only [Act.put, zs1, zs2, zs3]
  refine tkH (i := 38) (oi := ⟨some 47, .indexAddr 155 (.tmp 46) (.const (.int .i64 3)), _, _, _, some (33, true)⟩) (v := .pointer (some ⟨nb, no + 3, none⟩)) rfl qs HS3.out ?_
  simp only [Act.put, zs1, zs2, zs3]
  refine tkH (i := 39) (oi := ⟨some 48, .load 2 (.tmp 47), _, _, _, some (33, true)⟩) (v := .int .i64 x3) rfl (Or.inl ⟨by rfl, fun w' hS => by have c := hS.2.2.2.1; go_simp⟩) HS3.out ?_
  simp only [Act.put, zs1, zs2, zs3]
  refine wpAnyH_ready (rs := [40]) (by kernel_rfl) (by simp) (AllReadyH.cons (o := ⟨some 49, .call ⟨.value (.func 114), #[.tmp 45, .tmp 48, .const (.int .i64 (-1125899906842624)), .const (.int .i64 1125899906842624)], _⟩, _, _, _, some (33, true)⟩) rfl (fun K hK => ?_) AllReadyH.nil)
  go_simp
  refine (cuti64_yes b (pre.length + 7) (((((pre ++ msV m).toArray).setIfInBounds (pre.length + 4) (.int .u8 x0)).setIfInBounds (pre.length + 5) (.int .u16 x1)).setIfInBounds (pre.length + 6) (.int .u32 x2)) ty x3 (-1125899906842624) 1125899906842624 _ HM3.out (by simp [msV]) hx3.1 hx3.2 (by omega) (by omega)).mono ?_
  rintro e w4 ⟨rfl, hm, hg⟩
  have HM4 := Lib.hid hm
  have HG4 := Lib.hid (grown_trans HG3.out hg)
  have HS4 := Lib.hid (show w4.cell? ⟨nb, no, none⟩ = some (.int .i64 x0) ∧ w4.cell? ⟨nb, no + 1, none⟩ = some (.int .i64 x1) ∧ w4.cell? ⟨nb, no + 2, none⟩ = some (.int .i64 x2) ∧ w4.cell? ⟨nb, no + 3, none⟩ = some (.int .i64 x3) ∧ w4.cell? ⟨nb, no + 4, none⟩ = some (.int .i64 x4) ∧ w4.cell? ⟨nb, no + 5, none⟩ = some (.int .i64 x5) from ⟨grown_cell hg hnb HS3.out.1, grown_cell hg hnb HS3.out.2.1, grown_cell hg hnb HS3.out.2.2.1, grown_cell hg hnb HS3.out.2.2.2.1, grown_cell hg hnb HS3.out.2.2.2.2.1, grown_cell hg hnb HS3.out.2.2.2.2.2⟩)
  clear hm hg
  refine hK.out _ _ HS4.out (fun _ => ?_)
  clear hK K
  refine tkH (i := 41) (oi := ⟨some 50, .pick (.tmp 42) (.tmp 49) (.const (.bool false)), _, _, _, none⟩) (v := .bool true) rfl qs HS4.out ?_
  simp only [Act.put, zs1, zs2, zs3]
  refine tkH (i := 42) (oi := ⟨some 51, .move (.tmp 50), _, _, _, none⟩) (v := .bool true) rfl qs HS4.out ?_
  simp only [Act.put, zs1, zs2, zs3]
  refine tkH (i := 43) (oi := ⟨some 52, .move (.tmp 5), _, _, _, some (42, true)⟩) (v := .pointer (some ⟨b, pre.length + 4, none⟩)) rfl qs HS4.out ?_
  simp only [Act.put, zs1, zs2, zs3]
  refine tkH (i := 44) (oi := ⟨some 53, .nilCheck (.tmp 52), _, _, _, some (42, true)⟩) (v := .pointer (some ⟨b, pre.length + 4, none⟩)) rfl qs HS4.out ?_
  simp only [Act.put, zs1, zs2, zs3]
  refine tkH (i := 45) (oi := ⟨some 54, .fieldAddr 33 (.tmp 53) 2, _, _, _, some (42, true)⟩) (v := .pointer (some ⟨b, pre.length + 8, none⟩)) rfl qs HS4.out ?_
  simp only [Act.put, zs1, zs2, zs3]
  refine tkH (i := 46) (oi := ⟨some 55, .move (.tmp 1), _, _, _, some (42, true)⟩) (v := .slice (some ⟨nb, no, none⟩) 6 nc) rfl qs HS4.out ?_
  simp only [Act.put, zs1, zs2, zs3]
  refine tkH (i := 47) (oi := ⟨some 56, .indexAddr 155 (.tmp 55) (.const (.int .i64 4)), _, _, _, some (42, true)⟩) (v := .pointer (some ⟨nb, no + 4, none⟩)) rfl qs HS4.out ?_
  simp only [Act.put, zs1, zs2, zs3]
  refine tkH (i := 48) (oi := ⟨some 57, .load 2 (.tmp 56), _, _, _, some (42, true)⟩) (v := .int .i64 x4) rfl (Or.inl ⟨by rfl, fun w' hS => by have c := hS.2.2.2.2.1; go_simp⟩) HS4.out ?_
  simp only [Act.put, zs1, zs2, zs3]
  refine wpAnyH_ready (rs := [49]) (by kernel_rfl) (by simp) (AllReadyH.cons (o := ⟨some 58, .call ⟨.value (.func 115), #[.tmp 54, .tmp 57, .const (.int .i64 1), .const (.int .i64 7)], _⟩, _, _, _, some (42, true)⟩) rfl (fun K hK => ?_) AllReadyH.nil)
  go_simp
  refine (cutSt_yes b (pre.length + 8) ((((((pre ++ msV m).toArray).setIfInBounds (pre.length + 4) (.int .u8 x0)).setIfInBounds (pre.length + 5) (.int .u16 x1)).setIfInBounds (pre.length + 6) (.int .u32 x2)).setIfInBounds (pre.length + 7) (.int .i64 x3)) ty x4 1 7 _ HM4.out (by simp [msV]) hx4.1 hx4.2 (by omega) (by omega)).mono ?_
  rintro e w5 ⟨rfl, hm, hg⟩
  have HM5 := Lib.hid hm
  have HG5 := Lib.hid (grown_trans HG4.out hg)
  have HS5 := Lib.hid (show w5.cell? ⟨nb, no, none⟩ = some (.int .i64 x0) ∧ w5.cell? ⟨nb, no + 1, none⟩ = some (.int .i64 x1) ∧ w5.cell? ⟨nb, no + 2, none⟩ = some (.int .i64 x2) ∧ w5.cell? ⟨nb, no + 3, none⟩ = some (.int .i64 x3) ∧ w5.cell? ⟨nb, no + 4, none⟩ = some (.int .i64 x4) ∧ w5.cell? ⟨nb, no + 5, none⟩ = some (.int .i64 x5) from ⟨grown_cell hg hnb HS4.out.1, grown_cell hg hnb HS4.out.2.1, grown_cell hg hnb HS4.out.2.2.1, grown_cell hg hnb HS4.out.2.2.2.1, grown_cell hg hnb HS4.out.2.2.2.2.1, grown_cell hg hnb HS4.out.2.2.2.2.2⟩)
  clear hm hg
  refine hK.out _ _ HS5.out (fun _ => ?_)
  clear hK K
  refine tkH (i := 50) (oi := ⟨some 59, .pick (.tmp 51) (.tmp 58) (.const (.bool false)), _, _, _, none⟩) (v := .bool true) rfl qs HS5.out ?_
  simp only [Act.put, zs1, zs2, zs3]
  refine tkH (i := 51) (oi := ⟨some 60, .move (.tmp 59), _, _, _, none⟩) (v := .bool true) rfl qs HS5.out ?_
  simp only [Act.put, zs1, zs2, zs3]
  refine tkH (i := 52) (oi := ⟨some 61, .move (.tmp 5), _, _, _, some (51, true)⟩) (v := .pointer (some ⟨b, pre.length + 4, none⟩)) rfl qs HS5.out ?_
  simp only [Act.put, zs1, zs2, zs3]
  refine tkH (i := 53) (oi := ⟨some 62, .nilCheck (.tmp 61), _, _, _, some (51, true)⟩) (v := .pointer (some ⟨b, pre.length + 4, none⟩)) rfl qs HS5.out ?_
  simp only [Act.put, zs1, zs2, zs3]
  refine tkH (i := 54) (oi := ⟨some 63, .fieldAddr 33 (.tmp 62) 3, _, _, _, some (51, true)⟩) (v := .pointer (some ⟨b, pre.length + 9, none⟩)) rfl qs HS5.out ?_
  simp only [Act.put, zs1, zs2, zs3]
  refine tkH (i := 55) (oi := ⟨some 64, .move (.tmp 1), _, _, _, some (51, true)⟩) (v := .slice (some ⟨nb, no, none⟩) 6 nc) rfl qs HS5.out ?_
  simp only [Act.put, zs1, zs2, zs3]
  refine tkH (i := 56) (oi := ⟨some 65, .indexAddr 155 (.tmp 64) (.const (.int .i64 5)), _, _, _, some (51, true)⟩) (v := .pointer (some ⟨nb, no + 5, none⟩)) rfl qs HS5.out ?_
  simp only [Act.put, zs1, zs2, zs3]
  refine tkH (i := 57) (oi := ⟨some 66, .load 2 (.tmp 65), _, _, _, some (51, true)⟩) (v := .int .i64 x5) rfl (Or.inl ⟨by rfl, fun w' hS => by have c := hS.2.2.2.2.2; go_simp⟩) HS5.out ?_
  simp only [Act.put, zs1, zs2, zs3]
  refine wpAnyH_ready (rs := [58]) (by kernel_rfl) (by simp) (AllReadyH.cons (o := ⟨some 67, .call ⟨.value (.func 113), #[.tmp 63, .tmp 66, .const (.int .i64 0), .const (.int .i64 4294967295)], _⟩, _, _, _, some (51, true)⟩) rfl (fun K hK => ?_) AllReadyH.nil)
  go_simp
  refine (cutu32_no _ x5 0 4294967295 _ hx5).mono ?_
  rintro e w6 ⟨rfl, rfl⟩
  have HG6 := Lib.hid HG5.out
  have HS6 := Lib.hid (HS5.out)
  refine hK.out _ _ HS6.out (fun _ => ?_)
  clear hK K
  refine tkH (i := 59) (oi := ⟨some 68, .pick (.tmp 60) (.tmp 67) (.const (.bool false)), _, _, _, none⟩) (v := .bool false) rfl qs HS6.out ?_
  simp only [Act.put, zs1, zs2, zs3]
  refine tkH (i := 60) (oi := ⟨some 4, .assign (.tmp 68), _, _, _, none⟩) (v := .bool false) rfl qs HS6.out ?_
  simp only [Act.put, zs1, zs2, zs3]
  refine wpAnyH_done (by kernel_rfl) ?_ _
  go_wp2
  go_ret
  exact ⟨rfl, HG6.out⟩
set_option maxRecDepth 100000 in
set_option maxHeartbeats 3200000 in
theorem take_cpn_6 (b : Nat) (ty : TypeId) (pre : List Value) (m : Ms) (nb no nc : Nat) (x0 x1 x2 x3 x4 x5 : Int) (w : World) (hm : MsgAt w b ty pre m) (hnb : nb ≠ b) (hc : w.cell? ⟨nb, no, none⟩ = some (.int .i64 x0) ∧ w.cell? ⟨nb, no + 1, none⟩ = some (.int .i64 x1) ∧ w.cell? ⟨nb, no + 2, none⟩ = some (.int .i64 x2) ∧ w.cell? ⟨nb, no + 3, none⟩ = some (.int .i64 x3) ∧ w.cell? ⟨nb, no + 4, none⟩ = some (.int .i64 x4) ∧ w.cell? ⟨nb, no + 5, none⟩ = some (.int .i64 x5)) (hx0 : 0 ≤ x0 ∧ x0 ≤ 7) (hx1 : 0 ≤ x1 ∧ x1 ≤ 65535) (hx2 : 0 ≤ x2 ∧ x2 ≤ 4294967295) (hx3 : (-1125899906842624) ≤ x3 ∧ x3 ≤ 1125899906842624) (hx4 : 1 ≤ x4 ∧ x4 ≤ 7) (hx5 : 0 ≤ x5 ∧ x5 ≤ 4294967295) :
    Calls Tryz.prog 111 #[.pointer (some ⟨b, pre.length, none⟩), .slice (some ⟨nb, no, none⟩) 6 nc] w fun e w' => e = .returned (.bool true) ∧ w.grownBy w' (some b) ∧ w'.heap[b]? = some (.cells ((((((((pre ++ msV m).toArray).setIfInBounds (pre.length + 4) (.int .u8 x0)).setIfInBounds (pre.length + 5) (.int .u16 x1)).setIfInBounds (pre.length + 6) (.int .u32 x2)).setIfInBounds (pre.length + 7) (.int .i64 x3)).setIfInBounds (pre.length + 8) (.int .u8 x4)).setIfInBounds (pre.length + 9) (.int .u32 x5)) ty (0, 0)) := by
  have HM := Lib.hid hm
  have HC := Lib.hid hc
  clear hm hc
  go_enter Tryz.func111, Tryz.ntmps111
  go_wp2
  refine wp_region_held (S := fun w' => w'.cell? ⟨nb, no, none⟩ = some (.int .i64 x0) ∧ w'.cell? ⟨nb, no + 1, none⟩ = some (.int .i64 x1) ∧ w'.cell? ⟨nb, no + 2, none⟩ = some (.int .i64 x2) ∧ w'.cell? ⟨nb, no + 3, none⟩ = some (.int .i64 x3) ∧ w'.cell? ⟨nb, no + 4, none⟩ = some (.int .i64 x4) ∧ w'.cell? ⟨nb, no + 5, none⟩ = some (.int .i64 x5)) (by kernel_rfl) ?_
  change wpAnyH _ _ _ _ _ _ _ _ (World.drew _)
  have HM0 := Lib.hid (show w.drew.heap[b]? = some (.cells (pre ++ msV m).toArray ty (0, 0)) from HM.out)
  have HG0 := Lib.hid (grown_drew w (some b))
  have HS0 := Lib.hid (show w.drew.cell? ⟨nb, no, none⟩ = some (.int .i64 x0) ∧ w.drew.cell? ⟨nb, no + 1, none⟩ = some (.int .i64 x1) ∧ w.drew.cell? ⟨nb, no + 2, none⟩ = some (.int .i64 x2) ∧ w.drew.cell? ⟨nb, no + 3, none⟩ = some (.int .i64 x3) ∧ w.drew.cell? ⟨nb, no + 4, none⟩ = some (.int .i64 x4) ∧ w.drew.cell? ⟨nb, no + 5, none⟩ = some (.int .i64 x5) from HC.out)
  refine tkH (i := 0) (oi := ⟨some 9, .move (.tmp 1), _, _, _, none⟩) (v := .slice (some ⟨nb, no, none⟩) 6 nc) rfl qs HS0.out ?_
  simp only [Act.put, zs1, zs2, zs3]
  refine tkH (i := 1) (oi := ⟨some 10, .call ⟨.builtin .len, #[.tmp 9], _⟩, _, _, _, none⟩) (v := .int .i64 6) rfl qs HS0.out ?_
  simp only [Act.put, zs1, zs2, zs3]
  refine tkH (i := 2) (oi := ⟨some 11, .binOp .eql 3 (.tmp 10) (.const (.int .i64 6)) 3, _, _, _, none⟩) (v := .bool true) rfl qs HS0.out ?_
  simp only [Act.put, zs1, zs2, zs3]
  refine tkH (i := 3) (oi := ⟨some 12, .move (.tmp 11), _, _, _, none⟩) (v := .bool true) rfl qs HS0.out ?_
  simp only [Act.put, zs1, zs2, zs3]
  refine tkH (i := 4) (oi := ⟨some 13, .move (.tmp 5), _, _, _, some (3, true)⟩) (v := .pointer (some ⟨b, pre.length + 4, none⟩)) rfl qs HS0.out ?_
  simp only [Act.put, zs1, zs2, zs3]
  refine tkH (i := 5) (oi := ⟨some 14, .nilCheck (.tmp 13), _, _, _, some (3, true)⟩) (v := .pointer (some ⟨b, pre.length + 4, none⟩)) rfl qs HS0.out ?_
  simp only [Act.put, zs1, zs2, zs3]
  refine tkH (i := 6) (oi := ⟨some 15, .fieldAddr 33 (.tmp 14) 0, _, _, _, some (3, true)⟩) (v := .pointer (some ⟨b, pre.length + 4, none⟩)) rfl qs HS0.out ?_
  simp only [Act.put, zs1, zs2, zs3]
  refine tkH (i := 7) (oi := ⟨some 16, .fieldAddr 30 (.tmp 15) 0, _, _, _, some (3, true)⟩) (v := .pointer (some ⟨b, pre.length + 4, none⟩)) rfl qs HS0.out ?_
  simp only [Act.put, zs1, zs2, zs3]
  refine tkH (i := 8) (oi := ⟨some 17, .move (.tmp 1), _, _, _, some (3, true)⟩) (v := .slice (some ⟨nb, no, none⟩) 6 nc) rfl qs HS0.out ?_
  simp only [Act.put, zs1, zs2, zs3]
  refine tkH (i := 9) (oi := ⟨some 18, .indexAddr 155 (.tmp 17) (.const (.int .i64 0)), _, _, _, some (3, true)⟩) (v := .pointer (some ⟨nb, no, none⟩)) rfl qs HS0.out ?_
  simp only [Act.put, zs1, zs2, zs3]
  refine tkH (i := 10) (oi := ⟨some 19, .load 2 (.tmp 18), _, _, _, some (3, true)⟩) (v := .int .i64 x0) rfl (Or.inl ⟨by rfl, fun w' hS => by have c := hS.1; go_simp⟩) HS0.out ?_
  simp only [Act.put, zs1, zs2, zs3]
  refine wpAnyH_ready (rs := [11]) (by kernel_rfl) (by simp) (AllReadyH.cons (o := ⟨some 20, .call ⟨.value (.func 106), #[.tmp 16, .tmp 19, .const (.int .i64 0), .const (.int .i64 7)], _⟩, _, _, _, some (3, true)⟩) rfl (fun K hK => ?_) AllReadyH.nil)
  go_simp
  refine (cutu8_yes b (pre.length + 4) ((pre ++ msV m).toArray) ty x0 0 7 _ HM0.out (by simp [msV]) hx0.1 hx0.2 (by omega) (by omega)).mono ?_
  rintro e w1 ⟨rfl, hm, hg⟩
  have HM1 := Lib.hid hm
  have HG1 := Lib.hid (grown_trans HG0.out hg)
  have HS1 := Lib.hid (show w1.cell? ⟨nb, no, none⟩ = some (.int .i64 x0) ∧ w1.cell? ⟨nb, no + 1, none⟩ = some (.int .i64 x1) ∧ w1.cell? ⟨nb, no + 2, none⟩ = some (.int .i64 x2) ∧ w1.cell? ⟨nb, no + 3, none⟩ = some (.int .i64 x3) ∧ w1.cell? ⟨nb, no + 4, none⟩ = some (.int .i64 x4) ∧ w1.cell? ⟨nb, no + 5, none⟩ = some (.int .i64 x5) from ⟨grown_cell hg hnb HS0.out.1, grown_cell hg hnb HS0.out.2.1, grown_cell hg hnb HS0.out.2.2.1, grown_cell hg hnb HS0.out.2.2.2.1, grown_cell hg hnb HS0.out.2.2.2.2.1, grown_cell hg hnb HS0.out.2.2.2.2.2⟩)
  clear hm hg
  refine hK.out _ _ HS1.out (fun _ => ?_)
  clear hK K
  refine tkH (i := 12) (oi := ⟨some 21, .pick (.tmp 12) (.tmp 20) (.const (.bool false)), _, _, _, none⟩) (v := .bool true) rfl qs HS1.out ?_
  simp only [Act.put, zs1, zs2, zs3]
  refine tkH (i := 13) (oi := ⟨some 22, .move (.tmp 21), _, _, _, none⟩) (v := .bool true) rfl qs HS1.out ?_
  simp only [Act.put, zs1, zs2, zs3]
  refine tkH (i := 14) (oi := ⟨some 23, .move (.tmp 5), _, _, _, some (13, true)⟩) (v := .pointer (some ⟨b, pre.length + 4, none⟩)) rfl qs HS1.out ?_
  simp only [Act.put, zs1, zs2, zs3]
  refine tkH (i := 15) (oi := ⟨some 24, .nilCheck (.tmp 23), _, _, _, some (13, true)⟩) (v := .pointer (some ⟨b, pre.length + 4, none⟩)) rfl qs HS1.out ?_
  simp only [Act.put, zs1, zs2, zs3]
  refine tkH (i := 16) (oi := ⟨some 25, .fieldAddr 33 (.tmp 24) 0, _, _, _, some (13, true)⟩) (v := .pointer (some ⟨b, pre.length + 4, none⟩)) rfl qs HS1.out ?_
  simp only [Act.put, zs1, zs2, zs3]
  refine tkH (i := 17) (oi := ⟨some 26, .fieldAddr 30 (.tmp 25) 1, _, _, _, some (13, true)⟩) (v := .pointer (some ⟨b, pre.length + 5, none⟩)) rfl qs HS1.out ?_
  simp only [Act.put, zs1, zs2, zs3]
  refine tkH (i := 18) (oi := ⟨some 27, .move (.tmp 1), _, _, _, some (13, true)⟩) (v := .slice (some ⟨nb, no, none⟩) 6 nc) rfl qs HS1.out ?_
  simp only [Act.put, zs1, zs2, zs3]
  refine tkH (i := 19) (oi := ⟨some 28, .indexAddr 155 (.tmp 27) (.const (.int .i64 1)), _, _, _, some (13, true)⟩) (v := .pointer (some ⟨nb, no + 1, none⟩)) rfl qs HS1.out ?_
  simp only [Act.put, zs1, zs2, zs3]
  refine tkH (i := 20) (oi := ⟨some 29, .load 2 (.tmp 28), _, _, _, some (13, true)⟩) (v := .int .i64 x1) rfl (Or.inl ⟨by rfl, fun w' hS => by have c := hS.2.1; go_simp⟩) HS1.out ?_
  simp only [Act.put, zs1, zs2, zs3]
  refine wpAnyH_ready (rs := [21]) (by kernel_rfl) (by simp) (AllReadyH.cons (o := ⟨some 30, .call ⟨.value (.func 112), #[.tmp 26, .tmp 29, .const (.int .i64 0), .const (.int .i64 65535)], _⟩, _, _, _, some (13, true)⟩) rfl (fun K hK => ?_) AllReadyH.nil)
  go_simp
  refine (cutu16_yes b (pre.length + 5) (((pre ++ msV m).toArray).setIfInBounds (pre.length + 4) (.int .u8 x0)) ty x1 0 65535 _ HM1.out (by simp [msV]) hx1.1 hx1.2 (by omega) (by omega)).mono ?_
  rintro e w2 ⟨rfl, hm, hg⟩
  have HM2 := Lib.hid hm
  have HG2 := Lib.hid (grown_trans HG1.out hg)
  have HS2 := Lib.hid (show w2.cell? ⟨nb, no, none⟩ = some (.int .i64 x0) ∧ w2.cell? ⟨nb, no + 1, none⟩ = some (.int .i64 x1) ∧ w2.cell? ⟨nb, no + 2, none⟩ = some (.int .i64 x2) ∧ w2.cell? ⟨nb, no + 3, none⟩ = some (.int .i64 x3) ∧ w2.cell? ⟨nb, no + 4, none⟩ = some (.int .i64 x4) ∧ w2.cell? ⟨nb, no + 5, none⟩ = some (.int .i64 x5) from ⟨grown_cell hg hnb HS1.out.1, grown_cell hg hnb HS1.out.2.1, grown_cell hg hnb HS1.out.2.2.1, grown_cell hg hnb HS1.out.2.2.2.1, grown_cell hg hnb HS1.out.2.2.2.2.1, grown_cell hg hnb HS1.out.2.2.2.2.2⟩)
  clear hm hg
  refine hK.out _ _ HS2.out (fun _ => ?_)
  clear hK K
  refine tkH (i := 22) (oi := ⟨some 31, .pick (.tmp 22) (.tmp 30) (.const (.bool false)), _, _, _, none⟩) (v := .bool true) rfl qs HS2.out ?_
  simp only [Act.put, zs1, zs2, zs3]
  refine tkH (i := 23) (oi := ⟨some 32, .move (.tmp 31), _, _, _, none⟩) (v := .bool true) rfl qs HS2.out ?_
  simp only [Act.put, zs1, zs2, zs3]
  refine tkH (i := 24) (oi := ⟨some 33, .move (.tmp 5), _, _, _, some (23, true)⟩) (v := .pointer (some ⟨b, pre.length + 4, none⟩)) rfl qs HS2.out ?_
  simp only [Act.put, zs1, zs2, zs3]
  refine tkH (i := 25) (oi := ⟨some 34, .nilCheck (.tmp 33), _, _, _, some (23, true)⟩) (v := .pointer (some ⟨b, pre.length + 4, none⟩)) rfl qs HS2.out ?_
  simp only [Act.put, zs1, zs2, zs3]
  refine tkH (i := 26) (oi := ⟨some 35, .fieldAddr 33 (.tmp 34) 0, _, _, _, some (23, true)⟩) (v := .pointer (some ⟨b, pre.length + 4, none⟩)) rfl qs HS2.out ?_
  simp only [Act.put, zs1, zs2, zs3]
  refine tkH (i := 27) (oi := ⟨some 36, .fieldAddr 30 (.tmp 35) 2, _, _, _, some (23, true)⟩) (v := .pointer (some ⟨b, pre.length + 6, none⟩)) rfl qs HS2.out ?_
  simp only [Act.put, zs1, zs2, zs3]
  refine tkH (i := 28) (oi := ⟨some 37, .move (.tmp 1), _, _, _, some (23, true)⟩) (v := .slice (some ⟨nb, no, none⟩) 6 nc) rfl qs HS2.out ?_
  simp only [Act.put, zs1, zs2, zs3]
  refine tkH (i := 29) (oi := ⟨some 38, .indexAddr 155 (.tmp 37) (.const (.int .i64 2)), _, _, _, some (23, true)⟩) (v := .pointer (some ⟨nb, no + 2, none⟩)) rfl qs HS2.out ?_
  simp only [Act.put, zs1, zs2, zs3]
  refine tkH (i := 30) (oi := ⟨some 39, .load 2 (.tmp 38), _, _, _, some (23, true)⟩) (v := .int .i64 x2) rfl (Or.inl ⟨by rfl, fun w' hS => by have c := hS.2.2.1; go_simp⟩) HS2.out ?_
  simp only [Act.put, zs1, zs2, zs3]
  refine wpAnyH_ready (rs := [31]) (by kernel_rfl) (by simp) (AllReadyH.cons (o := ⟨some 40, .call ⟨.value (.func 113), #[.tmp 36, .tmp 39, .const (.int .i64 0), .const (.int .i64 4294967295)], _⟩, _, _, _, some (23, true)⟩) rfl (fun K hK => ?_) AllReadyH.nil)
  go_simp
  refine (cutu32_yes b (pre.length + 6) ((((pre ++ msV m).toArray).setIfInBounds (pre.length + 4) (.int .u8 x0)).setIfInBounds (pre.length + 5) (.int .u16 x1)) ty x2 0 4294967295 _ HM2.out (by simp [msV]) hx2.1 hx2.2 (by omega) (by omega)).mono ?_
  rintro e w3 ⟨rfl, hm, hg⟩
  have HM3 := Lib.hid hm
  have HG3 := Lib.hid (grown_trans HG2.out hg)
  have HS3 := Lib.hid (show w3.cell? ⟨nb, no, none⟩ = some (.int .i64 x0) ∧ w3.cell? ⟨nb, no + 1, none⟩ = some (.int .i64 x1) ∧ w3.cell? ⟨nb, no + 2, none⟩ = some (.int .i64 x2) ∧ w3.cell? ⟨nb, no + 3, none⟩ = some (.int .i64 x3) ∧ w3.cell? ⟨nb, no + 4, none⟩ = some (.int .i64 x4) ∧ w3.cell? ⟨nb, no + 5, none⟩ = some (.int .i64 x5) from ⟨grown_cell hg hnb HS2.out.1, grown_cell hg hnb HS2.out.2.1, grown_cell hg hnb HS2.out.2.2.1, grown_cell hg hnb HS2.out.2.2.2.1, grown_cell hg hnb HS2.out.2.2.2.2.1, grown_cell hg hnb HS2.out.2.2.2.2.2⟩)
  clear hm hg
  refine hK.out _ _ HS3.out (fun _ => ?_)
  clear hK K
  refine tkH (i := 32) (oi := ⟨some 41, .pick (.tmp 32) (.tmp 40) (.const (.bool false)), _, _, _, none⟩) (v := .bool true) rfl qs HS3.out ?_
  simp only [Act.put, zs1, zs2, zs3]
  refine tkH (i := 33) (oi := ⟨some 42, .move (.tmp 41), _, _, _, none⟩) (v := .bool true) rfl qs HS3.out ?_
  simp only [Act.put, zs1, zs2, zs3]
  refine tkH (i := 34) (oi := ⟨some 43, .move (.tmp 5), _, _, _, some (33, true)⟩) (v := .pointer (some ⟨b, pre.length + 4, none⟩)) rfl qs HS3.out ?_
  simp only [Act.put, zs1, zs2, zs3]
  refine tkH (i := 35) (oi := ⟨some 44, .nilCheck (.tmp 43), _, _, _, some (33, true)⟩) (v := .pointer (some ⟨b, pre.length + 4, none⟩)) rfl qs HS3.out ?_
  simp only [Act.put, zs1, zs2, zs3]
  refine tkH (i := 36) (oi := ⟨some 45, .fieldAddr 33 (.tmp 44) 1, _, _, _, some (33, true)⟩) (v := .pointer (some ⟨b, pre.length + 7, none⟩)) rfl qs HS3.out ?_
  simp only [Act.put, zs1, zs2, zs3]
  refine tkH (i := 37) (oi := ⟨some 46, .move (.tmp 1), _, _, _, some (33, true)⟩) (v := .slice (some ⟨nb, no, none⟩) 6 nc) rfl qs HS3.out ?_
  simp only [Act.put, zs1, zs2, zs3]
  refine tkH (i := 38) (oi := ⟨some 47, .indexAddr 155 (.tmp 46) (.const (.int .i64 3)), _, _, _, some (33, true)⟩) (v := .pointer (some ⟨nb, no + 3, none⟩)) rfl qs HS3.out ?_
  simp only [Act.put, zs1, zs2, zs3]
  refine tkH (i := 39) (oi := ⟨some 48, .load 2 (.tmp 47), _, _, _, some (33, true)⟩) (v := .int .i64 x3) rfl (Or.inl ⟨by rfl, fun w' hS => by have c := hS.2.2.2.1; go_simp⟩) HS3.out ?_
  simp only [Act.put, zs1, zs2, zs3]
  refine wpAnyH_ready (rs := [40]) (by kernel_rfl) (by simp) (AllReadyH.cons (o := ⟨some 49, .call ⟨.value (.func 114), #[.tmp 45, .tmp 48, .const (.int .i64 (-1125899906842624)), .const (.int .i64 1125899906842624)], _⟩, _, _, _, some (33, true)⟩) rfl (fun K hK => ?_) AllReadyH.nil)
  go_simp
  refine (cuti64_yes b (pre.length + 7) (((((pre ++ msV m).toArray).setIfInBounds (pre.length + 4) (.int .u8 x0)).setIfInBounds (pre.length + 5) (.int .u16 x1)).setIfInBounds (pre.length + 6) (.int .u32 x2)) ty x3 (-1125899906842624) 1125899906842624 _ HM3.out (by simp [msV]) hx3.1 hx3.2 (by omega) (by omega)).mono ?_
  rintro e w4 ⟨rfl, hm, hg⟩
  have HM4 := Lib.hid hm
  have HG4 := Lib.hid (grown_trans HG3.out hg)
  have HS4 := Lib.hid (show w4.cell? ⟨nb, no, none⟩ = some (.int .i64 x0) ∧ w4.cell? ⟨nb, no + 1, none⟩ = some (.int .i64 x1) ∧ w4.cell? ⟨nb, no + 2, none⟩ = some (.int .i64 x2) ∧ w4.cell? ⟨nb, no + 3, none⟩ = some (.int .i64 x3) ∧ w4.cell? ⟨nb, no + 4, none⟩ = some (.int .i64 x4) ∧ w4.cell? ⟨nb, no + 5, none⟩ = some (.int .i64 x5) from ⟨grown_cell hg hnb HS3.out.1, grown_cell hg hnb HS3.out.2.1, grown_cell hg hnb HS3.out.2.2.1, grown_cell hg hnb HS3.out.2.2.2.1, grown_cell hg hnb HS3.out.2.2.2.2.1, grown_cell hg hnb HS3.out.2.2.2.2.2⟩)
  clear hm hg
  refine hK.out _ _ HS4.out (fun _ => ?_)
  clear hK K
  refine tkH (i := 41) (oi := ⟨some 50, .pick (.tmp 42) (.tmp 49) (.const (.bool false)), _, _, _, none⟩) (v := .bool true) rfl qs HS4.out ?_
  simp only [Act.put, zs1, zs2, zs3]
  refine tkH (i := 42) (oi := ⟨some 51, .move (.tmp 50), _, _, _, none⟩) (v := .bool true) rfl qs HS4.out ?_
  simp only [Act.put, zs1, zs2, zs3]
  refine tkH (i := 43) (oi := ⟨some 52, .move (.tmp 5), _, _, _, some (42, true)⟩) (v := .pointer (some ⟨b, pre.length + 4, none⟩)) rfl qs HS4.out ?_
  simp only [Act.put, zs1, zs2, zs3]
  refine tkH (i := 44) (oi := ⟨some 53, .nilCheck (.tmp 52), _, _, _, some (42, true)⟩) (v := .pointer (some ⟨b, pre.length + 4, none⟩)) rfl qs HS4.out ?_
  simp only [Act.put, zs1, zs2, zs3]
  refine tkH (i := 45) (oi := ⟨some 54, .fieldAddr 33 (.tmp 53) 2, _, _, _, some (42, true)⟩) (v := .pointer (some ⟨b, pre.length + 8, none⟩)) rfl qs HS4.out ?_
  simp only [Act.put, zs1, zs2, zs3]
  refine tkH (i := 46) (oi := ⟨some 55, .move (.tmp 1), _, _, _, some (42, true)⟩) (v := .slice (some ⟨nb, no, none⟩) 6 nc) rfl qs HS4.out ?_
  simp only [Act.put, zs1, zs2, zs3]
  refine tkH (i := 47) (oi := ⟨some 56, .indexAddr 155 (.tmp 55) (.const (.int .i64 4)), _, _, _, some (42, true)⟩) (v := .pointer (some ⟨nb, no + 4, none⟩)) rfl qs HS4.out ?_
  simp only [Act.put, zs1, zs2, zs3]
  refine tkH (i := 48) (oi := ⟨some 57, .load 2 (.tmp 56), _, _, _, some (42, true)⟩) (v := .int .i64 x4) rfl (Or.inl ⟨by rfl, fun w' hS => by have c := hS.2.2.2.2.1; go_simp⟩) HS4.out ?_
  simp only [Act.put, zs1, zs2, zs3]
  refine wpAnyH_ready (rs := [49]) (by kernel_rfl) (by simp) (AllReadyH.cons (o := ⟨some 58, .call ⟨.value (.func 115), #[.tmp 54, .tmp 57, .const (.int .i64 1), .const (.int .i64 7)], _⟩, _, _, _, some (42, true)⟩) rfl (fun K hK => ?_) AllReadyH.nil)
  go_simp
  refine (cutSt_yes b (pre.length + 8) ((((((pre ++ msV m).toArray).setIfInBounds (pre.length + 4) (.int .u8 x0)).setIfInBounds (pre.length + 5) (.int .u16 x1)).setIfInBounds (pre.length + 6) (.int .u32 x2)).setIfInBounds (pre.length + 7) (.int .i64 x3)) ty x4 1 7 _ HM4.out (by simp [msV]) hx4.1 hx4.2 (by omega) (by omega)).mono ?_
  rintro e w5 ⟨rfl, hm, hg⟩
  have HM5 := Lib.hid hm
  have HG5 := Lib.hid (grown_trans HG4.out hg)
  have HS5 := Lib.hid (show w5.cell? ⟨nb, no, none⟩ = some (.int .i64 x0) ∧ w5.cell? ⟨nb, no + 1, none⟩ = some (.int .i64 x1) ∧ w5.cell? ⟨nb, no + 2, none⟩ = some (.int .i64 x2) ∧ w5.cell? ⟨nb, no + 3, none⟩ = some (.int .i64 x3) ∧ w5.cell? ⟨nb, no + 4, none⟩ = some (.int .i64 x4) ∧ w5.cell? ⟨nb, no + 5, none⟩ = some (.int .i64 x5) from ⟨grown_cell hg hnb HS4.out.1, grown_cell hg hnb HS4.out.2.1, grown_cell hg hnb HS4.out.2.2.1, grown_cell hg hnb HS4.out.2.2.2.1, grown_cell hg hnb HS4.out.2.2.2.2.1, grown_cell hg hnb HS4.out.2.2.2.2.2⟩)
  clear hm hg
  refine hK.out _ _ HS5.out (fun _ => ?_)
  clear hK K
  refine tkH (i := 50) (oi := ⟨some 59, .pick (.tmp 51) (.tmp 58) (.const (.bool false)), _, _, _, none⟩) (v := .bool true) rfl qs HS5.out ?_
  simp only [Act.put, zs1, zs2, zs3]
  refine tkH (i := 51) (oi := ⟨some 60, .move (.tmp 59), _, _, _, none⟩) (v := .bool true) rfl qs HS5.out ?_
  simp only [Act.put, zs1, zs2, zs3]
  refine tkH (i := 52) (oi := ⟨some 61, .move (.tmp 5), _, _, _, some (51, true)⟩) (v := .pointer (some ⟨b, pre.length + 4, none⟩)) rfl qs HS5.out ?_
  simp only [Act.put, zs1, zs2, zs3]
  refine tkH (i := 53) (oi := ⟨some 62, .nilCheck (.tmp 61), _, _, _, some (51, true)⟩) (v := .pointer (some ⟨b, pre.length + 4, none⟩)) rfl qs HS5.out ?_
  simp only [Act.put, zs1, zs2, zs3]
  refine tkH (i := 54) (oi := ⟨some 63, .fieldAddr 33 (.tmp 62) 3, _, _, _, some (51, true)⟩) (v := .pointer (some ⟨b, pre.length + 9, none⟩)) rfl qs HS5.out ?_
  simp only [Act.put, zs1, zs2, zs3]
  refine tkH (i := 55) (oi := ⟨some 64, .move (.tmp 1), _, _, _, some (51, true)⟩) (v := .slice (some ⟨nb, no, none⟩) 6 nc) rfl qs HS5.out ?_
  simp only [Act.put, zs1, zs2, zs3]
  refine tkH (i := 56) (oi := ⟨some 65, .indexAddr 155 (.tmp 64) (.const (.int .i64 5)), _, _, _, some (51, true)⟩) (v := .pointer (some ⟨nb, no + 5, none⟩)) rfl qs HS5.out ?_
  simp only [Act.put, zs1, zs2, zs3]
  refine tkH (i := 57) (oi := ⟨some 66, .load 2 (.tmp 65), _, _, _, some (51, true)⟩) (v := .int .i64 x5) rfl (Or.inl ⟨by rfl, fun w' hS => by have c := hS.2.2.2.2.2; go_simp⟩) HS5.out ?_
  simp only [Act.put, zs1, zs2, zs3]
  refine wpAnyH_ready (rs := [58]) (by kernel_rfl) (by simp) (AllReadyH.cons (o := ⟨some 67, .call ⟨.value (.func 113), #[.tmp 63, .tmp 66, .const (.int .i64 0), .const (.int .i64 4294967295)], _⟩, _, _, _, some (51, true)⟩) rfl (fun K hK => ?_) AllReadyH.nil)
  go_simp
  refine (cutu32_yes b (pre.length + 9) (((((((pre ++ msV m).toArray).setIfInBounds (pre.length + 4) (.int .u8 x0)).setIfInBounds (pre.length + 5) (.int .u16 x1)).setIfInBounds (pre.length + 6) (.int .u32 x2)).setIfInBounds (pre.length + 7) (.int .i64 x3)).setIfInBounds (pre.length + 8) (.int .u8 x4)) ty x5 0 4294967295 _ HM5.out (by simp [msV]) hx5.1 hx5.2 (by omega) (by omega)).mono ?_
  rintro e w6 ⟨rfl, hm, hg⟩
  have HM6 := Lib.hid hm
  have HG6 := Lib.hid (grown_trans HG5.out hg)
  have HS6 := Lib.hid (show w6.cell? ⟨nb, no, none⟩ = some (.int .i64 x0) ∧ w6.cell? ⟨nb, no + 1, none⟩ = some (.int .i64 x1) ∧ w6.cell? ⟨nb, no + 2, none⟩ = some (.int .i64 x2) ∧ w6.cell? ⟨nb, no + 3, none⟩ = some (.int .i64 x3) ∧ w6.cell? ⟨nb, no + 4, none⟩ = some (.int .i64 x4) ∧ w6.cell? ⟨nb, no + 5, none⟩ = some (.int .i64 x5) from ⟨grown_cell hg hnb HS5.out.1, grown_cell hg hnb HS5.out.2.1, grown_cell hg hnb HS5.out.2.2.1, grown_cell hg hnb HS5.out.2.2.2.1, grown_cell hg hnb HS5.out.2.2.2.2.1, grown_cell hg hnb HS5.out.2.2.2.2.2⟩)
  clear hm hg
  refine hK.out _ _ HS6.out (fun _ => ?_)
  clear hK K
  refine tkH (i := 59) (oi := ⟨some 68, .pick (.tmp 60) (.tmp 67) (.const (.bool false)), _, _, _, none⟩) (v := .bool true) rfl qs HS6.out ?_
  simp only [Act.put, zs1, zs2, zs3]
  refine tkH (i := 60) (oi := ⟨some 4, .assign (.tmp 68), _, _, _, none⟩) (v := .bool true) rfl qs HS6.out ?_
  simp only [Act.put, zs1, zs2, zs3]
  refine wpAnyH_done (by kernel_rfl) ?_ _
  go_wp2
  go_ret
  exact ⟨rfl, HG6.out, HM6.out⟩
set_option maxRecDepth 100000 in
set_option maxHeartbeats 3200000 in
theorem take_amt_0 (b : Nat) (ty : TypeId) (pre : List Value) (m : Ms) (nb no nc : Nat) (x0 : Int) (w : World) (hm : MsgAt w b ty pre m) (_hnb : nb ≠ b) (hc : w.cell? ⟨nb, no, none⟩ = some (.int .i64 x0))  (hx0 : x0 < (-1125899906842624) ∨ ((-1125899906842624) ≤ x0 ∧ 1125899906842624 < x0)) :
    Calls Tryz.prog 117 #[.pointer (some ⟨b, pre.length, none⟩), .slice (some ⟨nb, no, none⟩) 1 nc] w fun e w' => e = .returned (.bool false) ∧ w.grownBy w' (some b) := by
  have HM := Lib.hid hm
  have HC := Lib.hid hc
  clear hm hc
  go_enter Tryz.func117, Tryz.ntmps117
  go_wp2
  refine wp_region_held (S := fun w' => w'.cell? ⟨nb, no, none⟩ = some (.int .i64 x0)) (by kernel_rfl) ?_
  change wpAnyH _ _ _ _ _ _ _ _ (World.drew _)
  have HM0 := Lib.hid (show w.drew.heap[b]? = some (.cells (pre ++ msV m).toArray ty (0, 0)) from HM.out)
  have HG0 := Lib.hid (grown_drew w (some b))
  have HS0 := Lib.hid (show w.drew.cell? ⟨nb, no, none⟩ = some (.int .i64 x0) from HC.out)
  refine tkH (i := 0) (oi := ⟨some 5, .move (.tmp 1), _, _, _, none⟩) (v := .slice (some ⟨nb, no, none⟩) 1 nc) rfl qs HS0.out ?_
  simp only [Act.put, zs1, zs2, zs3]
  refine tkH (i := 1) (oi := ⟨some 6, .call ⟨.builtin .len, #[.tmp 5], _⟩, _, _, _, none⟩) (v := .int .i64 1) rfl qs HS0.out ?_
  simp only [Act.put, zs1, zs2, zs3]
  refine tkH (i := 2) (oi := ⟨some 7, .binOp .eql 3 (.tmp 6) (.const (.int .i64 1)) 3, _, _, _, none⟩) (v := .bool true) rfl qs HS0.out ?_
  simp only [Act.put, zs1, zs2, zs3]
  refine tkH (i := 3) (oi := ⟨some 8, .move (.tmp 7), _, _, _, none⟩) (v := .bool true) rfl qs HS0.out ?_
  simp only [Act.put, zs1, zs2, zs3]
  refine tkH (i := 4) (oi := ⟨some 9, .move (.tmp 0), _, _, _, some (3, true)⟩) (v := .pointer (some ⟨b, pre.length, none⟩)) rfl qs HS0.out ?_
  simp only [Act.put, zs1, zs2, zs3]
  refine tkH (i := 5) (oi := ⟨some 10, .nilCheck (.tmp 9), _, _, _, some (3, true)⟩) (v := .pointer (some ⟨b, pre.length, none⟩)) rfl qs HS0.out ?_
  simp only [Act.put, zs1, zs2, zs3]
  refine tkH (i := 6) (oi := ⟨some 11, .fieldAddr 36 (.tmp 10) 3, _, _, _, some (3, true)⟩) (v := .pointer (some ⟨b, pre.length + 10, none⟩)) rfl qs HS0.out ?_
  simp only [Act.put, zs1, zs2, zs3]
  refine tkH (i := 7) (oi := ⟨some 12, .move (.tmp 1), _, _, _, some (3, true)⟩) (v := .slice (some ⟨nb, no, none⟩) 1 nc) rfl qs HS0.out ?_
  simp only [Act.put, zs1, zs2, zs3]
  refine tkH (i := 8) (oi := ⟨some 13, .indexAddr 155 (.tmp 12) (.const (.int .i64 0)), _, _, _, some (3, true)⟩) (v := .pointer (some ⟨nb, no, none⟩)) rfl qs HS0.out ?_
  simp only [Act.put, zs1, zs2, zs3]
  refine tkH (i := 9) (oi := ⟨some 14, .load 2 (.tmp 13), _, _, _, some (3, true)⟩) (v := .int .i64 x0) rfl (Or.inl ⟨by rfl, fun w' hS => by have c := hS; go_simp⟩) HS0.out ?_
  simp only [Act.put, zs1, zs2, zs3]
  refine wpAnyH_ready (rs := [10]) (by kernel_rfl) (by simp) (AllReadyH.cons (o := ⟨some 15, .call ⟨.value (.func 114), #[.tmp 11, .tmp 14, .const (.int .i64 (-1125899906842624)), .const (.int .i64 1125899906842624)], _⟩, _, _, _, some (3, true)⟩) rfl (fun K hK => ?_) AllReadyH.nil)
  go_simp
  refine (cuti64_no _ x0 (-1125899906842624) 1125899906842624 _ hx0).mono ?_
  rintro e w1 ⟨rfl, rfl⟩
  have HG1 := Lib.hid HG0.out
  have HS1 := Lib.hid (HS0.out)
  refine hK.out _ _ HS1.out (fun _ => ?_)
  clear hK K
  refine tkH (i := 11) (oi := ⟨some 16, .pick (.tmp 8) (.tmp 15) (.const (.bool false)), _, _, _, none⟩) (v := .bool false) rfl qs HS1.out ?_
  simp only [Act.put, zs1, zs2, zs3]
  refine tkH (i := 12) (oi := ⟨some 4, .assign (.tmp 16), _, _, _, none⟩) (v := .bool false) rfl qs HS1.out ?_
  simp only [Act.put, zs1, zs2, zs3]
  refine wpAnyH_done (by kernel_rfl) ?_ _
  go_wp2
  go_ret
  exact ⟨rfl, HG1.out⟩
set_option maxRecDepth 100000 in
set_option maxHeartbeats 3200000 in
theorem take_amt_1 (b : Nat) (ty : TypeId) (pre : List Value) (m : Ms) (nb no nc : Nat) (x0 : Int) (w : World) (hm : MsgAt w b ty pre m) (hnb : nb ≠ b) (hc : w.cell? ⟨nb, no, none⟩ = some (.int .i64 x0)) (hx0 : (-1125899906842624) ≤ x0 ∧ x0 ≤ 1125899906842624) :
    Calls Tryz.prog 117 #[.pointer (some ⟨b, pre.length, none⟩), .slice (some ⟨nb, no, none⟩) 1 nc] w fun e w' => e = .returned (.bool true) ∧ w.grownBy w' (some b) ∧ w'.heap[b]? = some (.cells (((pre ++ msV m).toArray).setIfInBounds (pre.length + 10) (.int .i64 x0)) ty (0, 0)) := by
  have HM := Lib.hid hm
  have HC := Lib.hid hc
  clear hm hc
  go_enter Tryz.func117, Tryz.ntmps117
  go_wp2
  refine wp_region_held (S := fun w' => w'.cell? ⟨nb, no, none⟩ = some (.int .i64 x0)) (by kernel_rfl) ?_
  change wpAnyH _ _ _ _ _ _ _ _ (World.drew _)
  have HM0 := Lib.hid (show w.drew.heap[b]? = some (.cells (pre ++ msV m).toArray ty (0, 0)) from HM.out)
  have HG0 := Lib.hid (grown_drew w (some b))
  have HS0 := Lib.hid (show w.drew.cell? ⟨nb, no, none⟩ = some (.int .i64 x0) from HC.out)
  refine tkH (i := 0) (oi := ⟨some 5, .move (.tmp 1), _, _, _, none⟩) (v := .slice (some ⟨nb, no, none⟩) 1 nc) rfl qs HS0.out ?_
  simp only [Act.put, zs1, zs2, zs3]
  refine tkH (i := 1) (oi := ⟨some 6, .call ⟨.builtin .len, #[.tmp 5], _⟩, _, _, _, none⟩) (v := .int .i64 1) rfl qs HS0.out ?_
  simp only [Act.put, zs1, zs2, zs3]
  refine tkH (i := 2) (oi := ⟨some 7, .binOp .eql 3 (.tmp 6) (.const (.int .i64 1)) 3, _, _, _, none⟩) (v := .bool true) rfl qs HS0.out ?_
  simp only [Act.put, zs1, zs2, zs3]
  refine tkH (i := 3) (oi := ⟨some 8, .move (.tmp 7), _, _, _, none⟩) (v := .bool true) rfl qs HS0.out ?_
  simp only [Act.put, zs1, zs2, zs3]
  refine tkH (i := 4) (oi := ⟨some 9, .move (.tmp 0), _, _, _, some (3, true)⟩) (v := .pointer (some ⟨b, pre.length, none⟩)) rfl qs HS0.out ?_
  simp only [Act.put, zs1, zs2, zs3]
  refine tkH (i := 5) (oi := ⟨some 10, .nilCheck (.tmp 9), _, _, _, some (3, true)⟩) (v := .pointer (some ⟨b, pre.length, none⟩)) rfl qs HS0.out ?_
  simp only [Act.put, zs1, zs2, zs3]
  refine tkH (i := 6) (oi := ⟨some 11, .fieldAddr 36 (.tmp 10) 3, _, _, _, some (3, true)⟩) (v := .pointer (some ⟨b, pre.length + 10, none⟩)) rfl qs HS0.out ?_
  simp only [Act.put, zs1, zs2, zs3]
  refine tkH (i := 7) (oi := ⟨some 12, .move (.tmp 1), _, _, _, some (3, true)⟩) (v := .slice (some ⟨nb, no, none⟩) 1 nc) rfl qs HS0.out ?_
  simp only [Act.put, zs1, zs2, zs3]
  refine tkH (i := 8) (oi := ⟨some 13, .indexAddr 155 (.tmp 12) (.const (.int .i64 0)), _, _, _, some (3, true)⟩) (v := .pointer (some ⟨nb, no, none⟩)) rfl qs HS0.out ?_
  simp only [Act.put, zs1, zs2, zs3]
  refine tkH (i := 9) (oi := ⟨some 14, .load 2 (.tmp 13), _, _, _, some (3, true)⟩) (v := .int .i64 x0) rfl (Or.inl ⟨by rfl, fun w' hS => by have c := hS; go_simp⟩) HS0.out ?_
  simp only [Act.put, zs1, zs2, zs3]
  refine wpAnyH_ready (rs := [10]) (by kernel_rfl) (by simp) (AllReadyH.cons (o := ⟨some 15, .call ⟨.value (.func 114), #[.tmp 11, .tmp 14, .const (.int .i64 (-1125899906842624)), .const (.int .i64 1125899906842624)], _⟩, _, _, _, some (3, true)⟩) rfl (fun K hK => ?_) AllReadyH.nil)
  go_simp
  refine (cuti64_yes b (pre.length + 10) ((pre ++ msV m).toArray) ty x0 (-1125899906842624) 1125899906842624 _ HM0.out (by simp [msV]) hx0.1 hx0.2 (by omega) (by omega)).mono ?_
  rintro e w1 ⟨rfl, hm, hg⟩
  have HM1 := Lib.hid hm
  have HG1 := Lib.hid (grown_trans HG0.out hg)
  have HS1 := Lib.hid (show w1.cell? ⟨nb, no, none⟩ = some (.int .i64 x0) from grown_cell hg hnb HS0.out)
  clear hm hg
  refine hK.out _ _ HS1.out (fun _ => ?_)
  clear hK K
  refine tkH (i := 11) (oi := ⟨some 16, .pick (.tmp 8) (.tmp 15) (.const (.bool false)), _, _, _, none⟩) (v := .bool true) rfl qs HS1.out ?_
  simp only [Act.put, zs1, zs2, zs3]
  refine tkH (i := 12) (oi := ⟨some 4, .assign (.tmp 16), _, _, _, none⟩) (v := .bool true) rfl qs HS1.out ?_
  simp only [Act.put, zs1, zs2, zs3]
  refine wpAnyH_done (by kernel_rfl) ?_ _
  go_wp2
  go_ret
  exact ⟨rfl, HG1.out, HM1.out⟩
set_option maxRecDepth 100000 in
set_option maxHeartbeats 3200000 in
theorem take_cod_0 (b : Nat) (ty : TypeId) (pre : List Value) (m : Ms) (nb no nc : Nat) (x0 : Int) (w : World) (hm : MsgAt w b ty pre m) (_hnb : nb ≠ b) (hc : w.cell? ⟨nb, no, none⟩ = some (.int .i64 x0))  (hx0 : x0 < 0 ∨ (0 ≤ x0 ∧ 999 < x0)) :
    Calls Tryz.prog 119 #[.pointer (some ⟨b, pre.length, none⟩), .slice (some ⟨nb, no, none⟩) 1 nc] w fun e w' => e = .returned (.bool false) ∧ w.grownBy w' (some b) := by
  have HM := Lib.hid hm
  have HC := Lib.hid hc
  clear hm hc
  go_enter Tryz.func119, Tryz.ntmps119
  go_wp2
  refine wp_region_held (S := fun w' => w'.cell? ⟨nb, no, none⟩ = some (.int .i64 x0)) (by kernel_rfl) ?_
  change wpAnyH _ _ _ _ _ _ _ _ (World.drew _)
  have HM0 := Lib.hid (show w.drew.heap[b]? = some (.cells (pre ++ msV m).toArray ty (0, 0)) from HM.out)
  have HG0 := Lib.hid (grown_drew w (some b))
  have HS0 := Lib.hid (show w.drew.cell? ⟨nb, no, none⟩ = some (.int .i64 x0) from HC.out)
  refine tkH (i := 0) (oi := ⟨some 5, .move (.tmp 1), _, _, _, none⟩) (v := .slice (some ⟨nb, no, none⟩) 1 nc) rfl qs HS0.out ?_
  simp only [Act.put, zs1, zs2, zs3]
  refine tkH (i := 1) (oi := ⟨some 6, .call ⟨.builtin .len, #[.tmp 5], _⟩, _, _, _, none⟩) (v := .int .i64 1) rfl qs HS0.out ?_
  simp only [Act.put, zs1, zs2, zs3]
  refine tkH (i := 2) (oi := ⟨some 7, .binOp .eql 3 (.tmp 6) (.const (.int .i64 1)) 3, _, _, _, none⟩) (v := .bool true) rfl qs HS0.out ?_
  simp only [Act.put, zs1, zs2, zs3]
  refine tkH (i := 3) (oi := ⟨some 8, .move (.tmp 7), _, _, _, none⟩) (v := .bool true) rfl qs HS0.out ?_
  simp only [Act.put, zs1, zs2, zs3]
  refine tkH (i := 4) (oi := ⟨some 9, .move (.tmp 0), _, _, _, some (3, true)⟩) (v := .pointer (some ⟨b, pre.length, none⟩)) rfl qs HS0.out ?_
  simp only [Act.put, zs1, zs2, zs3]
  refine tkH (i := 5) (oi := ⟨some 10, .nilCheck (.tmp 9), _, _, _, some (3, true)⟩) (v := .pointer (some ⟨b, pre.length, none⟩)) rfl qs HS0.out ?_
  simp only [Act.put, zs1, zs2, zs3]
  refine tkH (i := 6) (oi := ⟨some 11, .fieldAddr 36 (.tmp 10) 4, _, _, _, some (3, true)⟩) (v := .pointer (some ⟨b, pre.length + 11, none⟩)) rfl qs HS0.out ?_
  simp only [Act.put, zs1, zs2, zs3]
  refine tkH (i := 7) (oi := ⟨some 12, .move (.tmp 1), _, _, _, some (3, true)⟩) (v := .slice (some ⟨nb, no, none⟩) 1 nc) rfl qs HS0.out ?_
  simp only [Act.put, zs1, zs2, zs3]
  refine tkH (i := 8) (oi := ⟨some 13, .indexAddr 155 (.tmp 12) (.const (.int .i64 0)), _, _, _, some (3, true)⟩) (v := .pointer (some ⟨nb, no, none⟩)) rfl qs HS0.out ?_
  simp only [Act.put, zs1, zs2, zs3]
  refine tkH (i := 9) (oi := ⟨some 14, .load 2 (.tmp 13), _, _, _, some (3, true)⟩) (v := .int .i64 x0) rfl (Or.inl ⟨by rfl, fun w' hS => by have c := hS; go_simp⟩) HS0.out ?_
  simp only [Act.put, zs1, zs2, zs3]
  refine wpAnyH_ready (rs := [10]) (by kernel_rfl) (by simp) (AllReadyH.cons (o := ⟨some 15, .call ⟨.value (.func 120), #[.tmp 11, .tmp 14, .const (.int .i64 0), .const (.int .i64 999)], _⟩, _, _, _, some (3, true)⟩) rfl (fun K hK => ?_) AllReadyH.nil)
  go_simp
  refine (cutEr_no _ x0 0 999 _ hx0).mono ?_
  rintro e w1 ⟨rfl, rfl⟩
  have HG1 := Lib.hid HG0.out
  have HS1 := Lib.hid (HS0.out)
  refine hK.out _ _ HS1.out (fun _ => ?_)
  clear hK K
  refine tkH (i := 11) (oi := ⟨some 16, .pick (.tmp 8) (.tmp 15) (.const (.bool false)), _, _, _, none⟩) (v := .bool false) rfl qs HS1.out ?_
  simp only [Act.put, zs1, zs2, zs3]
  refine tkH (i := 12) (oi := ⟨some 4, .assign (.tmp 16), _, _, _, none⟩) (v := .bool false) rfl qs HS1.out ?_
  simp only [Act.put, zs1, zs2, zs3]
  refine wpAnyH_done (by kernel_rfl) ?_ _
  go_wp2
  go_ret
  exact ⟨rfl, HG1.out⟩
set_option maxRecDepth 100000 in
set_option maxHeartbeats 3200000 in
theorem take_cod_1 (b : Nat) (ty : TypeId) (pre : List Value) (m : Ms) (nb no nc : Nat) (x0 : Int) (w : World) (hm : MsgAt w b ty pre m) (hnb : nb ≠ b) (hc : w.cell? ⟨nb, no, none⟩ = some (.int .i64 x0)) (hx0 : 0 ≤ x0 ∧ x0 ≤ 999) :
    Calls Tryz.prog 119 #[.pointer (some ⟨b, pre.length, none⟩), .slice (some ⟨nb, no, none⟩) 1 nc] w fun e w' => e = .returned (.bool true) ∧ w.grownBy w' (some b) ∧ w'.heap[b]? = some (.cells (((pre ++ msV m).toArray).setIfInBounds (pre.length + 11) (.int .i64 x0)) ty (0, 0)) := by
  have HM := Lib.hid hm
  have HC := Lib.hid hc
  clear hm hc
  go_enter Tryz.func119, Tryz.ntmps119
  go_wp2
  refine wp_region_held (S := fun w' => w'.cell? ⟨nb, no, none⟩ = some (.int .i64 x0)) (by kernel_rfl) ?_
  change wpAnyH _ _ _ _ _ _ _ _ (World.drew _)
  have HM0 := Lib.hid (show w.drew.heap[b]? = some (.cells (pre ++ msV m).toArray ty (0, 0)) from HM.out)
  have HG0 := Lib.hid (grown_drew w (some b))
  have HS0 := Lib.hid (show w.drew.cell? ⟨nb, no, none⟩ = some (.int .i64 x0) from HC.out)
  refine tkH (i := 0) (oi := ⟨some 5, .move (.tmp 1), _, _, _, none⟩) (v := .slice (some ⟨nb, no, none⟩) 1 nc) rfl qs HS0.out ?_
  simp only [Act.put, zs1, zs2, zs3]
  refine tkH (i := 1) (oi := ⟨some 6, .call ⟨.builtin .len, #[.tmp 5], _⟩, _, _, _, none⟩) (v := .int .i64 1) rfl qs HS0.out ?_
  simp only [Act.put, zs1, zs2, zs3]
  refine tkH (i := 2) (oi := ⟨some 7, .binOp .eql 3 (.tmp 6) (.const (.int .i64 1)) 3, _, _, _, none⟩) (v := .bool true) rfl qs HS0.out ?_
  simp only [Act.put, zs1, zs2, zs3]
  refine tkH (i := 3) (oi := ⟨some 8, .move (.tmp 7), _, _, _, none⟩) (v := .bool true) rfl qs HS0.out ?_
  simp only [Act.put, zs1, zs2, zs3]
  refine tkH (i := 4) (oi := ⟨some 9, .move (.tmp 0), _, _, _, some (3, true)⟩) (v := .pointer (some ⟨b, pre.length, none⟩)) rfl qs HS0.out ?_
  simp only [Act.put, zs1, zs2, zs3]
  refine tkH (i := 5) (oi := ⟨some 10, .nilCheck (.tmp 9), _, _, _, some (3, true)⟩) (v := .pointer (some ⟨b, pre.length, none⟩)) rfl qs HS0.out ?_
  simp only [Act.put, zs1, zs2, zs3]
  refine tkH (i := 6) (oi := ⟨some 11, .fieldAddr 36 (.tmp 10) 4, _, _, _, some (3, true)⟩) (v := .pointer (some ⟨b, pre.length + 11, none⟩)) rfl qs HS0.out ?_
  simp only [Act.put, zs1, zs2, zs3]
  refine tkH (i := 7) (oi := ⟨some 12, .move (.tmp 1), _, _, _, some (3, true)⟩) (v := .slice (some ⟨nb, no, none⟩) 1 nc) rfl qs HS0.out ?_
  simp only [Act.put, zs1, zs2, zs3]
  refine tkH (i := 8) (oi := ⟨some 13, .indexAddr 155 (.tmp 12) (.const (.int .i64 0)), _, _, _, some (3, true)⟩) (v := .pointer (some ⟨nb, no, none⟩)) rfl qs HS0.out ?_
  simp only [Act.put, zs1, zs2, zs3]
  refine tkH (i := 9) (oi := ⟨some 14, .load 2 (.tmp 13), _, _, _, some (3, true)⟩) (v := .int .i64 x0) rfl (Or.inl ⟨by rfl, fun w' hS => by have c := hS; go_simp⟩) HS0.out ?_
  simp only [Act.put, zs1, zs2, zs3]
  refine wpAnyH_ready (rs := [10]) (by kernel_rfl) (by simp) (AllReadyH.cons (o := ⟨some 15, .call ⟨.value (.func 120), #[.tmp 11, .tmp 14, .const (.int .i64 0), .const (.int .i64 999)], _⟩, _, _, _, some (3, true)⟩) rfl (fun K hK => ?_) AllReadyH.nil)
  go_simp
  refine (cutEr_yes b (pre.length + 11) ((pre ++ msV m).toArray) ty x0 0 999 _ HM0.out (by simp [msV]) hx0.1 hx0.2 (by omega) (by omega)).mono ?_
  rintro e w1 ⟨rfl, hm, hg⟩
  have HM1 := Lib.hid hm
  have HG1 := Lib.hid (grown_trans HG0.out hg)
  have HS1 := Lib.hid (show w1.cell? ⟨nb, no, none⟩ = some (.int .i64 x0) from grown_cell hg hnb HS0.out)
  clear hm hg
  refine hK.out _ _ HS1.out (fun _ => ?_)
  clear hK K
  refine tkH (i := 11) (oi := ⟨some 16, .pick (.tmp 8) (.tmp 15) (.const (.bool false)), _, _, _, none⟩) (v := .bool true) rfl qs HS1.out ?_
  simp only [Act.put, zs1, zs2, zs3]
  refine tkH (i := 12) (oi := ⟨some 4, .assign (.tmp 16), _, _, _, none⟩) (v := .bool true) rfl qs HS1.out ?_
  simp only [Act.put, zs1, zs2, zs3]
  refine wpAnyH_done (by kernel_rfl) ?_ _
  go_wp2
  go_ret
  exact ⟨rfl, HG1.out, HM1.out⟩
end Go.Proofs.YtgaoeljdlpemnaaGreatDoor
