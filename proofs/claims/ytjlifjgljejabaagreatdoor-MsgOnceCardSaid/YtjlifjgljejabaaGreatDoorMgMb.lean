/- Contract: whether a message may be told. -/
import Derived.Test.YtjlifjgljejabaaGreatDoorMgTk
import Derived.DeepKeys4
import Derived.Maps.OwnSet
import Derived.Lib.LazyBuf
import Derived.Test.YtjlifjgljejabaaGreatDoorNuQ
import Derived.Test.YtjlifjgljejabaaGreatDoorWrapSl
import Derived.Laws.ResultCell
import Derived.Laws.Tables
import Derived.Laws.StructEq
/- Contracts: the numbers that a message's fields tell; the fields. -/
namespace Go.Proofs.YtjlifjgljejabaaGreatDoor
open Go.RowKit Go.Edi Go.Wrap Go.Lib

abbrev I64R (w : World) (F : Nat → Prop) (v : Value) (ns : List Int) : Prop := RowF w F v ns.length (ns.map fun n => Value.int .i64 n)
def TellP (m : Ms) (f : Fd) (w : World) (e : Ending) (w' : World) : Prop :=
  ∃ v F, e = .returned v ∧ I64R w' F v (tellL m f) ∧ (∀ b, F b → w.heap.size ≤ b ∧ b < w'.heap.size) ∧ Below w.heap.size w w'
theorem i64_row {w : World} (b : Nat) (ns : List Int) (A : Array Value) (ty : TypeId) (c : Nat) (hA : A = (ns.map fun n => Value.int .i64 n).toArray) (hc : ns.length ≤ c) (h : w.heap[b]? = some (.cells A ty (0, 0))) : I64R w (· = b) (.slice (some ⟨b, 0, none⟩) ns.length c) ns :=
  ⟨_, _, rfl, hc, fun _ => ⟨b, 0, rfl, rfl, fun j u hu => by rw [Nat.zero_add, cell_of_arr h j, hA]; simpa using hu⟩⟩
set_option maxRecDepth 100000 in
theorem tell_cpn (m : Ms) (w : World) (hm : m.Ty) : Calls Tryz.prog 96 #[.agg (msV m).toArray] w (TellP m .cpn w) := by
  have h1 := hm.lc; have h2 := hm.lf; have h3 := hm.lw; have h4 := hm.st; have h5 := hm.non
  have g1 : (0 : Int) ≤ (m.lc : Int) := Int.natCast_nonneg _
  have g2 : (0 : Int) ≤ (m.lf : Int) := Int.natCast_nonneg _
  have g3 : (0 : Int) ≤ (m.lw : Int) := Int.natCast_nonneg _
  have g4 : (0 : Int) ≤ (m.st : Int) := Int.natCast_nonneg _
  have g5 : (0 : Int) ≤ (m.non : Int) := Int.natCast_nonneg _
  clear hm
  unfold msV
  go_enter Tryz.func96, Tryz.ntmps96
  go_wp2
  go_ret
  refine ⟨_, _, rfl, i64_row _ (tellL m .cpn) _ 2 6 rfl (Nat.le_refl _) (heap_new _ _ _ (by simp only [size_a])), ?_, (((Below.refl _ _).alloc (Nat.le_refl _) _).alloc (by simp only [size_a]; omega) _).alloc (by simp only [size_a]; omega) _⟩
  rintro b rfl
  simp only [size_a]
  omega
set_option maxRecDepth 100000 in
theorem tell_amt (m : Ms) (w : World) : Calls Tryz.prog 102 #[.agg (msV m).toArray] w (TellP m .amt w) := by
  unfold msV
  go_enter Tryz.func102, Tryz.ntmps102
  go_wp2
  go_ret
  refine ⟨_, _, rfl, i64_row _ (tellL m .amt) _ 2 1 rfl (Nat.le_refl _) (heap_new _ _ _ (by simp only [size_a])), ?_, ((Below.refl _ _).alloc (Nat.le_refl _) _).alloc (by simp only [size_a]; omega) _⟩
  rintro b rfl
  simp only [size_a]
  omega
set_option maxRecDepth 100000 in
theorem tell_cod (m : Ms) (w : World) (hm : m.Ty) : Calls Tryz.prog 104 #[.agg (msV m).toArray] w (TellP m .cod w) := by
  have h1 := hm.code.1
  have h2 := hm.code.2
  clear hm
  unfold msV
  go_enter Tryz.func104, Tryz.ntmps104
  go_wp2
  go_ret
  refine ⟨_, _, rfl, i64_row _ (tellL m .cod) _ 2 1 rfl (Nat.le_refl _) (heap_new _ _ _ (by simp only [size_a])), ?_, ((Below.refl _ _).alloc (Nat.le_refl _) _).alloc (by simp only [size_a]; omega) _⟩
  rintro b rfl
  simp only [size_a]
  omega
def fdV : Fd → List Value
  | .cpn => [str [67, 80, 78], .func (.func 96) #[] #[], .func (.func 97) #[] #[]]
  | .amt => [str [65, 77, 84], .func (.func 102) #[] #[], .func (.func 103) #[] #[]]
  | .cod => [str [67, 79, 68], .func (.func 104) #[] #[], .func (.func 105) #[] #[]]
theorem sizeField : (Tryz.prog.info? 112).map (·.size) = some 3 := by kernel_rfl
set_option maxRecDepth 100000 in
theorem fld_cpn (w : World) : Calls Tryz.prog 71 #[] w fun e w' => e = .returned (.agg #[str [67, 80, 78], .func (.func 96) #[] #[], .func (.func 97) #[] #[]]) ∧ Below w.heap.size w w' := by
  go_enter Tryz.func71, Tryz.ntmps71
  go_wp2
  refine bodyPost_ret (results_cell_row rfl _ _ w.heap.size 112 (fdV .cpn).toArray (0, 0) _ rfl (at_last _ _) Tryz.underlying112 rfl sizeField) rfl ?_
  exact ⟨rfl, (Below.refl _ _).alloc (Nat.le_refl _) _⟩
set_option maxRecDepth 100000 in
theorem fld_amt (w : World) : Calls Tryz.prog 72 #[] w fun e w' => e = .returned (.agg #[str [65, 77, 84], .func (.func 102) #[] #[], .func (.func 103) #[] #[]]) ∧ Below w.heap.size w w' := by
  go_enter Tryz.func72, Tryz.ntmps72
  go_wp2
  refine bodyPost_ret (results_cell_row rfl _ _ w.heap.size 112 (fdV .amt).toArray (0, 0) _ rfl (at_last _ _) Tryz.underlying112 rfl sizeField) rfl ?_
  exact ⟨rfl, (Below.refl _ _).alloc (Nat.le_refl _) _⟩
set_option maxRecDepth 100000 in
theorem fld_cod (w : World) : Calls Tryz.prog 73 #[] w fun e w' => e = .returned (.agg #[str [67, 79, 68], .func (.func 104) #[] #[], .func (.func 105) #[] #[]]) ∧ Below w.heap.size w w' := by
  go_enter Tryz.func73, Tryz.ntmps73
  go_wp2
  refine bodyPost_ret (results_cell_row rfl _ _ w.heap.size 112 (fdV .cod).toArray (0, 0) _ rfl (at_last _ _) Tryz.underlying112 rfl sizeField) rfl ?_
  exact ⟨rfl, (Below.refl _ _).alloc (Nat.le_refl _) _⟩
end Go.Proofs.YtjlifjgljejabaaGreatDoor
/- Contracts: what a field's numbers are taken into, of whatever numbers; a coupon's place. -/
namespace Go.Proofs.YtjlifjgljejabaaGreatDoor
open Go.RowKit Go.Edi Go.Wrap Go.Lib

set_option maxRecDepth 100000 in
theorem take_cpn_len (b o : Nat) (p : Option Addr) (n nc : Nat) (w : World) (h : ((n : Int) == 6) = false) :
    Calls Tryz.prog 97 #[.pointer (some ⟨b, o, none⟩), .slice p n nc] w fun e w' => e = .returned (.bool false) ∧ w.grownBy w' (some b) := by
  have HG0 := Lib.hid (grown_drew w (some b))
  have HS0 := Lib.hid True.intro
  go_enter Tryz.func97, Tryz.ntmps97
  go_wp2
  refine wp_region_held (S := fun _ => True) (by kernel_rfl) ?_
  change wpAnyH _ _ _ _ _ _ _ _ (World.drew _)
  refine wpAnyH_take (i := 0) (oi := ⟨some 9, .move (.tmp 1), _, _, _, none⟩) (v := .slice (p) n nc) rfl (by kernel_rfl) (by kernel_rfl) (by kernel_rfl) (fun _ _ _ h => h) (Or.inl ⟨by rfl, fun w' hS => by go_simp⟩) HS0.out ?_
  simp only [Act.put, List.setIfInBounds_toArray, List.set_cons_zero, List.set_cons_succ]
  refine wpAnyH_take (i := 1) (oi := ⟨some 10, .call ⟨.builtin .len, #[.tmp 9], _⟩, _, _, _, none⟩) (v := .int .i64 n) rfl (by kernel_rfl) (by kernel_rfl) (by kernel_rfl) (fun _ _ _ h => h) (Or.inl ⟨by rfl, fun w' hS => by go_simp⟩) HS0.out ?_
  simp only [Act.put, List.setIfInBounds_toArray, List.set_cons_zero, List.set_cons_succ]
  refine wpAnyH_take (i := 2) (oi := ⟨some 11, .binOp .eql 3 (.tmp 10) (.const (.int .i64 6)) 3, _, _, _, none⟩) (v := .bool false) rfl (by kernel_rfl) (by kernel_rfl) (by kernel_rfl) (fun _ _ _ h => h) (Or.inl ⟨by rfl, fun w' hS => by go_simp⟩) HS0.out ?_
  simp only [Act.put, List.setIfInBounds_toArray, List.set_cons_zero, List.set_cons_succ]
  refine wpAnyH_take (i := 3) (oi := ⟨some 12, .move (.tmp 11), _, _, _, none⟩) (v := .bool false) rfl (by kernel_rfl) (by kernel_rfl) (by kernel_rfl) (fun _ _ _ h => h) (Or.inl ⟨by rfl, fun w' hS => by go_simp⟩) HS0.out ?_
  simp only [Act.put, List.setIfInBounds_toArray, List.set_cons_zero, List.set_cons_succ]
  refine wpAnyH_take (i := 4) (oi := ⟨some 13, .move (.tmp 5), _, _, _, some (3, true)⟩) (v := undef) rfl (by kernel_rfl) (by kernel_rfl) (by kernel_rfl) (fun _ _ _ h => h) (Or.inr ⟨by rfl, rfl⟩) HS0.out ?_
  simp only [Act.put, List.setIfInBounds_toArray, List.set_cons_zero, List.set_cons_succ]
  refine wpAnyH_take (i := 5) (oi := ⟨some 14, .nilCheck (.tmp 13), _, _, _, some (3, true)⟩) (v := undef) rfl (by kernel_rfl) (by kernel_rfl) (by kernel_rfl) (fun _ _ _ h => h) (Or.inr ⟨by rfl, rfl⟩) HS0.out ?_
  simp only [Act.put, List.setIfInBounds_toArray, List.set_cons_zero, List.set_cons_succ]
  refine wpAnyH_take (i := 6) (oi := ⟨some 15, .fieldAddr 33 (.tmp 14) 0, _, _, _, some (3, true)⟩) (v := undef) rfl (by kernel_rfl) (by kernel_rfl) (by kernel_rfl) (fun _ _ _ h => h) (Or.inr ⟨by rfl, rfl⟩) HS0.out ?_
  simp only [Act.put, List.setIfInBounds_toArray, List.set_cons_zero, List.set_cons_succ]
  refine wpAnyH_take (i := 7) (oi := ⟨some 16, .fieldAddr 30 (.tmp 15) 0, _, _, _, some (3, true)⟩) (v := undef) rfl (by kernel_rfl) (by kernel_rfl) (by kernel_rfl) (fun _ _ _ h => h) (Or.inr ⟨by rfl, rfl⟩) HS0.out ?_
  simp only [Act.put, List.setIfInBounds_toArray, List.set_cons_zero, List.set_cons_succ]
  refine wpAnyH_take (i := 8) (oi := ⟨some 17, .move (.tmp 1), _, _, _, some (3, true)⟩) (v := undef) rfl (by kernel_rfl) (by kernel_rfl) (by kernel_rfl) (fun _ _ _ h => h) (Or.inr ⟨by rfl, rfl⟩) HS0.out ?_
  simp only [Act.put, List.setIfInBounds_toArray, List.set_cons_zero, List.set_cons_succ]
  refine wpAnyH_take (i := 9) (oi := ⟨some 18, .indexAddr 80 (.tmp 17) (.const (.int .i64 0)), _, _, _, some (3, true)⟩) (v := undef) rfl (by kernel_rfl) (by kernel_rfl) (by kernel_rfl) (fun _ _ _ h => h) (Or.inr ⟨by rfl, rfl⟩) HS0.out ?_
  simp only [Act.put, List.setIfInBounds_toArray, List.set_cons_zero, List.set_cons_succ]
  refine wpAnyH_take (i := 10) (oi := ⟨some 19, .load 2 (.tmp 18), _, _, _, some (3, true)⟩) (v := undef) rfl (by kernel_rfl) (by kernel_rfl) (by kernel_rfl) (fun _ _ _ h => h) (Or.inr ⟨by rfl, rfl⟩) HS0.out ?_
  simp only [Act.put, List.setIfInBounds_toArray, List.set_cons_zero, List.set_cons_succ]
  refine wpAnyH_take (i := 11) (oi := ⟨some 20, .call ⟨.value (.func 80), #[.tmp 16, .tmp 19, .const (.int .i64 0), .const (.int .i64 7)], _⟩, _, _, _, some (3, true)⟩) (v := undef) rfl (by kernel_rfl) (by kernel_rfl) (by kernel_rfl) (fun _ _ _ h => h) (Or.inr ⟨by rfl, rfl⟩) HS0.out ?_
  simp only [Act.put, List.setIfInBounds_toArray, List.set_cons_zero, List.set_cons_succ]
  refine wpAnyH_take (i := 12) (oi := ⟨some 21, .pick (.tmp 12) (.tmp 20) (.const (.bool false)), _, _, _, none⟩) (v := .bool false) rfl (by kernel_rfl) (by kernel_rfl) (by kernel_rfl) (fun _ _ _ h => h) (Or.inl ⟨by rfl, fun w' hS => by go_simp⟩) HS0.out ?_
  simp only [Act.put, List.setIfInBounds_toArray, List.set_cons_zero, List.set_cons_succ]
  refine wpAnyH_take (i := 13) (oi := ⟨some 22, .move (.tmp 21), _, _, _, none⟩) (v := .bool false) rfl (by kernel_rfl) (by kernel_rfl) (by kernel_rfl) (fun _ _ _ h => h) (Or.inl ⟨by rfl, fun w' hS => by go_simp⟩) HS0.out ?_
  simp only [Act.put, List.setIfInBounds_toArray, List.set_cons_zero, List.set_cons_succ]
  refine wpAnyH_take (i := 14) (oi := ⟨some 23, .move (.tmp 5), _, _, _, some (13, true)⟩) (v := undef) rfl (by kernel_rfl) (by kernel_rfl) (by kernel_rfl) (fun _ _ _ h => h) (Or.inr ⟨by rfl, rfl⟩) HS0.out ?_
  simp only [Act.put, List.setIfInBounds_toArray, List.set_cons_zero, List.set_cons_succ]
  refine wpAnyH_take (i := 15) (oi := ⟨some 24, .nilCheck (.tmp 23), _, _, _, some (13, true)⟩) (v := undef) rfl (by kernel_rfl) (by kernel_rfl) (by kernel_rfl) (fun _ _ _ h => h) (Or.inr ⟨by rfl, rfl⟩) HS0.out ?_
  simp only [Act.put, List.setIfInBounds_toArray, List.set_cons_zero, List.set_cons_succ]
  refine wpAnyH_take (i := 16) (oi := ⟨some 25, .fieldAddr 33 (.tmp 24) 0, _, _, _, some (13, true)⟩) (v := undef) rfl (by kernel_rfl) (by kernel_rfl) (by kernel_rfl) (fun _ _ _ h => h) (Or.inr ⟨by rfl, rfl⟩) HS0.out ?_
  simp only [Act.put, List.setIfInBounds_toArray, List.set_cons_zero, List.set_cons_succ]
  refine wpAnyH_take (i := 17) (oi := ⟨some 26, .fieldAddr 30 (.tmp 25) 1, _, _, _, some (13, true)⟩) (v := undef) rfl (by kernel_rfl) (by kernel_rfl) (by kernel_rfl) (fun _ _ _ h => h) (Or.inr ⟨by rfl, rfl⟩) HS0.out ?_
  simp only [Act.put, List.setIfInBounds_toArray, List.set_cons_zero, List.set_cons_succ]
  refine wpAnyH_take (i := 18) (oi := ⟨some 27, .move (.tmp 1), _, _, _, some (13, true)⟩) (v := undef) rfl (by kernel_rfl) (by kernel_rfl) (by kernel_rfl) (fun _ _ _ h => h) (Or.inr ⟨by rfl, rfl⟩) HS0.out ?_
  simp only [Act.put, List.setIfInBounds_toArray, List.set_cons_zero, List.set_cons_succ]
  refine wpAnyH_take (i := 19) (oi := ⟨some 28, .indexAddr 80 (.tmp 27) (.const (.int .i64 1)), _, _, _, some (13, true)⟩) (v := undef) rfl (by kernel_rfl) (by kernel_rfl) (by kernel_rfl) (fun _ _ _ h => h) (Or.inr ⟨by rfl, rfl⟩) HS0.out ?_
  simp only [Act.put, List.setIfInBounds_toArray, List.set_cons_zero, List.set_cons_succ]
  refine wpAnyH_take (i := 20) (oi := ⟨some 29, .load 2 (.tmp 28), _, _, _, some (13, true)⟩) (v := undef) rfl (by kernel_rfl) (by kernel_rfl) (by kernel_rfl) (fun _ _ _ h => h) (Or.inr ⟨by rfl, rfl⟩) HS0.out ?_
  simp only [Act.put, List.setIfInBounds_toArray, List.set_cons_zero, List.set_cons_succ]
  refine wpAnyH_take (i := 21) (oi := ⟨some 30, .call ⟨.value (.func 98), #[.tmp 26, .tmp 29, .const (.int .i64 0), .const (.int .i64 65535)], _⟩, _, _, _, some (13, true)⟩) (v := undef) rfl (by kernel_rfl) (by kernel_rfl) (by kernel_rfl) (fun _ _ _ h => h) (Or.inr ⟨by rfl, rfl⟩) HS0.out ?_
  simp only [Act.put, List.setIfInBounds_toArray, List.set_cons_zero, List.set_cons_succ]
  refine wpAnyH_take (i := 22) (oi := ⟨some 31, .pick (.tmp 22) (.tmp 30) (.const (.bool false)), _, _, _, none⟩) (v := .bool false) rfl (by kernel_rfl) (by kernel_rfl) (by kernel_rfl) (fun _ _ _ h => h) (Or.inl ⟨by rfl, fun w' hS => by go_simp⟩) HS0.out ?_
  simp only [Act.put, List.setIfInBounds_toArray, List.set_cons_zero, List.set_cons_succ]
  refine wpAnyH_take (i := 23) (oi := ⟨some 32, .move (.tmp 31), _, _, _, none⟩) (v := .bool false) rfl (by kernel_rfl) (by kernel_rfl) (by kernel_rfl) (fun _ _ _ h => h) (Or.inl ⟨by rfl, fun w' hS => by go_simp⟩) HS0.out ?_
  simp only [Act.put, List.setIfInBounds_toArray, List.set_cons_zero, List.set_cons_succ]
  refine wpAnyH_take (i := 24) (oi := ⟨some 33, .move (.tmp 5), _, _, _, some (23, true)⟩) (v := undef) rfl (by kernel_rfl) (by kernel_rfl) (by kernel_rfl) (fun _ _ _ h => h) (Or.inr ⟨by rfl, rfl⟩) HS0.out ?_
  simp only [Act.put, List.setIfInBounds_toArray, List.set_cons_zero, List.set_cons_succ]
  refine wpAnyH_take (i := 25) (oi := ⟨some 34, .nilCheck (.tmp 33), _, _, _, some (23, true)⟩) (v := undef) rfl (by kernel_rfl) (by kernel_rfl) (by kernel_rfl) (fun _ _ _ h => h) (Or.inr ⟨by rfl, rfl⟩) HS0.out ?_
  simp only [Act.put, List.setIfInBounds_toArray, List.set_cons_zero, List.set_cons_succ]
  refine wpAnyH_take (i := 26) (oi := ⟨some 35, .fieldAddr 33 (.tmp 34) 0, _, _, _, some (23, true)⟩) (v := undef) rfl (by kernel_rfl) (by kernel_rfl) (by kernel_rfl) (fun _ _ _ h => h) (Or.inr ⟨by rfl, rfl⟩) HS0.out ?_
  simp only [Act.put, List.setIfInBounds_toArray, List.set_cons_zero, List.set_cons_succ]
  refine wpAnyH_take (i := 27) (oi := ⟨some 36, .fieldAddr 30 (.tmp 35) 2, _, _, _, some (23, true)⟩) (v := undef) rfl (by kernel_rfl) (by kernel_rfl) (by kernel_rfl) (fun _ _ _ h => h) (Or.inr ⟨by rfl, rfl⟩) HS0.out ?_
  simp only [Act.put, List.setIfInBounds_toArray, List.set_cons_zero, List.set_cons_succ]
  refine wpAnyH_take (i := 28) (oi := ⟨some 37, .move (.tmp 1), _, _, _, some (23, true)⟩) (v := undef) rfl (by kernel_rfl) (by kernel_rfl) (by kernel_rfl) (fun _ _ _ h => h) (Or.inr ⟨by rfl, rfl⟩) HS0.out ?_
  simp only [Act.put, List.setIfInBounds_toArray, List.set_cons_zero, List.set_cons_succ]
  refine wpAnyH_take (i := 29) (oi := ⟨some 38, .indexAddr 80 (.tmp 37) (.const (.int .i64 2)), _, _, _, some (23, true)⟩) (v := undef) rfl (by kernel_rfl) (by kernel_rfl) (by kernel_rfl) (fun _ _ _ h => h) (Or.inr ⟨by rfl, rfl⟩) HS0.out ?_
  simp only [Act.put, List.setIfInBounds_toArray, List.set_cons_zero, List.set_cons_succ]
  refine wpAnyH_take (i := 30) (oi := ⟨some 39, .load 2 (.tmp 38), _, _, _, some (23, true)⟩) (v := undef) rfl (by kernel_rfl) (by kernel_rfl) (by kernel_rfl) (fun _ _ _ h => h) (Or.inr ⟨by rfl, rfl⟩) HS0.out ?_
  simp only [Act.put, List.setIfInBounds_toArray, List.set_cons_zero, List.set_cons_succ]
  refine wpAnyH_take (i := 31) (oi := ⟨some 40, .call ⟨.value (.func 99), #[.tmp 36, .tmp 39, .const (.int .i64 0), .const (.int .i64 4294967295)], _⟩, _, _, _, some (23, true)⟩) (v := undef) rfl (by kernel_rfl) (by kernel_rfl) (by kernel_rfl) (fun _ _ _ h => h) (Or.inr ⟨by rfl, rfl⟩) HS0.out ?_
  simp only [Act.put, List.setIfInBounds_toArray, List.set_cons_zero, List.set_cons_succ]
  refine wpAnyH_take (i := 32) (oi := ⟨some 41, .pick (.tmp 32) (.tmp 40) (.const (.bool false)), _, _, _, none⟩) (v := .bool false) rfl (by kernel_rfl) (by kernel_rfl) (by kernel_rfl) (fun _ _ _ h => h) (Or.inl ⟨by rfl, fun w' hS => by go_simp⟩) HS0.out ?_
  simp only [Act.put, List.setIfInBounds_toArray, List.set_cons_zero, List.set_cons_succ]
  refine wpAnyH_take (i := 33) (oi := ⟨some 42, .move (.tmp 41), _, _, _, none⟩) (v := .bool false) rfl (by kernel_rfl) (by kernel_rfl) (by kernel_rfl) (fun _ _ _ h => h) (Or.inl ⟨by rfl, fun w' hS => by go_simp⟩) HS0.out ?_
  simp only [Act.put, List.setIfInBounds_toArray, List.set_cons_zero, List.set_cons_succ]
  refine wpAnyH_take (i := 34) (oi := ⟨some 43, .move (.tmp 5), _, _, _, some (33, true)⟩) (v := undef) rfl (by kernel_rfl) (by kernel_rfl) (by kernel_rfl) (fun _ _ _ h => h) (Or.inr ⟨by rfl, rfl⟩) HS0.out ?_
  simp only [Act.put, List.setIfInBounds_toArray, List.set_cons_zero, List.set_cons_succ]
  refine wpAnyH_take (i := 35) (oi := ⟨some 44, .nilCheck (.tmp 43), _, _, _, some (33, true)⟩) (v := undef) rfl (by kernel_rfl) (by kernel_rfl) (by kernel_rfl) (fun _ _ _ h => h) (Or.inr ⟨by rfl, rfl⟩) HS0.out ?_
  simp only [Act.put, List.setIfInBounds_toArray, List.set_cons_zero, List.set_cons_succ]
  refine wpAnyH_take (i := 36) (oi := ⟨some 45, .fieldAddr 33 (.tmp 44) 1, _, _, _, some (33, true)⟩) (v := undef) rfl (by kernel_rfl) (by kernel_rfl) (by kernel_rfl) (fun _ _ _ h => h) (Or.inr ⟨by rfl, rfl⟩) HS0.out ?_
  simp only [Act.put, List.setIfInBounds_toArray, List.set_cons_zero, List.set_cons_succ]
  refine wpAnyH_take (i := 37) (oi := ⟨some 46, .move (.tmp 1), _, _, _, some (33, true)⟩) (v := undef) rfl (by kernel_rfl) (by kernel_rfl) (by kernel_rfl) (fun _ _ _ h => h) (Or.inr ⟨by rfl, rfl⟩) HS0.out ?_
  simp only [Act.put, List.setIfInBounds_toArray, List.set_cons_zero, List.set_cons_succ]
  refine wpAnyH_take (i := 38) (oi := ⟨some 47, .indexAddr 80 (.tmp 46) (.const (.int .i64 3)), _, _, _, some (33, true)⟩) (v := undef) rfl (by kernel_rfl) (by kernel_rfl) (by kernel_rfl) (fun _ _ _ h => h) (Or.inr ⟨by rfl, rfl⟩) HS0.out ?_
  simp only [Act.put, List.setIfInBounds_toArray, List.set_cons_zero, List.set_cons_succ]
  refine wpAnyH_take (i := 39) (oi := ⟨some 48, .load 2 (.tmp 47), _, _, _, some (33, true)⟩) (v := undef) rfl (by kernel_rfl) (by kernel_rfl) (by kernel_rfl) (fun _ _ _ h => h) (Or.inr ⟨by rfl, rfl⟩) HS0.out ?_
  simp only [Act.put, List.setIfInBounds_toArray, List.set_cons_zero, List.set_cons_succ]
  refine wpAnyH_take (i := 40) (oi := ⟨some 49, .call ⟨.value (.func 100), #[.tmp 45, .tmp 48, .const (.int .i64 (-1125899906842624)), .const (.int .i64 1125899906842624)], _⟩, _, _, _, some (33, true)⟩) (v := undef) rfl (by kernel_rfl) (by kernel_rfl) (by kernel_rfl) (fun _ _ _ h => h) (Or.inr ⟨by rfl, rfl⟩) HS0.out ?_
  simp only [Act.put, List.setIfInBounds_toArray, List.set_cons_zero, List.set_cons_succ]
  refine wpAnyH_take (i := 41) (oi := ⟨some 50, .pick (.tmp 42) (.tmp 49) (.const (.bool false)), _, _, _, none⟩) (v := .bool false) rfl (by kernel_rfl) (by kernel_rfl) (by kernel_rfl) (fun _ _ _ h => h) (Or.inl ⟨by rfl, fun w' hS => by go_simp⟩) HS0.out ?_
  simp only [Act.put, List.setIfInBounds_toArray, List.set_cons_zero, List.set_cons_succ]
  refine wpAnyH_take (i := 42) (oi := ⟨some 51, .move (.tmp 50), _, _, _, none⟩) (v := .bool false) rfl (by kernel_rfl) (by kernel_rfl) (by kernel_rfl) (fun _ _ _ h => h) (Or.inl ⟨by rfl, fun w' hS => by go_simp⟩) HS0.out ?_
  simp only [Act.put, List.setIfInBounds_toArray, List.set_cons_zero, List.set_cons_succ]
  refine wpAnyH_take (i := 43) (oi := ⟨some 52, .move (.tmp 5), _, _, _, some (42, true)⟩) (v := undef) rfl (by kernel_rfl) (by kernel_rfl) (by kernel_rfl) (fun _ _ _ h => h) (Or.inr ⟨by rfl, rfl⟩) HS0.out ?_
  simp only [Act.put, List.setIfInBounds_toArray, List.set_cons_zero, List.set_cons_succ]
  refine wpAnyH_take (i := 44) (oi := ⟨some 53, .nilCheck (.tmp 52), _, _, _, some (42, true)⟩) (v := undef) rfl (by kernel_rfl) (by kernel_rfl) (by kernel_rfl) (fun _ _ _ h => h) (Or.inr ⟨by rfl, rfl⟩) HS0.out ?_
  simp only [Act.put, List.setIfInBounds_toArray, List.set_cons_zero, List.set_cons_succ]
  refine wpAnyH_take (i := 45) (oi := ⟨some 54, .fieldAddr 33 (.tmp 53) 2, _, _, _, some (42, true)⟩) (v := undef) rfl (by kernel_rfl) (by kernel_rfl) (by kernel_rfl) (fun _ _ _ h => h) (Or.inr ⟨by rfl, rfl⟩) HS0.out ?_
  simp only [Act.put, List.setIfInBounds_toArray, List.set_cons_zero, List.set_cons_succ]
  refine wpAnyH_take (i := 46) (oi := ⟨some 55, .move (.tmp 1), _, _, _, some (42, true)⟩) (v := undef) rfl (by kernel_rfl) (by kernel_rfl) (by kernel_rfl) (fun _ _ _ h => h) (Or.inr ⟨by rfl, rfl⟩) HS0.out ?_
  simp only [Act.put, List.setIfInBounds_toArray, List.set_cons_zero, List.set_cons_succ]
  refine wpAnyH_take (i := 47) (oi := ⟨some 56, .indexAddr 80 (.tmp 55) (.const (.int .i64 4)), _, _, _, some (42, true)⟩) (v := undef) rfl (by kernel_rfl) (by kernel_rfl) (by kernel_rfl) (fun _ _ _ h => h) (Or.inr ⟨by rfl, rfl⟩) HS0.out ?_
  simp only [Act.put, List.setIfInBounds_toArray, List.set_cons_zero, List.set_cons_succ]
  refine wpAnyH_take (i := 48) (oi := ⟨some 57, .load 2 (.tmp 56), _, _, _, some (42, true)⟩) (v := undef) rfl (by kernel_rfl) (by kernel_rfl) (by kernel_rfl) (fun _ _ _ h => h) (Or.inr ⟨by rfl, rfl⟩) HS0.out ?_
  simp only [Act.put, List.setIfInBounds_toArray, List.set_cons_zero, List.set_cons_succ]
  refine wpAnyH_take (i := 49) (oi := ⟨some 58, .call ⟨.value (.func 101), #[.tmp 54, .tmp 57, .const (.int .i64 1), .const (.int .i64 7)], _⟩, _, _, _, some (42, true)⟩) (v := undef) rfl (by kernel_rfl) (by kernel_rfl) (by kernel_rfl) (fun _ _ _ h => h) (Or.inr ⟨by rfl, rfl⟩) HS0.out ?_
  simp only [Act.put, List.setIfInBounds_toArray, List.set_cons_zero, List.set_cons_succ]
  refine wpAnyH_take (i := 50) (oi := ⟨some 59, .pick (.tmp 51) (.tmp 58) (.const (.bool false)), _, _, _, none⟩) (v := .bool false) rfl (by kernel_rfl) (by kernel_rfl) (by kernel_rfl) (fun _ _ _ h => h) (Or.inl ⟨by rfl, fun w' hS => by go_simp⟩) HS0.out ?_
  simp only [Act.put, List.setIfInBounds_toArray, List.set_cons_zero, List.set_cons_succ]
  refine wpAnyH_take (i := 51) (oi := ⟨some 60, .move (.tmp 59), _, _, _, none⟩) (v := .bool false) rfl (by kernel_rfl) (by kernel_rfl) (by kernel_rfl) (fun _ _ _ h => h) (Or.inl ⟨by rfl, fun w' hS => by go_simp⟩) HS0.out ?_
  simp only [Act.put, List.setIfInBounds_toArray, List.set_cons_zero, List.set_cons_succ]
  refine wpAnyH_take (i := 52) (oi := ⟨some 61, .move (.tmp 5), _, _, _, some (51, true)⟩) (v := undef) rfl (by kernel_rfl) (by kernel_rfl) (by kernel_rfl) (fun _ _ _ h => h) (Or.inr ⟨by rfl, rfl⟩) HS0.out ?_
  simp only [Act.put, List.setIfInBounds_toArray, List.set_cons_zero, List.set_cons_succ]
  refine wpAnyH_take (i := 53) (oi := ⟨some 62, .nilCheck (.tmp 61), _, _, _, some (51, true)⟩) (v := undef) rfl (by kernel_rfl) (by kernel_rfl) (by kernel_rfl) (fun _ _ _ h => h) (Or.inr ⟨by rfl, rfl⟩) HS0.out ?_
  simp only [Act.put, List.setIfInBounds_toArray, List.set_cons_zero, List.set_cons_succ]
  refine wpAnyH_take (i := 54) (oi := ⟨some 63, .fieldAddr 33 (.tmp 62) 3, _, _, _, some (51, true)⟩) (v := undef) rfl (by kernel_rfl) (by kernel_rfl) (by kernel_rfl) (fun _ _ _ h => h) (Or.inr ⟨by rfl, rfl⟩) HS0.out ?_
  simp only [Act.put, List.setIfInBounds_toArray, List.set_cons_zero, List.set_cons_succ]
  refine wpAnyH_take (i := 55) (oi := ⟨some 64, .move (.tmp 1), _, _, _, some (51, true)⟩) (v := undef) rfl (by kernel_rfl) (by kernel_rfl) (by kernel_rfl) (fun _ _ _ h => h) (Or.inr ⟨by rfl, rfl⟩) HS0.out ?_
  simp only [Act.put, List.setIfInBounds_toArray, List.set_cons_zero, List.set_cons_succ]
  refine wpAnyH_take (i := 56) (oi := ⟨some 65, .indexAddr 80 (.tmp 64) (.const (.int .i64 5)), _, _, _, some (51, true)⟩) (v := undef) rfl (by kernel_rfl) (by kernel_rfl) (by kernel_rfl) (fun _ _ _ h => h) (Or.inr ⟨by rfl, rfl⟩) HS0.out ?_
  simp only [Act.put, List.setIfInBounds_toArray, List.set_cons_zero, List.set_cons_succ]
  refine wpAnyH_take (i := 57) (oi := ⟨some 66, .load 2 (.tmp 65), _, _, _, some (51, true)⟩) (v := undef) rfl (by kernel_rfl) (by kernel_rfl) (by kernel_rfl) (fun _ _ _ h => h) (Or.inr ⟨by rfl, rfl⟩) HS0.out ?_
  simp only [Act.put, List.setIfInBounds_toArray, List.set_cons_zero, List.set_cons_succ]
  refine wpAnyH_take (i := 58) (oi := ⟨some 67, .call ⟨.value (.func 99), #[.tmp 63, .tmp 66, .const (.int .i64 0), .const (.int .i64 4294967295)], _⟩, _, _, _, some (51, true)⟩) (v := undef) rfl (by kernel_rfl) (by kernel_rfl) (by kernel_rfl) (fun _ _ _ h => h) (Or.inr ⟨by rfl, rfl⟩) HS0.out ?_
  simp only [Act.put, List.setIfInBounds_toArray, List.set_cons_zero, List.set_cons_succ]
  refine wpAnyH_take (i := 59) (oi := ⟨some 68, .pick (.tmp 60) (.tmp 67) (.const (.bool false)), _, _, _, none⟩) (v := .bool false) rfl (by kernel_rfl) (by kernel_rfl) (by kernel_rfl) (fun _ _ _ h => h) (Or.inl ⟨by rfl, fun w' hS => by go_simp⟩) HS0.out ?_
  simp only [Act.put, List.setIfInBounds_toArray, List.set_cons_zero, List.set_cons_succ]
  refine wpAnyH_take (i := 60) (oi := ⟨some 4, .assign (.tmp 68), _, _, _, none⟩) (v := .bool false) rfl (by kernel_rfl) (by kernel_rfl) (by kernel_rfl) (fun _ _ _ h => h) (Or.inl ⟨by rfl, fun w' hS => by go_simp⟩) HS0.out ?_
  simp only [Act.put, List.setIfInBounds_toArray, List.set_cons_zero, List.set_cons_succ]
  refine wpAnyH_done (by kernel_rfl) ?_ _
  go_wp2
  go_ret
  exact ⟨rfl, HG0.out⟩
set_option maxRecDepth 100000 in
theorem take_amt_len (b o : Nat) (p : Option Addr) (n nc : Nat) (w : World) (h : ((n : Int) == 1) = false) :
    Calls Tryz.prog 103 #[.pointer (some ⟨b, o, none⟩), .slice p n nc] w fun e w' => e = .returned (.bool false) ∧ w.grownBy w' (some b) := by
  have HG0 := Lib.hid (grown_drew w (some b))
  have HS0 := Lib.hid True.intro
  go_enter Tryz.func103, Tryz.ntmps103
  go_wp2
  refine wp_region_held (S := fun _ => True) (by kernel_rfl) ?_
  change wpAnyH _ _ _ _ _ _ _ _ (World.drew _)
  refine wpAnyH_take (i := 0) (oi := ⟨some 5, .move (.tmp 1), _, _, _, none⟩) (v := .slice (p) n nc) rfl (by kernel_rfl) (by kernel_rfl) (by kernel_rfl) (fun _ _ _ h => h) (Or.inl ⟨by rfl, fun w' hS => by go_simp⟩) HS0.out ?_
  simp only [Act.put, List.setIfInBounds_toArray, List.set_cons_zero, List.set_cons_succ]
  refine wpAnyH_take (i := 1) (oi := ⟨some 6, .call ⟨.builtin .len, #[.tmp 5], _⟩, _, _, _, none⟩) (v := .int .i64 n) rfl (by kernel_rfl) (by kernel_rfl) (by kernel_rfl) (fun _ _ _ h => h) (Or.inl ⟨by rfl, fun w' hS => by go_simp⟩) HS0.out ?_
  simp only [Act.put, List.setIfInBounds_toArray, List.set_cons_zero, List.set_cons_succ]
  refine wpAnyH_take (i := 2) (oi := ⟨some 7, .binOp .eql 3 (.tmp 6) (.const (.int .i64 1)) 3, _, _, _, none⟩) (v := .bool false) rfl (by kernel_rfl) (by kernel_rfl) (by kernel_rfl) (fun _ _ _ h => h) (Or.inl ⟨by rfl, fun w' hS => by go_simp⟩) HS0.out ?_
  simp only [Act.put, List.setIfInBounds_toArray, List.set_cons_zero, List.set_cons_succ]
  refine wpAnyH_take (i := 3) (oi := ⟨some 8, .move (.tmp 7), _, _, _, none⟩) (v := .bool false) rfl (by kernel_rfl) (by kernel_rfl) (by kernel_rfl) (fun _ _ _ h => h) (Or.inl ⟨by rfl, fun w' hS => by go_simp⟩) HS0.out ?_
  simp only [Act.put, List.setIfInBounds_toArray, List.set_cons_zero, List.set_cons_succ]
  refine wpAnyH_take (i := 4) (oi := ⟨some 9, .move (.tmp 0), _, _, _, some (3, true)⟩) (v := undef) rfl (by kernel_rfl) (by kernel_rfl) (by kernel_rfl) (fun _ _ _ h => h) (Or.inr ⟨by rfl, rfl⟩) HS0.out ?_
  simp only [Act.put, List.setIfInBounds_toArray, List.set_cons_zero, List.set_cons_succ]
  refine wpAnyH_take (i := 5) (oi := ⟨some 10, .nilCheck (.tmp 9), _, _, _, some (3, true)⟩) (v := undef) rfl (by kernel_rfl) (by kernel_rfl) (by kernel_rfl) (fun _ _ _ h => h) (Or.inr ⟨by rfl, rfl⟩) HS0.out ?_
  simp only [Act.put, List.setIfInBounds_toArray, List.set_cons_zero, List.set_cons_succ]
  refine wpAnyH_take (i := 6) (oi := ⟨some 11, .fieldAddr 36 (.tmp 10) 3, _, _, _, some (3, true)⟩) (v := undef) rfl (by kernel_rfl) (by kernel_rfl) (by kernel_rfl) (fun _ _ _ h => h) (Or.inr ⟨by rfl, rfl⟩) HS0.out ?_
  simp only [Act.put, List.setIfInBounds_toArray, List.set_cons_zero, List.set_cons_succ]
  refine wpAnyH_take (i := 7) (oi := ⟨some 12, .move (.tmp 1), _, _, _, some (3, true)⟩) (v := undef) rfl (by kernel_rfl) (by kernel_rfl) (by kernel_rfl) (fun _ _ _ h => h) (Or.inr ⟨by rfl, rfl⟩) HS0.out ?_
  simp only [Act.put, List.setIfInBounds_toArray, List.set_cons_zero, List.set_cons_succ]
  refine wpAnyH_take (i := 8) (oi := ⟨some 13, .indexAddr 80 (.tmp 12) (.const (.int .i64 0)), _, _, _, some (3, true)⟩) (v := undef) rfl (by kernel_rfl) (by kernel_rfl) (by kernel_rfl) (fun _ _ _ h => h) (Or.inr ⟨by rfl, rfl⟩) HS0.out ?_
  simp only [Act.put, List.setIfInBounds_toArray, List.set_cons_zero, List.set_cons_succ]
  refine wpAnyH_take (i := 9) (oi := ⟨some 14, .load 2 (.tmp 13), _, _, _, some (3, true)⟩) (v := undef) rfl (by kernel_rfl) (by kernel_rfl) (by kernel_rfl) (fun _ _ _ h => h) (Or.inr ⟨by rfl, rfl⟩) HS0.out ?_
  simp only [Act.put, List.setIfInBounds_toArray, List.set_cons_zero, List.set_cons_succ]
  refine wpAnyH_take (i := 10) (oi := ⟨some 15, .call ⟨.value (.func 100), #[.tmp 11, .tmp 14, .const (.int .i64 (-1125899906842624)), .const (.int .i64 1125899906842624)], _⟩, _, _, _, some (3, true)⟩) (v := undef) rfl (by kernel_rfl) (by kernel_rfl) (by kernel_rfl) (fun _ _ _ h => h) (Or.inr ⟨by rfl, rfl⟩) HS0.out ?_
  simp only [Act.put, List.setIfInBounds_toArray, List.set_cons_zero, List.set_cons_succ]
  refine wpAnyH_take (i := 11) (oi := ⟨some 16, .pick (.tmp 8) (.tmp 15) (.const (.bool false)), _, _, _, none⟩) (v := .bool false) rfl (by kernel_rfl) (by kernel_rfl) (by kernel_rfl) (fun _ _ _ h => h) (Or.inl ⟨by rfl, fun w' hS => by go_simp⟩) HS0.out ?_
  simp only [Act.put, List.setIfInBounds_toArray, List.set_cons_zero, List.set_cons_succ]
  refine wpAnyH_take (i := 12) (oi := ⟨some 4, .assign (.tmp 16), _, _, _, none⟩) (v := .bool false) rfl (by kernel_rfl) (by kernel_rfl) (by kernel_rfl) (fun _ _ _ h => h) (Or.inl ⟨by rfl, fun w' hS => by go_simp⟩) HS0.out ?_
  simp only [Act.put, List.setIfInBounds_toArray, List.set_cons_zero, List.set_cons_succ]
  refine wpAnyH_done (by kernel_rfl) ?_ _
  go_wp2
  go_ret
  exact ⟨rfl, HG0.out⟩
set_option maxRecDepth 100000 in
theorem take_cod_len (b o : Nat) (p : Option Addr) (n nc : Nat) (w : World) (h : ((n : Int) == 1) = false) :
    Calls Tryz.prog 105 #[.pointer (some ⟨b, o, none⟩), .slice p n nc] w fun e w' => e = .returned (.bool false) ∧ w.grownBy w' (some b) := by
  have HG0 := Lib.hid (grown_drew w (some b))
  have HS0 := Lib.hid True.intro
  go_enter Tryz.func105, Tryz.ntmps105
  go_wp2
  refine wp_region_held (S := fun _ => True) (by kernel_rfl) ?_
  change wpAnyH _ _ _ _ _ _ _ _ (World.drew _)
  refine wpAnyH_take (i := 0) (oi := ⟨some 5, .move (.tmp 1), _, _, _, none⟩) (v := .slice (p) n nc) rfl (by kernel_rfl) (by kernel_rfl) (by kernel_rfl) (fun _ _ _ h => h) (Or.inl ⟨by rfl, fun w' hS => by go_simp⟩) HS0.out ?_
  simp only [Act.put, List.setIfInBounds_toArray, List.set_cons_zero, List.set_cons_succ]
  refine wpAnyH_take (i := 1) (oi := ⟨some 6, .call ⟨.builtin .len, #[.tmp 5], _⟩, _, _, _, none⟩) (v := .int .i64 n) rfl (by kernel_rfl) (by kernel_rfl) (by kernel_rfl) (fun _ _ _ h => h) (Or.inl ⟨by rfl, fun w' hS => by go_simp⟩) HS0.out ?_
  simp only [Act.put, List.setIfInBounds_toArray, List.set_cons_zero, List.set_cons_succ]
  refine wpAnyH_take (i := 2) (oi := ⟨some 7, .binOp .eql 3 (.tmp 6) (.const (.int .i64 1)) 3, _, _, _, none⟩) (v := .bool false) rfl (by kernel_rfl) (by kernel_rfl) (by kernel_rfl) (fun _ _ _ h => h) (Or.inl ⟨by rfl, fun w' hS => by go_simp⟩) HS0.out ?_
  simp only [Act.put, List.setIfInBounds_toArray, List.set_cons_zero, List.set_cons_succ]
  refine wpAnyH_take (i := 3) (oi := ⟨some 8, .move (.tmp 7), _, _, _, none⟩) (v := .bool false) rfl (by kernel_rfl) (by kernel_rfl) (by kernel_rfl) (fun _ _ _ h => h) (Or.inl ⟨by rfl, fun w' hS => by go_simp⟩) HS0.out ?_
  simp only [Act.put, List.setIfInBounds_toArray, List.set_cons_zero, List.set_cons_succ]
  refine wpAnyH_take (i := 4) (oi := ⟨some 9, .move (.tmp 0), _, _, _, some (3, true)⟩) (v := undef) rfl (by kernel_rfl) (by kernel_rfl) (by kernel_rfl) (fun _ _ _ h => h) (Or.inr ⟨by rfl, rfl⟩) HS0.out ?_
  simp only [Act.put, List.setIfInBounds_toArray, List.set_cons_zero, List.set_cons_succ]
  refine wpAnyH_take (i := 5) (oi := ⟨some 10, .nilCheck (.tmp 9), _, _, _, some (3, true)⟩) (v := undef) rfl (by kernel_rfl) (by kernel_rfl) (by kernel_rfl) (fun _ _ _ h => h) (Or.inr ⟨by rfl, rfl⟩) HS0.out ?_
  simp only [Act.put, List.setIfInBounds_toArray, List.set_cons_zero, List.set_cons_succ]
  refine wpAnyH_take (i := 6) (oi := ⟨some 11, .fieldAddr 36 (.tmp 10) 4, _, _, _, some (3, true)⟩) (v := undef) rfl (by kernel_rfl) (by kernel_rfl) (by kernel_rfl) (fun _ _ _ h => h) (Or.inr ⟨by rfl, rfl⟩) HS0.out ?_
  simp only [Act.put, List.setIfInBounds_toArray, List.set_cons_zero, List.set_cons_succ]
  refine wpAnyH_take (i := 7) (oi := ⟨some 12, .move (.tmp 1), _, _, _, some (3, true)⟩) (v := undef) rfl (by kernel_rfl) (by kernel_rfl) (by kernel_rfl) (fun _ _ _ h => h) (Or.inr ⟨by rfl, rfl⟩) HS0.out ?_
  simp only [Act.put, List.setIfInBounds_toArray, List.set_cons_zero, List.set_cons_succ]
  refine wpAnyH_take (i := 8) (oi := ⟨some 13, .indexAddr 80 (.tmp 12) (.const (.int .i64 0)), _, _, _, some (3, true)⟩) (v := undef) rfl (by kernel_rfl) (by kernel_rfl) (by kernel_rfl) (fun _ _ _ h => h) (Or.inr ⟨by rfl, rfl⟩) HS0.out ?_
  simp only [Act.put, List.setIfInBounds_toArray, List.set_cons_zero, List.set_cons_succ]
  refine wpAnyH_take (i := 9) (oi := ⟨some 14, .load 2 (.tmp 13), _, _, _, some (3, true)⟩) (v := undef) rfl (by kernel_rfl) (by kernel_rfl) (by kernel_rfl) (fun _ _ _ h => h) (Or.inr ⟨by rfl, rfl⟩) HS0.out ?_
  simp only [Act.put, List.setIfInBounds_toArray, List.set_cons_zero, List.set_cons_succ]
  refine wpAnyH_take (i := 10) (oi := ⟨some 15, .call ⟨.value (.func 106), #[.tmp 11, .tmp 14, .const (.int .i64 0), .const (.int .i64 999)], _⟩, _, _, _, some (3, true)⟩) (v := undef) rfl (by kernel_rfl) (by kernel_rfl) (by kernel_rfl) (fun _ _ _ h => h) (Or.inr ⟨by rfl, rfl⟩) HS0.out ?_
  simp only [Act.put, List.setIfInBounds_toArray, List.set_cons_zero, List.set_cons_succ]
  refine wpAnyH_take (i := 11) (oi := ⟨some 16, .pick (.tmp 8) (.tmp 15) (.const (.bool false)), _, _, _, none⟩) (v := .bool false) rfl (by kernel_rfl) (by kernel_rfl) (by kernel_rfl) (fun _ _ _ h => h) (Or.inl ⟨by rfl, fun w' hS => by go_simp⟩) HS0.out ?_
  simp only [Act.put, List.setIfInBounds_toArray, List.set_cons_zero, List.set_cons_succ]
  refine wpAnyH_take (i := 12) (oi := ⟨some 4, .assign (.tmp 16), _, _, _, none⟩) (v := .bool false) rfl (by kernel_rfl) (by kernel_rfl) (by kernel_rfl) (fun _ _ _ h => h) (Or.inl ⟨by rfl, fun w' hS => by go_simp⟩) HS0.out ?_
  simp only [Act.put, List.setIfInBounds_toArray, List.set_cons_zero, List.set_cons_succ]
  refine wpAnyH_done (by kernel_rfl) ?_ _
  go_wp2
  go_ret
  exact ⟨rfl, HG0.out⟩
theorem take_none {m : Ms} {f : Fd} {l : List Int} {b : Nat} {ty : TypeId} {pre : List Value} {w w' : World} {e : Ending} (ht : takeL m f l = none) (h : e = .returned (.bool false) ∧ w.grownBy w' (some b)) : TakeP b ty pre m f l w e w' :=
  ⟨by rw [ht]; exact h.1, h.2, fun m' hm => by rw [ht] at hm; cases hm⟩
theorem take_some {m m' : Ms} {f : Fd} {l : List Int} {b : Nat} {ty : TypeId} {pre : List Value} {w w' : World} {e : Ending} (ht : takeL m f l = some m') (h1 : e = .returned (.bool true)) (h2 : w.grownBy w' (some b)) (h3 : MsgAt w' b ty pre m') : TakeP b ty pre m f l w e w' :=
  ⟨by rw [ht]; exact h1, h2, fun m2 hm => by rw [ht] at hm; cases hm; exact h3⟩
def takeFn : Fd → Nat
  | .cpn => 97
  | .amt => 103
  | .cod => 105
theorem row_cells {w : World} {F : Nat → Prop} {p : Option Addr} {c : Nat} {l : List Int} (h : I64R w F (.slice p l.length c) l) (h0 : 0 < l.length) : ∃ nb no, p = some ⟨nb, no, none⟩ ∧ F nb ∧ ∀ (j : Nat) (hj : j < l.length), w.cell? ⟨nb, no + j, none⟩ = some (.int .i64 l[j]) := by
  obtain ⟨p', c', e, _, hp⟩ := h
  simp only [Value.slice.injEq] at e
  obtain ⟨rfl, _, rfl⟩ := e
  obtain ⟨nb, no, h1, h2, h3⟩ := hp h0
  exact ⟨nb, no, h1, h2, fun j hj => h3 j _ (by rw [List.getElem?_map, List.getElem?_eq_getElem hj]; rfl)⟩
theorem msv_set (pre : List Value) (_m : Ms) (i : Nat) (v : Value) (l : List Value) (hi : i < l.length) (A : Array Value) (hA : A = (pre ++ l).toArray) : A.setIfInBounds (pre.length + i) v = (pre ++ l.set i v).toArray := by
  rw [hA]; exact arr_set pre l i v hi
theorem take_any (f : Fd) (l : List Int) (b : Nat) (ty : TypeId) (pre : List Value) (m : Ms) (F : Nat → Prop) (v : Value) (w : World) (hm : MsgAt w b ty pre m) (hv : I64R w F v l) (hF : ∀ nb, F nb → nb ≠ b) :
    Calls Tryz.prog (takeFn f) #[.pointer (some ⟨b, pre.length, none⟩), v] w (TakeP b ty pre m f l w) := by
  have hv0 := hv
  obtain ⟨p, c, rfl, hnc, _⟩ := hv
  by_cases hl : l.length = cnt f
  · obtain ⟨nb, no, rfl, hnb, hc⟩ := row_cells hv0 (by rw [hl]; cases f <;> decide)
    have hne := hF nb hnb
    cases f with
    | cpn =>
      obtain ⟨x0, x1, x2, x3, x4, x5, rfl⟩ := list6 l hl
      have hcc : w.cell? ⟨nb, no, none⟩ = some (.int .i64 x0) ∧ w.cell? ⟨nb, no + 1, none⟩ = some (.int .i64 x1) ∧ w.cell? ⟨nb, no + 2, none⟩ = some (.int .i64 x2) ∧ w.cell? ⟨nb, no + 3, none⟩ = some (.int .i64 x3) ∧ w.cell? ⟨nb, no + 4, none⟩ = some (.int .i64 x4) ∧ w.cell? ⟨nb, no + 5, none⟩ = some (.int .i64 x5) := ⟨hc 0 (by simp), hc 1 (by simp), hc 2 (by simp), hc 3 (by simp), hc 4 (by simp), hc 5 (by simp)⟩
      by_cases h0 : 0 ≤ x0 ∧ x0 ≤ 7
      · skip
        by_cases h1 : 0 ≤ x1 ∧ x1 ≤ 65535
        · skip
          by_cases h2 : 0 ≤ x2 ∧ x2 ≤ 4294967295
          · skip
            by_cases h3 : (-1125899906842624) ≤ x3 ∧ x3 ≤ 1125899906842624
            · skip
              by_cases h4 : 1 ≤ x4 ∧ x4 ≤ 7
              · skip
                by_cases h5 : 0 ≤ x5 ∧ x5 ≤ 4294967295
                · skip
                  have ht : takeL m .cpn [x0, x1, x2, x3, x4, x5] = some { m with lc := x0.toNat, lf := x1.toNat, lw := x2.toNat, val := x3, st := x4.toNat, non := x5.toNat } := by rw [take_cpn, if_pos ((cpnB_iff _ _ _ _ _ _).2 ⟨h0, h1, h2, h3, h4, h5⟩)]
                  refine (take_cpn_6 b ty pre m nb no c x0 x1 x2 x3 x4 x5 w hm hne hcc h0 h1 h2 h3 h4 h5).mono ?_
                  rintro e w' ⟨he, hg, hh⟩
                  refine take_some ht he hg ?_
                  unfold MsgAt
                  rw [msv_set pre m 4 (.int .u8 x0) (msV m) (by simp [msV]) _ rfl] at hh
                  rw [msv_set pre m 5 (.int .u16 x1) ((msV m).set 4 (.int .u8 x0)) (by simp [msV]) _ rfl] at hh
                  rw [msv_set pre m 6 (.int .u32 x2) (((msV m).set 4 (.int .u8 x0)).set 5 (.int .u16 x1)) (by simp [msV]) _ rfl] at hh
                  rw [msv_set pre m 7 (.int .i64 x3) ((((msV m).set 4 (.int .u8 x0)).set 5 (.int .u16 x1)).set 6 (.int .u32 x2)) (by simp [msV]) _ rfl] at hh
                  rw [msv_set pre m 8 (.int .u8 x4) (((((msV m).set 4 (.int .u8 x0)).set 5 (.int .u16 x1)).set 6 (.int .u32 x2)).set 7 (.int .i64 x3)) (by simp [msV]) _ rfl] at hh
                  rw [msv_set pre m 9 (.int .u32 x5) ((((((msV m).set 4 (.int .u8 x0)).set 5 (.int .u16 x1)).set 6 (.int .u32 x2)).set 7 (.int .i64 x3)).set 8 (.int .u8 x4)) (by simp [msV]) _ rfl] at hh
                  rw [hh]
                  have e0 := Int.toNat_of_nonneg h0.1
                  have e1 := Int.toNat_of_nonneg h1.1
                  have e2 := Int.toNat_of_nonneg h2.1
                  have e4 := Int.toNat_of_nonneg (show 0 ≤ x4 by omega)
                  have e5 := Int.toNat_of_nonneg h5.1
                  simp only [msV, List.set_cons_zero, List.set_cons_succ, e0, e1, e2, e4, e5]
                · exact (take_cpn_5 b ty pre m nb no c x0 x1 x2 x3 x4 x5 w hm hne hcc h0 h1 h2 h3 h4 (by omega)).mono fun e w' h => take_none (by rw [take_cpn, if_neg (fun e => h5 ((cpnB_iff _ _ _ _ _ _).1 e).2.2.2.2.2)]) h
              · exact (take_cpn_4 b ty pre m nb no c x0 x1 x2 x3 x4 x5 w hm hne hcc h0 h1 h2 h3 (by omega)).mono fun e w' h => take_none (by rw [take_cpn, if_neg (fun e => h4 ((cpnB_iff _ _ _ _ _ _).1 e).2.2.2.2.1)]) h
            · exact (take_cpn_3 b ty pre m nb no c x0 x1 x2 x3 x4 x5 w hm hne hcc h0 h1 h2 (by omega)).mono fun e w' h => take_none (by rw [take_cpn, if_neg (fun e => h3 ((cpnB_iff _ _ _ _ _ _).1 e).2.2.2.1)]) h
          · exact (take_cpn_2 b ty pre m nb no c x0 x1 x2 x3 x4 x5 w hm hne hcc h0 h1 (by omega)).mono fun e w' h => take_none (by rw [take_cpn, if_neg (fun e => h2 ((cpnB_iff _ _ _ _ _ _).1 e).2.2.1)]) h
        · exact (take_cpn_1 b ty pre m nb no c x0 x1 x2 x3 x4 x5 w hm hne hcc h0 (by omega)).mono fun e w' h => take_none (by rw [take_cpn, if_neg (fun e => h1 ((cpnB_iff _ _ _ _ _ _).1 e).2.1)]) h
      · exact (take_cpn_0 b ty pre m nb no c x0 x1 x2 x3 x4 x5 w hm hne hcc  (by omega)).mono fun e w' h => take_none (by rw [take_cpn, if_neg (fun e => h0 ((cpnB_iff _ _ _ _ _ _).1 e).1)]) h
    | amt =>
      obtain ⟨x0, rfl⟩ := list1 l hl
      have hcc : w.cell? ⟨nb, no, none⟩ = some (.int .i64 x0) := hc 0 (by simp)
      by_cases h0 : (-1125899906842624) ≤ x0 ∧ x0 ≤ 1125899906842624
      · skip
        have ht : takeL m .amt [x0] = some { m with am := x0 } := by rw [take_amt, if_pos ((inB_iff _ _ _).2 h0)]
        refine (take_amt_1 b ty pre m nb no c x0 w hm hne hcc h0).mono ?_
        rintro e w' ⟨he, hg, hh⟩
        refine take_some ht he hg ?_
        unfold MsgAt
        rw [msv_set pre m 10 (.int .i64 x0) (msV m) (by simp [msV]) _ rfl] at hh
        rw [hh]
        rfl
      · exact (take_amt_0 b ty pre m nb no c x0 w hm hne hcc  (by omega)).mono fun e w' h => take_none (by rw [take_amt, if_neg (fun e => h0 ((inB_iff _ _ _).1 e))]) h
    | cod =>
      obtain ⟨x0, rfl⟩ := list1 l hl
      have hcc : w.cell? ⟨nb, no, none⟩ = some (.int .i64 x0) := hc 0 (by simp)
      by_cases h0 : 0 ≤ x0 ∧ x0 ≤ 999
      · skip
        have ht : takeL m .cod [x0] = some { m with code := x0 } := by rw [take_cod, if_pos ((inB_iff _ _ _).2 h0)]
        refine (take_cod_1 b ty pre m nb no c x0 w hm hne hcc h0).mono ?_
        rintro e w' ⟨he, hg, hh⟩
        refine take_some ht he hg ?_
        unfold MsgAt
        rw [msv_set pre m 11 (.int .i64 x0) (msV m) (by simp [msV]) _ rfl] at hh
        rw [hh]
        rfl
      · exact (take_cod_0 b ty pre m nb no c x0 w hm hne hcc  (by omega)).mono fun e w' h => take_none (by rw [take_cod, if_neg (fun e => h0 ((inB_iff _ _ _).1 e))]) h
  · have hn := take_cnt (a := m) hl
    cases f with
    | cpn => exact (take_cpn_len b pre.length p l.length c w (by simp only [cnt] at hl; simp; omega)).mono fun e w' h => take_none hn h
    | amt => exact (take_amt_len b pre.length p l.length c w (by simp only [cnt] at hl; simp; omega)).mono fun e w' h => take_none hn h
    | cod => exact (take_cod_len b pre.length p l.length c w (by simp only [cnt] at hl; simp; omega)).mono fun e w' h => take_none hn h
set_option maxRecDepth 100000 in
theorem takeAt_any (n : Int) (b : Nat) (ty : TypeId) (pre : List Value) (m : Ms) (w : World) (hm : MsgAt w b ty pre m) :
    Calls Tryz.prog 77 #[.pointer (some ⟨b, pre.length, none⟩), .int .i64 n] w fun e w' => e = .returned (.bool (inB n 0 3)) ∧ w.grownBy w' (some b) ∧ (inB n 0 3 = true → MsgAt w' b ty pre { m with at_ := n.toNat }) := by
  by_cases h : 0 ≤ n ∧ n ≤ 3
  · have hb : inB n 0 3 = true := (inB_iff _ _ _).2 h
    have HC := Lib.hid (cutu8_yes b (pre.length + 3) _ ty n 0 3 w hm (by simp [msV]) h.1 h.2 (by omega) (by omega))
    have HE := Lib.hid (Int.toNat_of_nonneg h.1)
    rw [hb]
    clear hm h hb
    go_enter Tryz.func77, Tryz.ntmps77
    go_wp2_with fail
    refine (HC.out).mono ?_
    rintro e w' ⟨rfl, hh, hg⟩
    have HH := Lib.hid hh
    have HG := Lib.hid hg
    clear hh hg
    go_wp2
    go_ret
    refine ⟨rfl, HG.out, fun _ => ?_⟩
    have hh := HH.out
    rw [msv_set pre m 3 (.int .u8 n) (msV m) (by simp [msV]) _ rfl] at hh
    unfold MsgAt
    rw [hh]
    simp only [msV, List.set_cons_zero, List.set_cons_succ, HE.out]
  · have hb : inB n 0 3 = false := by cases hq : inB n 0 3 with | false => rfl | true => exact absurd ((inB_iff _ _ _).1 hq) h
    have HC := Lib.hid (fun p => cutu8_no p n 0 3 w (by omega))
    rw [hb]
    clear hm h hb
    go_enter Tryz.func77, Tryz.ntmps77
    go_wp2_with fail
    refine (HC.out _).mono ?_
    rintro e w' ⟨rfl, rfl⟩
    go_wp2
    go_ret
    exact ⟨rfl, grown_refl _ _, fun h => by cases h⟩
end Go.Proofs.YtjlifjgljejabaaGreatDoor
/- Contract: which fields a kind has: a map's literal of lists of fields. -/
namespace Go.Proofs.YtjlifjgljejabaaGreatDoor
open Go.RowKit Go.Edi Go.Wrap Go.Lib
open Go.Maps (Keyed)

theorem wpList_insert {H : Type} {P : Program} {w : World} {ops : Array Oper} {rest : List Oper} {o : Oper} {a : Act} {Q : Exit → Act → World → Prop}
    (hg : o.guard = none) (m x v : Operand) (t : TypeId) (hop : o.op = Op.insert t m x v) (hd : o.dst = none)
    (k e : TypeId) (KK : Keyed P k) (ht : P.underlying t = some (.map k e)) (R : Value → Option (DataW H × List MemPlace)) (b n : Nat) (D : DataW H)
    (hm : a.eval m = .map (some b)) (hown : w.ownsMap P k R b n D) (hn : n < maxLen) (key val : Value) (kl : Lit) (hx : a.eval x = key) (hv : a.eval v = val) (hkey : keyOf P k key = some kl)
    (d : DataW H) (ps : List MemPlace) (hval : R val = some (d, ps))
    (hK : ∀ w', w'.ownsMap P k R b (n + 1) (D.put kl d) → w.grownBy w' (some b) → wpList P ops Q rest a w') : wpList P ops Q (o :: rest) a w := by
  refine wpList_plain hg fun K' hK' => ?_
  obtain ⟨w', hrun, r1, r2⟩ := hown.update KK ht hn hkey hval
  unfold Oper.wp
  simp [execOp, hop, hm, hx, hv, hrun, Result.andThen, Oper.upon, hd]
  exact hK' _ _ (hK w' r1 r2)
def RV (v : Value) : Option (DataW Value × List MemPlace) := some (.held v, [])
theorem KU8 : Keyed Tryz.prog 5 := Maps.int_keyed Tryz.underlying5
theorem key8 (n : Nat) (h : n < 256) : keyOf Tryz.prog 5 (.int .u8 (n : Int)) = some (.int .u8 (n : Int)) := Maps.keyOf_int_mk Tryz.underlying5 (by
  have e1 : IntKind.u8.min = 0 := rfl
  have e2 : IntKind.u8.max = 255 := rfl
  simp only [Lit.wf, e1, e2, Bool.and_eq_true, decide_eq_true_eq]
  omega)
/-- a list of fields in memory -/
abbrev FldsF (w : World) (F : Nat → Prop) (v : Value) (fds : List Fd) : Prop := RowF w F v fds.length (fds.flatMap fdV)
def KD : Nat → List Value → List (Lit × DataW Value)
  | _, [] => []
  | k, v :: r => (.int .u8 (k : Int), .held v) :: KD (k + 1) r
structure KM (w : World) (B b1 b2 b3 : Nat) (vs : List Value) (wr : World) : Prop where
  own : wr.ownsMap Tryz.prog 5 RV B vs.length (.map (KD 1 vs))
  r1 : wr.heap[b1]? = some (.cells (fdV .cpn).toArray 112 (0, 0))
  r2 : wr.heap[b2]? = some (.cells (fdV .amt).toArray 112 (0, 0))
  r3 : wr.heap[b3]? = some (.cells (fdV .cod).toArray 112 (0, 0))
  fl : ∀ (i : Nat) (v : Value) (fds : List Fd), vs[i]? = some v → fdsL (i + 1) = some fds → FldsF wr (fun b => w.heap.size ≤ b ∧ b < wr.heap.size ∧ b ≠ B) v fds
  bl : Below w.heap.size w wr
  hB : w.heap.size ≤ B
  n1 : b1 ≠ B
  n2 : b2 ≠ B
  n3 : b3 ≠ B
theorem KM.step {w wr w2 : World} {B b1 b2 b3 : Nat} {vs : List Value} (h : KM w B b1 b2 b3 vs wr) (fds : List Fd) (A : Array Value) (g : Nat) (hgs : g = wr.heap.size) (hf : fdsL (vs.length + 1) = some fds) (hA : A = (fds.flatMap fdV).toArray)
    (ho : w2.ownsMap Tryz.prog 5 RV B (vs.length + 1) ((DataW.map (KD 1 vs)).put (.int .u8 ((vs.length + 1 : Nat) : Int)) (.held (.slice (some ⟨g, 0, none⟩) fds.length fds.length))))
    (hD : (DataW.map (KD 1 vs)).put (.int .u8 ((vs.length + 1 : Nat) : Int)) (.held (.slice (some ⟨g, 0, none⟩) fds.length fds.length)) = .map (KD 1 (vs ++ [.slice (some ⟨g, 0, none⟩) fds.length fds.length])))
    (hg : (wr.alloc (.cells A 112)).grownBy w2 (some B)) : KM w B b1 b2 b3 (vs ++ [.slice (some ⟨g, 0, none⟩) fds.length fds.length]) w2 := by
  subst hgs
  have hBl : B < wr.heap.size := h.own.lt
  have hs : wr.heap.size + 1 ≤ w2.heap.size := by have := hg.size; simpa only [size_a] using this
  have hk : ∀ b, b < wr.heap.size → b ≠ B → w2.heap[b]? = wr.heap[b]? := fun b hb hne => (hg.block b (by simp only [size_a]; omega) (fun e => hne (by simpa using e))).trans (Below.heap_alloc _ _ _ hb)
  have hnew : w2.heap[wr.heap.size]? = some (.cells A 112 (0, 0)) := (hg.block _ (by simp only [size_a]; omega) (fun e => by
    have : wr.heap.size = B := by simpa using e
    omega)).trans (at_last _ _)
  refine ⟨?_, (hk _ (lt_of_heap h.r1) h.n1).trans h.r1, (hk _ (lt_of_heap h.r2) h.n2).trans h.r2, (hk _ (lt_of_heap h.r3) h.n3).trans h.r3, ?_, (h.bl.alloc h.bl.size _).grown hg (by have := h.bl.size; simp only [size_a]; omega) (fun k e => by cases e; exact h.hB), h.hB, h.n1, h.n2, h.n3⟩
  · rw [hD] at ho
    rw [List.length_append]
    exact ho
  · intro i v fs hi hfs
    by_cases hlt : i < vs.length
    · rw [List.getElem?_append_left hlt] at hi
      exact (h.fl i v fs hi hfs).kept (fun b hb => ⟨⟨hb.1, Nat.lt_of_lt_of_le hb.2.1 (by omega), hb.2.2⟩, hk b hb.2.1 hb.2.2⟩)
    · have hie : i = vs.length := by
        have := (List.getElem?_eq_some_iff.1 hi).1
        rw [List.length_append, List.length_singleton] at this
        omega
      subst hie
      rw [hf] at hfs
      obtain rfl := Option.some.inj hfs
      rw [List.getElem?_append_right (Nat.le_refl _), Nat.sub_self] at hi
      obtain rfl := Option.some.inj hi
      exact ⟨_, _, rfl, Nat.le_refl _, fun _ => ⟨wr.heap.size, 0, rfl, ⟨h.bl.size, by omega, by omega⟩, fun j u hu => by rw [Nat.zero_add, cell_of_arr hnew j, hA]; simpa using hu⟩⟩
theorem lit8_ne {a b : Nat} (h : a ≠ b) : (Lit.int .u8 (a : Int)) ≠ Lit.int .u8 (b : Int) := fun e => by
  simp only [Lit.int.injEq, true_and] at e
  omega
/-- what kinds answers -/
def KindsP (w : World) (e : Ending) (w' : World) : Prop :=
  ∃ (B : Nat) (D : DataW Value), e = .returned (.map (some B)) ∧ w'.ownsMap Tryz.prog 5 RV B 8 D ∧ w.heap.size ≤ B ∧ Below w.heap.size w w' ∧
    (∀ k fds, fdsL k = some fds → ∃ v, (∀ z, D.atKey (.int .u8 (k : Int)) z = .held v) ∧ Maps.has D (.int .u8 (k : Int)) = true ∧ FldsF w' (fun b => w.heap.size ≤ b ∧ b < w'.heap.size) v fds) ∧
    (∀ k, fdsL k = none → (∀ z, D.atKey (.int .u8 (k : Int)) z = z) ∧ Maps.has D (.int .u8 (k : Int)) = false)
theorem fds_kind {k : Nat} {fds : List Fd} (h : fdsL k = some fds) : k = 1 ∨ k = 2 ∨ k = 3 ∨ k = 4 ∨ k = 5 ∨ k = 6 ∨ k = 7 ∨ k = 8 := by
  unfold fdsL at h
  split at h <;> first | (cases h; done) | omega
theorem kinds_end {w wr : World} {B b1 b2 b3 : Nat} {v1 v2 v3 v4 v5 v6 v7 v8 : Value} (h : KM w B b1 b2 b3 [v1, v2, v3, v4, v5, v6, v7, v8] wr) : KindsP w (.returned (.map (some B))) wr := by
  refine ⟨B, _, rfl, h.own, h.hB, h.bl, fun k fds hk => ?_, fun k hk => ?_⟩
  · have hw : ∀ (i : Nat) (v : Value), [v1, v2, v3, v4, v5, v6, v7, v8][i]? = some v → fdsL (i + 1) = some fds → FldsF wr (fun b => w.heap.size ≤ b ∧ b < wr.heap.size) v fds := fun i v hi hf =>
      (h.fl i v fds hi hf).kept (fun b hb => ⟨⟨hb.1, hb.2.1⟩, rfl⟩)
    rcases fds_kind hk with rfl | rfl | rfl | rfl | rfl | rfl | rfl | rfl
    · exact ⟨v1, fun z => rfl, rfl, hw 0 v1 rfl hk⟩
    · exact ⟨v2, fun z => rfl, rfl, hw 1 v2 rfl hk⟩
    · exact ⟨v3, fun z => rfl, rfl, hw 2 v3 rfl hk⟩
    · exact ⟨v4, fun z => rfl, rfl, hw 3 v4 rfl hk⟩
    · exact ⟨v5, fun z => rfl, rfl, hw 4 v5 rfl hk⟩
    · exact ⟨v6, fun z => rfl, rfl, hw 5 v6 rfl hk⟩
    · exact ⟨v7, fun z => rfl, rfl, hw 6 v7 rfl hk⟩
    · exact ⟨v8, fun z => rfl, rfl, hw 7 v8 rfl hk⟩
  · have hne : ∀ j : Nat, j ∈ [1, 2, 3, 4, 5, 6, 7, 8] → k ≠ j := by
      intro j hj e
      subst e
      simp only [List.mem_cons, List.not_mem_nil, or_false] at hj
      rcases hj with rfl | rfl | rfl | rfl | rfl | rfl | rfl | rfl <;> cases hk
    have hE : (DataW.map (KD 1 [v1, v2, v3, v4, v5, v6, v7, v8]) : DataW Value) = ((((((((DataW.map []).put (.int .u8 ((1 : Nat) : Int)) (.held v1)).put (.int .u8 ((2 : Nat) : Int)) (.held v2)).put (.int .u8 ((3 : Nat) : Int)) (.held v3)).put (.int .u8 ((4 : Nat) : Int)) (.held v4)).put (.int .u8 ((5 : Nat) : Int)) (.held v5)).put (.int .u8 ((6 : Nat) : Int)) (.held v6)).put (.int .u8 ((7 : Nat) : Int)) (.held v7)).put (.int .u8 ((8 : Nat) : Int)) (.held v8) := rfl
    rw [hE]
    constructor
    · intro z
      rw [Maps.atKey_put_other (lit8_ne (hne 8 (by simp))), Maps.atKey_put_other (lit8_ne (hne 7 (by simp))), Maps.atKey_put_other (lit8_ne (hne 6 (by simp))), Maps.atKey_put_other (lit8_ne (hne 5 (by simp))), Maps.atKey_put_other (lit8_ne (hne 4 (by simp))), Maps.atKey_put_other (lit8_ne (hne 3 (by simp))), Maps.atKey_put_other (lit8_ne (hne 2 (by simp))), Maps.atKey_put_other (lit8_ne (hne 1 (by simp)))]
      rfl
    · rw [Maps.has_put_other (lit8_ne (hne 8 (by simp))), Maps.has_put_other (lit8_ne (hne 7 (by simp))), Maps.has_put_other (lit8_ne (hne 6 (by simp))), Maps.has_put_other (lit8_ne (hne 5 (by simp))), Maps.has_put_other (lit8_ne (hne 4 (by simp))), Maps.has_put_other (lit8_ne (hne 3 (by simp))), Maps.has_put_other (lit8_ne (hne 2 (by simp))), Maps.has_put_other (lit8_ne (hne 1 (by simp)))]
      rfl
set_option maxRecDepth 100000 in
set_option maxHeartbeats 3200000 in
theorem kinds_any (w : World) : Calls Tryz.prog 48 #[] w (KindsP w) := by
  have hmk := @run_makeMap Tryz.prog
  go_enter Tryz.func48, Tryz.ntmps48
  go_upto_region 2 with (first
    | (go_at_call 71; refine (fld_cpn _).mono ?_; rintro e w1 ⟨rfl, hb1⟩)
    | (go_at_call 72; refine (fld_amt _).mono ?_; rintro e w2 ⟨rfl, hb2⟩)
    | (go_at_call 73; refine (fld_cod _).mono ?_; rintro e w3 ⟨rfl, hb3⟩))
  have hb0 : Below w.heap.size w w3 := (hb1.trans (hb2.mono hb1.size)).trans (hb3.mono (Nat.le_trans hb1.size hb2.size))
  obtain ⟨w4, hw4⟩ : ∃ w4, w4 = ((w3.alloc (.cells (fdV .cpn).toArray 112)).alloc (.cells (fdV .amt).toArray 112)).alloc (.cells (fdV .cod).toArray 112) := ⟨_, rfl⟩
  have h4s : w4.heap.size = w3.heap.size + 1 + 1 + 1 := by rw [hw4]; simp only [size_a]
  have hb4 : Below w.heap.size w w4 := by rw [hw4]; exact ((hb0.alloc hb0.size _).alloc (by have := hb0.size; simp only [size_a]; omega) _).alloc (by have := hb0.size; simp only [size_a]; omega) _
  have hr1 : w4.heap[w3.heap.size]? = some (.cells (fdV .cpn).toArray 112 (0, 0)) := by rw [hw4]; exact heap_past _ _ _ (by simp only [size_a]; omega) (heap_past _ _ _ (by simp only [size_a]; omega) (heap_new _ _ _ rfl))
  have hr2 : w4.heap[w3.heap.size + 1]? = some (.cells (fdV .amt).toArray 112 (0, 0)) := by rw [hw4]; exact heap_past _ _ _ (by simp only [size_a]; omega) (heap_new _ _ _ (by simp only [size_a]))
  have hr3 : w4.heap[w3.heap.size + 1 + 1]? = some (.cells (fdV .cod).toArray 112 (0, 0)) := by rw [hw4]; exact heap_new _ _ _ (by simp only [size_a])
  have hw4' : ((w3.alloc (.cells #[str [67, 80, 78], .func (.func 96) #[] #[], .func (.func 97) #[] #[]] 112)).alloc (.cells #[str [65, 77, 84], .func (.func 102) #[] #[], .func (.func 103) #[] #[]] 112)).alloc (.cells #[str [67, 79, 68], .func (.func 104) #[] #[], .func (.func 105) #[] #[]] 112) = w4 := hw4.symm
  rw [hw4']
  have HK0 := Lib.hid (show KM w w4.heap.size w3.heap.size (w3.heap.size + 1) (w3.heap.size + 1 + 1) [] (w4.alloc (.map #[] 0)) from
    ⟨World.ownsMap_made _ _ _ _, heap_past _ _ _ (by omega) hr1, heap_past _ _ _ (by omega) hr2, heap_past _ _ _ (by omega) hr3, fun i v fds hi => by simp at hi, hb4.alloc hb4.size _, hb4.size, by omega, by omega, by omega⟩)
  have HS4 := Lib.hid (show (w4.alloc (.map #[] 0)).heap.size = w4.heap.size + 1 from size_a _ _)
  clear hw4 hw4' hb0 hb1 hb2 hb3 hb4 hr1 hr2 hr3 h4s
  generalize w3.heap.size = b at *
  go_wp2_with (first
    | (refine wpList_load_row rfl 112 _ rfl b rfl 112 (fdV .cpn).toArray (0, 0) _ (HK0.out.r1) Tryz.underlying112 rfl sizeField ?_)
    | (refine wpList_load_row rfl 112 _ rfl (b + 1) rfl 112 (fdV .amt).toArray (0, 0) _ (HK0.out.r2) Tryz.underlying112 rfl sizeField ?_)
    | (refine wpList_load_row rfl 112 _ rfl (b + 1 + 1) rfl 112 (fdV .cod).toArray (0, 0) _ (HK0.out.r3) Tryz.underlying112 rfl sizeField ?_)
    | (refine wpList_insert rfl _ _ _ _ rfl rfl 5 104 KU8 Tryz.underlying106 RV w4.heap.size 0 _ rfl (HK0.out.own.alloc _) (by decide) (.int .u8 1) (.slice (some ⟨w4.heap.size + 1, 0, none⟩) 0 0) _ rfl rfl (key8 1 (by decide)) _ [] rfl ?_))
  intro k1 ho hg
  have HK1 := Lib.hid (HK0.out.step [] _ _ HS4.out.symm rfl rfl ho rfl hg)
  clear ho hg
  go_wp2_with (first
    | (refine wpList_load_row rfl 112 _ rfl b rfl 112 (fdV .cpn).toArray (0, 0) _ (HK1.out.r1) Tryz.underlying112 rfl sizeField ?_)
    | (refine wpList_load_row rfl 112 _ rfl (b + 1) rfl 112 (fdV .amt).toArray (0, 0) _ (HK1.out.r2) Tryz.underlying112 rfl sizeField ?_)
    | (refine wpList_load_row rfl 112 _ rfl (b + 1 + 1) rfl 112 (fdV .cod).toArray (0, 0) _ (HK1.out.r3) Tryz.underlying112 rfl sizeField ?_)
    | (refine wpList_insert rfl _ _ _ _ rfl rfl 5 104 KU8 Tryz.underlying106 RV w4.heap.size 1 _ rfl (HK1.out.own.alloc _) (by decide) (.int .u8 2) (.slice (some ⟨k1.heap.size, 0, none⟩) 1 1) _ rfl rfl (key8 2 (by decide)) _ [] rfl ?_))
  intro k2 ho hg
  have HK2 := Lib.hid (HK1.out.step [.cpn] _ _ rfl rfl rfl ho rfl hg)
  clear ho hg
  go_wp2_with (first
    | (refine wpList_load_row rfl 112 _ rfl b rfl 112 (fdV .cpn).toArray (0, 0) _ (HK2.out.r1) Tryz.underlying112 rfl sizeField ?_)
    | (refine wpList_load_row rfl 112 _ rfl (b + 1) rfl 112 (fdV .amt).toArray (0, 0) _ (HK2.out.r2) Tryz.underlying112 rfl sizeField ?_)
    | (refine wpList_load_row rfl 112 _ rfl (b + 1 + 1) rfl 112 (fdV .cod).toArray (0, 0) _ (HK2.out.r3) Tryz.underlying112 rfl sizeField ?_)
    | (refine wpList_insert rfl _ _ _ _ rfl rfl 5 104 KU8 Tryz.underlying106 RV w4.heap.size 2 _ rfl (HK2.out.own.alloc _) (by decide) (.int .u8 3) (.slice (some ⟨k2.heap.size, 0, none⟩) 1 1) _ rfl rfl (key8 3 (by decide)) _ [] rfl ?_))
  intro k3 ho hg
  have HK3 := Lib.hid (HK2.out.step [.cod] _ _ rfl rfl rfl ho rfl hg)
  clear ho hg
  go_wp2_with (first
    | (refine wpList_load_row rfl 112 _ rfl b rfl 112 (fdV .cpn).toArray (0, 0) _ (HK3.out.r1) Tryz.underlying112 rfl sizeField ?_)
    | (refine wpList_load_row rfl 112 _ rfl (b + 1) rfl 112 (fdV .amt).toArray (0, 0) _ (HK3.out.r2) Tryz.underlying112 rfl sizeField ?_)
    | (refine wpList_load_row rfl 112 _ rfl (b + 1 + 1) rfl 112 (fdV .cod).toArray (0, 0) _ (HK3.out.r3) Tryz.underlying112 rfl sizeField ?_)
    | (refine wpList_insert rfl _ _ _ _ rfl rfl 5 104 KU8 Tryz.underlying106 RV w4.heap.size 3 _ rfl (HK3.out.own.alloc _) (by decide) (.int .u8 4) (.slice (some ⟨k3.heap.size, 0, none⟩) 0 0) _ rfl rfl (key8 4 (by decide)) _ [] rfl ?_))
  intro k4 ho hg
  have HK4 := Lib.hid (HK3.out.step [] _ _ rfl rfl rfl ho rfl hg)
  clear ho hg
  go_wp2_with (first
    | (refine wpList_load_row rfl 112 _ rfl b rfl 112 (fdV .cpn).toArray (0, 0) _ (HK4.out.r1) Tryz.underlying112 rfl sizeField ?_)
    | (refine wpList_load_row rfl 112 _ rfl (b + 1) rfl 112 (fdV .amt).toArray (0, 0) _ (HK4.out.r2) Tryz.underlying112 rfl sizeField ?_)
    | (refine wpList_load_row rfl 112 _ rfl (b + 1 + 1) rfl 112 (fdV .cod).toArray (0, 0) _ (HK4.out.r3) Tryz.underlying112 rfl sizeField ?_)
    | (refine wpList_insert rfl _ _ _ _ rfl rfl 5 104 KU8 Tryz.underlying106 RV w4.heap.size 4 _ rfl (HK4.out.own.alloc _) (by decide) (.int .u8 5) (.slice (some ⟨k4.heap.size, 0, none⟩) 1 1) _ rfl rfl (key8 5 (by decide)) _ [] rfl ?_))
  intro k5 ho hg
  have HK5 := Lib.hid (HK4.out.step [.cpn] _ _ rfl rfl rfl ho rfl hg)
  clear ho hg
  go_wp2_with (first
    | (refine wpList_load_row rfl 112 _ rfl b rfl 112 (fdV .cpn).toArray (0, 0) _ (HK5.out.r1) Tryz.underlying112 rfl sizeField ?_)
    | (refine wpList_load_row rfl 112 _ rfl (b + 1) rfl 112 (fdV .amt).toArray (0, 0) _ (HK5.out.r2) Tryz.underlying112 rfl sizeField ?_)
    | (refine wpList_load_row rfl 112 _ rfl (b + 1 + 1) rfl 112 (fdV .cod).toArray (0, 0) _ (HK5.out.r3) Tryz.underlying112 rfl sizeField ?_)
    | (refine wpList_insert rfl _ _ _ _ rfl rfl 5 104 KU8 Tryz.underlying106 RV w4.heap.size 5 _ rfl (HK5.out.own.alloc _) (by decide) (.int .u8 6) (.slice (some ⟨k5.heap.size, 0, none⟩) 1 1) _ rfl rfl (key8 6 (by decide)) _ [] rfl ?_))
  intro k6 ho hg
  have HK6 := Lib.hid (HK5.out.step [.amt] _ _ rfl rfl rfl ho rfl hg)
  clear ho hg
  go_wp2_with (first
    | (refine wpList_load_row rfl 112 _ rfl b rfl 112 (fdV .cpn).toArray (0, 0) _ (HK6.out.r1) Tryz.underlying112 rfl sizeField ?_)
    | (refine wpList_load_row rfl 112 _ rfl (b + 1) rfl 112 (fdV .amt).toArray (0, 0) _ (HK6.out.r2) Tryz.underlying112 rfl sizeField ?_)
    | (refine wpList_load_row rfl 112 _ rfl (b + 1 + 1) rfl 112 (fdV .cod).toArray (0, 0) _ (HK6.out.r3) Tryz.underlying112 rfl sizeField ?_)
    | (refine wpList_insert rfl _ _ _ _ rfl rfl 5 104 KU8 Tryz.underlying106 RV w4.heap.size 6 _ rfl (HK6.out.own.alloc _) (by decide) (.int .u8 7) (.slice (some ⟨k6.heap.size, 0, none⟩) 1 1) _ rfl rfl (key8 7 (by decide)) _ [] rfl ?_))
  intro k7 ho hg
  have HK7 := Lib.hid (HK6.out.step [.amt] _ _ rfl rfl rfl ho rfl hg)
  clear ho hg
  go_wp2_with (first
    | (refine wpList_load_row rfl 112 _ rfl b rfl 112 (fdV .cpn).toArray (0, 0) _ (HK7.out.r1) Tryz.underlying112 rfl sizeField ?_)
    | (refine wpList_load_row rfl 112 _ rfl (b + 1) rfl 112 (fdV .amt).toArray (0, 0) _ (HK7.out.r2) Tryz.underlying112 rfl sizeField ?_)
    | (refine wpList_load_row rfl 112 _ rfl (b + 1 + 1) rfl 112 (fdV .cod).toArray (0, 0) _ (HK7.out.r3) Tryz.underlying112 rfl sizeField ?_)
    | (refine wpList_insert rfl _ _ _ _ rfl rfl 5 104 KU8 Tryz.underlying106 RV w4.heap.size 7 _ rfl (HK7.out.own.alloc _) (by decide) (.int .u8 8) (.slice (some ⟨k7.heap.size, 0, none⟩) 2 2) _ rfl rfl (key8 8 (by decide)) _ [] rfl ?_))
  intro k8 ho hg
  have HK8 := Lib.hid (HK7.out.step [.amt, .cod] _ _ rfl rfl rfl ho rfl hg)
  clear ho hg
  go_wp2
  go_ret
  exact kinds_end HK8.out
end Go.Proofs.YtjlifjgljejabaaGreatDoor
/- Contracts: texts of numbers, segments of texts; the texts and the numbers that a segment tells. -/
namespace Go.Proofs.YtjlifjgljejabaaGreatDoor
open Go.RowKit Go.Edi Go.Wrap Go.Lib

/-- a block of values -/
structure Blk (w : World) (g : Nat) (ty : TypeId) (vs : List Value) : Prop where
  row : w.heap[g]? = some (.cells vs.toArray ty (0, 0))
theorem Blk.lt {w : World} {g : Nat} {ty : TypeId} {vs : List Value} (h : Blk w g ty vs) : g < w.heap.size := lt_of_heap h.row
theorem Blk.cell {w : World} {g : Nat} {ty : TypeId} {vs : List Value} (h : Blk w g ty vs) (j : Nat) : w.cell? ⟨g, j, none⟩ = vs[j]? := by rw [cell_of_arr h.row, List.getElem?_toArray]
theorem Blk.frozen {w : World} {g : Nat} {ty : TypeId} {vs : List Value} (h : Blk w g ty vs) (j : Nat) : w.frozen? ⟨g, j, none⟩ = false := frozen_of_arr h.row j
theorem Blk.set {w : World} {g : Nat} {ty : TypeId} {vs : List Value} (h : Blk w g ty vs) (j : Nat) (v : Value) : Blk (w.setCell ⟨g, j, none⟩ v) g ty (vs.set j v) := by
  refine ⟨?_⟩
  rw [heap_setCell_same w g j _ ty _ h.row, List.setIfInBounds_toArray]
theorem Blk.keep {w w' : World} {B g : Nat} {ty : TypeId} {vs : List Value} (h : Blk w g ty vs) (hb : Below B w w') (hg : g < B) : Blk w' g ty vs := ⟨by rw [hb.block g hg]; exact h.row⟩
theorem Blk.alloc {w : World} {g : Nat} {ty : TypeId} {vs : List Value} (h : Blk w g ty vs) (o : Obj) : Blk (w.alloc o) g ty vs := ⟨(Below.heap_alloc _ _ _ h.lt).trans h.row⟩
def zSt (n : Nat) : Array Value := madeCells #[.string ⟨#[]⟩] n
theorem zSt_eq (n : Nat) : zSt n = (List.replicate n (str [])).toArray := by
  unfold zSt
  apply Array.toList_inj.1
  rw [toList_madeCells_one]
  rfl
theorem mk_strs (n : Nat) (hn : n ≤ 1000000) (w : World) : (Instr.makeSlice 62 (.int .i64 (n : Int)) (.int .i64 (n : Int))).run Tryz.prog w = .ok (.slice (some ⟨w.heap.size, 0, none⟩) n n) (w.alloc (.cells (zSt n) 9)) :=
  run_make_row' 62 9 (.string ⟨#[]⟩) 16 Tryz.underlying62 par_str rfl .i64 .i64 n (by omega) (by omega) w
attribute [irreducible] zSt
theorem blk_zSt (w : World) (n : Nat) : Blk (w.alloc (.cells (zSt n) 9)) w.heap.size 9 (List.replicate n (str [])) := ⟨by rw [at_last, zSt_eq]⟩
def zI6 (n : Nat) : Array Value := madeCells #[.int .i64 0] n
theorem zI6_eq (n : Nat) : zI6 n = (List.replicate n (Value.int .i64 0)).toArray := by
  unfold zI6
  apply Array.toList_inj.1
  rw [toList_madeCells_one]
theorem par_mi6 : (Tryz.prog.info? 2).map (fun i => (i.zero, i.size, i.bytes)) = some (some (.int .i64 0), 1, 8) := by kernel_rfl
theorem mk_i64s (n : Nat) (hn : n ≤ 1000000) (w : World) : (Instr.makeSlice 80 (.int .i64 (n : Int)) (.int .i64 (n : Int))).run Tryz.prog w = .ok (.slice (some ⟨w.heap.size, 0, none⟩) n n) (w.alloc (.cells (zI6 n) 2)) :=
  run_make_row' 80 2 (.int .i64 0) 8 Tryz.underlying80 par_mi6 rfl .i64 .i64 n (by omega) (by omega) w
attribute [irreducible] zI6
theorem blk_zI6 (w : World) (n : Nat) : Blk (w.alloc (.cells (zI6 n) 2)) w.heap.size 2 (List.replicate n (Value.int .i64 0)) := ⟨by rw [at_last, zI6_eq]⟩
/-- what has been filled so far, the rest is as it was made -/
def prtV (l : List Value) (z : Value) (n k : Nat) : List Value := l.take k ++ List.replicate (n - k) z
theorem prtV_zero (l : List Value) (z : Value) (n : Nat) : prtV l z n 0 = List.replicate n z := by simp [prtV]
theorem prtV_set (l : List Value) (z : Value) {n k : Nat} (hk : k < n) (hl : l.length = n) : (prtV l z n k).set k l[k]! = prtV l z n (k + 1) := by
  unfold prtV
  have ht : (l.take k).length = k := by rw [List.length_take]; omega
  rw [List.set_append_right _ _ (by omega), ht, Nat.sub_self, show n - k = (n - (k + 1)) + 1 by omega, List.replicate_succ, List.set_cons_zero, List.take_succ_eq_append_getElem (by omega), List.append_assoc, getElem!_pos l k (by omega)]
  rfl
theorem prtV_all (l : List Value) (z : Value) {n : Nat} (hl : l.length = n) : prtV l z n n = l := by unfold prtV; rw [Nat.sub_self, List.replicate_zero, List.append_nil, ← hl, List.take_length]
theorem prtV_at (l : List Value) (z : Value) {n k : Nat} (hk : k < n) (hl : l.length = n) : (prtV l z n k)[k]? = some z := by
  unfold prtV
  have ht : (l.take k).length = k := by rw [List.length_take]; omega
  rw [List.getElem?_append_right (by omega), ht, Nat.sub_self, List.getElem?_replicate, if_pos (by omega)]
def TextsP (ns : List Int) (w : World) (e : Ending) (w' : World) : Prop :=
  ∃ v F, e = .returned v ∧ StrsF w' F v (ns.map sdig) ∧ (∀ b, F b → w.heap.size ≤ b ∧ b < w'.heap.size) ∧ Below w.heap.size w w'
theorem blk_strs {w : World} {g : Nat} {l : List Tx} (h : Blk w g 9 (l.map str)) : StrsF w (· = g) (.slice (some ⟨g, 0, none⟩) l.length l.length) l :=
  ⟨_, _, rfl, Nat.le_refl _, fun _ => ⟨g, 0, rfl, rfl, fun j u hu => by rw [Nat.zero_add, h.cell]; exact hu⟩⟩
set_option maxRecDepth 100000 in
set_option maxHeartbeats 1600000 in
theorem texts_any (ns : List Int) (F : Nat → Prop) (v : Value) (B : Nat) (w : World) (hv : I64R w F v ns) (hF : ∀ b, F b → b < w.heap.size) (hi : ∀ n ∈ ns, i64B n) (hl : ns.length ≤ 1000) (he : Env B w) (hB : B ≤ w.heap.size) :
    Calls Tryz.prog 52 #[v] w (TextsP ns w) := by
  obtain ⟨p, cap, rfl, hnc, hp⟩ := hv
  have HP := Lib.hid hp
  have HI := Lib.hid hi
  have HF := Lib.hid hF
  have HE := Lib.hid (fun W (h : Below w.heap.size w W) => he.on (h.mono hB))
  have hmk := mk_strs ns.length (by omega)
  have lI : (ns.length : Int) ≤ 1000 := by omega
  have HZ := Lib.hid (blk_zSt w ns.length)
  have hl2 : ((ns.map sdig).map str).length = ns.length := by simp
  have HL2 := Lib.hid hl2
  clear hp hi hF hl he hB hl2
  go_enter Tryz.func52, Tryz.ntmps52
  go_wp2
  go_loopw [4, 5, 11] (fun _ _ i wr => ∃ k : Nat, i = .int .i64 k ∧ k ≤ ns.length ∧ Hid (Blk wr w.heap.size 9 (prtV ((ns.map sdig).map str) (str []) ns.length k)) ∧ Hid (Below w.heap.size w wr)) (fun _ _ i _ => ns.length - (intOf i).toNat)
  case atStart => exact ⟨0, rfl, Nat.zero_le _, (by rw [prtV_zero]; exact HZ.out), (Below.refl _ _).alloc (Nat.le_refl _) _⟩
  case round =>
    obtain ⟨k, rfl, hk, hB, hb⟩ := hrel
    have HB := Lib.hid hB.out
    have HBB := Lib.hid hb.out
    clear hB hb
    by_cases hlt : (k : Int) < (ns.length : Int)
    · have hkl : k < ns.length := by omega
      have hk0 : (0 : Int) ≤ (k : Int) := Int.natCast_nonneg _
      obtain ⟨b, o, rfl, hFb, hc⟩ := HP.out (by omega)
      have hck : wr.cell? ⟨b, o + k, none⟩ = some (.int .i64 ns[k]) := (World.cell?_of_block (a := ⟨b, o + k, none⟩) (HBB.out.block b (HF.out _ hFb))).trans (hc k _ (by rw [List.getElem?_map, List.getElem?_eq_getElem hkl]; rfl))
      have hnk := HI.out _ (List.getElem_mem hkl)
      have HG := Lib.hid (show ((ns.map sdig).map str)[k]! = str (sdig ns[k]) by
        rw [getElem!_pos _ k (by rw [HL2.out]; exact hkl)]; simp)
      have HT := Lib.hid (mgtext_any ns[k] hnk B wr (HE.out _ HBB.out))
      generalize ns[k] = x at *
      have HC1 := Lib.hid (fun W (hW : Below wr.heap.size wr W) => show Blk W w.heap.size 9 (prtV ((ns.map sdig).map str) (str []) ns.length k) from HB.out.keep hW HB.out.lt)
      have HKL := Lib.hid hkl
      clear hc hnk hkl
      go_wp2_with (go_at_call 51; refine (HT.out).mono ?_; rintro e w1 ⟨rfl, hb1⟩
                   have hB1 := HC1.out _ hb1
                   have cw : w1.cell? ⟨w.heap.size, k, none⟩ = some (str []) := by rw [hB1.cell, prtV_at _ _ HKL.out HL2.out]
                   have fw := hB1.frozen k
                   have HB1 := Lib.hid hB1
                   have HBW := Lib.hid (HBB.out.trans (hb1.mono HBB.out.size))
                   clear hb1 hB1)
      go_roundw
      case rel =>
        refine ⟨k + 1, by go_num, by have := HKL.out; omega, ?_, ?_⟩
        · have := HB1.out.set k (str (sdig x))
          rw [← HG.out, prtV_set _ _ HKL.out HL2.out] at this
          rw [HG.out] at this
          exact this
        · exact HBW.out.setCell (p := ⟨w.heap.size, k, none⟩) (Nat.le_refl _) _
      case measure => simp [intOf]; have := HKL.out; omega
    · obtain rfl : k = ns.length := by omega
      go_wp2
      go_ret
      have h := HB.out
      rw [prtV_all _ _ HL2.out] at h
      refine ⟨_, _, ?_, blk_strs h, ?_, HBB.out⟩
      · rw [List.length_map]; rfl
      · rintro b rfl
        exact ⟨Nat.le_refl _, h.lt⟩
end Go.Proofs.YtjlifjgljejabaaGreatDoor
/- Contract: a segment of texts, each an element of one component. -/
namespace Go.Proofs.YtjlifjgljejabaaGreatDoor
open Go.RowKit Go.Edi Go.Wrap Go.Lib

def SegP (tag : Tx) (ts : List Tx) (w : World) (e : Ending) (w' : World) : Prop :=
  ∃ ve F, e = .returned (.agg #[str tag, ve]) ∧ ElsF w' F ve (ts.map fun x => [x]) ∧ (∀ b, F b → w.heap.size ≤ b ∧ b < w'.heap.size) ∧ Below w.heap.size w w'
set_option maxRecDepth 100000 in
set_option maxHeartbeats 6400000 in
theorem sgmt_any (tag : Tx) (ts : List Tx) (v : Value) (F0 : Nat → Prop) (w : World) (hv : StrsF w F0 v ts) (hF0 : ∀ b, F0 b → b < w.heap.size) (hn : ts.length ≤ 1000) :
    Calls Tryz.prog 38 #[str tag, v] w (SegP tag ts w) := by
  obtain ⟨p, cap, rfl, hnc, hp⟩ := hv
  have HP := Lib.hid hp
  have HF := Lib.hid hF0
  have HN := Lib.hid hn
  have hnI : (ts.length : Int) ≤ 1000 := by omega
  clear hp hF0 hn
  go_enter Tryz.func38, Tryz.ntmps38
  go_wp2
  go_loopw [12] (fun i wr => ∃ (k : Nat) (F : Nat → Prop) (ve : Value), i = .int .i64 k ∧ k ≤ ts.length ∧ TdI w F tag ((ts.take k).map fun x => [x]) ve wr) (fun i _ => ts.length - (intOf i).toNat)
  case atStart =>
    refine ⟨0, fun _ => False, .slice none 0 0, rfl, Nat.zero_le _, ⟨⟨Nat.le_succ _, ?_, ⟨[], World.ownsRow_nil _ _ _ _, True.intro⟩, ⟨[], World.ownsRow_nil _ _ _ _, True.intro⟩, by simp [Value.ownBlock], fun b hb => hb.elim⟩, ?_, fun h => h, by simp [Value.ownBlock], ?_⟩⟩
    · exact heap_new _ _ _ (by simp only [size_a])
    · exact heap_past _ _ _ (by simp only [size_a]; omega) (heap_new _ _ _ rfl)
    · exact ((Below.refl _ _).alloc (Nat.le_refl _) _).alloc (by simp only [size_a]; omega) _
  case round =>
    obtain ⟨k, F, ve, rfl, hk, ht⟩ := hrel
    have HTD := Lib.hid ht
    have HI := Lib.hid ht.oi
    have hb := ht.bl
    have HB := Lib.hid hb
    by_cases hlt : (k : Int) < (ts.length : Int)
    · have hkl : k < ts.length := by omega
      have hk0 : (0 : Int) ≤ (k : Int) := Int.natCast_nonneg _
      obtain ⟨b, o, rfl, hF, hc⟩ := HP.out (by omega)
      have hck : wr.cell? ⟨b, o + k, none⟩ = some (str (ts[k]'hkl)) := (World.cell?_of_block (a := ⟨b, o + k, none⟩) (hb.block b (HF.out _ hF))).trans (hc k _ (by rw [List.getElem?_map, List.getElem?_eq_getElem hkl]; rfl))
      have HTK := Lib.hid (show (ts.take (k + 1)).map (fun x => [x]) = (ts.take k).map (fun x => [x]) ++ [[ts[k]'hkl]] by rw [← List.take_append_getElem hkl, List.map_append]; rfl)
      generalize ts[k]'hkl = x at *
      obtain ⟨ys, hys, hyc⟩ := HI.out.els
      have hel : ((ts.take k).map fun x => [x]).length = k := by simp; omega
      have HEL := Lib.hid hel
      rw [hel] at hys
      obtain ⟨pe, cape, rfl⟩ := own_slice hys
      obtain ⟨_, cg, fg, hglt⟩ := HI.out.cells
      have HYS := Lib.hid hys
      have HYC := Lib.hid hyc
      have HGL := Lib.hid hglt
      have HNG := Lib.hid (own_not hys HI.out.hg (by decide))
      have HBR := Lib.hid (Below.refl wr.heap.size wr)
      clear ht hb hys hyc hglt hel hc
      go_wp2_with (at_builtin; refine wl_app1 57 62 (.slice none 0 0) 1 24 par_strs Tryz.underlying57 rfl (by decide) (by decide) w.heap.size (.slice pe k cape) k ys rfl ((HYS.out.alloc _).alloc _) (wr.heap.size + 1) 1 [.slice (some ⟨wr.heap.size, 0, none⟩) 1 1] 62 (0, 0) rfl rfl (heap_new _ _ _ (by simp only [size_a])) (by intro u hu; simp at hu; subst hu; rfl) (by have := HN.out; omega) (by have := HB.out.size; simp only [size_a]; omega) ?_)
      intro v2 w4 ho2 hgr2 hbk2
      obtain ⟨p2, cap2, rfl⟩ := own_slice ho2
      have hg4 : w4.heap[w.heap.size + 1]? = wr.heap[w.heap.size + 1]? := (hgr2.block _ (by have := HGL.out; simp only [size_a]; omega) HNG.out).trans (heap2 _ _ _ _ HGL.out)
      have C5 : w4.cell? ⟨w.heap.size + 1, 1, none⟩ = some (.slice pe k cape) := (World.cell?_of_block (a := ⟨w.heap.size + 1, 1, none⟩) hg4).trans cg
      have F5 : w4.frozen? ⟨w.heap.size + 1, 1, none⟩ = false := (World.frozen?_of_block (a := ⟨w.heap.size + 1, 1, none⟩) hg4).trans fg
      obtain ⟨F2, hE⟩ := told_step HTD.out HEL.out HYC.out HYS.out HBR.out ho2 hgr2 hbk2
      have HE := Lib.hid hE
      clear ho2 hgr2 hbk2 hg4 hE cg fg hck
      go_wp2
      go_roundw
      case rel => exact ⟨k + 1, F2, _, by go_num, by omega, HTK.out ▸ HE.out⟩
      case measure => simp [intOf]; omega
    · obtain rfl : k = ts.length := by omega
      have hg := ht.oi.hg
      have c0 := cell_of_arr hg 0
      have c1 := cell_of_arr hg 1
      have r0 := cell_of_arr ht.r0 0
      have r1 := cell_of_arr ht.r0 1
      have f0 := frozen_of_arr ht.r0 0
      have f1 := frozen_of_arr ht.r0 1
      have hy := ht.oi.els
      obtain ⟨ys, hys, hyc⟩ := hy
      have hel : ((ts.take ts.length).map fun x => [x]).length = ts.length := by simp
      rw [hel] at hys
      obtain ⟨pe, cape, rfl⟩ := own_slice hys
      have HYS := Lib.hid hys
      have HYC := Lib.hid hyc
      clear hg hys hyc hel ht hb
      have HR0 := Lib.hid HTD.out.r0
      go_wp2
      refine bodyPost_ret (results_cell_row rfl _ _ w.heap.size 59 #[str tag, .slice pe ts.length cape] (0, 0) _ rfl (set2 HR0.out _ _) Tryz.underlying59 rfl sizeSegm) rfl ?_
      have hb := ((HB.out.setCell (p := ⟨w.heap.size, 0, none⟩) (Nat.le_refl _) (str tag)).setCell (p := ⟨w.heap.size, 1, none⟩) (Nat.le_refl _) (.slice pe ts.length cape))
      have hkp : ∀ b, b ≠ w.heap.size → ((wr.setCell ⟨w.heap.size, 0, none⟩ (str tag)).setCell ⟨w.heap.size, 1, none⟩ (.slice pe ts.length cape)).heap[b]? = wr.heap[b]? := fun b hne => (Below.heap_setCell _ _ _ _ hne).trans (Below.heap_setCell _ _ _ _ hne)
      have hsz : ((wr.setCell ⟨w.heap.size, 0, none⟩ (str tag)).setCell ⟨w.heap.size, 1, none⟩ (.slice pe ts.length cape)).heap.size = wr.heap.size := by simp [World.setCell]
      have hoo : ∀ b, (Value.slice pe ts.length cape).ownBlock = some b → b ≠ w.heap.size := fun b e e2 => HTD.out.nv (by rw [e, e2])
      have hff : ∀ b, F b → b ≠ w.heap.size := fun b e e2 => HTD.out.nf (e2 ▸ e)
      rw [List.take_length] at HYC
      refine ⟨_, fun b => F b ∨ (Value.slice pe ts.length cape).ownBlock = some b, rfl, ⟨ys, ?_, HYC.out.kept (fun b h => ⟨Or.inl h, hkp b (hff b h)⟩)⟩, ?_, hb⟩
      · rw [List.length_map]
        exact row_own (own_keep HYS.out (fun b e => hkp b (hoo b e))) (fun b e => Or.inr e)
      · rintro b (h | h)
        · have := HTD.out.oi.fz b h
          exact ⟨this.1, by rw [hsz]; exact this.2.1⟩
        · have := HYS.out.lt b h
          exact ⟨this.1, by rw [hsz]; exact this.2⟩
end Go.Proofs.YtjlifjgljejabaaGreatDoor
/- Contracts: the texts, and the numbers, that a segment's elements tell. -/
namespace Go.Proofs.YtjlifjgljejabaaGreatDoor
open Go.RowKit Go.Edi Go.Wrap Go.Lib

theorem ones_none : ∀ {l : List (List Tx)} {e : List Tx}, e ∈ l → e.length ≠ 1 → onesL l = none
  | x :: r, e, h, he => by
    rcases List.mem_cons.1 h with rfl | h2
    · match e, he with
      | [], _ => rfl
      | [t], he => exact absurd rfl he
      | _ :: _ :: _, _ => rfl
    · match x with
      | [] => rfl
      | [t] =>
        show (onesL r).map (t :: ·) = none
        rw [ones_none h2 he]; rfl
      | _ :: _ :: _ => rfl
/-- blocks that are made by the call -/
abbrev Fr (w w' : World) (b : Nat) : Prop := w.heap.size ≤ b ∧ b < w'.heap.size
def ElsP (o : Option (List Tx)) (w : World) (e : Ending) (w' : World) : Prop :=
  Below w.heap.size w w' ∧ ((∃ l v, o = some l ∧ e = .returned (.tuple #[v, .bool true]) ∧ StrsF w' (Fr w w') v l) ∨ (o = none ∧ e = .returned (.tuple #[.slice none 0 0, .bool false])))
theorem take_ones {els : List (List Tx)} {pre : List Tx} {k : Nat} {t : Tx} (hk : k < els.length) (h : els.take k = pre.map fun x => [x]) (he : els[k] = [t]) : els.take (k + 1) = (pre ++ [t]).map fun x => [x] := by
  rw [← List.take_append_getElem hk, h, he, List.map_append]; rfl
set_option maxRecDepth 100000 in
set_option maxHeartbeats 1600000 in
theorem elementsOf_any (s : Sg) (ve : Value) (tag : Tx) (w : World) (hv : ElsF w (· < w.heap.size) ve s.els) (hl : s.els.length ≤ 1000) :
    Calls Tryz.prog 81 #[.agg #[str s.tag, ve], str tag] w (ElsP (elsOf s tag) w) := by
  obtain ⟨ys, hrow, hys⟩ := hv
  have hle := ElC.len hys
  obtain ⟨p, cap, rfl, hnc, hp⟩ := hrow
  by_cases ht : s.tag = tag
  · have hO : elsOf s tag = onesL s.els := by unfold elsOf; rw [if_pos ht]
    rw [hO]
    have hne : ((tx s.tag).toList == (tx tag).toList) = true := by rw [ht]; simp
    have HP := Lib.hid hp
    have HY := Lib.hid hys
    have hmk := mk_strs s.els.length (by omega)
    have lI : (s.els.length : Int) ≤ 1000 := by omega
    have HZ := Lib.hid (blk_zSt ((w.alloc (.cells #[str s.tag, .slice p s.els.length cap] 59))) s.els.length)
    have HB0 := Lib.hid (show Below w.heap.size w ((w.alloc (.cells #[str s.tag, .slice p s.els.length cap] 59)).alloc (.cells (zSt s.els.length) 9)) from ((Below.refl _ _).alloc (Nat.le_refl _) _).alloc (by simp only [size_a]; omega) _)
    clear hp hys hl ht hO
    go_enter Tryz.func81, Tryz.ntmps81
    go_wp2
    go_loopw [7, 8, 20] (fun _ _ i wr => ∃ (k : Nat) (pre : List Tx), i = .int .i64 k ∧ k ≤ s.els.length ∧ Hid (pre.length = k ∧ s.els.take k = pre.map fun x => [x]) ∧ Hid (Blk wr (w.heap.size + 1) 9 (pre.map str ++ List.replicate (s.els.length - k) (str []))) ∧ Hid (Below w.heap.size w wr)) (fun _ _ i _ => s.els.length - (intOf i).toNat)
    case atStart => exact ⟨0, [], rfl, Nat.zero_le _, ⟨rfl, rfl⟩, (show Blk _ _ _ _ by have := HZ.out; rw [size_a] at this; simpa using this), HB0.out⟩
    case round =>
      obtain ⟨k, pre, rfl, hk, hpre, hB, hb⟩ := hrel
      have HPR := Lib.hid hpre.out
      have HB := Lib.hid hB.out
      have HBB := Lib.hid hb.out
      clear hB hb hpre
      by_cases hlt : (k : Int) < (s.els.length : Int)
      · have hkl : k < s.els.length := by omega
        have hk0 : (0 : Int) ≤ (k : Int) := Int.natCast_nonneg _
        obtain ⟨b, o, rfl, hFb, hc⟩ := HP.out (by omega)
        obtain ⟨y, hy1, py, cy, rfl, hcy, hpy⟩ := HY.out.get k hkl
        have hck : wr.cell? ⟨b, o + k, none⟩ = some (.slice py (s.els[k]).length cy) := (World.cell?_of_block (a := ⟨b, o + k, none⟩) (HBB.out.block b hFb)).trans (hc k _ hy1)
        obtain ⟨el, hel⟩ : ∃ el, el = s.els[k] := ⟨_, rfl⟩
        rw [← hel] at hck hcy hpy
        have HEL := Lib.hid hel
        have HPY := Lib.hid hpy
        have HKL := Lib.hid hkl
        by_cases h1 : el.length = 1
        · obtain ⟨t, ht⟩ : ∃ t, el = [t] := by
            match el, h1 with
            | [t], _ => exact ⟨t, rfl⟩
          subst ht
          obtain ⟨b2, o2, rfl, hFb2, hc2⟩ := HPY.out (by simp)
          have hct : wr.cell? ⟨b2, o2, none⟩ = some (str t) := (World.cell?_of_block (a := ⟨b2, o2, none⟩) (HBB.out.block b2 hFb2)).trans (hc2 0 _ rfl)
          have hG : pre.length = k := HPR.out.1
          have cw : wr.cell? ⟨w.heap.size + 1, k, none⟩ = some (str []) := by
            rw [HB.out.cell, List.getElem?_append_right (by simp; omega), List.length_map, hG, Nat.sub_self, List.getElem?_replicate, if_pos (by omega)]
          have fw := HB.out.frozen k
          have hwl : w.heap.size + 1 < wr.heap.size := HB.out.lt
          clear hc hel hpy hy1 hc2 hG h1
          simp only [List.length_cons, List.length_nil] at hck
          go_wp2
          go_roundw
          case rel =>
            refine ⟨k + 1, pre ++ [t], by go_num, by omega, ⟨by simp [HPR.out.1], take_ones HKL.out HPR.out.2 HEL.out.symm⟩, ?_, HBB.out.setCell (p := ⟨w.heap.size + 1, k, none⟩) (by show _ ≤ w.heap.size + 1; omega) _⟩
            have h := HB.out.set k (str t)
            have e : (pre.map str ++ List.replicate (s.els.length - k) (str [])).set k (str t) = (pre ++ [t]).map str ++ List.replicate (s.els.length - (k + 1)) (str []) := by
              have := HKL.out
              rw [List.set_append_right _ _ (by rw [List.length_map, HPR.out.1]; exact Nat.le_refl _), List.length_map, HPR.out.1, Nat.sub_self, show s.els.length - k = (s.els.length - (k + 1)) + 1 by omega, List.replicate_succ, List.set_cons_zero, List.map_append, List.append_assoc]
              rfl
            rw [e] at h
            exact h
          case measure => simp [intOf]; omega
        · have hN := Lib.hid (ones_none (List.getElem_mem hkl) (by rw [← hel]; exact h1))
          have h1' : ¬ (el.length : Int) = 1 := by omega
          clear hc hel hpy hy1 h1
          go_wp2
          go_ret2
          exact ⟨HBB.out, .inr ⟨hN.out, rfl⟩⟩
      · obtain rfl : k = s.els.length := by omega
        go_wp2
        go_ret2
        have hp1 := HPR.out.1
        have hp2 := HPR.out.2
        rw [List.take_length] at hp2
        have h := HB.out
        rw [Nat.sub_self, List.replicate_zero, List.append_nil] at h
        refine ⟨HBB.out, .inl ⟨pre, _, by rw [hp2, onesL_map], rfl, ?_⟩⟩
        rw [← hp1]
        exact (blk_strs h).kept (fun b hb => ⟨by subst hb; exact ⟨Nat.le_succ _, h.lt⟩, rfl⟩)
  · have hO : elsOf s tag = none := by unfold elsOf; rw [if_neg ht]
    rw [hO]
    have hne : ((tx s.tag).toList == (tx tag).toList) = false := by rw [txl, txl]; simpa using ht
    clear hp hys hl ht hO
    go_enter Tryz.func81, Tryz.ntmps81
    go_wp2
    go_ret2
    exact ⟨(Below.refl _ _).alloc (Nat.le_refl _) _, .inr ⟨rfl, rfl⟩⟩
def NumsP (o : Option (List Int)) (w : World) (e : Ending) (w' : World) : Prop :=
  Below w.heap.size w w' ∧ ((∃ l v, o = some l ∧ e = .returned (.tuple #[v, .bool true]) ∧ I64R w' (Fr w w') v l) ∨ (o = none ∧ e = .returned (.tuple #[.slice none 0 0, .bool false])))
theorem vals_none : ∀ {l : List Tx} {k : Nat} (h : k < l.length), valL l[k] = none → valsL l = none
  | t :: r, 0, _, h => by
    show (match valL t, valsL r with | some n, some l => some (n :: l) | _, _ => none) = none
    have h' : valL t = none := h
    rw [h']
  | t :: r, k + 1, hk, h => by
    show (match valL t, valsL r with | some n, some l => some (n :: l) | _, _ => none) = none
    have h' : valsL r = none := vals_none (k := k) (by simpa using hk) (by simpa using h)
    rw [h']
    cases valL t <;> rfl
theorem vals_all : ∀ {l : List Tx} {ns : List Int}, l.length = ns.length → (∀ (j : Nat) (h1 : j < l.length) (h2 : j < ns.length), valL l[j] = some ns[j]) → valsL l = some ns
  | [], [], _, _ => rfl
  | t :: r, n :: ns, hl, h => by
    have e : valsL (t :: r) = (match valL t, valsL r with | some n, some l => some (n :: l) | _, _ => none) := rfl
    have h0 : valL t = some n := h 0 (by simp) (by simp)
    rw [e, h0, vals_all (by simpa using hl) (fun j h1 h2 => by
      have := h (j + 1) (by simpa using h1) (by simpa using h2)
      simpa using this)]
theorem i64_blk {w : World} {g : Nat} {l : List Int} (h : Blk w g 2 (l.map fun n => Value.int .i64 n)) : I64R w (· = g) (.slice (some ⟨g, 0, none⟩) l.length l.length) l :=
  ⟨_, _, rfl, Nat.le_refl _, fun _ => ⟨g, 0, rfl, rfl, fun j u hu => by rw [Nat.zero_add, h.cell]; exact hu⟩⟩
set_option maxRecDepth 100000 in
set_option maxHeartbeats 1600000 in
theorem numbersOf_any (s : Sg) (ve : Value) (tag : Tx) (B : Nat) (w : World) (hv : ElsF w (· < w.heap.size) ve s.els) (hl : s.els.length ≤ 1000) (hsz : ∀ e ∈ s.els, ∀ t ∈ e, t.length ≤ 281474976710656) (he : Env B w) (hB : B ≤ w.heap.size) :
    Calls Tryz.prog 79 #[.agg #[str s.tag, ve], str tag] w (NumsP (numsOf s tag) w) := by
  obtain ⟨w0, hw0⟩ : ∃ w0, w0 = w.alloc (.cells #[str s.tag, ve] 59) := ⟨_, rfl⟩
  have hb0 : Below w.heap.size w w0 := by rw [hw0]; exact (Below.refl _ _).alloc (Nat.le_refl _) _
  have hs0 : w0.heap.size = w.heap.size + 1 := by rw [hw0, size_a]
  have HEL := Lib.hid (elementsOf_any s ve tag w0 (hv.kept (fun b hb => ⟨by rw [hs0]; omega, hb0.block b hb⟩)) hl)
  have HE := Lib.hid (fun W (h : Below w.heap.size w W) => he.on (h.mono hB))
  have HBB := Lib.hid hB
  have HB0 := Lib.hid hb0
  have HS0 := Lib.hid hs0
  have c0 : w0.cell? ⟨w.heap.size, 0, none⟩ = some (str s.tag) := by rw [hw0]; exact cell_of_arr (at_last _ _) 0
  have c1 : w0.cell? ⟨w.heap.size, 1, none⟩ = some ve := by rw [hw0]; exact cell_of_arr (at_last _ _) 1
  rcases hO : elsOf s tag with _ | ts
  · have hN : numsOf s tag = none := by unfold numsOf; rw [hO]; rfl
    have HN := Lib.hid hN
    rw [hO] at HEL
    clear hv hl hsz he hB hb0 hs0 hO hN
    go_enter Tryz.func79, Tryz.ntmps79
    go_wp2_with fail
    rw [← hw0]
    clear hw0
    refine (HEL.out).mono ?_
    rintro e w1 ⟨hb1, ⟨l, v, hx, _⟩ | ⟨_, rfl⟩⟩
    · cases hx
    have HB1 := Lib.hid (HB0.out.trans (hb1.mono HB0.out.size))
    clear hb1
    go_wp2
    go_ret2
    exact ⟨HB1.out, .inr ⟨HN.out, rfl⟩⟩
  · have hN : numsOf s tag = valsL ts := by unfold numsOf; rw [hO]; rfl
    rw [hN]
    have hts := elsOf_some hO
    have hln : ts.length = s.els.length := by rw [hts]; simp [sgL]
    have hz : ∀ t ∈ ts, t.length ≤ 281474976710656 := fun t ht => hsz [t] (by rw [hts]; exact List.mem_map_of_mem ht) t (by simp)
    have HZ := Lib.hid hz
    have hmk := mk_i64s ts.length (by omega)
    have lI : (ts.length : Int) ≤ 1000 := by omega
    rw [hO] at HEL
    clear hv hl hsz he hB hb0 hs0 hO hN hts hln hz
    go_enter Tryz.func79, Tryz.ntmps79
    go_wp2_with fail
    rw [← hw0]
    clear hw0
    refine (HEL.out).mono ?_
    rintro e w1 ⟨hb1, ⟨l, v, hx, rfl, hs⟩ | ⟨hx, _⟩⟩
    · obtain rfl := Option.some.inj hx
      obtain ⟨p, cap, rfl, hnc, hp⟩ := hs
      have HP := Lib.hid hp
      have HB1 := Lib.hid (HB0.out.trans (hb1.mono HB0.out.size))
      have HZ6 := Lib.hid (blk_zI6 w1 ts.length)
      clear hb1 hx hp c0 c1
      go_wp2
      go_loopw [7, 9, 10, 24] (fun _ _ _ i wr => ∃ (k : Nat) (pre : List Int), i = .int .i64 k ∧ k ≤ ts.length ∧ Hid (pre.length = k ∧ ∀ (j : Nat) (h1 : j < ts.length) (h2 : j < pre.length), valL ts[j] = some pre[j]) ∧ Hid (Blk wr w1.heap.size 2 (pre.map (fun n => Value.int .i64 n) ++ List.replicate (ts.length - k) (Value.int .i64 0))) ∧ Hid (Below w1.heap.size w1 wr)) (fun _ _ _ i _ => ts.length - (intOf i).toNat)
      case atStart => exact ⟨0, [], rfl, Nat.zero_le _, ⟨rfl, fun j h1 h2 => by simp at h2⟩, (show Blk _ _ _ _ by simpa using HZ6.out), (Below.refl _ _).alloc (Nat.le_refl _) _⟩
      case round =>
        obtain ⟨k, pre, rfl, hk, hpre, hB, hb⟩ := hrel
        have HPR := Lib.hid hpre.out
        have HB := Lib.hid hB.out
        have HBX := Lib.hid hb.out
        clear hB hb hpre
        by_cases hlt : (k : Int) < (ts.length : Int)
        · have hkl : k < ts.length := by omega
          have hk0 : (0 : Int) ≤ (k : Int) := Int.natCast_nonneg _
          obtain ⟨b, o, rfl, hFb, hc⟩ := HP.out (by omega)
          have hck : wr.cell? ⟨b, o + k, none⟩ = some (str ts[k]) := (World.cell?_of_block (a := ⟨b, o + k, none⟩) (HBX.out.block b hFb.2)).trans (hc k _ (by rw [List.getElem?_map, List.getElem?_eq_getElem hkl]; rfl))
          have HW1 := Lib.hid (HB1.out.trans (HBX.out.mono HB1.out.size))
          have HV := Lib.hid (value_any' ts[k] (HZ.out _ (List.getElem_mem hkl)) B wr (HE.out _ HW1.out) (Nat.le_trans HBB.out HW1.out.size))
          have hG : pre.length = k := HPR.out.1
          obtain ⟨t, ht⟩ : ∃ t, t = ts[k] := ⟨_, rfl⟩
          rw [← ht] at hck HV
          have HT := Lib.hid ht
          have HC := Lib.hid (fun W (h : Below wr.heap.size wr W) => HB.out.keep h HB.out.lt)
          have HKL := Lib.hid hkl
          have hq : (pre.map (fun n => Value.int .i64 n) ++ List.replicate (ts.length - k) (Value.int .i64 0))[k]? = some (.int .i64 0) := by
            rw [List.getElem?_append_right (by simp; omega), List.length_map, hG, Nat.sub_self, List.getElem?_replicate, if_pos (by omega)]
          have HQ := Lib.hid hq
          clear hc hG ht hq
          go_wp2_with fail
          refine (HV.out).mono ?_
          rintro e w2 (⟨n, hn, rfl, hb2⟩ | ⟨hn, rfl, hb2⟩)
          · have hB2 := HC.out _ hb2
            have cw : w2.cell? ⟨w1.heap.size, k, none⟩ = some (.int .i64 0) := by rw [hB2.cell]; exact HQ.out
            have fw := hB2.frozen k
            have HB2 := Lib.hid hB2
            have HN := Lib.hid hn
            have HX2 := Lib.hid (HBX.out.trans (hb2.mono HBX.out.size))
            clear hb2 hB2 hn
            go_wp2
            go_roundw
            case rel =>
              refine ⟨k + 1, pre ++ [n], by go_num, by have := HKL.out; omega, ⟨by simp [HPR.out.1], fun j h1 h2 => ?_⟩, ?_, HX2.out.setCell (p := ⟨w1.heap.size, k, none⟩) (Nat.le_refl _) _⟩
              · by_cases hj : j < pre.length
                · rw [List.getElem_append_left hj]; exact HPR.out.2 j h1 hj
                · have hje : j = k := by
                    have := HPR.out.1
                    rw [List.length_append, List.length_singleton] at h2
                    omega
                  subst hje
                  rw [List.getElem_append_right (by omega)]
                  simp only [HPR.out.1, Nat.sub_self, List.getElem_cons_zero]
                  rw [← HT.out]; exact HN.out
              · have h := HB2.out.set k (.int .i64 n)
                have e : (pre.map (fun n => Value.int .i64 n) ++ List.replicate (ts.length - k) (Value.int .i64 0)).set k (.int .i64 n) = (pre ++ [n]).map (fun n => Value.int .i64 n) ++ List.replicate (ts.length - (k + 1)) (Value.int .i64 0) := by
                  have := HKL.out
                  rw [List.set_append_right _ _ (by rw [List.length_map, HPR.out.1]; exact Nat.le_refl _), List.length_map, HPR.out.1, Nat.sub_self, show ts.length - k = (ts.length - (k + 1)) + 1 by omega, List.replicate_succ, List.set_cons_zero, List.map_append, List.append_assoc]
                  rfl
                rw [e] at h
                exact h
            case measure => simp [intOf]; have := HKL.out; omega
          · have hB2 := HC.out _ hb2
            have cw : w2.cell? ⟨w1.heap.size, k, none⟩ = some (.int .i64 0) := by rw [hB2.cell]; exact HQ.out
            have fw := hB2.frozen k
            have HX2 := Lib.hid (HW1.out.trans (hb2.mono HW1.out.size))
            have HN := Lib.hid (vals_none HKL.out (by rw [← HT.out]; exact hn))
            clear hb2 hB2 hn
            go_wp2
            go_ret2
            exact ⟨HX2.out.setCell (p := ⟨w1.heap.size, k, none⟩) HB1.out.size _, .inr ⟨HN.out, rfl⟩⟩
        · obtain rfl : k = ts.length := by omega
          go_wp2
          go_ret2
          have hp1 := HPR.out.1
          have h := HB.out
          rw [Nat.sub_self, List.replicate_zero, List.append_nil] at h
          refine ⟨HB1.out.trans (HBX.out.mono HB1.out.size), .inl ⟨pre, _, vals_all hp1.symm HPR.out.2, rfl, ?_⟩⟩
          rw [← hp1]
          exact (i64_blk h).kept (fun b hb => ⟨by subst hb; exact ⟨HB1.out.size, h.lt⟩, rfl⟩)
    · cases hx
end Go.Proofs.YtjlifjgljejabaaGreatDoor
/- Contract: the kind that a segment tells, and its fields. -/
namespace Go.Proofs.YtjlifjgljejabaaGreatDoor
open Go.RowKit Go.Edi Go.Wrap Go.Lib

def RkP (o : Option (Nat × List Fd)) (b : Nat) (ty : TypeId) (pre : List Value) (m : Ms) (w : World) (e : Ending) (w' : World) : Prop :=
  w.grownBy w' (some b) ∧ ((∃ k fds v, o = some (k, fds) ∧ e = .returned (.tuple #[v, .bool true]) ∧ FldsF w' (Fr w w') v fds ∧ MsgAt w' b ty pre { m with kind := k }) ∨ (o = none ∧ ∃ v, e = .returned (.tuple #[v, .bool false])))
theorem grown_below {w w' : World} {g : Option Nat} (h : Below w.heap.size w w') : w.grownBy w' g := ⟨h.os, h.tape, h.output, h.size, fun j hj _ => h.block j hj⟩
theorem MsgAt.lt {w : World} {b : Nat} {ty : TypeId} {pre : List Value} {m : Ms} (h : MsgAt w b ty pre m) : b < w.heap.size := lt_of_heap h
theorem MsgAt.keep {w w' : World} {b : Nat} {ty : TypeId} {pre : List Value} {m : Ms} (h : MsgAt w b ty pre m) (hb : Below w.heap.size w w') : MsgAt w' b ty pre m := (hb.block b h.lt).trans h
theorem msg_cell {w : World} {b : Nat} {ty : TypeId} {pre : List Value} {m : Ms} (h : MsgAt w b ty pre m) (i : Nat) (u : Value) (hu : (msV m)[i]? = some u) : w.cell? ⟨b, pre.length + i, none⟩ = some u := by
  rw [cell_of_arr h, List.getElem?_toArray, List.getElem?_append_right (Nat.le_add_right _ _), Nat.add_sub_cancel_left]
  exact hu
theorem RowF.grown {w w' : World} {F F' : Nat → Prop} {v : Value} {n b : Nat} {xs : List Value} (h : RowF w F v n xs) (hg : w.grownBy w' (some b)) (hF : ∀ j, F j → j < w.heap.size ∧ j ≠ b ∧ F' j) : RowF w' F' v n xs :=
  h.kept (fun j hj => ⟨(hF j hj).2.2, hg.block j (hF j hj).1 (fun e => (hF j hj).2.1 (by simpa using e))⟩)
theorem zero_fields (W : World) : (zeroValue 104).run Tryz.prog W = .ok (.slice none 0 0) W := by kernel_rfl
theorem kind_not {s : Sg} (h : numsOf s kindT = none) : kindOf s = none := by unfold kindOf; rw [h]
theorem kind_len {s : Sg} {l : List Int} (h : numsOf s kindT = some l) (hl : l.length ≠ 1) : kindOf s = none := by
  unfold kindOf; rw [h]
  match l, hl with
  | [], _ => rfl
  | [_], hl => exact absurd rfl hl
  | _ :: _ :: _, _ => rfl
theorem kind_out {s : Sg} {n : Int} (h : numsOf s kindT = some [n]) (hn : ¬ (0 ≤ n ∧ n ≤ 255)) : kindOf s = none := by
  unfold kindOf; rw [h]
  show (if inB n 0 255 then _ else none) = none
  rw [if_neg (fun e => hn ((inB_iff _ _ _).1 e))]
theorem kind_in {s : Sg} {n : Int} (h : numsOf s kindT = some [n]) (hn : 0 ≤ n ∧ n ≤ 255) : kindOf s = (fdsL n.toNat).map fun f => (n.toNat, f) := by
  unfold kindOf; rw [h]
  show (if inB n 0 255 then _ else none) = _
  rw [if_pos ((inB_iff _ _ _).2 hn)]
set_option maxRecDepth 100000 in
set_option maxHeartbeats 1600000 in
theorem readKind_any (s : Sg) (ve : Value) (b : Nat) (ty : TypeId) (pre : List Value) (m : Ms) (B : Nat) (w : World) (hm : MsgAt w b ty pre m) (hv : ElsF w (· < w.heap.size) ve s.els) (hl : s.els.length ≤ 1000) (hsz : ∀ e ∈ s.els, ∀ t ∈ e, t.length ≤ 281474976710656) (he : Env B w) (hB : B ≤ w.heap.size) :
    Calls Tryz.prog 53 #[.pointer (some ⟨b, pre.length, none⟩), .agg #[str s.tag, ve]] w (RkP (kindOf s) b ty pre m w) := by
  obtain ⟨w0, hw0⟩ : ∃ w0, w0 = w.alloc (.cells #[str s.tag, ve] 59) := ⟨_, rfl⟩
  have hb0 : Below w.heap.size w w0 := by rw [hw0]; exact (Below.refl _ _).alloc (Nat.le_refl _) _
  have hs0 : w0.heap.size = w.heap.size + 1 := by rw [hw0, size_a]
  have HNB := Lib.hid (numbersOf_any s ve kindT B w0 (hv.kept (fun b hb => ⟨by rw [hs0]; omega, hb0.block b hb⟩)) hl hsz (he.on (hb0.mono hB)) (by omega))
  have HB0 := Lib.hid hb0
  have HM := Lib.hid hm
  have HS0 := Lib.hid hs0
  have c0 : w0.cell? ⟨w.heap.size, 0, none⟩ = some (str s.tag) := by rw [hw0]; exact cell_of_arr (at_last _ _) 0
  have c1 : w0.cell? ⟨w.heap.size, 1, none⟩ = some ve := by rw [hw0]; exact cell_of_arr (at_last _ _) 1
  unfold kindT at HNB
  rcases hN : numsOf s kindT with _ | l
  · have HK := Lib.hid (kind_not hN)
    unfold kindT at hN
    rw [hN] at HNB
    clear hm hv hl hsz he hB hb0 hs0 hN
    go_enter Tryz.func53, Tryz.ntmps53
    go_wp2_with fail
    rw [← hw0]
    clear hw0
    refine (HNB.out).mono ?_
    rintro e wa ⟨hb1, ⟨l, v, hx, _⟩ | ⟨_, rfl⟩⟩
    · cases hx
    · have HX1 := Lib.hid (HB0.out.trans (hb1.mono HB0.out.size))
      clear hb1
      go_wp2
      refine wp_region_held (S := fun _ => True) (by kernel_rfl) ?_
      change wpAnyH _ _ _ _ _ _ _ _ (World.drew _)
      have HS0 := Lib.hid True.intro
      refine wpAnyH_take (i := 0) (oi := ⟨some 15, .move (.tmp 7), _, _, _, none⟩) (v := .bool false) rfl (by kernel_rfl) (by kernel_rfl) (by kernel_rfl) (fun _ _ _ h => h) (Or.inl ⟨by rfl, fun w' hS => by go_simp⟩) HS0.out ?_
      simp only [Act.put, List.setIfInBounds_toArray, List.set_cons_zero, List.set_cons_succ]
      refine wpAnyH_take (i := 1) (oi := ⟨some 16, .unOp .not 4 (.tmp 15), _, _, _, none⟩) (v := .bool true) rfl (by kernel_rfl) (by kernel_rfl) (by kernel_rfl) (fun _ _ _ h => h) (Or.inl ⟨by rfl, fun w' hS => by go_simp⟩) HS0.out ?_
      simp only [Act.put, List.setIfInBounds_toArray, List.set_cons_zero, List.set_cons_succ]
      refine wpAnyH_take (i := 2) (oi := ⟨some 17, .move (.tmp 16), _, _, _, none⟩) (v := .bool true) rfl (by kernel_rfl) (by kernel_rfl) (by kernel_rfl) (fun _ _ _ h => h) (Or.inl ⟨by rfl, fun w' hS => by go_simp⟩) HS0.out ?_
      simp only [Act.put, List.setIfInBounds_toArray, List.set_cons_zero, List.set_cons_succ]
      refine wpAnyH_take (i := 3) (oi := ⟨some 18, .move (.tmp 6), _, _, _, some (2, false)⟩) (v := undef) rfl (by kernel_rfl) (by kernel_rfl) (by kernel_rfl) (fun _ _ _ h => h) (Or.inr ⟨by rfl, rfl⟩) HS0.out ?_
      simp only [Act.put, List.setIfInBounds_toArray, List.set_cons_zero, List.set_cons_succ]
      refine wpAnyH_take (i := 4) (oi := ⟨some 19, .call ⟨.builtin .len, #[.tmp 18], _⟩, _, _, _, some (2, false)⟩) (v := undef) rfl (by kernel_rfl) (by kernel_rfl) (by kernel_rfl) (fun _ _ _ h => h) (Or.inr ⟨by rfl, rfl⟩) HS0.out ?_
      simp only [Act.put, List.setIfInBounds_toArray, List.set_cons_zero, List.set_cons_succ]
      refine wpAnyH_take (i := 5) (oi := ⟨some 20, .binOp .neq 3 (.tmp 19) (.const (.int .i64 1)) 3, _, _, _, some (2, false)⟩) (v := undef) rfl (by kernel_rfl) (by kernel_rfl) (by kernel_rfl) (fun _ _ _ h => h) (Or.inr ⟨by rfl, rfl⟩) HS0.out ?_
      simp only [Act.put, List.setIfInBounds_toArray, List.set_cons_zero, List.set_cons_succ]
      refine wpAnyH_take (i := 6) (oi := ⟨some 21, .pick (.tmp 17) (.const (.bool true)) (.tmp 20), _, _, _, none⟩) (v := .bool true) rfl (by kernel_rfl) (by kernel_rfl) (by kernel_rfl) (fun _ _ _ h => h) (Or.inl ⟨by rfl, fun w' hS => by go_simp⟩) HS0.out ?_
      simp only [Act.put, List.setIfInBounds_toArray, List.set_cons_zero, List.set_cons_succ]
      refine wpAnyH_take (i := 7) (oi := ⟨some 22, .move (.tmp 21), _, _, _, none⟩) (v := .bool true) rfl (by kernel_rfl) (by kernel_rfl) (by kernel_rfl) (fun _ _ _ h => h) (Or.inl ⟨by rfl, fun w' hS => by go_simp⟩) HS0.out ?_
      simp only [Act.put, List.setIfInBounds_toArray, List.set_cons_zero, List.set_cons_succ]
      refine wpAnyH_take (i := 8) (oi := ⟨some 23, .move (.tmp 0), _, _, _, some (7, false)⟩) (v := undef) rfl (by kernel_rfl) (by kernel_rfl) (by kernel_rfl) (fun _ _ _ h => h) (Or.inr ⟨by rfl, rfl⟩) HS0.out ?_
      simp only [Act.put, List.setIfInBounds_toArray, List.set_cons_zero, List.set_cons_succ]
      refine wpAnyH_take (i := 9) (oi := ⟨some 24, .nilCheck (.tmp 23), _, _, _, some (7, false)⟩) (v := undef) rfl (by kernel_rfl) (by kernel_rfl) (by kernel_rfl) (fun _ _ _ h => h) (Or.inr ⟨by rfl, rfl⟩) HS0.out ?_
      simp only [Act.put, List.setIfInBounds_toArray, List.set_cons_zero, List.set_cons_succ]
      refine wpAnyH_take (i := 10) (oi := ⟨some 25, .fieldAddr 36 (.tmp 24) 0, _, _, _, some (7, false)⟩) (v := undef) rfl (by kernel_rfl) (by kernel_rfl) (by kernel_rfl) (fun _ _ _ h => h) (Or.inr ⟨by rfl, rfl⟩) HS0.out ?_
      simp only [Act.put, List.setIfInBounds_toArray, List.set_cons_zero, List.set_cons_succ]
      refine wpAnyH_take (i := 11) (oi := ⟨some 26, .move (.tmp 6), _, _, _, some (7, false)⟩) (v := undef) rfl (by kernel_rfl) (by kernel_rfl) (by kernel_rfl) (fun _ _ _ h => h) (Or.inr ⟨by rfl, rfl⟩) HS0.out ?_
      simp only [Act.put, List.setIfInBounds_toArray, List.set_cons_zero, List.set_cons_succ]
      refine wpAnyH_take (i := 12) (oi := ⟨some 27, .indexAddr 80 (.tmp 26) (.const (.int .i64 0)), _, _, _, some (7, false)⟩) (v := undef) rfl (by kernel_rfl) (by kernel_rfl) (by kernel_rfl) (fun _ _ _ h => h) (Or.inr ⟨by rfl, rfl⟩) HS0.out ?_
      simp only [Act.put, List.setIfInBounds_toArray, List.set_cons_zero, List.set_cons_succ]
      refine wpAnyH_take (i := 13) (oi := ⟨some 28, .load 2 (.tmp 27), _, _, _, some (7, false)⟩) (v := undef) rfl (by kernel_rfl) (by kernel_rfl) (by kernel_rfl) (fun _ _ _ h => h) (Or.inr ⟨by rfl, rfl⟩) HS0.out ?_
      simp only [Act.put, List.setIfInBounds_toArray, List.set_cons_zero, List.set_cons_succ]
      refine wpAnyH_take (i := 14) (oi := ⟨some 29, .call ⟨.value (.func 80), #[.tmp 25, .tmp 28, .const (.int .i64 0), .const (.int .i64 255)], _⟩, _, _, _, some (7, false)⟩) (v := undef) rfl (by kernel_rfl) (by kernel_rfl) (by kernel_rfl) (fun _ _ _ h => h) (Or.inr ⟨by rfl, rfl⟩) HS0.out ?_
      simp only [Act.put, List.setIfInBounds_toArray, List.set_cons_zero, List.set_cons_succ]
      refine wpAnyH_take (i := 15) (oi := ⟨some 30, .unOp .not 4 (.tmp 29), _, _, _, some (7, false)⟩) (v := undef) rfl (by kernel_rfl) (by kernel_rfl) (by kernel_rfl) (fun _ _ _ h => h) (Or.inr ⟨by rfl, rfl⟩) HS0.out ?_
      simp only [Act.put, List.setIfInBounds_toArray, List.set_cons_zero, List.set_cons_succ]
      refine wpAnyH_take (i := 16) (oi := ⟨some 31, .pick (.tmp 22) (.const (.bool true)) (.tmp 30), _, _, _, none⟩) (v := .bool true) rfl (by kernel_rfl) (by kernel_rfl) (by kernel_rfl) (fun _ _ _ h => h) (Or.inl ⟨by rfl, fun w' hS => by go_simp⟩) HS0.out ?_
      simp only [Act.put, List.setIfInBounds_toArray, List.set_cons_zero, List.set_cons_succ]
      refine wpAnyH_done (by kernel_rfl) ?_ _
      go_wp2
      go_ret2
      exact ⟨grown_trans (grown_below HX1.out) (grown_drew _ _), .inr ⟨HK.out, _, rfl⟩⟩
  · by_cases h1 : l.length = 1
    · obtain ⟨n, rfl⟩ := list1 l h1
      by_cases hin : 0 ≤ n ∧ n ≤ 255
      · have hkin := kind_in hN hin
        have HKI := Lib.hid hkin
        unfold kindT at hN
        rw [hN] at HNB
        clear hm hv hl hsz he hB hb0 hs0 hN hkin
        go_enter Tryz.func53, Tryz.ntmps53
        go_wp2_with fail
        rw [← hw0]
        clear hw0
        refine (HNB.out).mono ?_
        rintro e wa ⟨hb1, ⟨l, v, hx, rfl, hr⟩ | ⟨hx, _⟩⟩
        rotate_left
        · cases hx
        obtain rfl := Option.some.inj hx
        obtain ⟨p, c, rfl, hnc, hp⟩ := id hr
        obtain ⟨nb, no, rfl, hnbF, hcell⟩ := row_cells hr (by simp)
        have hx1 := HB0.out.trans (hb1.mono HB0.out.size)
        have hmb := HM.out.lt
        have hnb : nb ≠ b := by have := hnbF.1; have := HS0.out; omega
        have HX1 := Lib.hid hx1
        have hcl := hcell 0 (by simp)
        have HM0 := Lib.hid (show wa.drew.heap[b]? = some (.cells (pre ++ msV m).toArray ty (0, 0)) from (HM.out.keep hx1 : MsgAt wa b ty pre m))
        have HG0 := Lib.hid (grown_trans (grown_below (g := some b) hx1) (grown_drew _ _))
        have HC0 := Lib.hid hcl
        have HNBF := Lib.hid hnbF
        clear hb1 hx hr hp hcell hx1 hmb hnbF hcl
        go_wp2
        refine wp_region_held (S := fun w' => w'.cell? ⟨nb, no, none⟩ = some (.int .i64 n)) (by kernel_rfl) ?_
        change wpAnyH _ _ _ _ _ _ _ _ (World.drew _)
        have HS0 := Lib.hid (show wa.drew.cell? ⟨nb, no, none⟩ = some (.int .i64 n) from HC0.out)
        refine wpAnyH_take (i := 0) (oi := ⟨some 15, .move (.tmp 7), _, _, _, none⟩) (v := .bool true) rfl (by kernel_rfl) (by kernel_rfl) (by kernel_rfl) (fun _ _ _ h => h) (Or.inl ⟨by rfl, fun w' hS => by go_simp⟩) HS0.out ?_
        simp only [Act.put, List.setIfInBounds_toArray, List.set_cons_zero, List.set_cons_succ]
        refine wpAnyH_take (i := 1) (oi := ⟨some 16, .unOp .not 4 (.tmp 15), _, _, _, none⟩) (v := .bool false) rfl (by kernel_rfl) (by kernel_rfl) (by kernel_rfl) (fun _ _ _ h => h) (Or.inl ⟨by rfl, fun w' hS => by go_simp⟩) HS0.out ?_
        simp only [Act.put, List.setIfInBounds_toArray, List.set_cons_zero, List.set_cons_succ]
        refine wpAnyH_take (i := 2) (oi := ⟨some 17, .move (.tmp 16), _, _, _, none⟩) (v := .bool false) rfl (by kernel_rfl) (by kernel_rfl) (by kernel_rfl) (fun _ _ _ h => h) (Or.inl ⟨by rfl, fun w' hS => by go_simp⟩) HS0.out ?_
        simp only [Act.put, List.setIfInBounds_toArray, List.set_cons_zero, List.set_cons_succ]
        refine wpAnyH_take (i := 3) (oi := ⟨some 18, .move (.tmp 6), _, _, _, some (2, false)⟩) (v := .slice (some ⟨nb, no, none⟩) 1 c) rfl (by kernel_rfl) (by kernel_rfl) (by kernel_rfl) (fun _ _ _ h => h) (Or.inl ⟨by rfl, fun w' hS => by go_simp⟩) HS0.out ?_
        simp only [Act.put, List.setIfInBounds_toArray, List.set_cons_zero, List.set_cons_succ]
        refine wpAnyH_take (i := 4) (oi := ⟨some 19, .call ⟨.builtin .len, #[.tmp 18], _⟩, _, _, _, some (2, false)⟩) (v := .int .i64 1) rfl (by kernel_rfl) (by kernel_rfl) (by kernel_rfl) (fun _ _ _ h => h) (Or.inl ⟨by rfl, fun w' hS => by go_simp⟩) HS0.out ?_
        simp only [Act.put, List.setIfInBounds_toArray, List.set_cons_zero, List.set_cons_succ]
        refine wpAnyH_take (i := 5) (oi := ⟨some 20, .binOp .neq 3 (.tmp 19) (.const (.int .i64 1)) 3, _, _, _, some (2, false)⟩) (v := .bool false) rfl (by kernel_rfl) (by kernel_rfl) (by kernel_rfl) (fun _ _ _ h => h) (Or.inl ⟨by rfl, fun w' hS => by go_simp⟩) HS0.out ?_
        simp only [Act.put, List.setIfInBounds_toArray, List.set_cons_zero, List.set_cons_succ]
        refine wpAnyH_take (i := 6) (oi := ⟨some 21, .pick (.tmp 17) (.const (.bool true)) (.tmp 20), _, _, _, none⟩) (v := .bool false) rfl (by kernel_rfl) (by kernel_rfl) (by kernel_rfl) (fun _ _ _ h => h) (Or.inl ⟨by rfl, fun w' hS => by go_simp⟩) HS0.out ?_
        simp only [Act.put, List.setIfInBounds_toArray, List.set_cons_zero, List.set_cons_succ]
        refine wpAnyH_take (i := 7) (oi := ⟨some 22, .move (.tmp 21), _, _, _, none⟩) (v := .bool false) rfl (by kernel_rfl) (by kernel_rfl) (by kernel_rfl) (fun _ _ _ h => h) (Or.inl ⟨by rfl, fun w' hS => by go_simp⟩) HS0.out ?_
        simp only [Act.put, List.setIfInBounds_toArray, List.set_cons_zero, List.set_cons_succ]
        refine wpAnyH_take (i := 8) (oi := ⟨some 23, .move (.tmp 0), _, _, _, some (7, false)⟩) (v := .pointer (some ⟨b, pre.length, none⟩)) rfl (by kernel_rfl) (by kernel_rfl) (by kernel_rfl) (fun _ _ _ h => h) (Or.inl ⟨by rfl, fun w' hS => by go_simp⟩) HS0.out ?_
        simp only [Act.put, List.setIfInBounds_toArray, List.set_cons_zero, List.set_cons_succ]
        refine wpAnyH_take (i := 9) (oi := ⟨some 24, .nilCheck (.tmp 23), _, _, _, some (7, false)⟩) (v := .pointer (some ⟨b, pre.length, none⟩)) rfl (by kernel_rfl) (by kernel_rfl) (by kernel_rfl) (fun _ _ _ h => h) (Or.inl ⟨by rfl, fun w' hS => by go_simp⟩) HS0.out ?_
        simp only [Act.put, List.setIfInBounds_toArray, List.set_cons_zero, List.set_cons_succ]
        refine wpAnyH_take (i := 10) (oi := ⟨some 25, .fieldAddr 36 (.tmp 24) 0, _, _, _, some (7, false)⟩) (v := .pointer (some ⟨b, pre.length, none⟩)) rfl (by kernel_rfl) (by kernel_rfl) (by kernel_rfl) (fun _ _ _ h => h) (Or.inl ⟨by rfl, fun w' hS => by go_simp⟩) HS0.out ?_
        simp only [Act.put, List.setIfInBounds_toArray, List.set_cons_zero, List.set_cons_succ]
        refine wpAnyH_take (i := 11) (oi := ⟨some 26, .move (.tmp 6), _, _, _, some (7, false)⟩) (v := .slice (some ⟨nb, no, none⟩) 1 c) rfl (by kernel_rfl) (by kernel_rfl) (by kernel_rfl) (fun _ _ _ h => h) (Or.inl ⟨by rfl, fun w' hS => by go_simp⟩) HS0.out ?_
        simp only [Act.put, List.setIfInBounds_toArray, List.set_cons_zero, List.set_cons_succ]
        refine wpAnyH_take (i := 12) (oi := ⟨some 27, .indexAddr 80 (.tmp 26) (.const (.int .i64 0)), _, _, _, some (7, false)⟩) (v := .pointer (some ⟨nb, no, none⟩)) rfl (by kernel_rfl) (by kernel_rfl) (by kernel_rfl) (fun _ _ _ h => h) (Or.inl ⟨by rfl, fun w' hS => by go_simp⟩) HS0.out ?_
        simp only [Act.put, List.setIfInBounds_toArray, List.set_cons_zero, List.set_cons_succ]
        refine wpAnyH_take (i := 13) (oi := ⟨some 28, .load 2 (.tmp 27), _, _, _, some (7, false)⟩) (v := .int .i64 n) rfl (by kernel_rfl) (by kernel_rfl) (by kernel_rfl) (fun _ _ _ h => h) (Or.inl ⟨by rfl, fun w' hS => by have c := hS; go_simp⟩) HS0.out ?_
        simp only [Act.put, List.setIfInBounds_toArray, List.set_cons_zero, List.set_cons_succ]
        refine wpAnyH_ready (rs := [14]) (by kernel_rfl) (by simp) (AllReadyH.cons (o := ⟨some 29, .call ⟨.value (.func 80), #[.tmp 25, .tmp 28, .const (.int .i64 0), .const (.int .i64 255)], _⟩, _, _, _, some (7, false)⟩) rfl (fun K hK => ?_) AllReadyH.nil)
        go_simp
        refine (cutu8_yes b (pre.length) ((pre ++ msV m).toArray) ty n 0 255 _ HM0.out (by simp [msV]) hin.1 hin.2 (by omega) (by omega)).mono ?_
        rintro e w1 ⟨rfl, hm, hg⟩
        have HM1 := Lib.hid hm
        have HG1 := Lib.hid (grown_trans HG0.out hg)
        have HS1 := Lib.hid (show w1.cell? ⟨nb, no, none⟩ = some (.int .i64 n) from grown_cell hg hnb HS0.out)
        clear hm hg
        refine hK.out _ _ HS1.out (fun _ => ?_)
        clear hK K
        refine wpAnyH_take (i := 15) (oi := ⟨some 30, .unOp .not 4 (.tmp 29), _, _, _, some (7, false)⟩) (v := .bool false) rfl (by kernel_rfl) (by kernel_rfl) (by kernel_rfl) (fun _ _ _ h => h) (Or.inl ⟨by rfl, fun w' hS => by go_simp⟩) HS1.out ?_
        simp only [Act.put, List.setIfInBounds_toArray, List.set_cons_zero, List.set_cons_succ]
        refine wpAnyH_take (i := 16) (oi := ⟨some 31, .pick (.tmp 22) (.const (.bool true)) (.tmp 30), _, _, _, none⟩) (v := .bool false) rfl (by kernel_rfl) (by kernel_rfl) (by kernel_rfl) (fun _ _ _ h => h) (Or.inl ⟨by rfl, fun w' hS => by go_simp⟩) HS1.out ?_
        simp only [Act.put, List.setIfInBounds_toArray, List.set_cons_zero, List.set_cons_succ]
        refine wpAnyH_done (by kernel_rfl) ?_ _
        go_wp2
        have HMK := Lib.hid (show MsgAt w1 b ty pre { m with kind := n.toNat } from by
          have hh := HM1.out
          have h3 := msv_set pre m 0 (.int .u8 n) (msV m) (by simp [msV]) _ rfl
          rw [Nat.add_zero] at h3
          rw [h3] at hh
          unfold MsgAt
          rw [hh]
          have e := Int.toNat_of_nonneg hin.1
          simp only [msV, List.set_cons_zero, e])
        have hk0 := msg_cell HMK.out 0 (.int .u8 (n.toNat : Int)) rfl
        rw [Nat.add_zero] at hk0
        obtain ⟨k, hk⟩ : ∃ k, k = n.toNat := ⟨_, rfl⟩
        have hk256 : k < 256 := by omega
        rw [← hk] at hk0 HMK HKI
        have HKD := Lib.hid (fun W => kinds_any W)
        clear HM1 HM0 HC0 hin hnb hk
        refine wp_region_held (S := fun w' => w'.cell? ⟨b, pre.length, none⟩ = some (.int .u8 (k : Int))) (by kernel_rfl) ?_
        change wpAnyH _ _ _ _ _ _ _ _ (World.drew _)
        have HS4 := Lib.hid (show w1.drew.cell? ⟨b, pre.length, none⟩ = some (.int .u8 (k : Int)) from hk0)
        clear hk0
        refine wpAnyH_take (i := 1) (oi := ⟨some 34, .move (.tmp 0), _, _, _, none⟩) (v := .pointer (some ⟨b, pre.length, none⟩)) rfl (by kernel_rfl) (by kernel_rfl) (by kernel_rfl) (fun _ _ _ h => h) (Or.inl ⟨by rfl, fun w' hS => by go_simp⟩) HS4.out ?_
        simp only [Act.put, List.setIfInBounds_toArray, List.set_cons_zero, List.set_cons_succ]
        refine wpAnyH_take (i := 2) (oi := ⟨some 35, .nilCheck (.tmp 34), _, _, _, none⟩) (v := .pointer (some ⟨b, pre.length, none⟩)) rfl (by kernel_rfl) (by kernel_rfl) (by kernel_rfl) (fun _ _ _ h => h) (Or.inl ⟨by rfl, fun w' hS => by go_simp⟩) HS4.out ?_
        simp only [Act.put, List.setIfInBounds_toArray, List.set_cons_zero, List.set_cons_succ]
        refine wpAnyH_take (i := 3) (oi := ⟨some 36, .fieldAddr 36 (.tmp 35) 0, _, _, _, none⟩) (v := .pointer (some ⟨b, pre.length, none⟩)) rfl (by kernel_rfl) (by kernel_rfl) (by kernel_rfl) (fun _ _ _ h => h) (Or.inl ⟨by rfl, fun w' hS => by go_simp⟩) HS4.out ?_
        simp only [Act.put, List.setIfInBounds_toArray, List.set_cons_zero, List.set_cons_succ]
        refine wpAnyH_take (i := 4) (oi := ⟨some 37, .load 5 (.tmp 36), _, _, _, none⟩) (v := .int .u8 (k : Int)) rfl (by kernel_rfl) (by kernel_rfl) (by kernel_rfl) (fun _ _ _ h => h) (Or.inl ⟨by rfl, fun w' hS => by have c := hS; go_simp⟩) HS4.out ?_
        simp only [Act.put, List.setIfInBounds_toArray, List.set_cons_zero, List.set_cons_succ]
        refine wpAnyH_ready (rs := [0]) (by kernel_rfl) (by simp) (AllReadyH.cons (o := ⟨some 33, .call ⟨.value (.func 48), #[], _⟩, _, _, _, none⟩) rfl (fun K hK => ?_) AllReadyH.nil)
        go_simp
        refine (HKD.out _).mono ?_
        rintro e w5 ⟨Bm, D, rfl, hown, hBm, hbel, hyes, hno⟩
        have HBL := Lib.hid hbel
        have HOW := Lib.hid hown
        have HYE := Lib.hid hyes
        have HNO := Lib.hid hno
        have HMZ := Lib.hid (show MsgAt w5 b ty pre { m with kind := k } from (hbel.block b (show b < w1.drew.heap.size from HMK.out.lt)).trans HMK.out)
        have HS5 := Lib.hid (show w5.cell? ⟨b, pre.length, none⟩ = some (.int .u8 (k : Int)) from by have h := msg_cell HMZ.out 0 (.int .u8 (k : Int)) rfl; rw [Nat.add_zero] at h; exact h)
        clear hown hBm hbel hyes hno
        refine hK.out _ _ HS5.out (fun _ => ?_)
        clear hK K
        obtain ⟨V, ps, hrun, hV⟩ := HOW.out.look_ok KU8 Tryz.underlying106 (zero_fields _) (zd := .held (.slice none 0 0)) (zp := []) rfl (key8 k hk256)
        cases hf : fdsL k with
        | some fds =>
          obtain ⟨v, h1, h2, h3⟩ := HYE.out k fds hf
          rw [h1] at hV
          rw [h2] at hrun
          have hVe : V = v := by
            have h := (Prod.mk.inj (Option.some.inj hV)).1
            exact DataW.held.inj h
          subst hVe
          rw [hf] at HKI
          have H3 := Lib.hid h3
          clear hV h1 h2 h3 hf HYE HNO
          refine wpAnyH_ready (rs := [5]) (by kernel_rfl) (by simp) (AllReadyH.cons (o := ⟨some 38, .lookup 106 (.tmp 33) (.tmp 37) true, _, _, _, none⟩) rfl (fun K hK => ?_) AllReadyH.nil)
          go_simp
          have HS6 := Lib.hid (HS5.out)
          refine hK.out _ _ HS6.out (fun _ => ?_)
          clear hK K
          refine wpAnyH_take (i := 6) (oi := ⟨some 32, .move (.tmp 38), _, _, _, none⟩) (v := .tuple #[V, .bool true]) rfl (by kernel_rfl) (by kernel_rfl) (by kernel_rfl) (fun _ _ _ h => h) (Or.inl ⟨by rfl, fun w' hS => by go_simp⟩) HS6.out ?_
          simp only [Act.put, List.setIfInBounds_toArray, List.set_cons_zero, List.set_cons_succ]
          refine wpAnyH_take (i := 7) (oi := ⟨some 39, .extract (.tmp 32) 0, _, _, _, none⟩) (v := V) rfl (by kernel_rfl) (by kernel_rfl) (by kernel_rfl) (fun _ _ _ h => h) (Or.inl ⟨by rfl, fun w' hS => by go_simp⟩) HS6.out ?_
          simp only [Act.put, List.setIfInBounds_toArray, List.set_cons_zero, List.set_cons_succ]
          refine wpAnyH_take (i := 8) (oi := ⟨some 40, .extract (.tmp 32) 1, _, _, _, none⟩) (v := .bool true) rfl (by kernel_rfl) (by kernel_rfl) (by kernel_rfl) (fun _ _ _ h => h) (Or.inl ⟨by rfl, fun w' hS => by go_simp⟩) HS6.out ?_
          simp only [Act.put, List.setIfInBounds_toArray, List.set_cons_zero, List.set_cons_succ]
          refine wpAnyH_take (i := 9) (oi := ⟨some 8, .assign (.tmp 39), _, _, _, none⟩) (v := V) rfl (by kernel_rfl) (by kernel_rfl) (by kernel_rfl) (fun _ _ _ h => h) (Or.inl ⟨by rfl, fun w' hS => by go_simp⟩) HS6.out ?_
          simp only [Act.put, List.setIfInBounds_toArray, List.set_cons_zero, List.set_cons_succ]
          refine wpAnyH_take (i := 10) (oi := ⟨some 9, .assign (.tmp 40), _, _, _, none⟩) (v := .bool true) rfl (by kernel_rfl) (by kernel_rfl) (by kernel_rfl) (fun _ _ _ h => h) (Or.inl ⟨by rfl, fun w' hS => by go_simp⟩) HS6.out ?_
          simp only [Act.put, List.setIfInBounds_toArray, List.set_cons_zero, List.set_cons_succ]
          refine wpAnyH_done (by kernel_rfl) ?_ _
          clear hrun
          go_wp2
          go_ret2
          refine ⟨grown_trans HG1.out (grown_trans (grown_drew _ _) (grown_below HBL.out)), .inl ⟨k, fds, V, HKI.out, rfl, H3.out.kept (fun j hj => ⟨⟨Nat.le_trans HG1.out.size hj.1, hj.2⟩, rfl⟩), HMZ.out⟩⟩
        | none =>
          obtain ⟨h1, h2⟩ := HNO.out k hf
          rw [h2] at hrun
          rw [hf] at HKI
          clear hV h1 h2 hf HYE HNO
          refine wpAnyH_ready (rs := [5]) (by kernel_rfl) (by simp) (AllReadyH.cons (o := ⟨some 38, .lookup 106 (.tmp 33) (.tmp 37) true, _, _, _, none⟩) rfl (fun K hK => ?_) AllReadyH.nil)
          go_simp
          have HS6 := Lib.hid (HS5.out)
          refine hK.out _ _ HS6.out (fun _ => ?_)
          clear hK K
          refine wpAnyH_take (i := 6) (oi := ⟨some 32, .move (.tmp 38), _, _, _, none⟩) (v := .tuple #[V, .bool false]) rfl (by kernel_rfl) (by kernel_rfl) (by kernel_rfl) (fun _ _ _ h => h) (Or.inl ⟨by rfl, fun w' hS => by go_simp⟩) HS6.out ?_
          simp only [Act.put, List.setIfInBounds_toArray, List.set_cons_zero, List.set_cons_succ]
          refine wpAnyH_take (i := 7) (oi := ⟨some 39, .extract (.tmp 32) 0, _, _, _, none⟩) (v := V) rfl (by kernel_rfl) (by kernel_rfl) (by kernel_rfl) (fun _ _ _ h => h) (Or.inl ⟨by rfl, fun w' hS => by go_simp⟩) HS6.out ?_
          simp only [Act.put, List.setIfInBounds_toArray, List.set_cons_zero, List.set_cons_succ]
          refine wpAnyH_take (i := 8) (oi := ⟨some 40, .extract (.tmp 32) 1, _, _, _, none⟩) (v := .bool false) rfl (by kernel_rfl) (by kernel_rfl) (by kernel_rfl) (fun _ _ _ h => h) (Or.inl ⟨by rfl, fun w' hS => by go_simp⟩) HS6.out ?_
          simp only [Act.put, List.setIfInBounds_toArray, List.set_cons_zero, List.set_cons_succ]
          refine wpAnyH_take (i := 9) (oi := ⟨some 8, .assign (.tmp 39), _, _, _, none⟩) (v := V) rfl (by kernel_rfl) (by kernel_rfl) (by kernel_rfl) (fun _ _ _ h => h) (Or.inl ⟨by rfl, fun w' hS => by go_simp⟩) HS6.out ?_
          simp only [Act.put, List.setIfInBounds_toArray, List.set_cons_zero, List.set_cons_succ]
          refine wpAnyH_take (i := 10) (oi := ⟨some 9, .assign (.tmp 40), _, _, _, none⟩) (v := .bool false) rfl (by kernel_rfl) (by kernel_rfl) (by kernel_rfl) (fun _ _ _ h => h) (Or.inl ⟨by rfl, fun w' hS => by go_simp⟩) HS6.out ?_
          simp only [Act.put, List.setIfInBounds_toArray, List.set_cons_zero, List.set_cons_succ]
          refine wpAnyH_done (by kernel_rfl) ?_ _
          clear hrun
          go_wp2
          go_ret2
          exact ⟨grown_trans HG1.out (grown_trans (grown_drew _ _) (grown_below HBL.out)), .inr ⟨HKI.out, _, rfl⟩⟩
      · have HK := Lib.hid (kind_out hN hin)
        unfold kindT at hN
        rw [hN] at HNB
        clear hm hv hl hsz he hB hb0 hs0 hN
        go_enter Tryz.func53, Tryz.ntmps53
        go_wp2_with fail
        rw [← hw0]
        clear hw0
        refine (HNB.out).mono ?_
        rintro e wa ⟨hb1, ⟨l, v, hx, rfl, hr⟩ | ⟨hx, _⟩⟩
        rotate_left
        · cases hx
        obtain rfl := Option.some.inj hx
        obtain ⟨p, c, rfl, hnc, hp⟩ := id hr
        obtain ⟨nb, no, rfl, hnbF, hcell⟩ := row_cells hr (by simp)
        have hx1 := HB0.out.trans (hb1.mono HB0.out.size)
        have hcl := hcell 0 (by simp)
        have HG0 := Lib.hid (grown_trans (grown_below (g := some b) hx1) (grown_drew _ _))
        have HC0 := Lib.hid hcl
        clear hb1 hx hr hp hcell hx1 hnbF hcl
        go_wp2
        refine wp_region_held (S := fun w' => w'.cell? ⟨nb, no, none⟩ = some (.int .i64 n)) (by kernel_rfl) ?_
        change wpAnyH _ _ _ _ _ _ _ _ (World.drew _)
        have HS0 := Lib.hid (show wa.drew.cell? ⟨nb, no, none⟩ = some (.int .i64 n) from HC0.out)
        refine wpAnyH_take (i := 0) (oi := ⟨some 15, .move (.tmp 7), _, _, _, none⟩) (v := .bool true) rfl (by kernel_rfl) (by kernel_rfl) (by kernel_rfl) (fun _ _ _ h => h) (Or.inl ⟨by rfl, fun w' hS => by go_simp⟩) HS0.out ?_
        simp only [Act.put, List.setIfInBounds_toArray, List.set_cons_zero, List.set_cons_succ]
        refine wpAnyH_take (i := 1) (oi := ⟨some 16, .unOp .not 4 (.tmp 15), _, _, _, none⟩) (v := .bool false) rfl (by kernel_rfl) (by kernel_rfl) (by kernel_rfl) (fun _ _ _ h => h) (Or.inl ⟨by rfl, fun w' hS => by go_simp⟩) HS0.out ?_
        simp only [Act.put, List.setIfInBounds_toArray, List.set_cons_zero, List.set_cons_succ]
        refine wpAnyH_take (i := 2) (oi := ⟨some 17, .move (.tmp 16), _, _, _, none⟩) (v := .bool false) rfl (by kernel_rfl) (by kernel_rfl) (by kernel_rfl) (fun _ _ _ h => h) (Or.inl ⟨by rfl, fun w' hS => by go_simp⟩) HS0.out ?_
        simp only [Act.put, List.setIfInBounds_toArray, List.set_cons_zero, List.set_cons_succ]
        refine wpAnyH_take (i := 3) (oi := ⟨some 18, .move (.tmp 6), _, _, _, some (2, false)⟩) (v := .slice (some ⟨nb, no, none⟩) 1 c) rfl (by kernel_rfl) (by kernel_rfl) (by kernel_rfl) (fun _ _ _ h => h) (Or.inl ⟨by rfl, fun w' hS => by go_simp⟩) HS0.out ?_
        simp only [Act.put, List.setIfInBounds_toArray, List.set_cons_zero, List.set_cons_succ]
        refine wpAnyH_take (i := 4) (oi := ⟨some 19, .call ⟨.builtin .len, #[.tmp 18], _⟩, _, _, _, some (2, false)⟩) (v := .int .i64 1) rfl (by kernel_rfl) (by kernel_rfl) (by kernel_rfl) (fun _ _ _ h => h) (Or.inl ⟨by rfl, fun w' hS => by go_simp⟩) HS0.out ?_
        simp only [Act.put, List.setIfInBounds_toArray, List.set_cons_zero, List.set_cons_succ]
        refine wpAnyH_take (i := 5) (oi := ⟨some 20, .binOp .neq 3 (.tmp 19) (.const (.int .i64 1)) 3, _, _, _, some (2, false)⟩) (v := .bool false) rfl (by kernel_rfl) (by kernel_rfl) (by kernel_rfl) (fun _ _ _ h => h) (Or.inl ⟨by rfl, fun w' hS => by go_simp⟩) HS0.out ?_
        simp only [Act.put, List.setIfInBounds_toArray, List.set_cons_zero, List.set_cons_succ]
        refine wpAnyH_take (i := 6) (oi := ⟨some 21, .pick (.tmp 17) (.const (.bool true)) (.tmp 20), _, _, _, none⟩) (v := .bool false) rfl (by kernel_rfl) (by kernel_rfl) (by kernel_rfl) (fun _ _ _ h => h) (Or.inl ⟨by rfl, fun w' hS => by go_simp⟩) HS0.out ?_
        simp only [Act.put, List.setIfInBounds_toArray, List.set_cons_zero, List.set_cons_succ]
        refine wpAnyH_take (i := 7) (oi := ⟨some 22, .move (.tmp 21), _, _, _, none⟩) (v := .bool false) rfl (by kernel_rfl) (by kernel_rfl) (by kernel_rfl) (fun _ _ _ h => h) (Or.inl ⟨by rfl, fun w' hS => by go_simp⟩) HS0.out ?_
        simp only [Act.put, List.setIfInBounds_toArray, List.set_cons_zero, List.set_cons_succ]
        refine wpAnyH_take (i := 8) (oi := ⟨some 23, .move (.tmp 0), _, _, _, some (7, false)⟩) (v := .pointer (some ⟨b, pre.length, none⟩)) rfl (by kernel_rfl) (by kernel_rfl) (by kernel_rfl) (fun _ _ _ h => h) (Or.inl ⟨by rfl, fun w' hS => by go_simp⟩) HS0.out ?_
        simp only [Act.put, List.setIfInBounds_toArray, List.set_cons_zero, List.set_cons_succ]
        refine wpAnyH_take (i := 9) (oi := ⟨some 24, .nilCheck (.tmp 23), _, _, _, some (7, false)⟩) (v := .pointer (some ⟨b, pre.length, none⟩)) rfl (by kernel_rfl) (by kernel_rfl) (by kernel_rfl) (fun _ _ _ h => h) (Or.inl ⟨by rfl, fun w' hS => by go_simp⟩) HS0.out ?_
        simp only [Act.put, List.setIfInBounds_toArray, List.set_cons_zero, List.set_cons_succ]
        refine wpAnyH_take (i := 10) (oi := ⟨some 25, .fieldAddr 36 (.tmp 24) 0, _, _, _, some (7, false)⟩) (v := .pointer (some ⟨b, pre.length, none⟩)) rfl (by kernel_rfl) (by kernel_rfl) (by kernel_rfl) (fun _ _ _ h => h) (Or.inl ⟨by rfl, fun w' hS => by go_simp⟩) HS0.out ?_
        simp only [Act.put, List.setIfInBounds_toArray, List.set_cons_zero, List.set_cons_succ]
        refine wpAnyH_take (i := 11) (oi := ⟨some 26, .move (.tmp 6), _, _, _, some (7, false)⟩) (v := .slice (some ⟨nb, no, none⟩) 1 c) rfl (by kernel_rfl) (by kernel_rfl) (by kernel_rfl) (fun _ _ _ h => h) (Or.inl ⟨by rfl, fun w' hS => by go_simp⟩) HS0.out ?_
        simp only [Act.put, List.setIfInBounds_toArray, List.set_cons_zero, List.set_cons_succ]
        refine wpAnyH_take (i := 12) (oi := ⟨some 27, .indexAddr 80 (.tmp 26) (.const (.int .i64 0)), _, _, _, some (7, false)⟩) (v := .pointer (some ⟨nb, no, none⟩)) rfl (by kernel_rfl) (by kernel_rfl) (by kernel_rfl) (fun _ _ _ h => h) (Or.inl ⟨by rfl, fun w' hS => by go_simp⟩) HS0.out ?_
        simp only [Act.put, List.setIfInBounds_toArray, List.set_cons_zero, List.set_cons_succ]
        refine wpAnyH_take (i := 13) (oi := ⟨some 28, .load 2 (.tmp 27), _, _, _, some (7, false)⟩) (v := .int .i64 n) rfl (by kernel_rfl) (by kernel_rfl) (by kernel_rfl) (fun _ _ _ h => h) (Or.inl ⟨by rfl, fun w' hS => by have c := hS; go_simp⟩) HS0.out ?_
        simp only [Act.put, List.setIfInBounds_toArray, List.set_cons_zero, List.set_cons_succ]
        refine wpAnyH_ready (rs := [14]) (by kernel_rfl) (by simp) (AllReadyH.cons (o := ⟨some 29, .call ⟨.value (.func 80), #[.tmp 25, .tmp 28, .const (.int .i64 0), .const (.int .i64 255)], _⟩, _, _, _, some (7, false)⟩) rfl (fun K hK => ?_) AllReadyH.nil)
        go_simp
        refine (cutu8_no _ n 0 255 _ (by omega)).mono ?_
        rintro e w1 ⟨rfl, rfl⟩
        have HG1 := Lib.hid HG0.out
        have HS1 := Lib.hid (HS0.out)
        refine hK.out _ _ HS1.out (fun _ => ?_)
        clear hK K
        refine wpAnyH_take (i := 15) (oi := ⟨some 30, .unOp .not 4 (.tmp 29), _, _, _, some (7, false)⟩) (v := .bool true) rfl (by kernel_rfl) (by kernel_rfl) (by kernel_rfl) (fun _ _ _ h => h) (Or.inl ⟨by rfl, fun w' hS => by go_simp⟩) HS1.out ?_
        simp only [Act.put, List.setIfInBounds_toArray, List.set_cons_zero, List.set_cons_succ]
        refine wpAnyH_take (i := 16) (oi := ⟨some 31, .pick (.tmp 22) (.const (.bool true)) (.tmp 30), _, _, _, none⟩) (v := .bool true) rfl (by kernel_rfl) (by kernel_rfl) (by kernel_rfl) (fun _ _ _ h => h) (Or.inl ⟨by rfl, fun w' hS => by go_simp⟩) HS1.out ?_
        simp only [Act.put, List.setIfInBounds_toArray, List.set_cons_zero, List.set_cons_succ]
        refine wpAnyH_done (by kernel_rfl) ?_ _
        go_wp2
        go_ret2
        exact ⟨HG1.out, .inr ⟨HK.out, _, rfl⟩⟩
    · have HK := Lib.hid (kind_len hN h1)
      have h1' : ¬ (l.length : Int) = 1 := by omega
      unfold kindT at hN
      rw [hN] at HNB
      clear hm hv hl hsz he hB hb0 hs0 hN h1
      go_enter Tryz.func53, Tryz.ntmps53
      go_wp2_with fail
      rw [← hw0]
      clear hw0
      refine (HNB.out).mono ?_
      rintro e wa ⟨hb1, ⟨l2, v, hx, rfl, hr⟩ | ⟨hx, _⟩⟩
      rotate_left
      · cases hx
      obtain rfl := Option.some.inj hx
      obtain ⟨p, c, rfl, hnc, hp⟩ := id hr
      have HX1 := Lib.hid (HB0.out.trans (hb1.mono HB0.out.size))
      clear hb1 hx hr hp
      go_wp2
      refine wp_region_held (S := fun _ => True) (by kernel_rfl) ?_
      change wpAnyH _ _ _ _ _ _ _ _ (World.drew _)
      have HS0 := Lib.hid True.intro
      refine wpAnyH_take (i := 0) (oi := ⟨some 15, .move (.tmp 7), _, _, _, none⟩) (v := .bool true) rfl (by kernel_rfl) (by kernel_rfl) (by kernel_rfl) (fun _ _ _ h => h) (Or.inl ⟨by rfl, fun w' hS => by go_simp⟩) HS0.out ?_
      simp only [Act.put, List.setIfInBounds_toArray, List.set_cons_zero, List.set_cons_succ]
      refine wpAnyH_take (i := 1) (oi := ⟨some 16, .unOp .not 4 (.tmp 15), _, _, _, none⟩) (v := .bool false) rfl (by kernel_rfl) (by kernel_rfl) (by kernel_rfl) (fun _ _ _ h => h) (Or.inl ⟨by rfl, fun w' hS => by go_simp⟩) HS0.out ?_
      simp only [Act.put, List.setIfInBounds_toArray, List.set_cons_zero, List.set_cons_succ]
      refine wpAnyH_take (i := 2) (oi := ⟨some 17, .move (.tmp 16), _, _, _, none⟩) (v := .bool false) rfl (by kernel_rfl) (by kernel_rfl) (by kernel_rfl) (fun _ _ _ h => h) (Or.inl ⟨by rfl, fun w' hS => by go_simp⟩) HS0.out ?_
      simp only [Act.put, List.setIfInBounds_toArray, List.set_cons_zero, List.set_cons_succ]
      refine wpAnyH_take (i := 3) (oi := ⟨some 18, .move (.tmp 6), _, _, _, some (2, false)⟩) (v := .slice (p) l.length c) rfl (by kernel_rfl) (by kernel_rfl) (by kernel_rfl) (fun _ _ _ h => h) (Or.inl ⟨by rfl, fun w' hS => by go_simp⟩) HS0.out ?_
      simp only [Act.put, List.setIfInBounds_toArray, List.set_cons_zero, List.set_cons_succ]
      refine wpAnyH_take (i := 4) (oi := ⟨some 19, .call ⟨.builtin .len, #[.tmp 18], _⟩, _, _, _, some (2, false)⟩) (v := .int .i64 l.length) rfl (by kernel_rfl) (by kernel_rfl) (by kernel_rfl) (fun _ _ _ h => h) (Or.inl ⟨by rfl, fun w' hS => by go_simp⟩) HS0.out ?_
      simp only [Act.put, List.setIfInBounds_toArray, List.set_cons_zero, List.set_cons_succ]
      refine wpAnyH_take (i := 5) (oi := ⟨some 20, .binOp .neq 3 (.tmp 19) (.const (.int .i64 1)) 3, _, _, _, some (2, false)⟩) (v := .bool true) rfl (by kernel_rfl) (by kernel_rfl) (by kernel_rfl) (fun _ _ _ h => h) (Or.inl ⟨by rfl, fun w' hS => by go_simp⟩) HS0.out ?_
      simp only [Act.put, List.setIfInBounds_toArray, List.set_cons_zero, List.set_cons_succ]
      refine wpAnyH_take (i := 6) (oi := ⟨some 21, .pick (.tmp 17) (.const (.bool true)) (.tmp 20), _, _, _, none⟩) (v := .bool true) rfl (by kernel_rfl) (by kernel_rfl) (by kernel_rfl) (fun _ _ _ h => h) (Or.inl ⟨by rfl, fun w' hS => by go_simp⟩) HS0.out ?_
      simp only [Act.put, List.setIfInBounds_toArray, List.set_cons_zero, List.set_cons_succ]
      refine wpAnyH_take (i := 7) (oi := ⟨some 22, .move (.tmp 21), _, _, _, none⟩) (v := .bool true) rfl (by kernel_rfl) (by kernel_rfl) (by kernel_rfl) (fun _ _ _ h => h) (Or.inl ⟨by rfl, fun w' hS => by go_simp⟩) HS0.out ?_
      simp only [Act.put, List.setIfInBounds_toArray, List.set_cons_zero, List.set_cons_succ]
      refine wpAnyH_take (i := 8) (oi := ⟨some 23, .move (.tmp 0), _, _, _, some (7, false)⟩) (v := undef) rfl (by kernel_rfl) (by kernel_rfl) (by kernel_rfl) (fun _ _ _ h => h) (Or.inr ⟨by rfl, rfl⟩) HS0.out ?_
      simp only [Act.put, List.setIfInBounds_toArray, List.set_cons_zero, List.set_cons_succ]
      refine wpAnyH_take (i := 9) (oi := ⟨some 24, .nilCheck (.tmp 23), _, _, _, some (7, false)⟩) (v := undef) rfl (by kernel_rfl) (by kernel_rfl) (by kernel_rfl) (fun _ _ _ h => h) (Or.inr ⟨by rfl, rfl⟩) HS0.out ?_
      simp only [Act.put, List.setIfInBounds_toArray, List.set_cons_zero, List.set_cons_succ]
      refine wpAnyH_take (i := 10) (oi := ⟨some 25, .fieldAddr 36 (.tmp 24) 0, _, _, _, some (7, false)⟩) (v := undef) rfl (by kernel_rfl) (by kernel_rfl) (by kernel_rfl) (fun _ _ _ h => h) (Or.inr ⟨by rfl, rfl⟩) HS0.out ?_
      simp only [Act.put, List.setIfInBounds_toArray, List.set_cons_zero, List.set_cons_succ]
      refine wpAnyH_take (i := 11) (oi := ⟨some 26, .move (.tmp 6), _, _, _, some (7, false)⟩) (v := undef) rfl (by kernel_rfl) (by kernel_rfl) (by kernel_rfl) (fun _ _ _ h => h) (Or.inr ⟨by rfl, rfl⟩) HS0.out ?_
      simp only [Act.put, List.setIfInBounds_toArray, List.set_cons_zero, List.set_cons_succ]
      refine wpAnyH_take (i := 12) (oi := ⟨some 27, .indexAddr 80 (.tmp 26) (.const (.int .i64 0)), _, _, _, some (7, false)⟩) (v := undef) rfl (by kernel_rfl) (by kernel_rfl) (by kernel_rfl) (fun _ _ _ h => h) (Or.inr ⟨by rfl, rfl⟩) HS0.out ?_
      simp only [Act.put, List.setIfInBounds_toArray, List.set_cons_zero, List.set_cons_succ]
      refine wpAnyH_take (i := 13) (oi := ⟨some 28, .load 2 (.tmp 27), _, _, _, some (7, false)⟩) (v := undef) rfl (by kernel_rfl) (by kernel_rfl) (by kernel_rfl) (fun _ _ _ h => h) (Or.inr ⟨by rfl, rfl⟩) HS0.out ?_
      simp only [Act.put, List.setIfInBounds_toArray, List.set_cons_zero, List.set_cons_succ]
      refine wpAnyH_take (i := 14) (oi := ⟨some 29, .call ⟨.value (.func 80), #[.tmp 25, .tmp 28, .const (.int .i64 0), .const (.int .i64 255)], _⟩, _, _, _, some (7, false)⟩) (v := undef) rfl (by kernel_rfl) (by kernel_rfl) (by kernel_rfl) (fun _ _ _ h => h) (Or.inr ⟨by rfl, rfl⟩) HS0.out ?_
      simp only [Act.put, List.setIfInBounds_toArray, List.set_cons_zero, List.set_cons_succ]
      refine wpAnyH_take (i := 15) (oi := ⟨some 30, .unOp .not 4 (.tmp 29), _, _, _, some (7, false)⟩) (v := undef) rfl (by kernel_rfl) (by kernel_rfl) (by kernel_rfl) (fun _ _ _ h => h) (Or.inr ⟨by rfl, rfl⟩) HS0.out ?_
      simp only [Act.put, List.setIfInBounds_toArray, List.set_cons_zero, List.set_cons_succ]
      refine wpAnyH_take (i := 16) (oi := ⟨some 31, .pick (.tmp 22) (.const (.bool true)) (.tmp 30), _, _, _, none⟩) (v := .bool true) rfl (by kernel_rfl) (by kernel_rfl) (by kernel_rfl) (fun _ _ _ h => h) (Or.inl ⟨by rfl, fun w' hS => by go_simp⟩) HS0.out ?_
      simp only [Act.put, List.setIfInBounds_toArray, List.set_cons_zero, List.set_cons_succ]
      refine wpAnyH_done (by kernel_rfl) ?_ _
      go_wp2
      go_ret2
      exact ⟨grown_trans (grown_below HX1.out) (grown_drew _ _), .inr ⟨HK.out, _, rfl⟩⟩
end Go.Proofs.YtjlifjgljejabaaGreatDoor
/- Contract: the key that a segment tells. -/
namespace Go.Proofs.YtjlifjgljejabaaGreatDoor
open Go.RowKit Go.Edi Go.Wrap Go.Lib

def RyP (o : Option Ms × Nat) (b : Nat) (ty : TypeId) (pre : List Value) (w : World) (e : Ending) (w' : World) : Prop :=
  w.grownBy w' (some b) ∧ e = .returned (.int .i64 ((o.2 : Nat) : Int)) ∧ ∀ m', o.1 = some m' → MsgAt w' b ty pre m'
theorem key_none {m : Ms} {s : Sg} (h : elsOf s keyT = none) : keyOf' m s = (none, 101) := by unfold keyOf'; rw [h]
theorem key_len {m : Ms} {s : Sg} {l : List Tx} (h : elsOf s keyT = some l) (hl : l.length ≠ 2) : keyOf' m s = (none, 101) := by
  unfold keyOf'; rw [h]
  match l, hl with
  | [], _ => rfl
  | [_], _ => rfl
  | [_, _], hl => exact absurd rfl hl
  | _ :: _ :: _ :: _, _ => rfl
theorem key_two {m : Ms} {s : Sg} {a c : Tx} (h : elsOf s keyT = some [a, c]) : keyOf' m s = if (Number.parseL a).2.2 = 0 then
      (match valL c with
       | some n => if inB n 0 3 then (some { m with car := (Number.parseL a).1, ser := (Number.parseL a).2.1, at_ := n.toNat }, 0) else (none, 101)
       | none => (none, 101))
    else (none, (Number.parseL a).2.2) := by unfold keyOf'; rw [h]; rfl
theorem list2 (l : List Tx) (h : l.length = 2) : ∃ a b, l = [a, b] := by
  match l, h with
  | [a, b], _ => exact ⟨a, b, rfl⟩
theorem below_of_grown {w w' : World} {B b : Nat} (h : w.grownBy w' (some b)) (hb : B ≤ b) (hB : B ≤ w.heap.size) : Below B w w' := (Below.refl B w).grown h hB (fun k e => by cases e; exact hb)
set_option maxRecDepth 100000 in
set_option maxHeartbeats 1600000 in
theorem readKey_any (s : Sg) (ve : Value) (b : Nat) (ty : TypeId) (pre : List Value) (m : Ms) (B : Nat) (w : World) (hm : MsgAt w b ty pre m) (hv : ElsF w (· < w.heap.size) ve s.els) (hl : s.els.length ≤ 1000) (hsz : ∀ e ∈ s.els, ∀ t ∈ e, t.length ≤ 281474976710656) (he : Env B w) (hB : B ≤ w.heap.size) (hbB : B ≤ b) :
    Calls Tryz.prog 54 #[.pointer (some ⟨b, pre.length, none⟩), .agg #[str s.tag, ve]] w (RyP (keyOf' m s) b ty pre w) := by
  obtain ⟨w0, hw0⟩ : ∃ w0, w0 = w.alloc (.cells #[str s.tag, ve] 59) := ⟨_, rfl⟩
  have hb0 : Below w.heap.size w w0 := by rw [hw0]; exact (Below.refl _ _).alloc (Nat.le_refl _) _
  have hs0 : w0.heap.size = w.heap.size + 1 := by rw [hw0, size_a]
  have HEL := Lib.hid (elementsOf_any s ve keyT w0 (hv.kept (fun b hb => ⟨by rw [hs0]; omega, hb0.block b hb⟩)) hl)
  have HB0 := Lib.hid hb0
  have HM := Lib.hid hm
  have HE := Lib.hid (fun W (h : Below w.heap.size w W) => he.on (h.mono hB))
  have HBB := Lib.hid hB
  have c0 : w0.cell? ⟨w.heap.size, 0, none⟩ = some (str s.tag) := by rw [hw0]; exact cell_of_arr (at_last _ _) 0
  have c1 : w0.cell? ⟨w.heap.size, 1, none⟩ = some ve := by rw [hw0]; exact cell_of_arr (at_last _ _) 1
  unfold keyT at HEL
  rcases hN : elsOf s keyT with _ | l
  · rw [key_none hN]
    unfold keyT at hN
    rw [hN] at HEL
    clear hm hv hl hsz he hB hb0 hs0 hN
    go_enter Tryz.func54, Tryz.ntmps54
    go_wp2_with fail
    rw [← hw0]
    clear hw0
    refine (HEL.out).mono ?_
    rintro e w1 ⟨hb1, ⟨l, v, hx, _⟩ | ⟨_, rfl⟩⟩
    · cases hx
    · have HX1 := Lib.hid (HB0.out.trans (hb1.mono HB0.out.size))
      clear hb1
      go_wp2
      go_ret
      exact ⟨grown_below HX1.out, rfl, fun m' h => by cases h⟩
  · by_cases h2 : l.length = 2
    · obtain ⟨a, c, rfl⟩ := list2 l h2
      obtain ⟨R, hR⟩ : ∃ R, R = keyOf' m s := ⟨_, rfl⟩
      rw [← hR]
      rw [key_two hN] at hR
      have hse := elsOf_some hN
      have hcs : c.length ≤ 281474976710656 := hsz [c] (by rw [hse]; simp [sgL]) c (by simp)
      have HCS := Lib.hid hcs
      unfold keyT at hN
      rw [hN] at HEL
      obtain ⟨pc, ps, pe, hpa⟩ : ∃ pc ps pe, Number.parseL a = (pc, ps, pe) := ⟨_, _, _, rfl⟩
      have HPA := Lib.hid (fun W => Nu.parse_any a W)
      obtain ⟨E, hE⟩ : ∃ E : Int, E = (pe : Int) := ⟨_, rfl⟩
      have hpv : Nu.paV a = .tuple #[.agg #[.int .u8 (pc : Int), .int .u64 (ps : Int)], .int .i64 E] := by unfold Nu.paV; rw [hpa, hE]
      have HEE := Lib.hid hE
      rw [hpv] at HPA
      rw [hpa] at hR
      simp only at hR
      have HR := Lib.hid hR
      have HBb := Lib.hid hbB
      clear hm hv hl hsz he hB hb0 hs0 hN hse hcs h2 hpa hpv hE hR hbB
      go_enter Tryz.func54, Tryz.ntmps54
      go_wp2_with fail
      rw [← hw0]
      clear hw0
      refine (HEL.out).mono ?_
      rintro e w1 ⟨hb1, ⟨l, v, hx, rfl, hr⟩ | ⟨hx, _⟩⟩
      rotate_left
      · cases hx
      obtain rfl := Option.some.inj hx
      obtain ⟨p, cc, rfl, hnc, hp⟩ := hr
      obtain ⟨nb, no, rfl, hF, hc⟩ := hp (by simp)
      have d0 : w1.cell? ⟨nb, no, none⟩ = some (str a) := hc 0 _ rfl
      have d1 : w1.cell? ⟨nb, no + 1, none⟩ = some (str c) := hc 1 _ rfl
      have hx1 := HB0.out.trans (hb1.mono HB0.out.size)
      have HX1 := Lib.hid hx1
      have HM1 := Lib.hid (HM.out.keep hx1)
      have HNB := Lib.hid (show nb < w1.heap.size ∧ nb ≠ b from ⟨hF.2, by have := HM.out.lt; have := HB0.out.size; have := hF.1; omega⟩)
      have D1 := Lib.hid d1
      clear hb1 hx hp hF hc hx1 d1
      go_wp2_with fail
      refine (HPA.out _).mono ?_
      rintro e w2 ⟨rfl, hb2⟩
      have hm2 := HM1.out.keep hb2
      have f1 := frozen_of_arr hm2 (pre.length + 1)
      have f2 := frozen_of_arr hm2 (pre.length + 2)
      have e1 := msg_cell hm2 1 _ rfl
      have e2 := msg_cell hm2 2 _ rfl
      have HM2 := Lib.hid hm2
      have HB2 := Lib.hid hb2
      clear hb2 hm2 d0
      by_cases hpe : pe = 0
      · obtain rfl : E = 0 := by have := HEE.out; omega
        have HR1 := Lib.hid (HR.out.trans (if_pos hpe))
        clear hpe
        go_upto_region 7 with fail
        have h1 := heap_setCell_same w2 b (pre.length + 1) _ ty (.int .u8 (pc : Int)) HM2.out
        rw [msv_set pre m 1 (.int .u8 (pc : Int)) (msV m) (by simp [msV]) _ rfl] at h1
        have h2 := heap_setCell_same _ b (pre.length + 2) _ ty (.int .u64 (ps : Int)) h1
        rw [msv_set pre m 2 (.int .u64 (ps : Int)) _ (by simp [msV]) _ rfl] at h2
        have hm3 : MsgAt ((w2.setCell ⟨b, pre.length + 1, none⟩ (.int .u8 (pc : Int))).setCell ⟨b, pre.length + 2, none⟩ (.int .u64 (ps : Int))) b ty pre { m with car := pc, ser := ps } := h2
        have hg3 : w2.grownBy ((w2.setCell ⟨b, pre.length + 1, none⟩ (.int .u8 (pc : Int))).setCell ⟨b, pre.length + 2, none⟩ (.int .u64 (ps : Int))) (some b) := grown_trans (grown_set _ _ _ _) (grown_set _ _ _ _)
        clear h1 h2 f1 f2 e1 e2
        generalize ((w2.setCell ⟨b, pre.length + 1, none⟩ (.int .u8 (pc : Int))).setCell ⟨b, pre.length + 2, none⟩ (.int .u64 (ps : Int))) = w3 at *
        have d1 : w3.cell? ⟨nb, no + 1, none⟩ = some (str c) := grown_cell hg3 HNB.out.2 ((World.cell?_of_block (a := ⟨nb, no + 1, none⟩) (HB2.out.block nb HNB.out.1)).trans D1.out)
        have HG3 := Lib.hid (grown_trans (grown_below (g := some b) (HX1.out.trans (HB2.out.mono HX1.out.size))) hg3)
        have HM3 := Lib.hid hm3
        have hw3 := below_of_grown HG3.out HBb.out HBB.out
        have he3 : Env B w3 := (HE.out w (Below.refl _ _)).on hw3
        have HB3 := Lib.hid hw3.size
        have HV := Lib.hid (value_any' c HCS.out B w3 he3 (Nat.le_trans HBB.out hw3.size))
        clear hg3 hm3 hw3 he3 HCS
        go_wp2_with fail
        refine (HV.out).mono ?_
        rintro e w4 (⟨n, hn, rfl, hb4⟩ | ⟨hn, rfl, hb4⟩)
        · have hm4 := HM3.out.keep hb4
          have HG4 := Lib.hid (grown_trans HG3.out (grown_below (g := some b) hb4))
          have HN := Lib.hid hn
          have HT := Lib.hid (takeAt_any n b ty pre _ w4 hm4)
          clear hb4 hm4 hn
          by_cases hin : inB n 0 3 = true
          · have HR2 := Lib.hid (show R = (some { m with car := pc, ser := ps, at_ := n.toNat }, 0) by rw [HR1.out, HN.out]; simp only; rw [if_pos hin])
            rw [hin] at HT
            clear hin
            go_wp2_with fail
            refine (HT.out).mono ?_
            rintro e w5 ⟨rfl, hg5, hm5⟩
            have HG5 := Lib.hid hg5
            have HM5 := Lib.hid (hm5 (by first | rfl | trivial))
            clear hg5 hm5
            go_wp2
            go_ret
            exact ⟨grown_trans HG4.out HG5.out, by rw [HR2.out]; rfl, fun m' h => by rw [HR2.out] at h; cases h; exact HM5.out⟩
          · have hin' : inB n 0 3 = false := by cases hq : inB n 0 3 with | false => rfl | true => exact absurd hq hin
            have HR2 := Lib.hid (show R = (none, 101) by rw [HR1.out, HN.out]; simp only; rw [if_neg hin])
            rw [hin'] at HT
            clear hin hin'
            go_wp2_with fail
            refine (HT.out).mono ?_
            rintro e w5 ⟨rfl, hg5, _⟩
            have HG5 := Lib.hid hg5
            clear hg5
            go_wp2
            go_ret
            exact ⟨grown_trans HG4.out HG5.out, by rw [HR2.out]; rfl, fun m' h => by rw [HR2.out] at h; cases h⟩
        · have HG4 := Lib.hid (grown_trans HG3.out (grown_below (g := some b) hb4))
          have HR2 := Lib.hid (show R = (none, 101) by rw [HR1.out, hn])
          clear hb4 hn
          go_wp2
          go_ret
          exact ⟨HG4.out, by rw [HR2.out]; rfl, fun m' h => by rw [HR2.out] at h; cases h⟩
      · have hE0 : ¬ E = 0 := by have := HEE.out; omega
        have HR1 := Lib.hid (HR.out.trans (if_neg hpe))
        clear hpe
        go_wp2
        go_ret
        refine ⟨grown_trans (grown_below (g := some b) (HX1.out.trans (HB2.out.mono HX1.out.size))) (grown_trans (grown_set _ _ _ _) (grown_set _ _ _ _)), by rw [HR1.out, ← HEE.out]; rfl, fun m' h => by rw [HR1.out] at h; cases h⟩
    · rw [key_len hN h2]
      have h1' : ¬ (l.length : Int) = 2 := by omega
      unfold keyT at hN
      rw [hN] at HEL
      clear hm hv hl hsz he hB hb0 hs0 hN h2
      go_enter Tryz.func54, Tryz.ntmps54
      go_wp2_with fail
      rw [← hw0]
      clear hw0
      refine (HEL.out).mono ?_
      rintro e w1 ⟨hb1, ⟨l2, v, hx, rfl, hr⟩ | ⟨hx, _⟩⟩
      rotate_left
      · cases hx
      obtain rfl := Option.some.inj hx
      obtain ⟨p, cc, rfl, hnc, hp⟩ := hr
      have HX1 := Lib.hid (HB0.out.trans (hb1.mono HB0.out.size))
      clear hb1 hx hp
      go_wp2
      go_ret
      exact ⟨grown_below HX1.out, rfl, fun m' h => by cases h⟩
end Go.Proofs.YtjlifjgljejabaaGreatDoor
/- Contract: what segments tell is taken into a message, field by field. -/
namespace Go.Proofs.YtjlifjgljejabaaGreatDoor
open Go.RowKit Go.Edi Go.Wrap Go.Lib

def ArP (o : Option Ms) (b : Nat) (ty : TypeId) (pre : List Value) (w : World) (e : Ending) (w' : World) : Prop :=
  w.grownBy w' (some b) ∧ e = .returned (.bool o.isSome) ∧ ∀ m', o = some m' → MsgAt w' b ty pre m'
theorem fdv_len (f : Fd) : (fdV f).length = 3 := by cases f <;> rfl
theorem fdv_0 (f : Fd) : (fdV f)[0]? = some (str (tagL f)) := by cases f <;> rfl
theorem fdv_2 (f : Fd) : (fdV f)[2]? = some (.func (.func (takeFn f)) #[] #[]) := by cases f <;> rfl
def tellFn : Fd → Nat
  | .cpn => 96
  | .amt => 102
  | .cod => 104
theorem fdv_1 (f : Fd) : (fdV f)[1]? = some (.func (.func (tellFn f)) #[] #[]) := by cases f <;> rfl
theorem fdv_at : ∀ {fds : List Fd} {k i : Nat} {u : Value} (hk : k < fds.length), (fdV fds[k])[i]? = some u → (fds.flatMap fdV)[k * 3 + i]? = some u
  | f :: r, 0, i, u, _, h => by
    have hi : i < (fdV f).length := (List.getElem?_eq_some_iff.1 h).1
    rw [List.flatMap_cons, Nat.zero_mul, Nat.zero_add, List.getElem?_append_left hi]; exact h
  | f :: r, k + 1, i, u, hk, h => by
    rw [List.flatMap_cons, List.getElem?_append_right (by rw [fdv_len]; omega), fdv_len, show (k + 1) * 3 + i - 3 = k * 3 + i by omega]
    exact fdv_at (by simpa using hk) h
theorem take_enter (f : Fd) : ∀ args w, (callFunc (takeFn f) args).run Tryz.prog w = .ok (.enter (takeFn f) args) w := by
  cases f
  · exact enters_of Tryz.func97 (by kernel_rfl) rfl
  · exact enters_of Tryz.func103 (by kernel_rfl) rfl
  · exact enters_of Tryz.func105 (by kernel_rfl) rfl
theorem drop_cons {α : Type} {l : List α} {k : Nat} (h : k < l.length) : l.drop k = l[k] :: l.drop (k + 1) := List.drop_eq_getElem_cons h
theorem getL {α : Type} {l : List α} {k : Nat} (h : k < l.length) : l[k]? = some l[k] := List.getElem?_eq_getElem h
set_option maxRecDepth 100000 in
set_option maxHeartbeats 3200000 in
theorem areRead_any (fds : List Fd) (vf : Value) (segs : List Sg) (vs : Value) (b : Nat) (ty : TypeId) (pre : List Value) (m : Ms) (B : Nat) (F : Nat → Prop) (w : World) (hm : MsgAt w b ty pre m) (hf : FldsF w F vf fds) (hF : ∀ j, F j → j < w.heap.size ∧ j ≠ b) (hs : SegsF w (· < b) vs segs) (hfl : fds.length ≤ 10) (hsl : segs.length ≤ 1000)
    (hel : ∀ s ∈ segs, s.els.length ≤ 1000) (hsz : ∀ s ∈ segs, ∀ e ∈ s.els, ∀ t ∈ e, t.length ≤ 281474976710656) (he : Env B w) (hB : B ≤ w.heap.size) (hbB : B ≤ b) :
    Calls Tryz.prog 55 #[.pointer (some ⟨b, pre.length, none⟩), vf, vs] w (ArP (arRead m fds segs) b ty pre w) := by
  obtain ⟨pf, cf, rfl, hcf, hpf⟩ := hf
  obtain ⟨ys, ⟨ps, cs, rfl, hcs, hps⟩, hsg⟩ := hs
  have lF : (fds.length : Int) ≤ 10 := by omega
  have lS : (segs.length : Int) ≤ 1000 := by omega
  by_cases hlen : segs.length = fds.length
  · obtain ⟨R, hR⟩ : ∃ R, R = arRead m fds segs := ⟨_, rfl⟩
    rw [← hR]
    have HR := Lib.hid hR
    have HPF := Lib.hid hpf
    have HPS := Lib.hid hps
    have HSG := Lib.hid hsg
    have HFF := Lib.hid hF
    have HEL := Lib.hid hel
    have HSZ := Lib.hid hsz
    have HE := Lib.hid he
    have HBB := Lib.hid hB
    have HBb := Lib.hid hbB
    have HM := Lib.hid hm
    have HLN := Lib.hid hlen
    rw [hlen]
    rw [hlen] at lS
    clear hpf hps hsg hF hel hsz he hB hbB hm hR hcf hcs hsl hfl hlen
    go_enter Tryz.func55, Tryz.ntmps55
    go_wp2
    go_loopw [7, 8, 9, 10, 18] (fun _ _ _ _ i wr => ∃ (k : Nat) (mk : Ms), i = .int .i64 k ∧ k ≤ fds.length ∧ Hid (MsgAt wr b ty pre mk) ∧ Hid (R = arRead mk (fds.drop k) (segs.drop k)) ∧ Hid (w.grownBy wr (some b))) (fun _ _ _ _ i _ => fds.length - (intOf i).toNat)
    case atStart => exact ⟨0, m, rfl, Nat.zero_le _, HM.out, HR.out, grown_refl _ _⟩
    case round =>
      obtain ⟨k, mk, rfl, hk, hmk, hrk, hg⟩ := hrel
      have HMK := Lib.hid hmk.out
      have HRK := Lib.hid hrk.out
      have HG := Lib.hid hg.out
      clear hmk hrk hg
      by_cases hlt : (k : Int) < (fds.length : Int)
      · have hkl : k < fds.length := by omega
        have hks : k < segs.length := by rw [HLN.out]; exact hkl
        have hk0 : (0 : Int) ≤ (k : Int) := Int.natCast_nonneg _
        obtain ⟨fb, fo, rfl, hFb, hfc⟩ := HPF.out (by omega)
        obtain ⟨sb, so, rfl, hsb, hsc⟩ := HPS.out (by have := HLN.out; omega)
        have hfb := HFF.out fb hFb
        have hbw : b < w.heap.size := HM.out.lt
        have FC : ∀ i u, (fdV fds[k])[i]? = some u → wr.cell? ⟨fb, fo + k * 3 + i, none⟩ = some u := fun i u hu => by
          have h := hfc (k * 3 + i) u (fdv_at hkl hu)
          rw [← Nat.add_assoc] at h
          exact grown_cell HG.out hfb.2 h
        obtain ⟨hs0, ve, hs1, hve⟩ := HSG.out.get k hks
        have SC0 : wr.cell? ⟨sb, so + k * 2, none⟩ = some (str (segs[k]).tag) := by
          have h := hsc _ _ hs0
          rw [Nat.mul_comm] at h
          exact grown_cell HG.out (by omega) h
        have SC1 : wr.cell? ⟨sb, so + k * 2 + 1, none⟩ = some ve := by
          have h := hsc _ _ hs1
          rw [Nat.mul_comm, ← Nat.add_assoc] at h
          exact grown_cell HG.out (by omega) h
        have hR2 := HRK.out
        rw [drop_cons hkl, drop_cons hks, ar_step] at hR2
        have hel := HEL.out _ (List.getElem_mem hks)
        have hsz := HSZ.out _ (List.getElem_mem hks)
        obtain ⟨fd, hfd⟩ : ∃ fd, fd = fds[k] := ⟨_, rfl⟩
        rw [← hfd] at FC hR2
        obtain ⟨sg, hsgd⟩ : ∃ sg, sg = segs[k] := ⟨_, rfl⟩
        rw [← hsgd] at SC0 hR2 hel hsz hve
        have f0 := FC 0 _ (fdv_0 fd)
        have f2 := FC 2 _ (fdv_2 fd)
        have f1 := FC 1 _ (fdv_1 fd)
        rw [Nat.add_zero] at f0
        have HVE := Lib.hid hve
        have HR2 := Lib.hid hR2
        have HQ := Lib.hid (And.intro hel hsz)
        have HWB := Lib.hid hbw
        have HKS := Lib.hid hks
        have hent := take_enter fd
        have HTK := Lib.hid (fun l v W F (h1 : MsgAt W b ty pre mk) (h2 : I64R W F v l) (h3 : ∀ nb, F nb → nb ≠ b) => take_any fd l b ty pre mk F v W h1 h2 h3)
        have HSB := Lib.hid (show sb < wr.heap.size from by have := HG.out.size; omega)
        clear hfc hsc hs0 hs1 hve hR2 hel hsz FC hFb hfb hbw hsb hfd hsgd
        generalize takeFn fd = FT at *
        generalize tellFn fd = FG at *
        obtain ⟨tg, htg⟩ : ∃ tg, tg = tagL fd := ⟨_, rfl⟩
        rw [← htg] at f0 HR2
        clear htg
        go_upto_region 6 with fail
        obtain ⟨w1, hw1⟩ : ∃ w1, w1 = wr.alloc (.cells #[str tg, .func (.func FG) #[] #[], .func (.func FT) #[] #[]] 112) := ⟨_, rfl⟩
        rw [← hw1]
        have hb1 : Below wr.heap.size wr w1 := by rw [hw1]; exact (Below.refl _ _).alloc (Nat.le_refl _) _
        have hfr : w1.heap[wr.heap.size]? = some (.cells #[str tg, .func (.func FG) #[] #[], .func (.func FT) #[] #[]] 112 (0, 0)) := by rw [hw1]; exact at_last _ _
        have t0 : w1.cell? ⟨sb, so + k * 2, none⟩ = some (str sg.tag) := (World.cell?_of_block (a := ⟨sb, so + k * 2, none⟩) (hb1.block sb HSB.out)).trans SC0
        have t1 : w1.cell? ⟨sb, so + k * 2 + 1, none⟩ = some ve := (World.cell?_of_block (a := ⟨sb, so + k * 2 + 1, none⟩) (hb1.block sb HSB.out)).trans SC1
        have HFR := Lib.hid hfr
        have HB1 := Lib.hid hb1
        have HT01 := Lib.hid (And.intro t0 t1)
        have hw1s : Below B w w1 := (below_of_grown HG.out HBb.out HBB.out).trans (hb1.mono (Nat.le_trans HBB.out HG.out.size))
        have HNO := Lib.hid (numbersOf_any sg ve tg B w1.drew (HVE.out.kept (fun j hj => ⟨by have h1 := HWB.out; have h2 := HG.out.size; have h3 : wr.heap.size ≤ w1.drew.heap.size := hb1.size; omega, by
          have h1 := HWB.out
          have h2 := HG.out.size
          exact (hb1.block j (by omega)).trans (HG.out.block j (by omega) (fun e => by
            have : j = b := by simpa using e
            omega))⟩)) HQ.out.1 HQ.out.2 ((HE.out.on hw1s).on (Below.refl _ _).drew) (by have := hw1s.size; show B ≤ w1.heap.size; have := HBB.out; omega))
        have HW1 := Lib.hid (hw1s)
        clear hw1 hb1 hfr t0 t1 SC0 SC1 f0 f1 f2 hw1s
        refine wp_region_held (S := fun w' => (w'.cell? ⟨sb, so + k * 2, none⟩ = some (str sg.tag) ∧ w'.cell? ⟨sb, so + k * 2 + 1, none⟩ = some ve) ∧ w'.heap[wr.heap.size]? = some (.cells #[str tg, .func (.func FG) #[] #[], .func (.func FT) #[] #[]] 112 (0, 0))) (by kernel_rfl) ?_
        change wpAnyH _ _ _ _ _ _ _ _ (World.drew _)
        have HS4 := Lib.hid (show (w1.drew.cell? ⟨sb, so + k * 2, none⟩ = some (str sg.tag) ∧ w1.drew.cell? ⟨sb, so + k * 2 + 1, none⟩ = some ve) ∧ w1.drew.heap[wr.heap.size]? = some (.cells #[str tg, .func (.func FG) #[] #[], .func (.func FT) #[] #[]] 112 (0, 0)) from ⟨HT01.out, HFR.out⟩)
        have HLT := Lib.hid hlt
        refine wpAnyH_take (i := 0) (oi := ⟨some 24, .move (.tmp 2), _, _, _, none⟩) (v := .slice (some ⟨sb, so, none⟩) fds.length cs) rfl (by kernel_rfl) (by kernel_rfl) (by kernel_rfl) (fun _ _ _ h => h) (Or.inl ⟨by rfl, fun w' hS => by go_simp⟩) HS4.out ?_
        simp only [Act.put, List.setIfInBounds_toArray, List.set_cons_zero, List.set_cons_succ]
        refine wpAnyH_take (i := 1) (oi := ⟨some 25, .move (.tmp 7), _, _, _, none⟩) (v := .int .i64 (k : Int)) rfl (by kernel_rfl) (by kernel_rfl) (by kernel_rfl) (fun _ _ _ h => h) (Or.inl ⟨by rfl, fun w' hS => by go_simp⟩) HS4.out ?_
        simp only [Act.put, List.setIfInBounds_toArray, List.set_cons_zero, List.set_cons_succ]
        refine wpAnyH_take (i := 2) (oi := ⟨some 26, .indexAddr 39 (.tmp 24) (.tmp 25), _, _, _, none⟩) (v := .pointer (some ⟨sb, so + k * 2, none⟩)) rfl (by kernel_rfl) (by kernel_rfl) (by kernel_rfl) (fun _ _ _ h => h) (Or.inl ⟨by rfl, fun w' hS => by go_simp⟩) HS4.out ?_
        simp only [Act.put, List.setIfInBounds_toArray, List.set_cons_zero, List.set_cons_succ]
        refine wpAnyH_take (i := 3) (oi := ⟨some 27, .load 59 (.tmp 26), _, _, _, none⟩) (v := .agg #[str sg.tag, ve]) rfl (by kernel_rfl) (by kernel_rfl) (by kernel_rfl) (fun _ _ _ h => h) (Or.inl ⟨by rfl, fun w' hS => by have c0 := hS.1.1; have c1 := hS.1.2; go_simp⟩) HS4.out ?_
        simp only [Act.put, List.setIfInBounds_toArray, List.set_cons_zero, List.set_cons_succ]
        refine wpAnyH_take (i := 4) (oi := ⟨some 28, .fieldAddr 112 (.tmp 8) 0, _, _, _, none⟩) (v := .pointer (some ⟨wr.heap.size, 0, none⟩)) rfl (by kernel_rfl) (by kernel_rfl) (by kernel_rfl) (fun _ _ _ h => h) (Or.inl ⟨by rfl, fun w' hS => by go_simp⟩) HS4.out ?_
        simp only [Act.put, List.setIfInBounds_toArray, List.set_cons_zero, List.set_cons_succ]
        refine wpAnyH_take (i := 5) (oi := ⟨some 29, .load 9 (.tmp 28), _, _, _, none⟩) (v := str tg) rfl (by kernel_rfl) (by kernel_rfl) (by kernel_rfl) (fun _ _ _ h => h) (Or.inl ⟨by rfl, fun w' hS => by have c := cell_of_arr hS.2 0; go_simp⟩) HS4.out ?_
        simp only [Act.put, List.setIfInBounds_toArray, List.set_cons_zero, List.set_cons_succ]
        refine wpAnyH_ready (rs := [6]) (by kernel_rfl) (by simp) (AllReadyH.cons (o := ⟨some 30, .call ⟨.value (.func 79), #[.tmp 27, .tmp 29], _⟩, _, _, _, none⟩) rfl (fun K hK => ?_) AllReadyH.nil)
        go_simp
        refine (HNO.out).mono ?_
        rintro e w5 ⟨hb5, ⟨l, v, hl, rfl, hr⟩ | ⟨hl, rfl⟩⟩
        · have HS5 := Lib.hid (show (w5.cell? ⟨sb, so + k * 2, none⟩ = some (str sg.tag) ∧ w5.cell? ⟨sb, so + k * 2 + 1, none⟩ = some ve) ∧ w5.heap[wr.heap.size]? = some (.cells #[str tg, .func (.func FG) #[] #[], .func (.func FT) #[] #[]] 112 (0, 0)) from
            have hsb : sb < w1.drew.heap.size := Nat.lt_of_lt_of_le HSB.out HB1.out.size
            ⟨⟨(World.cell?_of_block (a := ⟨sb, so + k * 2, none⟩) (hb5.block sb hsb)).trans HS4.out.1.1, (World.cell?_of_block (a := ⟨sb, so + k * 2 + 1, none⟩) (hb5.block sb hsb)).trans HS4.out.1.2⟩, (hb5.block _ (show wr.heap.size < w1.drew.heap.size from lt_of_heap HFR.out)).trans HS4.out.2⟩)
          have HB5 := Lib.hid (show Below wr.heap.size wr w5 from HB1.out.trans ((show Below w1.heap.size w1 w5 from (Below.refl _ _).drew.trans hb5).mono HB1.out.size))
          refine hK.out _ _ HS5.out (fun _ => ?_)
          clear hK K hb5
          have HLL := Lib.hid hl
          have HI5 := Lib.hid hr
          clear hl hr
          refine wpAnyH_take (i := 7) (oi := ⟨some 23, .move (.tmp 30), _, _, _, none⟩) (v := .tuple #[v, .bool true]) rfl (by kernel_rfl) (by kernel_rfl) (by kernel_rfl) (fun _ _ _ h => h) (Or.inl ⟨by rfl, fun w' hS => by go_simp⟩) HS5.out ?_
          simp only [Act.put, List.setIfInBounds_toArray, List.set_cons_zero, List.set_cons_succ]
          refine wpAnyH_take (i := 8) (oi := ⟨some 31, .extract (.tmp 23) 0, _, _, _, none⟩) (v := v) rfl (by kernel_rfl) (by kernel_rfl) (by kernel_rfl) (fun _ _ _ h => h) (Or.inl ⟨by rfl, fun w' hS => by go_simp⟩) HS5.out ?_
          simp only [Act.put, List.setIfInBounds_toArray, List.set_cons_zero, List.set_cons_succ]
          refine wpAnyH_take (i := 9) (oi := ⟨some 32, .extract (.tmp 23) 1, _, _, _, none⟩) (v := .bool true) rfl (by kernel_rfl) (by kernel_rfl) (by kernel_rfl) (fun _ _ _ h => h) (Or.inl ⟨by rfl, fun w' hS => by go_simp⟩) HS5.out ?_
          simp only [Act.put, List.setIfInBounds_toArray, List.set_cons_zero, List.set_cons_succ]
          refine wpAnyH_take (i := 10) (oi := ⟨some 9, .assign (.tmp 31), _, _, _, none⟩) (v := v) rfl (by kernel_rfl) (by kernel_rfl) (by kernel_rfl) (fun _ _ _ h => h) (Or.inl ⟨by rfl, fun w' hS => by go_simp⟩) HS5.out ?_
          simp only [Act.put, List.setIfInBounds_toArray, List.set_cons_zero, List.set_cons_succ]
          refine wpAnyH_take (i := 11) (oi := ⟨some 10, .assign (.tmp 32), _, _, _, none⟩) (v := .bool true) rfl (by kernel_rfl) (by kernel_rfl) (by kernel_rfl) (fun _ _ _ h => h) (Or.inl ⟨by rfl, fun w' hS => by go_simp⟩) HS5.out ?_
          simp only [Act.put, List.setIfInBounds_toArray, List.set_cons_zero, List.set_cons_succ]
          refine wpAnyH_done (by kernel_rfl) ?_ _
          have c2 := cell_of_arr HS5.out.2 2
          have hm5 := HMK.out.keep HB5.out
          have hT := HTK.out l v w5 _ hm5 HI5.out (fun nb hnb e => by
            have h1 := hnb.1
            have h2 : wr.heap.size ≤ w1.drew.heap.size := HB1.out.size
            have h3 := HMK.out.lt
            omega)
          have HT := Lib.hid hT
          simp only [List.getElem?_toArray, List.getElem?_cons_succ, List.getElem?_cons_zero] at c2
          clear hm5 hT
          go_wp2_with fail
          refine (HT.out).mono ?_
          rintro e w6 ⟨rfl, hg6, hm6⟩
          have HG6 := Lib.hid hg6
          have HG7 := Lib.hid (grown_trans (grown_trans HG.out (grown_below (g := some b) HB5.out)) hg6)
          have hR3 := HR2.out
          rw [HLL.out] at hR3
          simp only at hR3
          cases htk : takeL mk fd l with
          | some m' =>
            rw [htk] at hR3
            simp only at hR3
            have HR3 := Lib.hid hR3
            have HM6 := Lib.hid (hm6 m' htk)
            clear hm6 hg6 hR3 c2
            simp only [Option.isSome_some]
            go_wp2
            go_roundw
            case rel => exact ⟨k + 1, m', by go_num, by omega, HM6.out, HR3.out, HG7.out⟩
            case measure => simp [intOf]; have := HLT.out; omega
          | none =>
            rw [htk] at hR3
            simp only at hR3
            have HR3 := Lib.hid hR3
            clear hm6 hg6 hR3 c2
            simp only [Option.isSome_none]
            go_wp2
            go_ret
            exact ⟨HG7.out, by rw [HR3.out]; rfl, fun m' h => by rw [HR3.out] at h; cases h⟩
        · have HS5 := Lib.hid (show (w5.cell? ⟨sb, so + k * 2, none⟩ = some (str sg.tag) ∧ w5.cell? ⟨sb, so + k * 2 + 1, none⟩ = some ve) ∧ w5.heap[wr.heap.size]? = some (.cells #[str tg, .func (.func FG) #[] #[], .func (.func FT) #[] #[]] 112 (0, 0)) from
            have hsb : sb < w1.drew.heap.size := Nat.lt_of_lt_of_le HSB.out HB1.out.size
            ⟨⟨(World.cell?_of_block (a := ⟨sb, so + k * 2, none⟩) (hb5.block sb hsb)).trans HS4.out.1.1, (World.cell?_of_block (a := ⟨sb, so + k * 2 + 1, none⟩) (hb5.block sb hsb)).trans HS4.out.1.2⟩, (hb5.block _ (show wr.heap.size < w1.drew.heap.size from lt_of_heap HFR.out)).trans HS4.out.2⟩)
          have HB5 := Lib.hid (show Below wr.heap.size wr w5 from HB1.out.trans ((show Below w1.heap.size w1 w5 from (Below.refl _ _).drew.trans hb5).mono HB1.out.size))
          refine hK.out _ _ HS5.out (fun _ => ?_)
          clear hK K hb5
          have HLL := Lib.hid hl
          clear hl
          refine wpAnyH_take (i := 7) (oi := ⟨some 23, .move (.tmp 30), _, _, _, none⟩) (v := .tuple #[.slice none 0 0, .bool false]) rfl (by kernel_rfl) (by kernel_rfl) (by kernel_rfl) (fun _ _ _ h => h) (Or.inl ⟨by rfl, fun w' hS => by go_simp⟩) HS5.out ?_
          simp only [Act.put, List.setIfInBounds_toArray, List.set_cons_zero, List.set_cons_succ]
          refine wpAnyH_take (i := 8) (oi := ⟨some 31, .extract (.tmp 23) 0, _, _, _, none⟩) (v := .slice none 0 0) rfl (by kernel_rfl) (by kernel_rfl) (by kernel_rfl) (fun _ _ _ h => h) (Or.inl ⟨by rfl, fun w' hS => by go_simp⟩) HS5.out ?_
          simp only [Act.put, List.setIfInBounds_toArray, List.set_cons_zero, List.set_cons_succ]
          refine wpAnyH_take (i := 9) (oi := ⟨some 32, .extract (.tmp 23) 1, _, _, _, none⟩) (v := .bool false) rfl (by kernel_rfl) (by kernel_rfl) (by kernel_rfl) (fun _ _ _ h => h) (Or.inl ⟨by rfl, fun w' hS => by go_simp⟩) HS5.out ?_
          simp only [Act.put, List.setIfInBounds_toArray, List.set_cons_zero, List.set_cons_succ]
          refine wpAnyH_take (i := 10) (oi := ⟨some 9, .assign (.tmp 31), _, _, _, none⟩) (v := .slice none 0 0) rfl (by kernel_rfl) (by kernel_rfl) (by kernel_rfl) (fun _ _ _ h => h) (Or.inl ⟨by rfl, fun w' hS => by go_simp⟩) HS5.out ?_
          simp only [Act.put, List.setIfInBounds_toArray, List.set_cons_zero, List.set_cons_succ]
          refine wpAnyH_take (i := 11) (oi := ⟨some 10, .assign (.tmp 32), _, _, _, none⟩) (v := .bool false) rfl (by kernel_rfl) (by kernel_rfl) (by kernel_rfl) (fun _ _ _ h => h) (Or.inl ⟨by rfl, fun w' hS => by go_simp⟩) HS5.out ?_
          simp only [Act.put, List.setIfInBounds_toArray, List.set_cons_zero, List.set_cons_succ]
          refine wpAnyH_done (by kernel_rfl) ?_ _
          have hR3 := HR2.out
          rw [HLL.out] at hR3
          simp only at hR3
          have HR3 := Lib.hid hR3
          clear hR3
          go_wp2
          go_ret
          exact ⟨grown_trans HG.out (grown_below (g := some b) HB5.out), by rw [HR3.out]; rfl, fun m' h => by rw [HR3.out] at h; cases h⟩
      · obtain rfl : k = fds.length := by omega
        have hR2 := HRK.out
        rw [List.drop_length, ← HLN.out, List.drop_length, ar_done] at hR2
        have HR2 := Lib.hid hR2
        clear hR2
        go_wp2
        go_ret
        exact ⟨HG.out, by rw [HR2.out]; rfl, fun m' h => by rw [HR2.out] at h; cases h; exact HMK.out⟩
  · have hN : arRead m fds segs = none := by
      cases hq : arRead m fds segs with
      | none => rfl
      | some m' => exact absurd (ar_len hq) hlen
    rw [hN]
    have hl' : ¬ (segs.length : Int) = (fds.length : Int) := by omega
    clear hpf hps hsg hF hel hsz he hB hbB hm hN hcf hcs hsl hfl hlen
    go_enter Tryz.func55, Tryz.ntmps55
    go_wp2
    go_ret
    exact ⟨grown_refl _ _, rfl, fun m' h => by cases h⟩
end Go.Proofs.YtjlifjgljejabaaGreatDoor
/- Contract: what a message's segments say. -/
namespace Go.Proofs.YtjlifjgljejabaaGreatDoor
open Go.RowKit Go.Edi Go.Wrap Go.Lib

theorem rm_kind {m : Ms} {s : Sg} {l : List Sg} (h : kindOf s = none) : readMs m s l = (none, 100) := by unfold readMs; rw [h]
theorem rm_nil {m : Ms} {s : Sg} {k : Nat} {fds : List Fd} (h : kindOf s = some (k, fds)) : readMs m s [] = (none, 101) := by unfold readMs; rw [h]
theorem rm_cons {m : Ms} {s y : Sg} {r : List Sg} {k : Nat} {fds : List Fd} (h : kindOf s = some (k, fds)) : readMs m s (y :: r) = (match keyOf' { m with kind := k } y with
      | (some a, _) => (match arRead a fds r with | some b => (some b, 0) | none => (none, 101))
      | (none, e) => (none, e)) := by unfold readMs; rw [h]; rfl
theorem kind_fds {s : Sg} {k : Nat} {fds : List Fd} (h : kindOf s = some (k, fds)) : fdsL k = some fds := by
  unfold kindOf at h
  split at h
  · rename_i n hn
    split at h
    · cases hq : fdsL n.toNat with
      | none => rw [hq] at h; cases h
      | some g =>
        rw [hq] at h
        obtain ⟨h1, h2⟩ := Prod.mk.inj (Option.some.inj h)
        rw [← h1, ← h2]; exact hq
    · cases h
  · cases h
theorem key_zero {m a : Ms} {s : Sg} {e : Nat} (h : keyOf' m s = (some a, e)) : e = 0 := by
  unfold keyOf' at h
  repeat' split at h
  all_goals first | (cases h; rfl) | cases h
theorem key_ne {m : Ms} {s : Sg} {e : Nat} (h : keyOf' m s = (none, e)) : e ≠ 0 := by
  unfold keyOf' at h
  repeat' split at h
  all_goals first | (cases h; decide) | (have := (Prod.mk.inj h).2; omega) | cases h
structure SgIn (w : World) (b : Nat) (s : Sg) (ve : Value) : Prop where
  el : ElsF w (· < b) ve s.els
  ln : s.els.length ≤ 1000
  sz : ∀ e ∈ s.els, ∀ t ∈ e, t.length ≤ 281474976710656
structure SgsIn (w : World) (b : Nat) (l : List Sg) (vs : Value) : Prop where
  sg : SegsF w (· < b) vs l
  ln : l.length ≤ 1000
  el : ∀ s ∈ l, s.els.length ≤ 1000
  sz : ∀ s ∈ l, ∀ e ∈ s.els, ∀ t ∈ e, t.length ≤ 281474976710656
theorem kp_grown {w w' : World} {b : Nat} (h : w.grownBy w' (some b)) (hb : b < w.heap.size) : Kp (· < b) (· < b) w w' := fun j hj => ⟨hj, h.block j (by omega) (fun e => by
  have : j = b := by simpa using e
  omega)⟩
theorem SgIn.keep {w w' : World} {b : Nat} {s : Sg} {ve : Value} (h : SgIn w b s ve) (hg : w.grownBy w' (some b)) (hb : b < w.heap.size) : SgIn w' b s ve := ⟨h.el.kept (kp_grown hg hb), h.ln, h.sz⟩
theorem SgsIn.keep {w w' : World} {b : Nat} {l : List Sg} {vs : Value} (h : SgsIn w b l vs) (hg : w.grownBy w' (some b)) (hb : b < w.heap.size) : SgsIn w' b l vs := ⟨h.sg.kept (kp_grown hg hb), h.ln, h.el, h.sz⟩
theorem SgIn.els {w : World} {b : Nat} {s : Sg} {ve : Value} (h : SgIn w b s ve) (hb : b < w.heap.size) : ElsF w (· < w.heap.size) ve s.els := h.el.kept (fun _j hj => ⟨Nat.lt_trans hj hb, rfl⟩)
theorem SgsIn.head {w : World} {b : Nat} {y : Sg} {r : List Sg} {p : Option Addr} {c : Nat} (h : SgsIn w b (y :: r) (.slice p (y :: r).length c)) :
    ∃ sb so ve, p = some ⟨sb, so, none⟩ ∧ sb < b ∧ w.cell? ⟨sb, so, none⟩ = some (str y.tag) ∧ w.cell? ⟨sb, so + 1, none⟩ = some ve ∧ SgIn w b y ve := by
  obtain ⟨xs, ⟨p', c', e, _, hp⟩, hx⟩ := h.sg
  simp only [Value.slice.injEq] at e
  obtain ⟨rfl, _, rfl⟩ := e
  obtain ⟨sb, so, h1, h2, h3⟩ := hp (by simp)
  obtain ⟨h4, ve, h5, h6⟩ := hx.get 0 (by simp)
  exact ⟨sb, so, ve, h1, h2, h3 0 _ h4, h3 1 _ h5, h6, h.ln |> fun _ => h.el y (by simp), h.sz y (by simp)⟩
theorem SgsIn.nil (w : World) (b : Nat) (p : Option Addr) (c : Nat) : SgsIn w b [] (.slice p 0 c) := ⟨⟨[], RowF.no p c, True.intro⟩, by simp, (fun s hs => by cases hs), (fun s hs => by cases hs)⟩
theorem SgsIn.tail {w : World} {b : Nat} {y : Sg} {r : List Sg} {sb so c : Nat} (h : SgsIn w b (y :: r) (.slice (some ⟨sb, so, none⟩) (y :: r).length c)) (hr : 0 < r.length) (hc : r.length ≤ c - 1) : SgsIn w b r (.slice (some ⟨sb, so + 2, none⟩) r.length (c - 1)) := by
  have h1 := SegsF.dp h.sg (m := 1) (by simp; omega) (c := c - 1) (by simpa using hc)
  refine ⟨?_, by have := h.ln; simp at this; omega, fun s hs => h.el s (by simp [hs]), fun s hs => h.sz s (by simp [hs])⟩
  simpa using h1
/-- a call that fills a message in -/
abbrev FillP (o : Option Ms × Nat) (b : Nat) (ty : TypeId) (pre : List Value) (w : World) (e : Ending) (w' : World) : Prop := RyP o b ty pre w e w'
set_option maxRecDepth 100000 in
set_option maxHeartbeats 3200000 in
theorem readMessage_any (s : Sg) (ve : Value) (l : List Sg) (p : Option Addr) (c : Nat) (b : Nat) (ty : TypeId) (pre : List Value) (m : Ms) (B : Nat) (w : World) (hm : MsgAt w b ty pre m) (hs : SgIn w b s ve) (hl : SgsIn w b l (.slice p l.length c)) (hcap : l.length ≤ c) (he : Env B w) (hB : B ≤ w.heap.size) (hbB : B ≤ b) :
    Calls Tryz.prog 43 #[.pointer (some ⟨b, pre.length, none⟩), .agg #[str s.tag, ve], .slice p l.length c] w (FillP (readMs m s l) b ty pre w) := by
  obtain ⟨R, hR⟩ : ∃ R, R = readMs m s l := ⟨_, rfl⟩
  rw [← hR]
  obtain ⟨w0, hw0⟩ : ∃ w0, w0 = w.alloc (.cells #[str s.tag, ve] 59) := ⟨_, rfl⟩
  have hb0 : Below w.heap.size w w0 := by rw [hw0]; exact (Below.refl _ _).alloc (Nat.le_refl _) _
  have hs0 : w0.heap.size = w.heap.size + 1 := by rw [hw0, size_a]
  have hbl := hm.lt
  have hg0 : w.grownBy w0 (some b) := grown_below hb0
  have HRK := Lib.hid (readKind_any s ve b ty pre m B w0 (hm.keep hb0) ((hs.keep hg0 hbl).els (by omega)) hs.ln hs.sz (he.on (hb0.mono hB)) (by omega))
  have HG0 := Lib.hid hg0
  have HS := Lib.hid hs
  have HL := Lib.hid hl
  have HE := Lib.hid he
  have HBB := Lib.hid hB
  have HBb := Lib.hid hbB
  have HBL := Lib.hid hbl
  have HC := Lib.hid hcap
  have c0 : w0.cell? ⟨w.heap.size, 0, none⟩ = some (str s.tag) := by rw [hw0]; exact cell_of_arr (at_last _ _) 0
  have c1 : w0.cell? ⟨w.heap.size, 1, none⟩ = some ve := by rw [hw0]; exact cell_of_arr (at_last _ _) 1
  rcases hK : kindOf s with _ | ⟨k, fds⟩
  · rw [rm_kind hK] at hR
    rw [hK] at HRK
    have HR := Lib.hid hR
    clear hm hs hl he hB hbB hR hb0 hs0 hbl hg0 hK hcap
    go_enter Tryz.func43, Tryz.ntmps43
    go_wp2_with fail
    rw [← hw0]
    clear hw0
    refine (HRK.out).mono ?_
    rintro e w1 ⟨hg1, ⟨k, fds, v, hx, _⟩ | ⟨_, v, rfl⟩⟩
    · cases hx
    · have HG1 := Lib.hid (grown_trans HG0.out hg1)
      clear hg1
      go_wp2
      go_ret
      exact ⟨HG1.out, by rw [HR.out]; rfl, fun m' h => by rw [HR.out] at h; cases h⟩
  · rw [hK] at HRK
    rcases l with _ | ⟨y, r⟩
    · rw [rm_nil hK] at hR
      have HR := Lib.hid hR
      clear hm hs hl he hB hbB hR hb0 hs0 hbl hg0 hK hcap
      simp only [List.length_nil]
      go_enter Tryz.func43, Tryz.ntmps43
      go_wp2_with fail
      rw [← hw0]
      clear hw0
      refine (HRK.out).mono ?_
      rintro e w1 ⟨hg1, ⟨k, fds, v, hx, rfl, _⟩ | ⟨hx, _⟩⟩
      · have HG1 := Lib.hid (grown_trans HG0.out hg1)
        clear hg1 hx
        go_wp2
        go_ret
        exact ⟨HG1.out, by rw [HR.out]; rfl, fun m' h => by rw [HR.out] at h; cases h⟩
      · cases hx
    · rw [rm_cons hK] at hR
      have HR := Lib.hid hR
      obtain ⟨sb, so, vy, rfl, hsb, _, _, _⟩ := hl.head
      obtain ⟨n, hn⟩ : ∃ n, n = (y :: r).length := ⟨_, rfl⟩
      have HN := Lib.hid (show n = r.length + 1 by rw [hn]; rfl)
      have hn1 : (1 : Int) ≤ (n : Int) := by rw [hn]; simp; omega
      have hn2 : (n : Int) ≤ 1000 := by rw [hn]; have := hl.ln; omega
      have hnc : (n : Int) ≤ (c : Int) := by rw [hn]; omega
      rw [← hn]
      have HKF := Lib.hid (fds_cases (kind_fds hK))
      clear hm hs hl he hB hbB hR hb0 hs0 hbl hg0 hK hcap hn
      go_enter Tryz.func43, Tryz.ntmps43
      go_wp2_with fail
      rw [← hw0]
      clear hw0
      refine (HRK.out).mono ?_
      rintro e w1 ⟨hg1, ⟨k1, fds1, v, hx, rfl, hfl, hm1⟩ | ⟨hx, _⟩⟩
      rotate_left
      · cases hx
      obtain ⟨rfl, rfl⟩ := Prod.mk.inj (Option.some.inj hx)
      have HG1 := Lib.hid (grown_trans HG0.out hg1)
      have hl1 := HL.out.keep HG1.out HBL.out
      obtain ⟨sb1, so1, vy1, e1, _, t0, t1, hy⟩ := hl1.head
      simp only [Option.some.injEq, Addr.mk.injEq] at e1
      obtain ⟨rfl, rfl, _⟩ := e1
      have HL1 := Lib.hid hl1
      have HM1 := Lib.hid hm1
      have HF1 := Lib.hid hfl
      have HB1 := Lib.hid (below_of_grown HG1.out HBb.out HBB.out)
      have hry := readKey_any y vy1 b ty pre _ B w1 hm1 (hy.els hm1.lt) hy.ln hy.sz (HE.out.on HB1.out) (Nat.le_trans HBB.out HB1.out.size) HBb.out
      have HW0 := Lib.hid (show w.heap.size ≤ w0.heap.size from HG0.out.size)
      clear hg1 hx hl1 hm1 hfl hy
      obtain ⟨EI, hEI⟩ : ∃ EI : Int, EI = ((keyOf' { m with kind := k } y).2 : Int) := ⟨_, rfl⟩
      have hry2 : Calls Tryz.prog 54 #[.pointer (some ⟨b, pre.length, none⟩), .agg #[str y.tag, vy1]] w1 fun e w' => e = .returned (.int .i64 EI) ∧ w1.grownBy w' (some b) ∧ ∀ m', (keyOf' { m with kind := k } y).1 = some m' → MsgAt w' b ty pre m' := hry.mono fun e w' ⟨h1, h2, h3⟩ => ⟨by rw [h2, hEI], h1, h3⟩
      have HRY := Lib.hid hry2
      clear hry hry2
      rcases hq : keyOf' { m with kind := k } y with ⟨_ | a, E⟩
      · have hE := key_ne hq
        have HR1 := Lib.hid (show R = (none, E) by rw [HR.out, hq])
        rw [hq] at hEI
        have HEI := Lib.hid hEI
        have hE0 : ¬ EI = 0 := by rw [hEI]; simp only; omega
        clear hq hE hEI
        go_wp2_with (go_at_call 54; refine (HRY.out).mono ?_; rintro e w2 ⟨rfl, hg2, _⟩
                     have HG2 := Lib.hid (grown_trans HG1.out hg2)
                     clear hg2)
        go_ret
        exact ⟨HG2.out, by rw [HR1.out, HEI.out]; rfl, fun m' h => by rw [HR1.out] at h; cases h⟩
      · have hE := key_zero hq
        subst hE
        have HR1 := Lib.hid (show R = (match arRead a fds r with | some b => (some b, 0) | none => (none, 101)) by rw [HR.out, hq])
        rw [hq] at hEI HRY
        obtain rfl : EI = 0 := by rw [hEI]; rfl
        clear hq hEI
        go_wp2_with fail
        refine (HRY.out).mono ?_
        rintro e w2 ⟨rfl, hg2, hm2⟩
        have hm2' := hm2 a rfl
        have HG2 := Lib.hid (grown_trans HG1.out hg2)
        have HB2 := Lib.hid (below_of_grown HG2.out HBb.out HBB.out)
        have HF2 := Lib.hid (HF1.out.grown (F' := fun j => j < w2.heap.size ∧ j ≠ b) hg2 (fun j hj => ⟨hj.2, by have := hj.1; have := HBL.out; have := HW0.out; omega, Nat.lt_of_lt_of_le hj.2 hg2.size, by have := hj.1; have := HBL.out; have := HW0.out; omega⟩))
        have HL2 := Lib.hid (HL.out.keep HG2.out HBL.out)
        have HM2 := Lib.hid hm2'
        have HAR := Lib.hid (fun vs (h : SgsIn w2 b r vs) => areRead_any fds v r vs b ty pre a B _ w2 hm2' HF2.out (fun j hj => hj) h.sg (by rcases HKF.out with h | h | h | h | h <;> rw [h] <;> decide) h.ln h.el h.sz (HE.out.on HB2.out) (Nat.le_trans HBB.out HB2.out.size) HBb.out)
        clear hg2 hm2 hm2' t0 t1
        by_cases hc1 : (c : Int) = 1
        · have hn0 : n = 1 := by omega
          subst hn0
          obtain rfl : c = 1 := by omega
          have hr0 : r = [] := by
            have := HN.out
            exact List.length_eq_zero_iff.1 (by omega)
          subst hr0
          have HA := Lib.hid (HAR.out (.slice (some ⟨sb, so, none⟩) 0 0) (SgsIn.nil _ _ _ _))
          cases har : arRead a fds [] with
          | none =>
            have HR2 := Lib.hid (show R = (none, 101) by rw [HR1.out, har])
            rw [har] at HA
            clear har HAR
            go_wp2_with (go_at_call 55; refine (HA.out).mono ?_; rintro e w3 ⟨hg3, rfl, _⟩
                         have HG3 := Lib.hid (grown_trans HG2.out hg3)
                         clear hg3)
            go_ret
            exact ⟨HG3.out, by rw [HR2.out]; rfl, fun m' h => by rw [HR2.out] at h; cases h⟩
          | some q =>
            have HR2 := Lib.hid (show R = (some q, 0) by rw [HR1.out, har])
            rw [har] at HA
            clear har HAR
            go_wp2_with (go_at_call 55; refine (HA.out).mono ?_; rintro e w3 ⟨hg3, rfl, hm3⟩
                         have HG3 := Lib.hid (grown_trans HG2.out hg3)
                         have HM3 := Lib.hid (hm3 q rfl)
                         clear hg3 hm3)
            go_ret
            exact ⟨HG3.out, by rw [HR2.out]; rfl, fun m' h => by rw [HR2.out] at h; cases h; exact HM3.out⟩
        · have hcn : ¬ (c = 1) := by omega
          have hv : SgsIn w2 b r (.slice (some ⟨sb, so + 2, none⟩) (n - 1) (c - 1)) := by
            have hr : n - 1 = r.length := by have := HN.out; omega
            rw [hr]
            by_cases h0 : 0 < r.length
            · have h := HL2.out
              exact SgsIn.tail (c := c) (y := y) h h0 (by have := HC.out; simp at this; omega)
            · have : r = [] := List.length_eq_zero_iff.1 (by omega)
              subst this
              exact SgsIn.nil _ _ _ _
          have HA := Lib.hid (HAR.out _ hv)
          have hc0 : (0 : Int) ≤ (c : Int) := Int.natCast_nonneg _
          cases har : arRead a fds r with
          | none =>
            have HR2 := Lib.hid (show R = (none, 101) by rw [HR1.out, har])
            rw [har] at HA
            clear har HAR hv
            go_wp2_with (go_at_call 55; refine (HA.out).mono ?_; rintro e w3 ⟨hg3, rfl, _⟩
                         have HG3 := Lib.hid (grown_trans HG2.out hg3)
                         clear hg3)
            go_ret
            exact ⟨HG3.out, by rw [HR2.out]; rfl, fun m' h => by rw [HR2.out] at h; cases h⟩
          | some q =>
            have HR2 := Lib.hid (show R = (some q, 0) by rw [HR1.out, har])
            rw [har] at HA
            clear har HAR hv
            go_wp2_with (go_at_call 55; refine (HA.out).mono ?_; rintro e w3 ⟨hg3, rfl, hm3⟩
                         have HG3 := Lib.hid (grown_trans HG2.out hg3)
                         have HM3 := Lib.hid (hm3 q rfl)
                         clear hg3 hm3)
            go_ret
            exact ⟨HG3.out, by rw [HR2.out]; rfl, fun m' h => by rw [HR2.out] at h; cases h; exact HM3.out⟩
end Go.Proofs.YtjlifjgljejabaaGreatDoor
/- Contracts: what an interchange's segments say into a packet; the packet of an interchange. -/
namespace Go.Proofs.YtjlifjgljejabaaGreatDoor
open Go.RowKit Go.Edi Go.Wrap Go.Lib

abbrev preV (f t : Nat) (a : Bool) (n : Nat) : List Value := [.int .u8 (f : Int), .int .u8 (t : Int), .bool a, .int .u64 (n : Int)]
def pkV (p : Pk) : Array Value := (preV p.from_ p.to_ p.ack p.num ++ msV p.m).toArray
/-- what segments say: an Ack, or a message -/
def rdL (l : List Sg) : Option (Bool × Ms) × Nat :=
  match l with
  | [] => (none, 100)
  | s :: r =>
    if s.tag = ackT then (if s.els = [] then (match r with | [] => (some (true, .zero), 0) | _ :: _ => (none, 101)) else (none, 100))
    else match readMs .zero s r with
      | (some m, _) => (some (false, m), 0)
      | (none, e) => (none, e)
theorem pack_rd (x : Wr) : packL x = if 8 ≤ x.from_ ∨ 8 ≤ x.to_ then (.zero, 1) else match rdL x.segs with | (some (a, m), _) => (⟨x.from_, x.to_, x.ref, a, m⟩, 0) | (none, e) => (.zero, e) := by
  obtain ⟨f, t, n, l⟩ := x
  unfold packL
  simp only
  by_cases h : 8 ≤ f ∨ 8 ≤ t
  · rw [if_pos h, if_pos h]
  · rw [if_neg h, if_neg h]
    cases l with
    | nil => rfl
    | cons s r =>
      by_cases h1 : s.tag = ackT
      · by_cases h2 : s.els = []
        · cases r <;> simp [rdL, h1, h2]
        · simp [rdL, h1, h2]
      · simp only [rdL, if_neg h1]
        rcases readMs .zero s r with ⟨_ | m, e⟩ <;> rfl
def ReadP (o : Option (Bool × Ms) × Nat) (b f t n : Nat) (w : World) (e : Ending) (w' : World) : Prop :=
  w.grownBy w' (some b) ∧ e = .returned (.int .i64 ((o.2 : Nat) : Int)) ∧ ∀ a m, o.1 = some (a, m) → MsgAt w' b 38 (preV f t a n) m
theorem rm_zero {m a : Ms} {s : Sg} {l : List Sg} {e : Nat} (h : readMs m s l = (some a, e)) : e = 0 := by
  unfold readMs at h
  repeat' split at h
  all_goals first | (cases h; rfl) | cases h
set_option maxRecDepth 100000 in
set_option maxHeartbeats 3200000 in
theorem read_any (l : List Sg) (p : Option Addr) (c : Nat) (b f t n : Nat) (B : Nat) (w : World) (hm : MsgAt w b 38 (preV f t false n) .zero) (hl : SgsIn w b l (.slice p l.length c)) (hcap : l.length ≤ c) (he : Env B w) (hB : B ≤ w.heap.size) (hbB : B ≤ b) :
    Calls Tryz.prog 30 #[.pointer (some ⟨b, 0, none⟩), .slice p l.length c] w (ReadP (rdL l) b f t n w) := by
  obtain ⟨R, hR⟩ : ∃ R, R = rdL l := ⟨_, rfl⟩
  rw [← hR]
  rcases l with _ | ⟨s, r⟩
  · have HR := Lib.hid (show R = (none, 100) from hR)
    simp only [List.length_nil]
    clear hm hl hcap he hB hbB hR
    go_enter Tryz.func30, Tryz.ntmps30
    go_wp2
    go_ret
    exact ⟨grown_refl _ _, by rw [HR.out]; rfl, fun a m h => by rw [HR.out] at h; cases h⟩
  · obtain ⟨sb, so, ve, rfl, hsb, t0, t1, hsg⟩ := hl.head
    obtain ⟨N, hN⟩ : ∃ N, N = (s :: r).length := ⟨_, rfl⟩
    have HN := Lib.hid (show N = r.length + 1 by rw [hN]; rfl)
    have hn1 : (1 : Int) ≤ (N : Int) := by rw [hN]; simp; omega
    have hn2 : (N : Int) ≤ 1000 := by rw [hN]; have := hl.ln; omega
    have hN0 : ¬ N = 0 := by rw [hN]; simp
    have hnc : (N : Int) ≤ (c : Int) := by rw [hN]; omega
    have hc0 : (0 : Int) ≤ (c : Int) := Int.natCast_nonneg _
    have HL := Lib.hid hl
    have HC := Lib.hid hcap
    have HSG := Lib.hid hsg
    have HM := Lib.hid hm
    have HE := Lib.hid he
    have HBB := Lib.hid hB
    have HBb := Lib.hid hbB
    have HNE := Lib.hid (show sb ≠ b by omega)
    rw [← hN]
    by_cases htag : s.tag = ackT
    · have hne : (tx s.tag).toList = [65, 67, 75] := by rw [txl, htag]; rfl
      have hRk : R = if s.els = [] then (match r with | [] => (some (true, .zero), 0) | _ :: _ => (none, 101)) else (none, 100) := by
        rw [hR]
        show (if s.tag = ackT then _ else _) = _
        rw [if_pos htag]
      obtain ⟨ys, ⟨pe, ce, rfl, _, _⟩, _⟩ := hsg.el
      by_cases hels : s.els = []
      · have hel0 : ((s.els.length : Nat) : Int) = 0 := by rw [hels]; rfl
        by_cases hr0 : r = []
        · have hN1 : N = 1 := by rw [HN.out, hr0]; rfl
          subst hN1
          have HR := Lib.hid (show R = (some (true, .zero), 0) by rw [hRk, if_pos hels, hr0])
          have f2 := frozen_of_arr hm 2
          have c2 : w.cell? ⟨b, 2, none⟩ = some (.bool false) := cell_of_arr hm 2
          clear hm hl hcap he hB hbB hR hN hsg hRk htag hels hr0
          go_enter Tryz.func30, Tryz.ntmps30
          go_wp2
          go_ret
          refine ⟨grown_set _ _ _ _, by rw [HR.out]; rfl, fun a m h => ?_⟩
          rw [HR.out] at h
          obtain ⟨rfl, rfl⟩ := Prod.mk.inj (Option.some.inj h)
          have := heap_setCell_same w b 2 _ 38 (.bool true) HM.out
          exact this
        · have hN2 : ¬ (N : Int) ≤ 1 := by
            have := HN.out
            have : r.length ≠ 0 := fun h => hr0 (List.length_eq_zero_iff.1 h)
            omega
          have HR := Lib.hid (show R = (none, 101) by
            rw [hRk, if_pos hels]
            cases r with
            | nil => exact absurd rfl hr0
            | cons y q => rfl)
          clear hm hl hcap he hB hbB hR hN hsg hRk htag hels hr0
          go_enter Tryz.func30, Tryz.ntmps30
          go_wp2
          go_ret
          exact ⟨grown_refl _ _, by rw [HR.out]; rfl, fun a m h => by rw [HR.out] at h; cases h⟩
      · have hel1 : (1 : Int) ≤ ((s.els.length : Nat) : Int) := by
          have : s.els.length ≠ 0 := fun h => hels (List.length_eq_zero_iff.1 h)
          omega
        have HR := Lib.hid (show R = (none, 100) by rw [hRk, if_neg hels])
        clear hm hl hcap he hB hbB hR hN hsg hRk htag hels
        go_enter Tryz.func30, Tryz.ntmps30
        go_wp2
        go_ret
        exact ⟨grown_refl _ _, by rw [HR.out]; rfl, fun a m h => by rw [HR.out] at h; cases h⟩
    · have hne : ((tx s.tag).toList == [65, 67, 75]) = false := by rw [txl]; simpa [ackT] using htag
      have hRk : R = match readMs .zero s r with | (some m, _) => (some (false, m), 0) | (none, e) => (none, e) := by
        rw [hR]
        show (if s.tag = ackT then _ else _) = _
        rw [if_neg htag]
      obtain ⟨E, hE⟩ : ∃ E : Int, E = ((readMs .zero s r).2 : Int) := ⟨_, rfl⟩
      have HRE := Lib.hid (show ((R.2 : Nat) : Int) = E ∧ ∀ a m, R.1 = some (a, m) → a = false ∧ (readMs .zero s r).1 = some m by
        rw [hRk, hE]
        rcases hq : readMs .zero s r with ⟨_ | q, e⟩
        · exact ⟨rfl, fun a m h => by cases h⟩
        · have := rm_zero hq
          subst this
          exact ⟨rfl, fun a m h => by cases h; exact ⟨rfl, rfl⟩⟩)
      have HRMM := Lib.hid (fun p c (h : SgsIn w.drew b r (.slice p r.length c)) (hc : r.length ≤ c) => show Calls Tryz.prog 43 #[.pointer (some ⟨b, 4, none⟩), .agg #[str s.tag, ve], .slice p r.length c] w.drew (fun e w' => e = .returned (.int .i64 E) ∧ w.drew.grownBy w' (some b) ∧ ∀ m', (readMs .zero s r).1 = some m' → MsgAt w' b 38 (preV f t false n) m') from
        (readMessage_any s ve r p c b 38 (preV f t false n) .zero B w.drew hm (hsg.keep (grown_drew _ _) hm.lt) h hc (he.on (Below.refl _ _).drew) hB hbB).mono fun e w' ⟨h1, h2, h3⟩ => ⟨by rw [h2, hE], h1, h3⟩)
      have HT := Lib.hid (And.intro t0 t1)
      clear hm hl hcap he hB hbB hR hN hsg hRk htag hE
      by_cases hc1 : (c : Int) = 1
      · obtain rfl : N = 1 := by omega
        obtain rfl : c = 1 := by omega
        have hr0 : r = [] := List.length_eq_zero_iff.1 (by have := HN.out; omega)
        subst hr0
        have HRM := Lib.hid (HRMM.out (some ⟨sb, so, none⟩) 0 (SgsIn.nil _ _ _ _) (Nat.le_refl _))
        clear HRMM
        simp only [List.length_nil] at HRM
        go_enter Tryz.func30, Tryz.ntmps30
        go_upto_region 4 with fail
        refine wp_region_held (S := fun w' => w'.cell? ⟨sb, so, none⟩ = some (str s.tag) ∧ w'.cell? ⟨sb, so + 1, none⟩ = some ve) (by kernel_rfl) ?_
        change wpAnyH _ _ _ _ _ _ _ _ (World.drew _)
        have HS2 := Lib.hid (show w.drew.cell? ⟨sb, so, none⟩ = some (str s.tag) ∧ w.drew.cell? ⟨sb, so + 1, none⟩ = some ve from HT.out)
        refine wpAnyH_take (i := 0) (oi := ⟨some 15, .move (.tmp 0), _, _, _, none⟩) (v := .pointer (some ⟨b, 0, none⟩)) rfl (by kernel_rfl) (by kernel_rfl) (by kernel_rfl) (fun _ _ _ h => h) (Or.inl ⟨by rfl, fun w' hS => by go_simp⟩) HS2.out ?_
        simp only [Act.put, List.setIfInBounds_toArray, List.set_cons_zero, List.set_cons_succ]
        refine wpAnyH_take (i := 1) (oi := ⟨some 16, .nilCheck (.tmp 15), _, _, _, none⟩) (v := .pointer (some ⟨b, 0, none⟩)) rfl (by kernel_rfl) (by kernel_rfl) (by kernel_rfl) (fun _ _ _ h => h) (Or.inl ⟨by rfl, fun w' hS => by go_simp⟩) HS2.out ?_
        simp only [Act.put, List.setIfInBounds_toArray, List.set_cons_zero, List.set_cons_succ]
        refine wpAnyH_take (i := 2) (oi := ⟨some 17, .fieldAddr 38 (.tmp 16) 4, _, _, _, none⟩) (v := .pointer (some ⟨b, 4, none⟩)) rfl (by kernel_rfl) (by kernel_rfl) (by kernel_rfl) (fun _ _ _ h => h) (Or.inl ⟨by rfl, fun w' hS => by go_simp⟩) HS2.out ?_
        simp only [Act.put, List.setIfInBounds_toArray, List.set_cons_zero, List.set_cons_succ]
        refine wpAnyH_take (i := 3) (oi := ⟨some 18, .move (.tmp 1), _, _, _, none⟩) (v := .slice (some ⟨sb, so, none⟩) 1 1) rfl (by kernel_rfl) (by kernel_rfl) (by kernel_rfl) (fun _ _ _ h => h) (Or.inl ⟨by rfl, fun w' hS => by go_simp⟩) HS2.out ?_
        simp only [Act.put, List.setIfInBounds_toArray, List.set_cons_zero, List.set_cons_succ]
        refine wpAnyH_take (i := 4) (oi := ⟨some 19, .indexAddr 39 (.tmp 18) (.const (.int .i64 0)), _, _, _, none⟩) (v := .pointer (some ⟨sb, so, none⟩)) rfl (by kernel_rfl) (by kernel_rfl) (by kernel_rfl) (fun _ _ _ h => h) (Or.inl ⟨by rfl, fun w' hS => by go_simp⟩) HS2.out ?_
        simp only [Act.put, List.setIfInBounds_toArray, List.set_cons_zero, List.set_cons_succ]
        refine wpAnyH_take (i := 5) (oi := ⟨some 20, .load 59 (.tmp 19), _, _, _, none⟩) (v := .agg #[str s.tag, ve]) rfl (by kernel_rfl) (by kernel_rfl) (by kernel_rfl) (fun _ _ _ h => h) (Or.inl ⟨by rfl, fun w' hS => by have c0 := hS.1; have c1 := hS.2; go_simp⟩) HS2.out ?_
        simp only [Act.put, List.setIfInBounds_toArray, List.set_cons_zero, List.set_cons_succ]
        refine wpAnyH_take (i := 6) (oi := ⟨some 21, .move (.tmp 1), _, _, _, none⟩) (v := .slice (some ⟨sb, so, none⟩) 1 1) rfl (by kernel_rfl) (by kernel_rfl) (by kernel_rfl) (fun _ _ _ h => h) (Or.inl ⟨by rfl, fun w' hS => by go_simp⟩) HS2.out ?_
        simp only [Act.put, List.setIfInBounds_toArray, List.set_cons_zero, List.set_cons_succ]
        refine wpAnyH_take (i := 7) (oi := ⟨some 22, .slice 39 (.tmp 21) (some (.const (.int .i64 1))) none none, _, _, _, none⟩) (v := .slice (some ⟨sb, so, none⟩) 0 0) rfl (by kernel_rfl) (by kernel_rfl) (by kernel_rfl) (fun _ _ _ h => h) (Or.inl ⟨by rfl, fun w' hS => by go_simp⟩) HS2.out ?_
        simp only [Act.put, List.setIfInBounds_toArray, List.set_cons_zero, List.set_cons_succ]
        refine wpAnyH_ready (rs := [8]) (by kernel_rfl) (by simp) (AllReadyH.cons (o := ⟨some 23, .call ⟨.value (.func 43), #[.tmp 17, .tmp 20, .tmp 22], _⟩, _, _, _, none⟩) rfl (fun K hK => ?_) AllReadyH.nil)
        go_simp
        refine (HRM.out).mono ?_
        rintro e w3 ⟨rfl, hg3, hm3⟩
        have HG3 := Lib.hid (grown_trans (grown_drew w (some b)) hg3)
        have HM3 := Lib.hid hm3
        have HS3 := Lib.hid (show w3.cell? ⟨sb, so, none⟩ = some (str s.tag) ∧ w3.cell? ⟨sb, so + 1, none⟩ = some ve from ⟨grown_cell hg3 HNE.out HS2.out.1, grown_cell hg3 HNE.out HS2.out.2⟩)
        clear hg3 hm3
        refine hK.out _ _ HS3.out (fun _ => ?_)
        clear hK K
        refine wpAnyH_take (i := 9) (oi := ⟨some 4, .assign (.tmp 23), _, _, _, none⟩) (v := .int .i64 E) rfl (by kernel_rfl) (by kernel_rfl) (by kernel_rfl) (fun _ _ _ h => h) (Or.inl ⟨by rfl, fun w' hS => by go_simp⟩) HS3.out ?_
        simp only [Act.put, List.setIfInBounds_toArray, List.set_cons_zero, List.set_cons_succ]
        refine wpAnyH_done (by kernel_rfl) ?_ _
        go_wp2
        go_ret
        refine ⟨HG3.out, by rw [HRE.out.1]; rfl, fun a m h => ?_⟩
        obtain ⟨rfl, h2⟩ := HRE.out.2 a m h
        exact HM3.out m h2
      · have hcn : ¬ (c = 1) := by omega
        have hv : SgsIn w.drew b r (.slice (some ⟨sb, so + 2, none⟩) r.length (c - 1)) := by
          by_cases h0 : 0 < r.length
          · exact SgsIn.tail (c := c) (y := s) (HL.out.keep (grown_drew _ _) HM.out.lt) h0 (by have := HC.out; simp at this; omega)
          · have : r = [] := List.length_eq_zero_iff.1 (by omega)
            subst this
            exact SgsIn.nil _ _ _ _
        have HRM1 := HRMM.out _ _ hv (by have := HC.out; simp at this; omega)
        have hr : r.length = N - 1 := by have := HN.out; omega
        rw [hr] at HRM1
        have HRM := Lib.hid HRM1
        clear HRMM HRM1 hv hr
        go_enter Tryz.func30, Tryz.ntmps30
        go_upto_region 4 with fail
        refine wp_region_held (S := fun w' => w'.cell? ⟨sb, so, none⟩ = some (str s.tag) ∧ w'.cell? ⟨sb, so + 1, none⟩ = some ve) (by kernel_rfl) ?_
        change wpAnyH _ _ _ _ _ _ _ _ (World.drew _)
        have HS2 := Lib.hid (show w.drew.cell? ⟨sb, so, none⟩ = some (str s.tag) ∧ w.drew.cell? ⟨sb, so + 1, none⟩ = some ve from HT.out)
        refine wpAnyH_take (i := 0) (oi := ⟨some 15, .move (.tmp 0), _, _, _, none⟩) (v := .pointer (some ⟨b, 0, none⟩)) rfl (by kernel_rfl) (by kernel_rfl) (by kernel_rfl) (fun _ _ _ h => h) (Or.inl ⟨by rfl, fun w' hS => by go_simp⟩) HS2.out ?_
        simp only [Act.put, List.setIfInBounds_toArray, List.set_cons_zero, List.set_cons_succ]
        refine wpAnyH_take (i := 1) (oi := ⟨some 16, .nilCheck (.tmp 15), _, _, _, none⟩) (v := .pointer (some ⟨b, 0, none⟩)) rfl (by kernel_rfl) (by kernel_rfl) (by kernel_rfl) (fun _ _ _ h => h) (Or.inl ⟨by rfl, fun w' hS => by go_simp⟩) HS2.out ?_
        simp only [Act.put, List.setIfInBounds_toArray, List.set_cons_zero, List.set_cons_succ]
        refine wpAnyH_take (i := 2) (oi := ⟨some 17, .fieldAddr 38 (.tmp 16) 4, _, _, _, none⟩) (v := .pointer (some ⟨b, 4, none⟩)) rfl (by kernel_rfl) (by kernel_rfl) (by kernel_rfl) (fun _ _ _ h => h) (Or.inl ⟨by rfl, fun w' hS => by go_simp⟩) HS2.out ?_
        simp only [Act.put, List.setIfInBounds_toArray, List.set_cons_zero, List.set_cons_succ]
        refine wpAnyH_take (i := 3) (oi := ⟨some 18, .move (.tmp 1), _, _, _, none⟩) (v := .slice (some ⟨sb, so, none⟩) N c) rfl (by kernel_rfl) (by kernel_rfl) (by kernel_rfl) (fun _ _ _ h => h) (Or.inl ⟨by rfl, fun w' hS => by go_simp⟩) HS2.out ?_
        simp only [Act.put, List.setIfInBounds_toArray, List.set_cons_zero, List.set_cons_succ]
        refine wpAnyH_take (i := 4) (oi := ⟨some 19, .indexAddr 39 (.tmp 18) (.const (.int .i64 0)), _, _, _, none⟩) (v := .pointer (some ⟨sb, so, none⟩)) rfl (by kernel_rfl) (by kernel_rfl) (by kernel_rfl) (fun _ _ _ h => h) (Or.inl ⟨by rfl, fun w' hS => by go_simp⟩) HS2.out ?_
        simp only [Act.put, List.setIfInBounds_toArray, List.set_cons_zero, List.set_cons_succ]
        refine wpAnyH_take (i := 5) (oi := ⟨some 20, .load 59 (.tmp 19), _, _, _, none⟩) (v := .agg #[str s.tag, ve]) rfl (by kernel_rfl) (by kernel_rfl) (by kernel_rfl) (fun _ _ _ h => h) (Or.inl ⟨by rfl, fun w' hS => by have c0 := hS.1; have c1 := hS.2; go_simp⟩) HS2.out ?_
        simp only [Act.put, List.setIfInBounds_toArray, List.set_cons_zero, List.set_cons_succ]
        refine wpAnyH_take (i := 6) (oi := ⟨some 21, .move (.tmp 1), _, _, _, none⟩) (v := .slice (some ⟨sb, so, none⟩) N c) rfl (by kernel_rfl) (by kernel_rfl) (by kernel_rfl) (fun _ _ _ h => h) (Or.inl ⟨by rfl, fun w' hS => by go_simp⟩) HS2.out ?_
        simp only [Act.put, List.setIfInBounds_toArray, List.set_cons_zero, List.set_cons_succ]
        refine wpAnyH_take (i := 7) (oi := ⟨some 22, .slice 39 (.tmp 21) (some (.const (.int .i64 1))) none none, _, _, _, none⟩) (v := .slice (some ⟨sb, so + 2, none⟩) (N - 1) (c - 1)) rfl (by kernel_rfl) (by kernel_rfl) (by kernel_rfl) (fun _ _ _ h => h) (Or.inl ⟨by rfl, fun w' hS => by go_simp⟩) HS2.out ?_
        simp only [Act.put, List.setIfInBounds_toArray, List.set_cons_zero, List.set_cons_succ]
        refine wpAnyH_ready (rs := [8]) (by kernel_rfl) (by simp) (AllReadyH.cons (o := ⟨some 23, .call ⟨.value (.func 43), #[.tmp 17, .tmp 20, .tmp 22], _⟩, _, _, _, none⟩) rfl (fun K hK => ?_) AllReadyH.nil)
        go_simp
        refine (HRM.out).mono ?_
        rintro e w3 ⟨rfl, hg3, hm3⟩
        have HG3 := Lib.hid (grown_trans (grown_drew w (some b)) hg3)
        have HM3 := Lib.hid hm3
        have HS3 := Lib.hid (show w3.cell? ⟨sb, so, none⟩ = some (str s.tag) ∧ w3.cell? ⟨sb, so + 1, none⟩ = some ve from ⟨grown_cell hg3 HNE.out HS2.out.1, grown_cell hg3 HNE.out HS2.out.2⟩)
        clear hg3 hm3
        refine hK.out _ _ HS3.out (fun _ => ?_)
        clear hK K
        refine wpAnyH_take (i := 9) (oi := ⟨some 4, .assign (.tmp 23), _, _, _, none⟩) (v := .int .i64 E) rfl (by kernel_rfl) (by kernel_rfl) (by kernel_rfl) (fun _ _ _ h => h) (Or.inl ⟨by rfl, fun w' hS => by go_simp⟩) HS3.out ?_
        simp only [Act.put, List.setIfInBounds_toArray, List.set_cons_zero, List.set_cons_succ]
        refine wpAnyH_done (by kernel_rfl) ?_ _
        go_wp2
        go_ret
        refine ⟨HG3.out, by rw [HRE.out.1]; rfl, fun a m h => ?_⟩
        obtain ⟨rfl, h2⟩ := HRE.out.2 a m h
        exact HM3.out m h2
end Go.Proofs.YtjlifjgljejabaaGreatDoor
/- Contract: the packet of an interchange. -/
namespace Go.Proofs.YtjlifjgljejabaaGreatDoor
open Go.RowKit Go.Edi Go.Wrap Go.Lib

theorem areC_any (f t : Nat) (hf : f < 256) (ht : t < 256) (w : World) : Calls Tryz.prog 23 #[.int .u8 (f : Int), .int .u8 (t : Int)] w fun e w' => e = .returned (.bool (decide (f < 8) && decide (t < 8))) ∧ w = w' := by
  have h1 : (0 : Int) ≤ (f : Int) := Int.natCast_nonneg _
  have h2 : (0 : Int) ≤ (t : Int) := Int.natCast_nonneg _
  by_cases a : f < 8
  · have a' : (f : Int) < 8 := by omega
    have a2 : decide (f < 8) = true := by simpa using a
    rw [a2]
    by_cases b : t < 8
    · have b' : (t : Int) < 8 := by omega
      have b2 : decide (t < 8) = true := by simpa using b
      rw [b2]
      clear a b a2 b2 hf ht
      go_enter Tryz.func23, Tryz.ntmps23
      go_wp2
      go_ret
      exact ⟨rfl, rfl⟩
    · have b' : ¬ (t : Int) < 8 := by omega
      have b2 : decide (t < 8) = false := by simpa using b
      rw [b2]
      clear a b a2 b2 hf ht
      go_enter Tryz.func23, Tryz.ntmps23
      go_wp2
      go_ret
      exact ⟨rfl, rfl⟩
  · have a' : ¬ (f : Int) < 8 := by omega
    have a2 : decide (f < 8) = false := by simpa using a
    rw [a2]
    clear a a2 hf ht
    go_enter Tryz.func23, Tryz.ntmps23
    go_wp2
    go_ret
    exact ⟨rfl, rfl⟩
abbrev pk0 : Array Value := #[.int .u8 0, .int .u8 0, .bool false, .int .u64 0, .int .u8 0, .int .u8 0, .int .u64 0, .int .u8 0, .int .u8 0, .int .u16 0, .int .u32 0, .int .i64 0, .int .u8 0, .int .u32 0, .int .i64 0, .int .i64 0]
theorem pk0_zero : pkV .zero = pk0 := rfl
theorem sizePk : (Tryz.prog.info? 38).map (·.size) = some 16 := by kernel_rfl
theorem pk0_one : pk0.all (·.oneCell') = true := by decide +kernel
theorem pkv_one (p : Pk) : (pkV p).all (·.oneCell') = true := by
  unfold pkV msV
  simp [Value.oneCell']
theorem rm_ne {m : Ms} {s : Sg} {l : List Sg} {e : Nat} (h : readMs m s l = (none, e)) : e ≠ 0 := by
  unfold readMs at h
  split at h
  · cases h; decide
  · split at h
    · cases h; decide
    · split at h
      · split at h
        · cases h
        · cases h; decide
      · rename_i hk
        have := (Prod.mk.inj h).2
        subst this
        exact key_ne hk
theorem rd_ne {l : List Sg} {e : Nat} (h : rdL l = (none, e)) : e ≠ 0 := by
  unfold rdL at h
  split at h
  · cases h; decide
  · split at h
    · split at h
      · split at h
        · cases h
        · cases h; decide
      · cases h; decide
    · split at h
      · cases h
      · rename_i hr
        have := (Prod.mk.inj h).2
        subst this
        exact rm_ne hr
theorem rd_zero {l : List Sg} {q : Bool × Ms} {e : Nat} (h : rdL l = (some q, e)) : e = 0 := by
  unfold rdL at h
  split at h
  · cases h
  · split at h
    · split at h
      · split at h
        · cases h; rfl
        · cases h
      · cases h
    · split at h
      · cases h; rfl
      · cases h
theorem below_setR {B g : Nat} {w0 w : World} (h : Below B w0 w) (hB : B ≤ g) (cs : Array Value) : Below B w0 (w.setRow g cs) :=
  ⟨h.os, h.tape, h.output, by rw [size_setRow]; exact h.size, fun k hk => by
    show (w.heap.modify g _)[k]? = _
    rw [Array.getElem?_modify, if_neg (by omega)]; exact h.block k hk⟩
def PackP (o : Pk × Nat) (w : World) (e : Ending) (w' : World) : Prop :=
  e = .returned (.tuple #[.agg (pkV o.1), .int .i64 ((o.2 : Nat) : Int)]) ∧ Below w.heap.size w w'
set_option maxRecDepth 100000 in
set_option maxHeartbeats 3200000 in
theorem packet_any (x : Wr) (v : Value) (B : Nat) (w : World) (hf : x.from_ < 256) (ht : x.to_ < 256) (hv : SegsF w (· < w.heap.size) v x.segs) (hln : x.segs.length ≤ 1000) (hel : ∀ s ∈ x.segs, s.els.length ≤ 1000) (hsz : ∀ s ∈ x.segs, ∀ e ∈ s.els, ∀ t ∈ e, t.length ≤ 281474976710656) (he : Env B w) (hB : B ≤ w.heap.size) :
    Calls Tryz.prog 16 #[.agg (wrV x.from_ x.to_ x.ref v)] w (PackP (packL x) w) := by
  obtain ⟨f, t, n, l⟩ := x
  simp only at hf ht hv hln hel hsz ⊢
  obtain ⟨R, hR⟩ : ∃ R, R = packL ⟨f, t, n, l⟩ := ⟨_, rfl⟩
  rw [← hR]
  rw [pack_rd] at hR
  simp only at hR
  have HA := Lib.hid (fun W => areC_any f t hf ht W)
  have hf0 : (0 : Int) ≤ (f : Int) := Int.natCast_nonneg _
  have ht0 : (0 : Int) ≤ (t : Int) := Int.natCast_nonneg _
  by_cases h8 : 8 ≤ f ∨ 8 ≤ t
  · rw [if_pos h8] at hR
    have HR := Lib.hid hR
    have hb : (decide (f < 8) && decide (t < 8)) = false := by
      rcases h8 with h | h
      · have : decide (f < 8) = false := by simp; omega
        rw [this]; rfl
      · have : decide (t < 8) = false := by simp; omega
        rw [this, Bool.and_false]
    rw [hb] at HA
    have HD := Lib.hid (show ((w.alloc (.cells (wrV f t n v) 41)).alloc (.cells pk0 38)).heap[w.heap.size + 1]? = some (.cells pk0 38 (0, 0)) from heap_new _ _ _ (by simp only [size_a]))
    have HB0 := Lib.hid (show Below w.heap.size w ((w.alloc (.cells (wrV f t n v) 41)).alloc (.cells pk0 38)) from ((Below.refl _ _).alloc (Nat.le_refl _) _).alloc (by simp only [size_a]; omega) _)
    clear hf ht hv hln hel hsz he hB h8 hb hR
    go_enter Tryz.func16, Tryz.ntmps16
    go_wp2_with (first
      | (go_at_call 23; refine (HA.out _).mono ?_; rintro e w2 ⟨rfl, rfl⟩)
      | (refine wpList_store_row rfl 38 _ _ rfl (w.heap.size + 1) pk0 rfl rfl 38 pk0 HD.out sizePk rfl pk0_one ?_))
    refine bodyPost_ret (results_cell_tmp_row rfl _ _ (w.heap.size + 1) 38 pk0 (0, 0) _ rfl (setRow_heap _ _ _ _ _ _ HD.out) Tryz.underlying38 rfl sizePk) rfl ?_
    exact ⟨by rw [HR.out]; rfl, below_setR HB0.out (by omega) _⟩
  · rw [if_neg h8] at hR
    have HR := Lib.hid hR
    have hb : (decide (f < 8) && decide (t < 8)) = true := by
      have h1 : decide (f < 8) = true := by simp; omega
      have h2 : decide (t < 8) = true := by simp; omega
      rw [h1, h2]; rfl
    rw [hb] at HA
    obtain ⟨p, cap, rfl⟩ := segs_slice hv
    obtain ⟨w3, hw3⟩ : ∃ w3, w3 = ((w.alloc (.cells (wrV f t n (.slice p l.length cap)) 41)).alloc (.cells pk0 38)).alloc (.cells (pkV ⟨f, t, n, false, .zero⟩) 38) := ⟨_, rfl⟩
    have hs3 : w3.heap.size = w.heap.size + 1 + 1 + 1 := by rw [hw3]; simp only [size_a]
    have hb3 : Below w.heap.size w w3 := by rw [hw3]; exact (((Below.refl _ _).alloc (Nat.le_refl _) _).alloc (by simp only [size_a]; omega) _).alloc (by simp only [size_a]; omega) _
    have hd3 : w3.heap[w.heap.size + 1]? = some (.cells pk0 38 (0, 0)) := by rw [hw3]; exact heap_past _ _ _ (by simp only [size_a]; omega) (heap_new _ _ _ (by simp only [size_a]))
    have hm3 : MsgAt w3 (w.heap.size + 1 + 1) 38 (preV f t false n) .zero := by rw [hw3]; exact heap_new _ _ _ (by simp only [size_a])
    have hx3 : w3.heap[w.heap.size]? = some (.cells (wrV f t n (.slice p l.length cap)) 41 (0, 0)) := by rw [hw3]; exact heap_past _ _ _ (by simp only [size_a]; omega) (heap_past _ _ _ (by simp only [size_a]; omega) (heap_new _ _ _ rfl))
    have hcap : l.length ≤ cap := by
      obtain ⟨xs, ⟨p', c', e, h, _⟩, _⟩ := hv
      simp only [Value.slice.injEq] at e
      obtain ⟨_, _, rfl⟩ := e
      exact h
    have hsg : SgsIn w3 (w.heap.size + 1 + 1) l (.slice p l.length cap) := ⟨hv.kept (fun j hj => ⟨by omega, hb3.block j hj⟩), hln, hel, hsz⟩
    have HRD := Lib.hid (read_any l p cap (w.heap.size + 1 + 1) f t n B w3 hm3 hsg hcap (he.on (hb3.mono hB)) (by omega) (by omega))
    have HD3 := Lib.hid hd3
    have HB3 := Lib.hid hb3
    have HS3 := Lib.hid hs3
    have c3 : w3.cell? ⟨w.heap.size, 3, none⟩ = some (.slice p l.length cap) := cell_of_arr hx3 3
    clear hf ht hv hln hel hsz he hB h8 hb hR hs3 hb3 hd3 hm3 hx3 hcap hsg
    go_enter Tryz.func16, Tryz.ntmps16
    go_upto_region 4 with (go_at_call 23; refine (HA.out _).mono ?_; rintro e w2 ⟨rfl, rfl⟩)
    have hw3' : ((w.alloc (.cells (wrV f t n (.slice p l.length cap)) 41)).alloc (.cells pk0 38)).alloc (.cells #[.int .u8 (f : Int), .int .u8 (t : Int), .bool false, .int .u64 (n : Int), .int .u8 0, .int .u8 0, .int .u64 0, .int .u8 0, .int .u8 0, .int .u16 0, .int .u32 0, .int .i64 0, .int .u8 0, .int .u32 0, .int .i64 0, .int .i64 0] 38) = w3 := hw3.symm
    rw [hw3']
    clear hw3 hw3'
    obtain ⟨E, hE⟩ : ∃ E : Int, E = ((rdL l).2 : Int) := ⟨_, rfl⟩
    have HRE := Lib.hid (HRD.out.mono (R' := fun e w' => e = .returned (.int .i64 E) ∧ w3.grownBy w' (some (w.heap.size + 1 + 1)) ∧ ∀ a m, (rdL l).1 = some (a, m) → MsgAt w' (w.heap.size + 1 + 1) 38 (preV f t a n) m) (fun e w' ⟨h1, h2, h3⟩ => ⟨by rw [h2, hE], h1, h3⟩))
    clear HRD
    rcases hq : rdL l with ⟨_ | ⟨a, m⟩, e⟩
    · have hne := rd_ne hq
      have HR1 := Lib.hid (show R = (.zero, e) by rw [HR.out, hq])
      rw [hq] at hE
      have HEE := Lib.hid hE
      have hE0 : ¬ E = 0 := by rw [hE]; simp only; omega
      clear hq hne hE
      go_wp2_with (first
        | (go_at_call 30; refine (HRE.out).mono ?_; rintro e w4 ⟨rfl, hg4, _⟩
           have HG4 := Lib.hid hg4
           have HD4 := Lib.hid ((hg4.block _ (lt_of_heap HD3.out) (by simp)).trans HD3.out)
           clear hg4)
        | (refine wpList_store_row rfl 38 _ _ rfl (w.heap.size + 1) pk0 rfl rfl 38 pk0 HD4.out sizePk rfl pk0_one ?_))
      refine bodyPost_ret (results_cell_tmp_row rfl _ _ (w.heap.size + 1) 38 pk0 (0, 0) _ rfl (setRow_heap _ _ _ _ _ _ HD4.out) Tryz.underlying38 rfl sizePk) rfl ?_
      exact ⟨by rw [HR1.out]; show _ = Ending.returned (.tuple #[.agg pk0, .int .i64 (e : Int)]); rw [← show E = (e : Int) from HEE.out]; rfl, below_setR (HB3.out.grown HG4.out HB3.out.size (fun k hk => by cases hk; omega)) (by omega) _⟩
    · have he0 := rd_zero hq
      subst he0
      have HR1 := Lib.hid (show R = (⟨f, t, n, a, m⟩, 0) by rw [HR.out, hq])
      rw [hq] at hE HRE
      obtain rfl : E = 0 := by rw [hE]; rfl
      clear hq hE
      go_wp2_with (first
        | (go_at_call 30; refine (HRE.out).mono ?_; rintro e w4 ⟨rfl, hg4, hm4⟩
           have HG4 := Lib.hid hg4
           have HM4 := Lib.hid (show w4.heap[w.heap.size + 1 + 1]? = some (.cells (pkV ⟨f, t, n, a, m⟩) 38 (0, 0)) from hm4 a m rfl)
           have HD4 := Lib.hid ((hg4.block _ (lt_of_heap HD3.out) (by simp)).trans HD3.out)
           clear hg4 hm4)
        | (refine wpList_load_row rfl 38 _ rfl (w.heap.size + 1 + 1) rfl 38 (pkV ⟨f, t, n, a, m⟩) (0, 0) _ HM4.out Tryz.underlying38 rfl sizePk ?_)
        | (refine wpList_store_row rfl 38 _ _ rfl (w.heap.size + 1) (pkV ⟨f, t, n, a, m⟩) rfl rfl 38 pk0 HD4.out sizePk rfl (pkv_one _) ?_))
      refine bodyPost_ret (results_cell_tmp_row rfl _ _ (w.heap.size + 1) 38 (pkV ⟨f, t, n, a, m⟩) (0, 0) _ rfl (setRow_heap _ _ _ _ _ _ HD4.out) Tryz.underlying38 rfl sizePk) rfl ?_
      exact ⟨by rw [HR1.out]; rfl, below_setR (HB3.out.grown HG4.out HB3.out.size (fun k hk => by cases hk; omega)) (by omega) _⟩
end Go.Proofs.YtjlifjgljejabaaGreatDoor
/- Messages and packets are compared cell by cell. -/
namespace Go.Proofs.YtjlifjgljejabaaGreatDoor
open Go.RowKit Go.Edi Go.Wrap Go.Lib

theorem Pk.ext' {a b : Pk} (h1 : a.from_ = b.from_) (h2 : a.to_ = b.to_) (h3 : a.num = b.num) (h4 : a.ack = b.ack) (h5 : a.m = b.m) : a = b := by
  obtain ⟨a1, a2, a3, a4, a5⟩ := a
  obtain ⟨b1, b2, b3, b4, b5⟩ := b
  simp only at *
  subst h1 h2 h3 h4 h5
  rfl
instance : DecidableEq Pk := fun a b =>
  if h : a.from_ = b.from_ ∧ a.to_ = b.to_ ∧ a.num = b.num ∧ a.ack = b.ack ∧ a.m = b.m then .isTrue (Pk.ext' h.1 h.2.1 h.2.2.1 h.2.2.2.1 h.2.2.2.2)
  else .isFalse (fun e => h (by subst e; exact ⟨rfl, rfl, rfl, rfl, rfl⟩))
theorem eql_ms (a m : Ms) (w : World) : (binOp .eql 36 (.agg ((msV a).toArray)) (.agg ((msV m).toArray))).run Tryz.prog w = .ok (.bool (decide (a = m))) w := by
  have hS : Tryz.prog.underlying 36 = some (.struct (Tryz.prog.fieldsOf 36)) := by kernel_rfl
  have hp : Tryz.prog.stoodInHeld 36 = false := by kernel_rfl
  rw [run_eql_struct, show (10000 : Nat) = 9999 + 1 from rfl, run_equalIn_agg w 9999 36 _ _ hS hp]
  simp only [Program.fieldsOf, Tryz.underlying36, msV]
  by_cases e : a = m
  · subst e
    go_simp
    try simp
  · have hd : decide (a = m) = false := decide_eq_false e
    rw [hd]
    clear hd hS hp
    go_simp
    intros
    try intro _
    try exfalso
    apply e
    apply Ms.ext' <;> first | assumption | omega
theorem eql_pk (a m : Pk) (w : World) : (binOp .eql 38 (.agg (pkV a)) (.agg (pkV m))).run Tryz.prog w = .ok (.bool (decide (a = m))) w := by
  have hS : Tryz.prog.underlying 38 = some (.struct (Tryz.prog.fieldsOf 38)) := by kernel_rfl
  have hp : Tryz.prog.stoodInHeld 38 = false := by kernel_rfl
  rw [run_eql_struct, show (10000 : Nat) = 9999 + 1 from rfl, run_equalIn_agg w 9999 38 _ _ hS hp]
  simp only [Program.fieldsOf, Tryz.underlying38, pkV, msV, List.cons_append, List.nil_append]
  by_cases e : a = m
  · subst e
    go_simp
    try simp
  · have hd : decide (a = m) = false := decide_eq_false e
    rw [hd]
    clear hd hS hp
    go_simp
    intros
    try intro _
    try exfalso
    apply e
    refine Pk.ext' (by omega) (by omega) (by omega) (by first | assumption | simp_all) (Ms.ext' ?_ ?_ ?_ ?_ ?_ ?_ ?_ ?_ ?_ ?_ ?_ ?_) <;> first | assumption | omega
theorem neq_ms (a m : Ms) (w : World) : (binOp .neq 36 (.agg ((msV a).toArray)) (.agg ((msV m).toArray))).run Tryz.prog w = .ok (.bool (!decide (a = m))) w := by
  have hS : Tryz.prog.underlying 36 = some (.struct (Tryz.prog.fieldsOf 36)) := by kernel_rfl
  have hp : Tryz.prog.stoodInHeld 36 = false := by kernel_rfl
  rw [run_neq_struct, show (10000 : Nat) = 9999 + 1 from rfl, run_equalIn_agg w 9999 36 _ _ hS hp]
  simp only [Program.fieldsOf, Tryz.underlying36, msV]
  by_cases e : a = m
  · subst e
    go_simp
    try simp
  · have hd : decide (a = m) = false := decide_eq_false e
    rw [hd]
    clear hd hS hp
    go_simp
    intros
    try intro _
    try exfalso
    apply e
    apply Ms.ext' <;> first | assumption | omega
theorem neq_pk (a m : Pk) (w : World) : (binOp .neq 38 (.agg (pkV a)) (.agg (pkV m))).run Tryz.prog w = .ok (.bool (!decide (a = m))) w := by
  have hS : Tryz.prog.underlying 38 = some (.struct (Tryz.prog.fieldsOf 38)) := by kernel_rfl
  have hp : Tryz.prog.stoodInHeld 38 = false := by kernel_rfl
  rw [run_neq_struct, show (10000 : Nat) = 9999 + 1 from rfl, run_equalIn_agg w 9999 38 _ _ hS hp]
  simp only [Program.fieldsOf, Tryz.underlying38, pkV, msV, List.cons_append, List.nil_append]
  by_cases e : a = m
  · subst e
    go_simp
    try simp
  · have hd : decide (a = m) = false := decide_eq_false e
    rw [hd]
    clear hd hS hp
    go_simp
    intros
    try intro _
    try exfalso
    apply e
    refine Pk.ext' (by omega) (by omega) (by omega) (by first | assumption | simp_all) (Ms.ext' ?_ ?_ ?_ ?_ ?_ ?_ ?_ ?_ ?_ ?_ ?_ ?_) <;> first | assumption | omega
end Go.Proofs.YtjlifjgljejabaaGreatDoor
namespace Go.Proofs.YtjlifjgljejabaaGreatDoor
open Go.RowKit Go.Edi Go.Wrap Go.Lib

theorem tell_enter (f : Fd) : ∀ args w, (callFunc (tellFn f) args).run Tryz.prog w = .ok (.enter (tellFn f) args) w := by
  cases f
  · exact enters_of Tryz.func96 (by kernel_rfl) rfl
  · exact enters_of Tryz.func102 (by kernel_rfl) rfl
  · exact enters_of Tryz.func104 (by kernel_rfl) rfl
theorem tell_any (m : Ms) (f : Fd) (w : World) (hm : m.Ty) : Calls Tryz.prog (tellFn f) #[.agg (msV m).toArray] w (TellP m f w) := by
  cases f
  · exact tell_cpn m w hm
  · exact tell_amt m w
  · exact tell_cod m w hm
theorem sizeMs : (Tryz.prog.info? 36).map (·.size) = some 12 := by kernel_rfl
def MayP (o : Bool) (w : World) (e : Ending) (w' : World) : Prop := e = .returned (.bool o) ∧ Below w.heap.size w w'
theorem may_at {m : Ms} {fds : List Fd} (h : ¬ m.at_ < 4) : mayL m fds = false := by
  unfold mayL
  have : decide (m.at_ < 4) = false := decide_eq_false h
  rw [this, Bool.false_and]
theorem may_reb {m : Ms} {fds : List Fd} (h : m.at_ < 4) : mayL m fds = match rebL m (bareL m) fds with | some a => decide (a = m) | none => false := by
  unfold mayL
  have : decide (m.at_ < 4) = true := decide_eq_true h
  rw [this, Bool.true_and]
  rfl
/-- a message that is being put together again -/
def begL (m : Ms) : Ms := ⟨m.kind, m.car, m.ser, 0, 0, 0, 0, 0, 0, 0, 0, 0⟩
set_option maxRecDepth 100000 in
set_option maxHeartbeats 3200000 in
theorem mayBe_any (m : Ms) (fds : List Fd) (vf : Value) (w : World) (hm : m.Ty) (hf : FldsF w (· < w.heap.size) vf fds) (hfl : fds.length ≤ 10) :
    Calls Tryz.prog 50 #[.agg (msV m).toArray, vf] w (MayP (mayL m fds) w) := by
  obtain ⟨pf, cf, rfl, hcf, hpf⟩ := hf
  have lF : (fds.length : Int) ≤ 10 := by omega
  obtain ⟨R, hR⟩ : ∃ R, R = mayL m fds := ⟨_, rfl⟩
  rw [← hR]
  have HPF := Lib.hid hpf
  have HMT := Lib.hid hm
  have ha0 : (0 : Int) ≤ (m.at_ : Int) := Int.natCast_nonneg _
  have ha1 : (m.at_ : Int) ≤ 255 := by have := hm.at_; omega
  obtain ⟨w1, hw1⟩ : ∃ w1, w1 = (w.alloc (.cells (msV m).toArray 36)).alloc (.cells (msV (begL m)).toArray 36) := ⟨_, rfl⟩
  have hs1 : w1.heap.size = w.heap.size + 1 + 1 := by rw [hw1]; simp only [size_a]
  have hb1 : Below w.heap.size w w1 := by rw [hw1]; exact ((Below.refl _ _).alloc (Nat.le_refl _) _).alloc (by simp only [size_a]; omega) _
  have hM1 : w1.heap[w.heap.size]? = some (.cells (msV m).toArray 36 (0, 0)) := by rw [hw1]; exact heap_past _ _ _ (by simp only [size_a]; omega) (heap_new _ _ _ rfl)
  have hA1 : MsgAt w1 (w.heap.size + 1) 36 [] (begL m) := by rw [hw1]; exact heap_new _ _ _ (by simp only [size_a])
  have HTA := Lib.hid (takeAt_any (m.at_ : Int) (w.heap.size + 1) 36 [] (begL m) w1 hA1)
  have a3 : w1.cell? ⟨w.heap.size, 3, none⟩ = some (.int .u8 (m.at_ : Int)) := cell_of_arr hM1 3
  have HB1 := Lib.hid hb1
  have HM1 := Lib.hid hM1
  have HS1 := Lib.hid hs1
  have hw1' : (w.alloc (.cells #[.int .u8 (m.kind : Int), .int .u8 (m.car : Int), .int .u64 (m.ser : Int), .int .u8 (m.at_ : Int), .int .u8 (m.lc : Int), .int .u16 (m.lf : Int), .int .u32 (m.lw : Int), .int .i64 m.val, .int .u8 (m.st : Int), .int .u32 (m.non : Int), .int .i64 m.am, .int .i64 m.code] 36)).alloc (.cells #[.int .u8 (m.kind : Int), .int .u8 (m.car : Int), .int .u64 (m.ser : Int), .int .u8 0, .int .u8 0, .int .u16 0, .int .u32 0, .int .i64 0, .int .u8 0, .int .u32 0, .int .i64 0, .int .i64 0] 36) = w1 := hw1.symm
  have HW1 := Lib.hid hw1'
  by_cases hat : m.at_ < 4
  · rw [may_reb hat] at hR
    have HR := Lib.hid hR
    have hin : inB (m.at_ : Int) 0 3 = true := (inB_iff _ _ _).2 (by omega)
    rw [hin] at HTA
    clear hpf hm hR hs1 hb1 hM1 hA1 hw1 hw1' hat hin hfl hcf
    simp only [msV, List.length_nil] at *
    go_enter Tryz.func50, Tryz.ntmps50
    go_upto_region 2 with fail
    rw [HW1.out]
    go_wp2_with fail
    refine (HTA.out).mono ?_
    rintro e w2 ⟨rfl, hg2, hm2⟩
    have hm2' : MsgAt w2 (w.heap.size + 1) 36 [] (bareL m) := hm2 (by first | rfl | trivial)
    have HM2 := Lib.hid hm2'
    have HX2 := Lib.hid ((hg2.block w.heap.size (by have := HS1.out; omega) (by simp)).trans HM1.out)
    have HB2 := Lib.hid (HB1.out.grown hg2 HB1.out.size (fun k hk => by cases hk; omega))
    have HS2 := Lib.hid (show w.heap.size + 1 < w2.heap.size from hm2'.lt)
    clear hg2 hm2 hm2' a3
    go_wp2
    go_loopw [7, 23] (fun _ i wr => ∃ (k : Nat) (ak : Ms), i = .int .i64 k ∧ k ≤ fds.length ∧ Hid (MsgAt wr (w.heap.size + 1) 36 [] ak) ∧ Hid (rebL m (bareL m) fds = rebL m ak (fds.drop k)) ∧ Hid (wr.heap[w.heap.size]? = some (.cells (msV m).toArray 36 (0, 0))) ∧ Hid (Below w.heap.size w wr)) (fun _ i _ => fds.length - (intOf i).toNat)
    case atStart => exact ⟨0, bareL m, rfl, Nat.zero_le _, HM2.out, rfl, HX2.out, HB2.out⟩
    case round =>
      obtain ⟨k, ak, rfl, hk, hmk, hrk, hxk, hbk⟩ := hrel
      have HMK := Lib.hid hmk.out
      have HRK := Lib.hid hrk.out
      have HXK := Lib.hid hxk.out
      have HBK := Lib.hid hbk.out
      clear hmk hrk hxk hbk
      by_cases hlt : (k : Int) < (fds.length : Int)
      · have hkl : k < fds.length := by omega
        have hk0 : (0 : Int) ≤ (k : Int) := Int.natCast_nonneg _
        obtain ⟨fb, fo, rfl, hFb, hfc⟩ := HPF.out (by omega)
        have FC : ∀ i u, (fdV fds[k])[i]? = some u → wr.cell? ⟨fb, fo + k * 3 + i, none⟩ = some u := fun i u hu => by
          have h := hfc (k * 3 + i) u (fdv_at hkl hu)
          rw [← Nat.add_assoc] at h
          exact (World.cell?_of_block (a := ⟨fb, fo + k * 3 + i, none⟩) (HBK.out.block fb hFb)).trans h
        have hR2 := HRK.out
        rw [drop_cons hkl, reb_step] at hR2
        obtain ⟨fd, hfd⟩ : ∃ fd, fd = fds[k] := ⟨_, rfl⟩
        rw [← hfd] at FC hR2
        have f0 := FC 0 _ (fdv_0 fd)
        have f1 := FC 1 _ (fdv_1 fd)
        have f2 := FC 2 _ (fdv_2 fd)
        rw [Nat.add_zero] at f0
        have HR2 := Lib.hid hR2
        have hent := take_enter fd
        have hent2 := tell_enter fd
        have HTL := Lib.hid (fun W => tell_any m fd W HMT.out)
        have HTK := Lib.hid (fun v W F (h1 : MsgAt W (w.heap.size + 1) 36 [] ak) (h2 : I64R W F v (tellL m fd)) (h3 : ∀ nb, F nb → nb ≠ w.heap.size + 1) => take_any fd (tellL m fd) (w.heap.size + 1) 36 [] ak F v W h1 h2 h3)
        clear hfc hR2 FC hFb hfd hkl
        generalize takeFn fd = FT at *
        generalize tellFn fd = FG at *
        obtain ⟨tg, htg⟩ : ∃ tg, tg = tagL fd := ⟨_, rfl⟩
        rw [← htg] at f0
        clear htg
        go_upto_region 7 with fail
        obtain ⟨w4, hw4⟩ : ∃ w4, w4 = wr.alloc (.cells #[str tg, .func (.func FG) #[] #[], .func (.func FT) #[] #[]] 112) := ⟨_, rfl⟩
        rw [← hw4]
        have hb4 : Below wr.heap.size wr w4 := by rw [hw4]; exact (Below.refl _ _).alloc (Nat.le_refl _) _
        have hfr : w4.heap[wr.heap.size]? = some (.cells #[str tg, .func (.func FG) #[] #[], .func (.func FT) #[] #[]] 112 (0, 0)) := by rw [hw4]; exact at_last _ _
        have hx4 := (hb4.block w.heap.size (lt_of_heap HXK.out)).trans HXK.out
        have HFR := Lib.hid hfr
        have HB4 := Lib.hid hb4
        have HX4 := Lib.hid hx4
        have HLT := Lib.hid hlt
        clear hw4 hb4 hfr hx4 f0 f1 f2
        refine wp_region_held (S := fun w' => w'.heap[wr.heap.size]? = some (.cells #[str tg, .func (.func FG) #[] #[], .func (.func FT) #[] #[]] 112 (0, 0)) ∧ w'.heap[w.heap.size]? = some (.cells (msV m).toArray 36 (0, 0))) (by kernel_rfl) ?_
        change wpAnyH _ _ _ _ _ _ _ _ (World.drew _)
        have HS4 := Lib.hid (show w4.drew.heap[wr.heap.size]? = some (.cells #[str tg, .func (.func FG) #[] #[], .func (.func FT) #[] #[]] 112 (0, 0)) ∧ w4.drew.heap[w.heap.size]? = some (.cells (msV m).toArray 36 (0, 0)) from ⟨HFR.out, HX4.out⟩)
        refine wpAnyH_take (i := 0) (oi := ⟨some 27, .fieldAddr 112 (.tmp 7) 2, _, _, _, none⟩) (v := .pointer (some ⟨wr.heap.size, 2, none⟩)) rfl (by kernel_rfl) (by kernel_rfl) (by kernel_rfl) (fun _ _ _ h => h) (Or.inl ⟨by rfl, fun w' hS => by go_simp⟩) HS4.out ?_
        simp only [Act.put, List.setIfInBounds_toArray, List.set_cons_zero, List.set_cons_succ]
        refine wpAnyH_take (i := 1) (oi := ⟨some 28, .load 110 (.tmp 27), _, _, _, none⟩) (v := .func (.func FT) #[] #[]) rfl (by kernel_rfl) (by kernel_rfl) (by kernel_rfl) (fun _ _ _ h => h) (Or.inl ⟨by rfl, fun w' hS => by have c := cell_of_arr hS.1 2; go_simp⟩) HS4.out ?_
        simp only [Act.put, List.setIfInBounds_toArray, List.set_cons_zero, List.set_cons_succ]
        refine wpAnyH_take (i := 2) (oi := ⟨some 29, .fieldAddr 112 (.tmp 7) 1, _, _, _, none⟩) (v := .pointer (some ⟨wr.heap.size, 1, none⟩)) rfl (by kernel_rfl) (by kernel_rfl) (by kernel_rfl) (fun _ _ _ h => h) (Or.inl ⟨by rfl, fun w' hS => by go_simp⟩) HS4.out ?_
        simp only [Act.put, List.setIfInBounds_toArray, List.set_cons_zero, List.set_cons_succ]
        refine wpAnyH_take (i := 3) (oi := ⟨some 30, .load 109 (.tmp 29), _, _, _, none⟩) (v := .func (.func FG) #[] #[]) rfl (by kernel_rfl) (by kernel_rfl) (by kernel_rfl) (fun _ _ _ h => h) (Or.inl ⟨by rfl, fun w' hS => by have c := cell_of_arr hS.1 1; go_simp⟩) HS4.out ?_
        simp only [Act.put, List.setIfInBounds_toArray, List.set_cons_zero, List.set_cons_succ]
        refine wpAnyH_take (i := 4) (oi := ⟨some 31, .load 36 (.tmp 2), _, _, _, none⟩) (v := .agg #[.int .u8 (m.kind : Int), .int .u8 (m.car : Int), .int .u64 (m.ser : Int), .int .u8 (m.at_ : Int), .int .u8 (m.lc : Int), .int .u16 (m.lf : Int), .int .u32 (m.lw : Int), .int .i64 m.val, .int .u8 (m.st : Int), .int .u32 (m.non : Int), .int .i64 m.am, .int .i64 m.code]) rfl (by kernel_rfl) (by kernel_rfl) (by kernel_rfl) (fun _ _ _ h => h) (Or.inl ⟨by rfl, fun w' hS => by have c0 := cell_of_arr hS.2 0; have c1 := cell_of_arr hS.2 1; have c2 := cell_of_arr hS.2 2; have c3 := cell_of_arr hS.2 3; have c4 := cell_of_arr hS.2 4; have c5 := cell_of_arr hS.2 5; have c6 := cell_of_arr hS.2 6; have c7 := cell_of_arr hS.2 7; have c8 := cell_of_arr hS.2 8; have c9 := cell_of_arr hS.2 9; have c10 := cell_of_arr hS.2 10; have c11 := cell_of_arr hS.2 11; simp only [msV, List.getElem?_toArray, List.getElem?_cons_zero, List.getElem?_cons_succ] at c0 c1 c2 c3 c4 c5 c6 c7 c8 c9 c10 c11; go_simp⟩) HS4.out ?_
        simp only [Act.put, List.setIfInBounds_toArray, List.set_cons_zero, List.set_cons_succ]
        refine wpAnyH_ready (rs := [5]) (by kernel_rfl) (by simp) (AllReadyH.cons (o := ⟨some 32, .call ⟨.value (.tmp 30), #[.tmp 31], _⟩, _, _, _, none⟩) rfl (fun K hK => ?_) AllReadyH.nil)
        go_simp
        refine (HTL.out _).mono ?_
        rintro e w5 ⟨v, Fv, rfl, hrow, hfv, hb5⟩
        have hmk5 : MsgAt w5 (w.heap.size + 1) 36 [] ak := (hb5.block _ (show w.heap.size + 1 < w4.drew.heap.size from Nat.lt_of_lt_of_le HMK.out.lt HB4.out.size)).trans ((HB4.out.block _ HMK.out.lt).trans HMK.out)
        have HT5 := Lib.hid (HTK.out v w5 Fv hmk5 hrow (fun nb hnb e => by have h1 := (hfv nb hnb).1; have h2 : w.heap.size + 1 < w4.drew.heap.size := Nat.lt_of_lt_of_le HMK.out.lt HB4.out.size; omega))
        have HB5 := Lib.hid (show Below w.heap.size w w5 from (HBK.out.trans (HB4.out.mono HBK.out.size)).trans ((show Below w4.heap.size w4 w5 from (Below.refl _ _).drew.trans hb5).mono (Nat.le_trans HBK.out.size HB4.out.size)))
        have HS5 := Lib.hid (show w5.heap[wr.heap.size]? = some (.cells #[str tg, .func (.func FG) #[] #[], .func (.func FT) #[] #[]] 112 (0, 0)) ∧ w5.heap[w.heap.size]? = some (.cells (msV m).toArray 36 (0, 0)) from ⟨(hb5.block _ (show wr.heap.size < w4.drew.heap.size from lt_of_heap HFR.out)).trans HS4.out.1, (hb5.block _ (show w.heap.size < w4.drew.heap.size from lt_of_heap HX4.out)).trans HS4.out.2⟩)
        clear hrow hfv hb5 hmk5
        refine hK.out _ _ HS5.out (fun _ => ?_)
        clear hK K
        cases htk : takeL ak fd (tellL m fd) with
        | some a2 =>
          have HT6 := Lib.hid (HT5.out.mono (R' := fun e w' => e = .returned (.bool true) ∧ w5.grownBy w' (some (w.heap.size + 1)) ∧ MsgAt w' (w.heap.size + 1) 36 [] a2) (fun e w' ⟨h1, h2, h3⟩ => ⟨by rw [h1, htk]; rfl, h2, h3 a2 htk⟩))
          refine wpAnyH_ready (rs := [6]) (by kernel_rfl) (by simp) (AllReadyH.cons (o := ⟨some 33, .call ⟨.value (.tmp 28), #[.tmp 5, .tmp 32], _⟩, _, _, _, none⟩) rfl (fun K hK => ?_) AllReadyH.nil)
          go_simp
          refine (HT6.out).mono ?_
          rintro e w6 ⟨rfl, hg6, hm6⟩
          have HG6 := Lib.hid hg6
          have HM6 := Lib.hid hm6
          have HS6 := Lib.hid (show w6.heap[wr.heap.size]? = some (.cells #[str tg, .func (.func FG) #[] #[], .func (.func FT) #[] #[]] 112 (0, 0)) ∧ w6.heap[w.heap.size]? = some (.cells (msV m).toArray 36 (0, 0)) from ⟨(hg6.block _ (lt_of_heap HS5.out.1) (fun e => by
            have h1 : wr.heap.size = w.heap.size + 1 := by simpa using e
            have := HMK.out.lt
            omega)).trans HS5.out.1, (hg6.block _ (lt_of_heap HS5.out.2) (by simp)).trans HS5.out.2⟩)
          clear hg6 hm6
          refine hK.out _ _ HS6.out (fun _ => ?_)
          clear hK K
          refine wpAnyH_take (i := 7) (oi := ⟨some 34, .unOp .not 4 (.tmp 33), _, _, _, none⟩) (v := .bool false) rfl (by kernel_rfl) (by kernel_rfl) (by kernel_rfl) (fun _ _ _ h => h) (Or.inl ⟨by rfl, fun w' hS => by go_simp⟩) HS6.out ?_
          simp only [Act.put, List.setIfInBounds_toArray, List.set_cons_zero, List.set_cons_succ]
          refine wpAnyH_done (by kernel_rfl) ?_ _
          have hR3 := HR2.out
          rw [htk] at hR3
          simp only at hR3
          have HR3 := Lib.hid hR3
          have HB6 := Lib.hid (HB5.out.grown HG6.out HB5.out.size (fun k hk => by cases hk; omega))
          clear hR3 htk HT5 HT6
          go_wp2
          go_roundw
          case rel => exact ⟨k + 1, a2, by go_num, by have := HLT.out; omega, HM6.out, HR3.out, HS6.out.2, HB6.out⟩
          case measure => simp [intOf]; have := HLT.out; omega
        | none =>
          have HT6 := Lib.hid (HT5.out.mono (R' := fun e w' => e = .returned (.bool false) ∧ w5.grownBy w' (some (w.heap.size + 1))) (fun e w' ⟨h1, h2, h3⟩ => ⟨by rw [h1, htk]; rfl, h2⟩))
          refine wpAnyH_ready (rs := [6]) (by kernel_rfl) (by simp) (AllReadyH.cons (o := ⟨some 33, .call ⟨.value (.tmp 28), #[.tmp 5, .tmp 32], _⟩, _, _, _, none⟩) rfl (fun K hK => ?_) AllReadyH.nil)
          go_simp
          refine (HT6.out).mono ?_
          rintro e w6 ⟨rfl, hg6⟩
          have HG6 := Lib.hid hg6
          have HS6 := Lib.hid (show w6.heap[wr.heap.size]? = some (.cells #[str tg, .func (.func FG) #[] #[], .func (.func FT) #[] #[]] 112 (0, 0)) ∧ w6.heap[w.heap.size]? = some (.cells (msV m).toArray 36 (0, 0)) from ⟨(hg6.block _ (lt_of_heap HS5.out.1) (fun e => by
            have h1 : wr.heap.size = w.heap.size + 1 := by simpa using e
            have := HMK.out.lt
            omega)).trans HS5.out.1, (hg6.block _ (lt_of_heap HS5.out.2) (by simp)).trans HS5.out.2⟩)
          clear hg6
          refine hK.out _ _ HS6.out (fun _ => ?_)
          clear hK K
          refine wpAnyH_take (i := 7) (oi := ⟨some 34, .unOp .not 4 (.tmp 33), _, _, _, none⟩) (v := .bool true) rfl (by kernel_rfl) (by kernel_rfl) (by kernel_rfl) (fun _ _ _ h => h) (Or.inl ⟨by rfl, fun w' hS => by go_simp⟩) HS6.out ?_
          simp only [Act.put, List.setIfInBounds_toArray, List.set_cons_zero, List.set_cons_succ]
          refine wpAnyH_done (by kernel_rfl) ?_ _
          have hR3 := HR2.out
          rw [htk] at hR3
          simp only at hR3
          have HR3 := Lib.hid hR3
          have HB6 := Lib.hid (HB5.out.grown HG6.out HB5.out.size (fun k hk => by cases hk; omega))
          clear hR3 htk HT5 HT6
          go_wp2
          go_ret
          exact ⟨by rw [HR.out, HR3.out]; rfl, HB6.out⟩
      · obtain rfl : k = fds.length := by omega
        have hR2 := HRK.out
        rw [List.drop_length, reb_nil] at hR2
        have HR2 := Lib.hid hR2
        have heq := eql_ms ak m
        have HAK := Lib.hid (show wr.heap[w.heap.size + 1]? = some (.cells (msV ak).toArray 36 (0, 0)) from HMK.out)
        clear hR2
        go_wp2_with (first
          | (refine wpList_load_row rfl 36 _ rfl (w.heap.size + 1) rfl 36 (msV ak).toArray (0, 0) _ HAK.out Tryz.underlying36 rfl sizeMs ?_)
          | (refine wpList_load_row rfl 36 _ rfl w.heap.size rfl 36 (msV m).toArray (0, 0) _ HXK.out Tryz.underlying36 rfl sizeMs ?_))
        go_ret
        exact ⟨by rw [HR.out, HR2.out]; rfl, HBK.out⟩
  · have hRf : R = false := by rw [hR, may_at hat]
    have HR := Lib.hid hRf
    have hin : inB (m.at_ : Int) 0 3 = false := by
      cases hq : inB (m.at_ : Int) 0 3 with
      | false => rfl
      | true => exact absurd ((inB_iff _ _ _).1 hq) (by omega)
    rw [hin] at HTA
    clear hpf hm hR hs1 hb1 hM1 hA1 hw1 hw1' hat hin hfl hcf hRf
    simp only [msV, List.length_nil] at *
    go_enter Tryz.func50, Tryz.ntmps50
    go_upto_region 2 with fail
    rw [HW1.out]
    go_wp2_with fail
    refine (HTA.out).mono ?_
    rintro e w2 ⟨rfl, hg2, _⟩
    have HB2 := Lib.hid (HB1.out.grown hg2 HB1.out.size (fun k hk => by cases hk; omega))
    clear hg2
    go_wp2
    go_ret
    exact ⟨by rw [HR.out]; rfl, HB2.out⟩
end Go.Proofs.YtjlifjgljejabaaGreatDoor
