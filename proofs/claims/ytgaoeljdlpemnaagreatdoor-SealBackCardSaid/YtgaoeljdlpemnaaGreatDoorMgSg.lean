/- Contracts: texts of numbers, segments of texts; the texts and the numbers that a segment tells. -/
import Derived.Test.YtgaoeljdlpemnaaGreatDoorMgTk
import Derived.Lib.LazyBuf
/- Contracts: the numbers that a message's fields tell; the fields. -/
namespace Go.Proofs.YtgaoeljdlpemnaaGreatDoor
open Go.RowKit Go.Edi Go.Wrap Go.Lib

abbrev I64R (w : World) (F : Nat → Prop) (v : Value) (ns : List Int) : Prop := RowF w F v ns.length (ns.map fun n => Value.int .i64 n)
def TellP (m : Ms) (f : Fd) (w : World) (e : Ending) (w' : World) : Prop :=
  ∃ v F, e = .returned v ∧ I64R w' F v (tellL m f) ∧ (∀ b, F b → w.heap.size ≤ b ∧ b < w'.heap.size) ∧ Below w.heap.size w w'
theorem i64_row {w : World} (b : Nat) (ns : List Int) (A : Array Value) (ty : TypeId) (c : Nat) (hA : A = (ns.map fun n => Value.int .i64 n).toArray) (hc : ns.length ≤ c) (h : w.heap[b]? = some (.cells A ty (0, 0))) : I64R w (· = b) (.slice (some ⟨b, 0, none⟩) ns.length c) ns :=
  ⟨_, _, rfl, hc, fun _ => ⟨b, 0, rfl, rfl, fun j u hu => by rw [Nat.zero_add, cell_of_arr h j, hA]; simpa using hu⟩⟩
set_option maxRecDepth 100000 in
theorem tell_cpn (m : Ms) (w : World) (hm : m.Ty) : Calls Tryz.prog 110 #[.agg (msV m).toArray] w (TellP m .cpn w) := by
  have h1 := hm.lc; have h2 := hm.lf; have h3 := hm.lw; have h4 := hm.st; have h5 := hm.non
  have g1 : (0 : Int) ≤ (m.lc : Int) := Int.natCast_nonneg _
  have g2 : (0 : Int) ≤ (m.lf : Int) := Int.natCast_nonneg _
  have g3 : (0 : Int) ≤ (m.lw : Int) := Int.natCast_nonneg _
  have g4 : (0 : Int) ≤ (m.st : Int) := Int.natCast_nonneg _
  have g5 : (0 : Int) ≤ (m.non : Int) := Int.natCast_nonneg _
  clear hm
  unfold msV
  go_enter Tryz.func110, Tryz.ntmps110
  go_wp2
  go_ret
  refine ⟨_, _, rfl, i64_row _ (tellL m .cpn) _ 2 6 rfl (Nat.le_refl _) (heap_new _ _ _ (by simp only [size_a])), ?_, (((Below.refl _ _).alloc (Nat.le_refl _) _).alloc (by simp only [size_a]; omega) _).alloc (by simp only [size_a]; omega) _⟩
  rintro b rfl
  simp only [size_a]
  omega
set_option maxRecDepth 100000 in
theorem tell_amt (m : Ms) (w : World) : Calls Tryz.prog 116 #[.agg (msV m).toArray] w (TellP m .amt w) := by
  unfold msV
  go_enter Tryz.func116, Tryz.ntmps116
  go_wp2
  go_ret
  refine ⟨_, _, rfl, i64_row _ (tellL m .amt) _ 2 1 rfl (Nat.le_refl _) (heap_new _ _ _ (by simp only [size_a])), ?_, ((Below.refl _ _).alloc (Nat.le_refl _) _).alloc (by simp only [size_a]; omega) _⟩
  rintro b rfl
  simp only [size_a]
  omega
set_option maxRecDepth 100000 in
theorem tell_cod (m : Ms) (w : World) (hm : m.Ty) : Calls Tryz.prog 118 #[.agg (msV m).toArray] w (TellP m .cod w) := by
  have h1 := hm.code.1
  have h2 := hm.code.2
  clear hm
  unfold msV
  go_enter Tryz.func118, Tryz.ntmps118
  go_wp2
  go_ret
  refine ⟨_, _, rfl, i64_row _ (tellL m .cod) _ 2 1 rfl (Nat.le_refl _) (heap_new _ _ _ (by simp only [size_a])), ?_, ((Below.refl _ _).alloc (Nat.le_refl _) _).alloc (by simp only [size_a]; omega) _⟩
  rintro b rfl
  simp only [size_a]
  omega
def fdV : Fd → List Value
  | .cpn => [str [67, 80, 78], .func (.func 110) #[] #[], .func (.func 111) #[] #[]]
  | .amt => [str [65, 77, 84], .func (.func 116) #[] #[], .func (.func 117) #[] #[]]
  | .cod => [str [67, 79, 68], .func (.func 118) #[] #[], .func (.func 119) #[] #[]]
theorem sizeField : (Tryz.prog.info? 153).map (·.size) = some 3 := by kernel_rfl
set_option maxRecDepth 100000 in
theorem fld_cpn (w : World) : Calls Tryz.prog 90 #[] w fun e w' => e = .returned (.agg #[str [67, 80, 78], .func (.func 110) #[] #[], .func (.func 111) #[] #[]]) ∧ Below w.heap.size w w' := by
  go_enter Tryz.func90, Tryz.ntmps90
  go_wp2
  refine bodyPost_ret (results_cell_row rfl _ _ w.heap.size 153 (fdV .cpn).toArray (0, 0) _ rfl (at_last _ _) Tryz.underlying153 rfl sizeField) rfl ?_
  exact ⟨rfl, (Below.refl _ _).alloc (Nat.le_refl _) _⟩
set_option maxRecDepth 100000 in
theorem fld_amt (w : World) : Calls Tryz.prog 91 #[] w fun e w' => e = .returned (.agg #[str [65, 77, 84], .func (.func 116) #[] #[], .func (.func 117) #[] #[]]) ∧ Below w.heap.size w w' := by
  go_enter Tryz.func91, Tryz.ntmps91
  go_wp2
  refine bodyPost_ret (results_cell_row rfl _ _ w.heap.size 153 (fdV .amt).toArray (0, 0) _ rfl (at_last _ _) Tryz.underlying153 rfl sizeField) rfl ?_
  exact ⟨rfl, (Below.refl _ _).alloc (Nat.le_refl _) _⟩
set_option maxRecDepth 100000 in
theorem fld_cod (w : World) : Calls Tryz.prog 92 #[] w fun e w' => e = .returned (.agg #[str [67, 79, 68], .func (.func 118) #[] #[], .func (.func 119) #[] #[]]) ∧ Below w.heap.size w w' := by
  go_enter Tryz.func92, Tryz.ntmps92
  go_wp2
  refine bodyPost_ret (results_cell_row rfl _ _ w.heap.size 153 (fdV .cod).toArray (0, 0) _ rfl (at_last _ _) Tryz.underlying153 rfl sizeField) rfl ?_
  exact ⟨rfl, (Below.refl _ _).alloc (Nat.le_refl _) _⟩
end Go.Proofs.YtgaoeljdlpemnaaGreatDoor
/- Contracts: what a field's numbers are taken into, of whatever numbers; a coupon's place. -/
namespace Go.Proofs.YtgaoeljdlpemnaaGreatDoor
open Go.RowKit Go.Edi Go.Wrap Go.Lib

set_option maxRecDepth 100000 in
theorem take_cpn_len (b o : Nat) (p : Option Addr) (n nc : Nat) (w : World) (h : ((n : Int) == 6) = false) :
    Calls Tryz.prog 111 #[.pointer (some ⟨b, o, none⟩), .slice p n nc] w fun e w' => e = .returned (.bool false) ∧ w.grownBy w' (some b) := by
  have HG0 := Lib.hid (grown_drew w (some b))
  have HS0 := Lib.hid True.intro
  go_enter Tryz.func111, Tryz.ntmps111
  go_wp2
  refine wp_region_held (S := fun _ => True) (by kernel_rfl) ?_
  change wpAnyH _ _ _ _ _ _ _ _ (World.drew _)
  refine tkH (i := 0) (oi := ⟨some 9, .move (.tmp 1), _, _, _, none⟩) (v := .slice (p) n nc) rfl qs HS0.out ?_
  simp only [Act.put, zs1, zs2, zs3]
  refine tkH (i := 1) (oi := ⟨some 10, .call ⟨.builtin .len, #[.tmp 9], _⟩, _, _, _, none⟩) (v := .int .i64 n) rfl qs HS0.out ?_
  simp only [Act.put, zs1, zs2, zs3]
  refine tkH (i := 2) (oi := ⟨some 11, .binOp .eql 3 (.tmp 10) (.const (.int .i64 6)) 3, _, _, _, none⟩) (v := .bool false) rfl qs HS0.out ?_
  simp only [Act.put, zs1, zs2, zs3]
  refine tkH (i := 3) (oi := ⟨some 12, .move (.tmp 11), _, _, _, none⟩) (v := .bool false) rfl qs HS0.out ?_
  simp only [Act.put, zs1, zs2, zs3]
  refine tkH (i := 4) (oi := ⟨some 13, .move (.tmp 5), _, _, _, some (3, true)⟩) (v := undef) rfl sko HS0.out ?_
  simp only [Act.put, zs1, zs2, zs3]
  refine tkH (i := 5) (oi := ⟨some 14, .nilCheck (.tmp 13), _, _, _, some (3, true)⟩) (v := undef) rfl sko HS0.out ?_
  simp only [Act.put, zs1, zs2, zs3]
  refine tkH (i := 6) (oi := ⟨some 15, .fieldAddr 33 (.tmp 14) 0, _, _, _, some (3, true)⟩) (v := undef) rfl sko HS0.out ?_
  simp only [Act.put, zs1, zs2, zs3]
  refine tkH (i := 7) (oi := ⟨some 16, .fieldAddr 30 (.tmp 15) 0, _, _, _, some (3, true)⟩) (v := undef) rfl sko HS0.out ?_
  simp only [Act.put, zs1, zs2, zs3]
  refine tkH (i := 8) (oi := ⟨some 17, .move (.tmp 1), _, _, _, some (3, true)⟩) (v := undef) rfl sko HS0.out ?_
  simp only [Act.put, zs1, zs2, zs3]
  refine tkH (i := 9) (oi := ⟨some 18, .indexAddr 155 (.tmp 17) (.const (.int .i64 0)), _, _, _, some (3, true)⟩) (v := undef) rfl sko HS0.out ?_
  simp only [Act.put, zs1, zs2, zs3]
  refine tkH (i := 10) (oi := ⟨some 19, .load 2 (.tmp 18), _, _, _, some (3, true)⟩) (v := undef) rfl sko HS0.out ?_
  simp only [Act.put, zs1, zs2, zs3]
  refine tkH (i := 11) (oi := ⟨some 20, .call ⟨.value (.func 106), #[.tmp 16, .tmp 19, .const (.int .i64 0), .const (.int .i64 7)], _⟩, _, _, _, some (3, true)⟩) (v := undef) rfl sko HS0.out ?_
  simp only [Act.put, zs1, zs2, zs3]
  refine tkH (i := 12) (oi := ⟨some 21, .pick (.tmp 12) (.tmp 20) (.const (.bool false)), _, _, _, none⟩) (v := .bool false) rfl qs HS0.out ?_
  simp only [Act.put, zs1, zs2, zs3]
  refine tkH (i := 13) (oi := ⟨some 22, .move (.tmp 21), _, _, _, none⟩) (v := .bool false) rfl qs HS0.out ?_
  simp only [Act.put, zs1, zs2, zs3]
  refine tkH (i := 14) (oi := ⟨some 23, .move (.tmp 5), _, _, _, some (13, true)⟩) (v := undef) rfl sko HS0.out ?_
  simp only [Act.put, zs1, zs2, zs3]
  refine tkH (i := 15) (oi := ⟨some 24, .nilCheck (.tmp 23), _, _, _, some (13, true)⟩) (v := undef) rfl sko HS0.out ?_
  simp only [Act.put, zs1, zs2, zs3]
  refine tkH (i := 16) (oi := ⟨some 25, .fieldAddr 33 (.tmp 24) 0, _, _, _, some (13, true)⟩) (v := undef) rfl sko HS0.out ?_
  simp only [Act.put, zs1, zs2, zs3]
  refine tkH (i := 17) (oi := ⟨some 26, .fieldAddr 30 (.tmp 25) 1, _, _, _, some (13, true)⟩) (v := undef) rfl sko HS0.out ?_
  simp only [Act.put, zs1, zs2, zs3]
  refine tkH (i := 18) (oi := ⟨some 27, .move (.tmp 1), _, _, _, some (13, true)⟩) (v := undef) rfl sko HS0.out ?_
  simp only [Act.put, zs1, zs2, zs3]
  refine tkH (i := 19) (oi := ⟨some 28, .indexAddr 155 (.tmp 27) (.const (.int .i64 1)), _, _, _, some (13, true)⟩) (v := undef) rfl sko HS0.out ?_
  simp only [Act.put, zs1, zs2, zs3]
  refine tkH (i := 20) (oi := ⟨some 29, .load 2 (.tmp 28), _, _, _, some (13, true)⟩) (v := undef) rfl sko HS0.out ?_
  simp only [Act.put, zs1, zs2, zs3]
  refine tkH (i := 21) (oi := ⟨some 30, .call ⟨.value (.func 112), #[.tmp 26, .tmp 29, .const (.int .i64 0), .const (.int .i64 65535)], _⟩, _, _, _, some (13, true)⟩) (v := undef) rfl sko HS0.out ?_
  simp only [Act.put, zs1, zs2, zs3]
  refine tkH (i := 22) (oi := ⟨some 31, .pick (.tmp 22) (.tmp 30) (.const (.bool false)), _, _, _, none⟩) (v := .bool false) rfl qs HS0.out ?_
  simp only [Act.put, zs1, zs2, zs3]
  refine tkH (i := 23) (oi := ⟨some 32, .move (.tmp 31), _, _, _, none⟩) (v := .bool false) rfl qs HS0.out ?_
  simp only [Act.put, zs1, zs2, zs3]
  refine tkH (i := 24) (oi := ⟨some 33, .move (.tmp 5), _, _, _, some (23, true)⟩) (v := undef) rfl sko HS0.out ?_
  simp only [Act.put, zs1, zs2, zs3]
  refine tkH (i := 25) (oi := ⟨some 34, .nilCheck (.tmp 33), _, _, _, some (23, true)⟩) (v := undef) rfl sko HS0.out ?_
  simp only [Act.put, zs1, zs2, zs3]
  refine tkH (i := 26) (oi := ⟨some 35, .fieldAddr 33 (.tmp 34) 0, _, _, _, some (23, true)⟩) (v := undef) rfl sko HS0.out ?_
  simp only [Act.put, zs1, zs2, zs3]
  refine tkH (i := 27) (oi := ⟨some 36, .fieldAddr 30 (.tmp 35) 2, _, _, _, some (23, true)⟩) (v := undef) rfl sko HS0.out ?_
  simp only [Act.put, zs1, zs2, zs3]
  refine tkH (i := 28) (oi := ⟨some 37, .move (.tmp 1), _, _, _, some (23, true)⟩) (v := undef) rfl sko HS0.out ?_
  simp only [Act.put, zs1, zs2, zs3]
  refine tkH (i := 29) (oi := ⟨some 38, .indexAddr 155 (.tmp 37) (.const (.int .i64 2)), _, _, _, some (23, true)⟩) (v := undef) rfl sko HS0.out ?_
  simp only [Act.put, zs1, zs2, zs3]
  refine tkH (i := 30) (oi := ⟨some 39, .load 2 (.tmp 38), _, _, _, some (23, true)⟩) (v := undef) rfl sko HS0.out ?_
  simp only [Act.put, zs1, zs2, zs3]
  refine tkH (i := 31) (oi := ⟨some 40, .call ⟨.value (.func 113), #[.tmp 36, .tmp 39, .const (.int .i64 0), .const (.int .i64 4294967295)], _⟩, _, _, _, some (23, true)⟩) (v := undef) rfl sko HS0.out ?_
  simp only [Act.put, zs1, zs2, zs3]
  refine tkH (i := 32) (oi := ⟨some 41, .pick (.tmp 32) (.tmp 40) (.const (.bool false)), _, _, _, none⟩) (v := .bool false) rfl qs HS0.out ?_
  simp only [Act.put, zs1, zs2, zs3]
  refine tkH (i := 33) (oi := ⟨some 42, .move (.tmp 41), _, _, _, none⟩) (v := .bool false) rfl qs HS0.out ?_
  simp only [Act.put, zs1, zs2, zs3]
  refine tkH (i := 34) (oi := ⟨some 43, .move (.tmp 5), _, _, _, some (33, true)⟩) (v := undef) rfl sko HS0.out ?_
  simp only [Act.put, zs1, zs2, zs3]
  refine tkH (i := 35) (oi := ⟨some 44, .nilCheck (.tmp 43), _, _, _, some (33, true)⟩) (v := undef) rfl sko HS0.out ?_
  simp only [Act.put, zs1, zs2, zs3]
  refine tkH (i := 36) (oi := ⟨some 45, .fieldAddr 33 (.tmp 44) 1, _, _, _, some (33, true)⟩) (v := undef) rfl sko HS0.out ?_
  simp only [Act.put, zs1, zs2, zs3]
  refine tkH (i := 37) (oi := ⟨some 46, .move (.tmp 1), _, _, _, some (33, true)⟩) (v := undef) rfl sko HS0.out ?_
  simp only [Act.put, zs1, zs2, zs3]
  refine tkH (i := 38) (oi := ⟨some 47, .indexAddr 155 (.tmp 46) (.const (.int .i64 3)), _, _, _, some (33, true)⟩) (v := undef) rfl sko HS0.out ?_
  simp only [Act.put, zs1, zs2, zs3]
  refine tkH (i := 39) (oi := ⟨some 48, .load 2 (.tmp 47), _, _, _, some (33, true)⟩) (v := undef) rfl sko HS0.out ?_
  simp only [Act.put, zs1, zs2, zs3]
  refine tkH (i := 40) (oi := ⟨some 49, .call ⟨.value (.func 114), #[.tmp 45, .tmp 48, .const (.int .i64 (-1125899906842624)), .const (.int .i64 1125899906842624)], _⟩, _, _, _, some (33, true)⟩) (v := undef) rfl sko HS0.out ?_
  simp only [Act.put, zs1, zs2, zs3]
  refine tkH (i := 41) (oi := ⟨some 50, .pick (.tmp 42) (.tmp 49) (.const (.bool false)), _, _, _, none⟩) (v := .bool false) rfl qs HS0.out ?_
  simp only [Act.put, zs1, zs2, zs3]
  refine tkH (i := 42) (oi := ⟨some 51, .move (.tmp 50), _, _, _, none⟩) (v := .bool false) rfl qs HS0.out ?_
  simp only [Act.put, zs1, zs2, zs3]
  refine tkH (i := 43) (oi := ⟨some 52, .move (.tmp 5), _, _, _, some (42, true)⟩) (v := undef) rfl sko HS0.out ?_
  simp only [Act.put, zs1, zs2, zs3]
  refine tkH (i := 44) (oi := ⟨some 53, .nilCheck (.tmp 52), _, _, _, some (42, true)⟩) (v := undef) rfl sko HS0.out ?_
  simp only [Act.put, zs1, zs2, zs3]
  refine tkH (i := 45) (oi := ⟨some 54, .fieldAddr 33 (.tmp 53) 2, _, _, _, some (42, true)⟩) (v := undef) rfl sko HS0.out ?_
  simp only [Act.put, zs1, zs2, zs3]
  refine tkH (i := 46) (oi := ⟨some 55, .move (.tmp 1), _, _, _, some (42, true)⟩) (v := undef) rfl sko HS0.out ?_
  simp only [Act.put, zs1, zs2, zs3]
  refine tkH (i := 47) (oi := ⟨some 56, .indexAddr 155 (.tmp 55) (.const (.int .i64 4)), _, _, _, some (42, true)⟩) (v := undef) rfl sko HS0.out ?_
  simp only [Act.put, zs1, zs2, zs3]
  refine tkH (i := 48) (oi := ⟨some 57, .load 2 (.tmp 56), _, _, _, some (42, true)⟩) (v := undef) rfl sko HS0.out ?_
  simp only [Act.put, zs1, zs2, zs3]
  refine tkH (i := 49) (oi := ⟨some 58, .call ⟨.value (.func 115), #[.tmp 54, .tmp 57, .const (.int .i64 1), .const (.int .i64 7)], _⟩, _, _, _, some (42, true)⟩) (v := undef) rfl sko HS0.out ?_
  simp only [Act.put, zs1, zs2, zs3]
  refine tkH (i := 50) (oi := ⟨some 59, .pick (.tmp 51) (.tmp 58) (.const (.bool false)), _, _, _, none⟩) (v := .bool false) rfl qs HS0.out ?_
  simp only [Act.put, zs1, zs2, zs3]
  refine tkH (i := 51) (oi := ⟨some 60, .move (.tmp 59), _, _, _, none⟩) (v := .bool false) rfl qs HS0.out ?_
  simp only [Act.put, zs1, zs2, zs3]
  refine tkH (i := 52) (oi := ⟨some 61, .move (.tmp 5), _, _, _, some (51, true)⟩) (v := undef) rfl sko HS0.out ?_
  simp only [Act.put, zs1, zs2, zs3]
  refine tkH (i := 53) (oi := ⟨some 62, .nilCheck (.tmp 61), _, _, _, some (51, true)⟩) (v := undef) rfl sko HS0.out ?_
  simp only [Act.put, zs1, zs2, zs3]
  refine tkH (i := 54) (oi := ⟨some 63, .fieldAddr 33 (.tmp 62) 3, _, _, _, some (51, true)⟩) (v := undef) rfl sko HS0.out ?_
  simp only [Act.put, zs1, zs2, zs3]
  refine tkH (i := 55) (oi := ⟨some 64, .move (.tmp 1), _, _, _, some (51, true)⟩) (v := undef) rfl sko HS0.out ?_
  simp only [Act.put, zs1, zs2, zs3]
  refine tkH (i := 56) (oi := ⟨some 65, .indexAddr 155 (.tmp 64) (.const (.int .i64 5)), _, _, _, some (51, true)⟩) (v := undef) rfl sko HS0.out ?_
  simp only [Act.put, zs1, zs2, zs3]
  refine tkH (i := 57) (oi := ⟨some 66, .load 2 (.tmp 65), _, _, _, some (51, true)⟩) (v := undef) rfl sko HS0.out ?_
  simp only [Act.put, zs1, zs2, zs3]
  refine tkH (i := 58) (oi := ⟨some 67, .call ⟨.value (.func 113), #[.tmp 63, .tmp 66, .const (.int .i64 0), .const (.int .i64 4294967295)], _⟩, _, _, _, some (51, true)⟩) (v := undef) rfl sko HS0.out ?_
  simp only [Act.put, zs1, zs2, zs3]
  refine tkH (i := 59) (oi := ⟨some 68, .pick (.tmp 60) (.tmp 67) (.const (.bool false)), _, _, _, none⟩) (v := .bool false) rfl qs HS0.out ?_
  simp only [Act.put, zs1, zs2, zs3]
  refine tkH (i := 60) (oi := ⟨some 4, .assign (.tmp 68), _, _, _, none⟩) (v := .bool false) rfl qs HS0.out ?_
  simp only [Act.put, zs1, zs2, zs3]
  refine wpAnyH_done (by kernel_rfl) ?_ _
  go_wp2
  go_ret
  exact ⟨rfl, HG0.out⟩
set_option maxRecDepth 100000 in
theorem take_amt_len (b o : Nat) (p : Option Addr) (n nc : Nat) (w : World) (h : ((n : Int) == 1) = false) :
    Calls Tryz.prog 117 #[.pointer (some ⟨b, o, none⟩), .slice p n nc] w fun e w' => e = .returned (.bool false) ∧ w.grownBy w' (some b) := by
  have HG0 := Lib.hid (grown_drew w (some b))
  have HS0 := Lib.hid True.intro
  go_enter Tryz.func117, Tryz.ntmps117
  go_wp2
  refine wp_region_held (S := fun _ => True) (by kernel_rfl) ?_
  change wpAnyH _ _ _ _ _ _ _ _ (World.drew _)
  refine tkH (i := 0) (oi := ⟨some 5, .move (.tmp 1), _, _, _, none⟩) (v := .slice (p) n nc) rfl qs HS0.out ?_
  simp only [Act.put, zs1, zs2, zs3]
  refine tkH (i := 1) (oi := ⟨some 6, .call ⟨.builtin .len, #[.tmp 5], _⟩, _, _, _, none⟩) (v := .int .i64 n) rfl qs HS0.out ?_
  simp only [Act.put, zs1, zs2, zs3]
  refine tkH (i := 2) (oi := ⟨some 7, .binOp .eql 3 (.tmp 6) (.const (.int .i64 1)) 3, _, _, _, none⟩) (v := .bool false) rfl qs HS0.out ?_
  simp only [Act.put, zs1, zs2, zs3]
  refine tkH (i := 3) (oi := ⟨some 8, .move (.tmp 7), _, _, _, none⟩) (v := .bool false) rfl qs HS0.out ?_
  simp only [Act.put, zs1, zs2, zs3]
  refine tkH (i := 4) (oi := ⟨some 9, .move (.tmp 0), _, _, _, some (3, true)⟩) (v := undef) rfl sko HS0.out ?_
  simp only [Act.put, zs1, zs2, zs3]
  refine tkH (i := 5) (oi := ⟨some 10, .nilCheck (.tmp 9), _, _, _, some (3, true)⟩) (v := undef) rfl sko HS0.out ?_
  simp only [Act.put, zs1, zs2, zs3]
  refine tkH (i := 6) (oi := ⟨some 11, .fieldAddr 36 (.tmp 10) 3, _, _, _, some (3, true)⟩) (v := undef) rfl sko HS0.out ?_
  simp only [Act.put, zs1, zs2, zs3]
  refine tkH (i := 7) (oi := ⟨some 12, .move (.tmp 1), _, _, _, some (3, true)⟩) (v := undef) rfl sko HS0.out ?_
  simp only [Act.put, zs1, zs2, zs3]
  refine tkH (i := 8) (oi := ⟨some 13, .indexAddr 155 (.tmp 12) (.const (.int .i64 0)), _, _, _, some (3, true)⟩) (v := undef) rfl sko HS0.out ?_
  simp only [Act.put, zs1, zs2, zs3]
  refine tkH (i := 9) (oi := ⟨some 14, .load 2 (.tmp 13), _, _, _, some (3, true)⟩) (v := undef) rfl sko HS0.out ?_
  simp only [Act.put, zs1, zs2, zs3]
  refine tkH (i := 10) (oi := ⟨some 15, .call ⟨.value (.func 114), #[.tmp 11, .tmp 14, .const (.int .i64 (-1125899906842624)), .const (.int .i64 1125899906842624)], _⟩, _, _, _, some (3, true)⟩) (v := undef) rfl sko HS0.out ?_
  simp only [Act.put, zs1, zs2, zs3]
  refine tkH (i := 11) (oi := ⟨some 16, .pick (.tmp 8) (.tmp 15) (.const (.bool false)), _, _, _, none⟩) (v := .bool false) rfl qs HS0.out ?_
  simp only [Act.put, zs1, zs2, zs3]
  refine tkH (i := 12) (oi := ⟨some 4, .assign (.tmp 16), _, _, _, none⟩) (v := .bool false) rfl qs HS0.out ?_
  simp only [Act.put, zs1, zs2, zs3]
  refine wpAnyH_done (by kernel_rfl) ?_ _
  go_wp2
  go_ret
  exact ⟨rfl, HG0.out⟩
set_option maxRecDepth 100000 in
theorem take_cod_len (b o : Nat) (p : Option Addr) (n nc : Nat) (w : World) (h : ((n : Int) == 1) = false) :
    Calls Tryz.prog 119 #[.pointer (some ⟨b, o, none⟩), .slice p n nc] w fun e w' => e = .returned (.bool false) ∧ w.grownBy w' (some b) := by
  have HG0 := Lib.hid (grown_drew w (some b))
  have HS0 := Lib.hid True.intro
  go_enter Tryz.func119, Tryz.ntmps119
  go_wp2
  refine wp_region_held (S := fun _ => True) (by kernel_rfl) ?_
  change wpAnyH _ _ _ _ _ _ _ _ (World.drew _)
  refine tkH (i := 0) (oi := ⟨some 5, .move (.tmp 1), _, _, _, none⟩) (v := .slice (p) n nc) rfl qs HS0.out ?_
  simp only [Act.put, zs1, zs2, zs3]
  refine tkH (i := 1) (oi := ⟨some 6, .call ⟨.builtin .len, #[.tmp 5], _⟩, _, _, _, none⟩) (v := .int .i64 n) rfl qs HS0.out ?_
  simp only [Act.put, zs1, zs2, zs3]
  refine tkH (i := 2) (oi := ⟨some 7, .binOp .eql 3 (.tmp 6) (.const (.int .i64 1)) 3, _, _, _, none⟩) (v := .bool false) rfl qs HS0.out ?_
  simp only [Act.put, zs1, zs2, zs3]
  refine tkH (i := 3) (oi := ⟨some 8, .move (.tmp 7), _, _, _, none⟩) (v := .bool false) rfl qs HS0.out ?_
  simp only [Act.put, zs1, zs2, zs3]
  refine tkH (i := 4) (oi := ⟨some 9, .move (.tmp 0), _, _, _, some (3, true)⟩) (v := undef) rfl sko HS0.out ?_
  simp only [Act.put, zs1, zs2, zs3]
  refine tkH (i := 5) (oi := ⟨some 10, .nilCheck (.tmp 9), _, _, _, some (3, true)⟩) (v := undef) rfl sko HS0.out ?_
  simp only [Act.put, zs1, zs2, zs3]
  refine tkH (i := 6) (oi := ⟨some 11, .fieldAddr 36 (.tmp 10) 4, _, _, _, some (3, true)⟩) (v := undef) rfl sko HS0.out ?_
  simp only [Act.put, zs1, zs2, zs3]
  refine tkH (i := 7) (oi := ⟨some 12, .move (.tmp 1), _, _, _, some (3, true)⟩) (v := undef) rfl sko HS0.out ?_
  simp only [Act.put, zs1, zs2, zs3]
  refine tkH (i := 8) (oi := ⟨some 13, .indexAddr 155 (.tmp 12) (.const (.int .i64 0)), _, _, _, some (3, true)⟩) (v := undef) rfl sko HS0.out ?_
  simp only [Act.put, zs1, zs2, zs3]
  refine tkH (i := 9) (oi := ⟨some 14, .load 2 (.tmp 13), _, _, _, some (3, true)⟩) (v := undef) rfl sko HS0.out ?_
  simp only [Act.put, zs1, zs2, zs3]
  refine tkH (i := 10) (oi := ⟨some 15, .call ⟨.value (.func 120), #[.tmp 11, .tmp 14, .const (.int .i64 0), .const (.int .i64 999)], _⟩, _, _, _, some (3, true)⟩) (v := undef) rfl sko HS0.out ?_
  simp only [Act.put, zs1, zs2, zs3]
  refine tkH (i := 11) (oi := ⟨some 16, .pick (.tmp 8) (.tmp 15) (.const (.bool false)), _, _, _, none⟩) (v := .bool false) rfl qs HS0.out ?_
  simp only [Act.put, zs1, zs2, zs3]
  refine tkH (i := 12) (oi := ⟨some 4, .assign (.tmp 16), _, _, _, none⟩) (v := .bool false) rfl qs HS0.out ?_
  simp only [Act.put, zs1, zs2, zs3]
  refine wpAnyH_done (by kernel_rfl) ?_ _
  go_wp2
  go_ret
  exact ⟨rfl, HG0.out⟩
theorem take_none {m : Ms} {f : Fd} {l : List Int} {b : Nat} {ty : TypeId} {pre : List Value} {w w' : World} {e : Ending} (ht : takeL m f l = none) (h : e = .returned (.bool false) ∧ w.grownBy w' (some b)) : TakeP b ty pre m f l w e w' :=
  ⟨by rw [ht]; exact h.1, h.2, fun m' hm => by rw [ht] at hm; cases hm⟩
theorem take_some {m m' : Ms} {f : Fd} {l : List Int} {b : Nat} {ty : TypeId} {pre : List Value} {w w' : World} {e : Ending} (ht : takeL m f l = some m') (h1 : e = .returned (.bool true)) (h2 : w.grownBy w' (some b)) (h3 : MsgAt w' b ty pre m') : TakeP b ty pre m f l w e w' :=
  ⟨by rw [ht]; exact h1, h2, fun m2 hm => by rw [ht] at hm; cases hm; exact h3⟩
def takeFn : Fd → Nat
  | .cpn => 111
  | .amt => 117
  | .cod => 119
theorem row_cells {w : World} {F : Nat → Prop} {p : Option Addr} {c : Nat} {l : List Int} (h : I64R w F (.slice p l.length c) l) (h0 : 0 < l.length) : ∃ nb no, p = some ⟨nb, no, none⟩ ∧ F nb ∧ ∀ (j : Nat) (hj : j < l.length), w.cell? ⟨nb, no + j, none⟩ = some (.int .i64 l[j]) := by
  obtain ⟨p', c', e, _, hp⟩ := h
  simp only [Value.slice.injEq] at e
  obtain ⟨rfl, _, rfl⟩ := e
  obtain ⟨nb, no, h1, h2, h3⟩ := hp h0
  exact ⟨nb, no, h1, h2, fun j hj => h3 j _ (by rw [List.getElem?_map, List.getElem?_eq_getElem hj]; rfl)⟩
theorem msv_set (pre : List Value) (_m : Ms) (i : Nat) (v : Value) (l : List Value) (hi : i < l.length) (A : Array Value) (hA : A = (pre ++ l).toArray) : A.setIfInBounds (pre.length + i) v = (pre ++ l.set i v).toArray := by
  rw [hA]; exact arr_set pre l i v hi
theorem take_any (f : Fd) (l : List Int) (b : Nat) (ty : TypeId) (pre : List Value) (m : Ms) (F : Nat → Prop) (v : Value) (w : World) (hm : MsgAt w b ty pre m) (hv : I64R w F v l) (hF : ∀ nb, F nb → nb ≠ b) :
    Calls Tryz.prog (takeFn f) #[.pointer (some ⟨b, pre.length, none⟩), v] w (TakeP b ty pre m f l w) := by
  have hv0 := hv
  obtain ⟨p, c, rfl, hnc, _⟩ := hv
  by_cases hl : l.length = cnt f
  · obtain ⟨nb, no, rfl, hnb, hc⟩ := row_cells hv0 (by rw [hl]; cases f <;> decide)
    have hne := hF nb hnb
    cases f with
    | cpn =>
      obtain ⟨x0, x1, x2, x3, x4, x5, rfl⟩ := list6 l hl
      have hcc : w.cell? ⟨nb, no, none⟩ = some (.int .i64 x0) ∧ w.cell? ⟨nb, no + 1, none⟩ = some (.int .i64 x1) ∧ w.cell? ⟨nb, no + 2, none⟩ = some (.int .i64 x2) ∧ w.cell? ⟨nb, no + 3, none⟩ = some (.int .i64 x3) ∧ w.cell? ⟨nb, no + 4, none⟩ = some (.int .i64 x4) ∧ w.cell? ⟨nb, no + 5, none⟩ = some (.int .i64 x5) := ⟨hc 0 (by simp), hc 1 (by simp), hc 2 (by simp), hc 3 (by simp), hc 4 (by simp), hc 5 (by simp)⟩
      by_cases h0 : 0 ≤ x0 ∧ x0 ≤ 7
      · skip
        by_cases h1 : 0 ≤ x1 ∧ x1 ≤ 65535
        · skip
          by_cases h2 : 0 ≤ x2 ∧ x2 ≤ 4294967295
          · skip
            by_cases h3 : (-1125899906842624) ≤ x3 ∧ x3 ≤ 1125899906842624
            · skip
              by_cases h4 : 1 ≤ x4 ∧ x4 ≤ 7
              · skip
                by_cases h5 : 0 ≤ x5 ∧ x5 ≤ 4294967295
                · skip
                  have ht : takeL m .cpn [x0, x1, x2, x3, x4, x5] = some { m with lc := x0.toNat, lf := x1.toNat, lw := x2.toNat, val := x3, st := x4.toNat, non := x5.toNat } := by rw [take_cpn, if_pos ((cpnB_iff _ _ _ _ _ _).2 ⟨h0, h1, h2, h3, h4, h5⟩)]
                  refine (take_cpn_6 b ty pre m nb no c x0 x1 x2 x3 x4 x5 w hm hne hcc h0 h1 h2 h3 h4 h5).mono ?_
                  rintro e w' ⟨he, hg, hh⟩
                  refine take_some ht he hg ?_
                  unfold MsgAt
                  rw [msv_set pre m 4 (.int .u8 x0) (msV m) (by simp [msV]) _ rfl] at hh
                  rw [msv_set pre m 5 (.int .u16 x1) ((msV m).set 4 (.int .u8 x0)) (by simp [msV]) _ rfl] at hh
                  rw [msv_set pre m 6 (.int .u32 x2) (((msV m).set 4 (.int .u8 x0)).set 5 (.int .u16 x1)) (by simp [msV]) _ rfl] at hh
                  rw [msv_set pre m 7 (.int .i64 x3) ((((msV m).set 4 (.int .u8 x0)).set 5 (.int .u16 x1)).set 6 (.int .u32 x2)) (by simp [msV]) _ rfl] at hh
                  rw [msv_set pre m 8 (.int .u8 x4) (((((msV m).set 4 (.int .u8 x0)).set 5 (.int .u16 x1)).set 6 (.int .u32 x2)).set 7 (.int .i64 x3)) (by simp [msV]) _ rfl] at hh
                  rw [msv_set pre m 9 (.int .u32 x5) ((((((msV m).set 4 (.int .u8 x0)).set 5 (.int .u16 x1)).set 6 (.int .u32 x2)).set 7 (.int .i64 x3)).set 8 (.int .u8 x4)) (by simp [msV]) _ rfl] at hh
                  rw [hh]
                  have e0 := Int.toNat_of_nonneg h0.1
                  have e1 := Int.toNat_of_nonneg h1.1
                  have e2 := Int.toNat_of_nonneg h2.1
                  have e4 := Int.toNat_of_nonneg (show 0 ≤ x4 by omega)
                  have e5 := Int.toNat_of_nonneg h5.1
                  simp only [msV, List.set_cons_zero, List.set_cons_succ, e0, e1, e2, e4, e5]
                · exact (take_cpn_5 b ty pre m nb no c x0 x1 x2 x3 x4 x5 w hm hne hcc h0 h1 h2 h3 h4 (by omega)).mono fun e w' h => take_none (by rw [take_cpn, if_neg (fun e => h5 ((cpnB_iff _ _ _ _ _ _).1 e).2.2.2.2.2)]) h
              · exact (take_cpn_4 b ty pre m nb no c x0 x1 x2 x3 x4 x5 w hm hne hcc h0 h1 h2 h3 (by omega)).mono fun e w' h => take_none (by rw [take_cpn, if_neg (fun e => h4 ((cpnB_iff _ _ _ _ _ _).1 e).2.2.2.2.1)]) h
            · exact (take_cpn_3 b ty pre m nb no c x0 x1 x2 x3 x4 x5 w hm hne hcc h0 h1 h2 (by omega)).mono fun e w' h => take_none (by rw [take_cpn, if_neg (fun e => h3 ((cpnB_iff _ _ _ _ _ _).1 e).2.2.2.1)]) h
          · exact (take_cpn_2 b ty pre m nb no c x0 x1 x2 x3 x4 x5 w hm hne hcc h0 h1 (by omega)).mono fun e w' h => take_none (by rw [take_cpn, if_neg (fun e => h2 ((cpnB_iff _ _ _ _ _ _).1 e).2.2.1)]) h
        · exact (take_cpn_1 b ty pre m nb no c x0 x1 x2 x3 x4 x5 w hm hne hcc h0 (by omega)).mono fun e w' h => take_none (by rw [take_cpn, if_neg (fun e => h1 ((cpnB_iff _ _ _ _ _ _).1 e).2.1)]) h
      · exact (take_cpn_0 b ty pre m nb no c x0 x1 x2 x3 x4 x5 w hm hne hcc  (by omega)).mono fun e w' h => take_none (by rw [take_cpn, if_neg (fun e => h0 ((cpnB_iff _ _ _ _ _ _).1 e).1)]) h
    | amt =>
      obtain ⟨x0, rfl⟩ := list1 l hl
      have hcc : w.cell? ⟨nb, no, none⟩ = some (.int .i64 x0) := hc 0 (by simp)
      by_cases h0 : (-1125899906842624) ≤ x0 ∧ x0 ≤ 1125899906842624
      · skip
        have ht : takeL m .amt [x0] = some { m with am := x0 } := by rw [take_amt, if_pos ((inB_iff _ _ _).2 h0)]
        refine (take_amt_1 b ty pre m nb no c x0 w hm hne hcc h0).mono ?_
        rintro e w' ⟨he, hg, hh⟩
        refine take_some ht he hg ?_
        unfold MsgAt
        rw [msv_set pre m 10 (.int .i64 x0) (msV m) (by simp [msV]) _ rfl] at hh
        rw [hh]
        rfl
      · exact (take_amt_0 b ty pre m nb no c x0 w hm hne hcc  (by omega)).mono fun e w' h => take_none (by rw [take_amt, if_neg (fun e => h0 ((inB_iff _ _ _).1 e))]) h
    | cod =>
      obtain ⟨x0, rfl⟩ := list1 l hl
      have hcc : w.cell? ⟨nb, no, none⟩ = some (.int .i64 x0) := hc 0 (by simp)
      by_cases h0 : 0 ≤ x0 ∧ x0 ≤ 999
      · skip
        have ht : takeL m .cod [x0] = some { m with code := x0 } := by rw [take_cod, if_pos ((inB_iff _ _ _).2 h0)]
        refine (take_cod_1 b ty pre m nb no c x0 w hm hne hcc h0).mono ?_
        rintro e w' ⟨he, hg, hh⟩
        refine take_some ht he hg ?_
        unfold MsgAt
        rw [msv_set pre m 11 (.int .i64 x0) (msV m) (by simp [msV]) _ rfl] at hh
        rw [hh]
        rfl
      · exact (take_cod_0 b ty pre m nb no c x0 w hm hne hcc  (by omega)).mono fun e w' h => take_none (by rw [take_cod, if_neg (fun e => h0 ((inB_iff _ _ _).1 e))]) h
  · have hn := take_cnt (a := m) hl
    cases f with
    | cpn => exact (take_cpn_len b pre.length p l.length c w (by simp only [cnt] at hl; simp; omega)).mono fun e w' h => take_none hn h
    | amt => exact (take_amt_len b pre.length p l.length c w (by simp only [cnt] at hl; simp; omega)).mono fun e w' h => take_none hn h
    | cod => exact (take_cod_len b pre.length p l.length c w (by simp only [cnt] at hl; simp; omega)).mono fun e w' h => take_none hn h
set_option maxRecDepth 100000 in
theorem takeAt_any (n : Int) (b : Nat) (ty : TypeId) (pre : List Value) (m : Ms) (w : World) (hm : MsgAt w b ty pre m) :
    Calls Tryz.prog 96 #[.pointer (some ⟨b, pre.length, none⟩), .int .i64 n] w fun e w' => e = .returned (.bool (inB n 0 3)) ∧ w.grownBy w' (some b) ∧ (inB n 0 3 = true → MsgAt w' b ty pre { m with at_ := n.toNat }) := by
  by_cases h : 0 ≤ n ∧ n ≤ 3
  · have hb : inB n 0 3 = true := (inB_iff _ _ _).2 h
    have HC := Lib.hid (cutu8_yes b (pre.length + 3) _ ty n 0 3 w hm (by simp [msV]) h.1 h.2 (by omega) (by omega))
    have HE := Lib.hid (Int.toNat_of_nonneg h.1)
    rw [hb]
    clear hm h hb
    go_enter Tryz.func96, Tryz.ntmps96
    go_wp2_with fail
    refine (HC.out).mono ?_
    rintro e w' ⟨rfl, hh, hg⟩
    have HH := Lib.hid hh
    have HG := Lib.hid hg
    clear hh hg
    go_wp2
    go_ret
    refine ⟨rfl, HG.out, fun _ => ?_⟩
    have hh := HH.out
    rw [msv_set pre m 3 (.int .u8 n) (msV m) (by simp [msV]) _ rfl] at hh
    unfold MsgAt
    rw [hh]
    simp only [msV, List.set_cons_zero, List.set_cons_succ, HE.out]
  · have hb : inB n 0 3 = false := by cases hq : inB n 0 3 with | false => rfl | true => exact absurd ((inB_iff _ _ _).1 hq) h
    have HC := Lib.hid (fun p => cutu8_no p n 0 3 w (by omega))
    rw [hb]
    clear hm h hb
    go_enter Tryz.func96, Tryz.ntmps96
    go_wp2_with fail
    refine (HC.out _).mono ?_
    rintro e w' ⟨rfl, rfl⟩
    go_wp2
    go_ret
    exact ⟨rfl, grown_refl _ _, fun h => by cases h⟩
end Go.Proofs.YtgaoeljdlpemnaaGreatDoor
namespace Go.Proofs.YtgaoeljdlpemnaaGreatDoor
open Go.RowKit Go.Edi Go.Wrap Go.Lib

/-- a block of values -/
structure Blk (w : World) (g : Nat) (ty : TypeId) (vs : List Value) : Prop where
  row : w.heap[g]? = some (.cells vs.toArray ty (0, 0))
theorem Blk.lt {w : World} {g : Nat} {ty : TypeId} {vs : List Value} (h : Blk w g ty vs) : g < w.heap.size := lt_of_heap h.row
theorem Blk.cell {w : World} {g : Nat} {ty : TypeId} {vs : List Value} (h : Blk w g ty vs) (j : Nat) : w.cell? ⟨g, j, none⟩ = vs[j]? := by rw [cell_of_arr h.row, List.getElem?_toArray]
theorem Blk.frozen {w : World} {g : Nat} {ty : TypeId} {vs : List Value} (h : Blk w g ty vs) (j : Nat) : w.frozen? ⟨g, j, none⟩ = false := frozen_of_arr h.row j
theorem Blk.set {w : World} {g : Nat} {ty : TypeId} {vs : List Value} (h : Blk w g ty vs) (j : Nat) (v : Value) : Blk (w.setCell ⟨g, j, none⟩ v) g ty (vs.set j v) := by
  refine ⟨?_⟩
  rw [heap_setCell_same w g j _ ty _ h.row, List.setIfInBounds_toArray]
theorem Blk.keep {w w' : World} {B g : Nat} {ty : TypeId} {vs : List Value} (h : Blk w g ty vs) (hb : Below B w w') (hg : g < B) : Blk w' g ty vs := ⟨by rw [hb.block g hg]; exact h.row⟩
theorem Blk.alloc {w : World} {g : Nat} {ty : TypeId} {vs : List Value} (h : Blk w g ty vs) (o : Obj) : Blk (w.alloc o) g ty vs := ⟨(Below.heap_alloc _ _ _ h.lt).trans h.row⟩
def zSt (n : Nat) : Array Value := madeCells #[.string ⟨#[]⟩] n
theorem zSt_eq (n : Nat) : zSt n = (List.replicate n (str [])).toArray := by
  unfold zSt
  apply Array.toList_inj.1
  rw [toList_madeCells_one]
  rfl
theorem mk_strs (n : Nat) (hn : n ≤ 1000000) (w : World) : (Instr.makeSlice 129 (.int .i64 (n : Int)) (.int .i64 (n : Int))).run Tryz.prog w = .ok (.slice (some ⟨w.heap.size, 0, none⟩) n n) (w.alloc (.cells (zSt n) 9)) :=
  run_make_row' 129 9 (.string ⟨#[]⟩) 16 Tryz.underlying129 par_str rfl .i64 .i64 n (by omega) (by omega) w
attribute [irreducible] zSt
theorem blk_zSt (w : World) (n : Nat) : Blk (w.alloc (.cells (zSt n) 9)) w.heap.size 9 (List.replicate n (str [])) := ⟨by rw [at_last, zSt_eq]⟩
def zI6 (n : Nat) : Array Value := madeCells #[.int .i64 0] n
theorem zI6_eq (n : Nat) : zI6 n = (List.replicate n (Value.int .i64 0)).toArray := by
  unfold zI6
  apply Array.toList_inj.1
  rw [toList_madeCells_one]
theorem par_mi6 : (Tryz.prog.info? 2).map (fun i => (i.zero, i.size, i.bytes)) = some (some (.int .i64 0), 1, 8) := by kernel_rfl
theorem mk_i64s (n : Nat) (hn : n ≤ 1000000) (w : World) : (Instr.makeSlice 155 (.int .i64 (n : Int)) (.int .i64 (n : Int))).run Tryz.prog w = .ok (.slice (some ⟨w.heap.size, 0, none⟩) n n) (w.alloc (.cells (zI6 n) 2)) :=
  run_make_row' 155 2 (.int .i64 0) 8 Tryz.underlying155 par_mi6 rfl .i64 .i64 n (by omega) (by omega) w
attribute [irreducible] zI6
theorem blk_zI6 (w : World) (n : Nat) : Blk (w.alloc (.cells (zI6 n) 2)) w.heap.size 2 (List.replicate n (Value.int .i64 0)) := ⟨by rw [at_last, zI6_eq]⟩
/-- what has been filled so far, the rest is as it was made -/
def prtV (l : List Value) (z : Value) (n k : Nat) : List Value := l.take k ++ List.replicate (n - k) z
theorem prtV_zero (l : List Value) (z : Value) (n : Nat) : prtV l z n 0 = List.replicate n z := by simp [prtV]
theorem prtV_set (l : List Value) (z : Value) {n k : Nat} (hk : k < n) (hl : l.length = n) : (prtV l z n k).set k l[k]! = prtV l z n (k + 1) := by
  unfold prtV
  have ht : (l.take k).length = k := by rw [List.length_take]; omega
  rw [List.set_append_right _ _ (by omega), ht, Nat.sub_self, show n - k = (n - (k + 1)) + 1 by omega, List.replicate_succ, List.set_cons_zero, List.take_succ_eq_append_getElem (by omega), List.append_assoc, getElem!_pos l k (by omega)]
  rfl
theorem prtV_all (l : List Value) (z : Value) {n : Nat} (hl : l.length = n) : prtV l z n n = l := by unfold prtV; rw [Nat.sub_self, List.replicate_zero, List.append_nil, ← hl, List.take_length]
theorem prtV_at (l : List Value) (z : Value) {n k : Nat} (hk : k < n) (hl : l.length = n) : (prtV l z n k)[k]? = some z := by
  unfold prtV
  have ht : (l.take k).length = k := by rw [List.length_take]; omega
  rw [List.getElem?_append_right (by omega), ht, Nat.sub_self, List.getElem?_replicate, if_pos (by omega)]
def TextsP (ns : List Int) (w : World) (e : Ending) (w' : World) : Prop :=
  ∃ v F, e = .returned v ∧ StrsF w' F v (ns.map sdig) ∧ (∀ b, F b → w.heap.size ≤ b ∧ b < w'.heap.size) ∧ Below w.heap.size w w'
theorem blk_strs {w : World} {g : Nat} {l : List Tx} (h : Blk w g 9 (l.map str)) : StrsF w (· = g) (.slice (some ⟨g, 0, none⟩) l.length l.length) l :=
  ⟨_, _, rfl, Nat.le_refl _, fun _ => ⟨g, 0, rfl, rfl, fun j u hu => by rw [Nat.zero_add, h.cell]; exact hu⟩⟩
set_option maxRecDepth 100000 in
set_option maxHeartbeats 1600000 in
theorem texts_any (ns : List Int) (F : Nat → Prop) (v : Value) (B : Nat) (w : World) (hv : I64R w F v ns) (hF : ∀ b, F b → b < w.heap.size) (hi : ∀ n ∈ ns, i64B n) (hl : ns.length ≤ 1000) (he : Env B w) (hB : B ≤ w.heap.size) :
    Calls Tryz.prog 71 #[v] w (TextsP ns w) := by
  obtain ⟨p, cap, rfl, hnc, hp⟩ := hv
  have HP := Lib.hid hp
  have HI := Lib.hid hi
  have HF := Lib.hid hF
  have HE := Lib.hid (fun W (h : Below w.heap.size w W) => he.on (h.mono hB))
  have hmk := mk_strs ns.length (by omega)
  have lI : (ns.length : Int) ≤ 1000 := by omega
  have HZ := Lib.hid (blk_zSt w ns.length)
  have hl2 : ((ns.map sdig).map str).length = ns.length := by simp
  have HL2 := Lib.hid hl2
  clear hp hi hF hl he hB hl2
  go_enter Tryz.func71, Tryz.ntmps71
  go_wp2
  go_loopw [4, 5, 11] (fun _ _ i wr => ∃ k : Nat, i = .int .i64 k ∧ k ≤ ns.length ∧ Hid (Blk wr w.heap.size 9 (prtV ((ns.map sdig).map str) (str []) ns.length k)) ∧ Hid (Below w.heap.size w wr)) (fun _ _ i _ => ns.length - (intOf i).toNat)
  case atStart => exact ⟨0, rfl, Nat.zero_le _, (by rw [prtV_zero]; exact HZ.out), (Below.refl _ _).alloc (Nat.le_refl _) _⟩
  case round =>
    obtain ⟨k, rfl, hk, hB, hb⟩ := hrel
    have HB := Lib.hid hB.out
    have HBB := Lib.hid hb.out
    clear hB hb
    by_cases hlt : (k : Int) < (ns.length : Int)
    · have hkl : k < ns.length := by omega
      have hk0 : (0 : Int) ≤ (k : Int) := Int.natCast_nonneg _
      obtain ⟨b, o, rfl, hFb, hc⟩ := HP.out (by omega)
      have hck : wr.cell? ⟨b, o + k, none⟩ = some (.int .i64 ns[k]) := (World.cell?_of_block (a := ⟨b, o + k, none⟩) (HBB.out.block b (HF.out _ hFb))).trans (hc k _ (by rw [List.getElem?_map, List.getElem?_eq_getElem hkl]; rfl))
      have hnk := HI.out _ (List.getElem_mem hkl)
      have HG := Lib.hid (show ((ns.map sdig).map str)[k]! = str (sdig ns[k]) by
        rw [getElem!_pos _ k (by rw [HL2.out]; exact hkl)]; simp)
      have HT := Lib.hid (mgtext_any ns[k] hnk B wr (HE.out _ HBB.out))
      generalize ns[k] = x at *
      have HC1 := Lib.hid (fun W (hW : Below wr.heap.size wr W) => show Blk W w.heap.size 9 (prtV ((ns.map sdig).map str) (str []) ns.length k) from HB.out.keep hW HB.out.lt)
      have HKL := Lib.hid hkl
      clear hc hnk hkl
      go_wp2_with (go_at_call 70; refine (HT.out).mono ?_; rintro e w1 ⟨rfl, hb1⟩
                   have hB1 := HC1.out _ hb1
                   have cw : w1.cell? ⟨w.heap.size, k, none⟩ = some (str []) := by rw [hB1.cell, prtV_at _ _ HKL.out HL2.out]
                   have fw := hB1.frozen k
                   have HB1 := Lib.hid hB1
                   have HBW := Lib.hid (HBB.out.trans (hb1.mono HBB.out.size))
                   clear hb1 hB1)
      go_roundw
      case rel =>
        refine ⟨k + 1, by go_num, by have := HKL.out; omega, ?_, ?_⟩
        · have := HB1.out.set k (str (sdig x))
          rw [← HG.out, prtV_set _ _ HKL.out HL2.out] at this
          rw [HG.out] at this
          exact this
        · exact HBW.out.setCell (p := ⟨w.heap.size, k, none⟩) (Nat.le_refl _) _
      case measure => simp [intOf]; have := HKL.out; omega
    · obtain rfl : k = ns.length := by omega
      go_wp2
      go_ret
      have h := HB.out
      rw [prtV_all _ _ HL2.out] at h
      refine ⟨_, _, ?_, blk_strs h, ?_, HBB.out⟩
      · rw [List.length_map]; rfl
      · rintro b rfl
        exact ⟨Nat.le_refl _, h.lt⟩
end Go.Proofs.YtgaoeljdlpemnaaGreatDoor
