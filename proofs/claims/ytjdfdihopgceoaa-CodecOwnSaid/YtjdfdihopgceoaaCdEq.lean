/- Structs of codec's are compared cell by cell. -/
import Derived.Test.YtjdfdihopgceoaaCdO
import Derived.Laws.StructEq
namespace Go.Proofs.Ytjdfdihopgceoaa.Cd
open Go.RowKit Go.Shelf Go.Dk Go.Jn Go.Cod

theorem tx_inj {a b : By} (h : tx a = tx b) : a = b := by
  have : (tx a).data.toList = (tx b).data.toList := by rw [h]
  simpa [tx] using this
theorem tx_list (a : By) : (tx a).toList = a := by rw [ByteArray.toList_eq]; simp [tx]
set_option maxRecDepth 100000 in
set_option maxHeartbeats 1600000 in
theorem eql_tk (a0 b0 : Int) (a1 b1 : Int) (w : World) : (binOp .eql 24 (.agg #[.int .u8 a0, .int .u64 a1]) (.agg #[.int .u8 b0, .int .u64 b1])).run Try.prog w = .ok (.bool (decide (a0 = b0 ∧ a1 = b1))) w := by
  have hS : Try.prog.underlying 24 = some (.struct (Try.prog.fieldsOf 24)) := by kernel_rfl
  have hp : Try.prog.stoodInHeld 24 = false := by kernel_rfl
  rw [run_eql_struct, show (10000 : Nat) = 9999 + 1 from rfl, run_equalIn_agg w 9999 24 _ _ hS hp]
  simp only [Program.fieldsOf, Try.underlying24]
  clear hS hp
  by_cases e0 : a0 = b0
  case neg =>
    rw [decide_eq_false (fun h => e0 h.1)]
    go_simp
    try (intros; simp_all)
  subst e0
  by_cases e1 : a1 = b1
  case neg =>
    rw [decide_eq_false (fun h => e1 h.2)]
    go_simp
    try (intros; simp_all)
  subst e1
  rw [decide_eq_true ⟨rfl, rfl⟩]
  go_simp
  try (intros; simp_all)
set_option maxRecDepth 100000 in
set_option maxHeartbeats 1600000 in
theorem neq_lg (a0 b0 : Int) (a1 b1 : Int) (a2 b2 : Int) (w : World) : (binOp .neq 36 (.agg #[.int .u8 a0, .int .u16 a1, .int .u32 a2]) (.agg #[.int .u8 b0, .int .u16 b1, .int .u32 b2])).run Try.prog w = .ok (.bool (!decide (a0 = b0 ∧ a1 = b1 ∧ a2 = b2))) w := by
  have hS : Try.prog.underlying 36 = some (.struct (Try.prog.fieldsOf 36)) := by kernel_rfl
  have hp : Try.prog.stoodInHeld 36 = false := by kernel_rfl
  rw [run_neq_struct, show (10000 : Nat) = 9999 + 1 from rfl, run_equalIn_agg w 9999 36 _ _ hS hp]
  simp only [Program.fieldsOf, Try.underlying36]
  clear hS hp
  by_cases e0 : a0 = b0
  case neg =>
    rw [decide_eq_false (fun h => e0 h.1)]
    go_simp
    try (intros; simp_all)
  subst e0
  by_cases e1 : a1 = b1
  case neg =>
    rw [decide_eq_false (fun h => e1 h.2.1)]
    go_simp
    try (intros; simp_all)
  subst e1
  by_cases e2 : a2 = b2
  case neg =>
    rw [decide_eq_false (fun h => e2 h.2.2)]
    go_simp
    try (intros; simp_all)
  subst e2
  rw [decide_eq_true ⟨rfl, rfl, rfl⟩]
  go_simp
  try (intros; simp_all)
set_option maxRecDepth 100000 in
set_option maxHeartbeats 1600000 in
theorem neq_tx (a0 b0 : By) (a1 b1 : Int) (w : World) : (binOp .neq 58 (.agg #[str a0, .int .i64 a1]) (.agg #[str b0, .int .i64 b1])).run Try.prog w = .ok (.bool (!decide (a0 = b0 ∧ a1 = b1))) w := by
  have hS : Try.prog.underlying 58 = some (.struct (Try.prog.fieldsOf 58)) := by kernel_rfl
  have hp : Try.prog.stoodInHeld 58 = false := by kernel_rfl
  rw [run_neq_struct, show (10000 : Nat) = 9999 + 1 from rfl, run_equalIn_agg w 9999 58 _ _ hS hp]
  simp only [Program.fieldsOf, Try.underlying58]
  clear hS hp
  by_cases e0 : a0 = b0
  case neg =>
    rw [decide_eq_false (fun h => e0 h.1)]
    have e0' : ¬ tx a0 = tx b0 := fun h => e0 (tx_inj h)
    go_simp
    rw [tx_list, tx_list]
    try (intros; simp_all)
  subst e0
  by_cases e1 : a1 = b1
  case neg =>
    rw [decide_eq_false (fun h => e1 h.2)]
    go_simp
    try (intros; simp_all)
  subst e1
  rw [decide_eq_true ⟨rfl, rfl⟩]
  go_simp
  try (intros; simp_all)
set_option maxRecDepth 100000 in
set_option maxHeartbeats 1600000 in
theorem eql_msg (a0 b0 : Int) (a1 b1 : Int) (a2 b2 : Int) (a3 b3 : Int) (a4 b4 : Int) (a5 b5 : Int) (a6 b6 : Int) (a7 b7 : Int) (a8 b8 : Int) (a9 b9 : Int) (a10 b10 : Int) (a11 b11 : Int) (w : World) : (binOp .eql 42 (.agg #[.int .u8 a0, .int .u8 a1, .int .u64 a2, .int .u8 a3, .int .u8 a4, .int .u16 a5, .int .u32 a6, .int .i64 a7, .int .u8 a8, .int .u32 a9, .int .i64 a10, .int .i64 a11]) (.agg #[.int .u8 b0, .int .u8 b1, .int .u64 b2, .int .u8 b3, .int .u8 b4, .int .u16 b5, .int .u32 b6, .int .i64 b7, .int .u8 b8, .int .u32 b9, .int .i64 b10, .int .i64 b11])).run Try.prog w = .ok (.bool (decide (a0 = b0 ∧ a1 = b1 ∧ a2 = b2 ∧ a3 = b3 ∧ a4 = b4 ∧ a5 = b5 ∧ a6 = b6 ∧ a7 = b7 ∧ a8 = b8 ∧ a9 = b9 ∧ a10 = b10 ∧ a11 = b11))) w := by
  have hS : Try.prog.underlying 42 = some (.struct (Try.prog.fieldsOf 42)) := by kernel_rfl
  have hp : Try.prog.stoodInHeld 42 = false := by kernel_rfl
  rw [run_eql_struct, show (10000 : Nat) = 9999 + 1 from rfl, run_equalIn_agg w 9999 42 _ _ hS hp]
  simp only [Program.fieldsOf, Try.underlying42]
  clear hS hp
  by_cases e0 : a0 = b0
  case neg =>
    rw [decide_eq_false (fun h => e0 h.1)]
    go_simp
    try (intros; simp_all)
  subst e0
  by_cases e1 : a1 = b1
  case neg =>
    rw [decide_eq_false (fun h => e1 h.2.1)]
    go_simp
    try (intros; simp_all)
  subst e1
  by_cases e2 : a2 = b2
  case neg =>
    rw [decide_eq_false (fun h => e2 h.2.2.1)]
    go_simp
    try (intros; simp_all)
  subst e2
  by_cases e3 : a3 = b3
  case neg =>
    rw [decide_eq_false (fun h => e3 h.2.2.2.1)]
    go_simp
    try (intros; simp_all)
  subst e3
  by_cases e4 : a4 = b4
  case neg =>
    rw [decide_eq_false (fun h => e4 h.2.2.2.2.1)]
    go_simp
    try (intros; simp_all)
  subst e4
  by_cases e5 : a5 = b5
  case neg =>
    rw [decide_eq_false (fun h => e5 h.2.2.2.2.2.1)]
    go_simp
    try (intros; simp_all)
  subst e5
  by_cases e6 : a6 = b6
  case neg =>
    rw [decide_eq_false (fun h => e6 h.2.2.2.2.2.2.1)]
    go_simp
    try (intros; simp_all)
  subst e6
  by_cases e7 : a7 = b7
  case neg =>
    rw [decide_eq_false (fun h => e7 h.2.2.2.2.2.2.2.1)]
    go_simp
    try (intros; simp_all)
  subst e7
  by_cases e8 : a8 = b8
  case neg =>
    rw [decide_eq_false (fun h => e8 h.2.2.2.2.2.2.2.2.1)]
    go_simp
    try (intros; simp_all)
  subst e8
  by_cases e9 : a9 = b9
  case neg =>
    rw [decide_eq_false (fun h => e9 h.2.2.2.2.2.2.2.2.2.1)]
    go_simp
    try (intros; simp_all)
  subst e9
  by_cases e10 : a10 = b10
  case neg =>
    rw [decide_eq_false (fun h => e10 h.2.2.2.2.2.2.2.2.2.2.1)]
    go_simp
    try (intros; simp_all)
  subst e10
  by_cases e11 : a11 = b11
  case neg =>
    rw [decide_eq_false (fun h => e11 h.2.2.2.2.2.2.2.2.2.2.2)]
    go_simp
    try (intros; simp_all)
  subst e11
  rw [decide_eq_true ⟨rfl, rfl, rfl, rfl, rfl, rfl, rfl, rfl, rfl, rfl, rfl, rfl⟩]
  go_simp
  try (intros; simp_all)
end Go.Proofs.Ytjdfdihopgceoaa.Cd
