/- A packet that came in, opened; what the rows' condition on the laid tables and sentinels gives; a start that meets it. -/
import Derived.Test.YtgaoeljdlpemnaaGreatDoorRows
import Derived.Test.YtgaoeljdlpemnaaGreatDoorCards
import Derived.Test.YtgaoeljdlpemnaaGreatDoorTie
import Derived.Test.YtgaoeljdlpemnaaGreatDoorMgTk
import Derived.ProofKit
import Derived.OpenShut
import Derived.LaidMore
import Derived.Stop.Joined
import Derived.Stop.LaidErr
import Derived.Lib.LaidTab
import Derived.SevenTiedAt
import Derived.Test.YtgaoeljdlpemnaaGreatDoorMgPk
namespace Go.Proofs.YtgaoeljdlpemnaaGreatDoor
open Go.ChangeShapes Go.WideShapes Go.ChangeAt Go.RowKit Go.Edi Go.Wrap

theorem own : ownKnob Tryz.prog.godebug = none := by kernel_rfl
theorem laidOut : laidOutB Tryz.prog = true := by kernel_rfl
theorem str_of (s : ByteArray) : str s.data.toList = .string s := by simp [tx]
theorem gP : Tryz.prog.globalNamed "internal/strconv.uint64pow10" = some 2 := by kernel_rfl
theorem tP : (Tryz.prog.globals[2]?).map (·.type) = some 235 := by kernel_rfl
theorem gSy : Tryz.prog.globalNamed "strconv.ErrSyntax" = some 5 := by kernel_rfl
theorem tSy : (Tryz.prog.globals[5]?).map (·.type) = some 187 := by kernel_rfl
theorem gRa : Tryz.prog.globalNamed "strconv.ErrRange" = some 6 := by kernel_rfl
theorem tRa : (Tryz.prog.globals[6]?).map (·.type) = some 187 := by kernel_rfl
theorem cellsA20 : Tryz.prog.cellsOf 235 = 20 := by kernel_rfl
theorem cEs : Tryz.prog.cellsOf 260 = 1 := by kernel_rfl
theorem cStr : Tryz.prog.cellsOf 9 = 1 := by kernel_rfl
theorem starEs : "*" ++ "errors.errorString" = "*errors.errorString" := by decide
theorem rowEs (u : TypeId) (h : Tryz.prog.typeName? 3 u = some "*errors.errorString") : u = 258 :=
  typeName_ptr_named (nm := "errors.errorString") (by rw [starEs]; kernel_rfl) (by kernel_rfl) (by decide) u (by rw [starEs]; exact h)
theorem cellsU8 : Tryz.prog.cellsOf 5 = 1 := by kernel_rfl
theorem cU16 : Tryz.prog.cellsOf 27 = 1 := by kernel_rfl
theorem cU32 : Tryz.prog.cellsOf 28 = 1 := by kernel_rfl
theorem cellsU64 : Tryz.prog.cellsOf 22 = 1 := by kernel_rfl
theorem cI64 : Tryz.prog.cellsOf 2 = 1 := by kernel_rfl
theorem cSt : Tryz.prog.cellsOf 31 = 1 := by kernel_rfl
theorem cEr : Tryz.prog.cellsOf 34 = 1 := by kernel_rfl
theorem cBo : Tryz.prog.cellsOf 4 = 1 := by kernel_rfl
theorem cTk : Tryz.prog.cellsOf 24 = 2 := by kernel_rfl
theorem cKe : Tryz.prog.cellsOf 26 = 3 := by kernel_rfl
theorem cLg : Tryz.prog.cellsOf 30 = 3 := by kernel_rfl
theorem cCp : Tryz.prog.cellsOf 33 = 6 := by kernel_rfl
theorem cMs : Tryz.prog.cellsOf 36 = 12 := by kernel_rfl
theorem cPk : Tryz.prog.cellsOf 38 = 16 := by kernel_rfl
abbrev laid5 : List (String × DataW Unit) := [("math/bits.deBruijn32tab", Rows.laid_math_bits_deBruijn32tab), ("math/bits.deBruijn64tab", Rows.laid_math_bits_deBruijn64tab), ("internal/strconv.uint64pow10", Rows.laid_internal_strconv_uint64pow10), ("strconv.ErrRange", Rows.laid_strconv_ErrRange), ("strconv.ErrSyntax", Rows.laid_strconv_ErrSyntax)]
theorem dP : (Rows.laid_internal_strconv_uint64pow10 : DataW Unit) = Lib.tabData .u64 Lib.pow10Tab := by kernel_rfl
theorem var_below {W w' : World} {n : String} {x : Array Value} (h : W.var? Tryz.prog n = some x) (hb : Below W.heap.size W w') : w'.var? Tryz.prog n = some x := by
  unfold World.var? at h ⊢
  cases hg : Tryz.prog.globalNamed n with
  | none => rw [hg] at h; cases h
  | some g =>
    rw [hg] at h
    simp only [Option.bind_some] at h ⊢
    have hlt : g < W.heap.size := by
      rcases Nat.lt_or_ge g W.heap.size with h' | h'
      · exact h'
      · rw [Array.getElem?_eq_none h'] at h; cases h
    rw [hb.block g hlt]
    exact h
theorem env_of_laid {W : World} (h : laidMetH Tryz.prog laid5 W) : Env W.heap.size W := by
  rw [MakeChecks.laidMetH_plain _ _ _ (by kernel_rfl)] at h
  have hP : laidMet Tryz.prog (("internal/strconv.uint64pow10", Lib.tabData .u64 Lib.pow10Tab) :: [("strconv.ErrRange", Rows.laid_strconv_ErrRange), ("strconv.ErrSyntax", Rows.laid_strconv_ErrSyntax)]) W := by rw [← dP]; exact h.tail.tail
  have hR := h.tail.tail.tail
  have hS := hR.tail
  obtain ⟨a1, s1, hv1, _⟩ := laid_sentinel hR gRa tRa Tryz.underlying187 rowEs Tryz.underlying258 Tryz.underlying260 rfl rfl Tryz.underlying9 cEs cStr
  obtain ⟨a2, s2, hv2, _⟩ := laid_sentinel hS gSy tSy Tryz.underlying187 rowEs Tryz.underlying258 Tryz.underlying260 rfl rfl Tryz.underlying9 cEs cStr
  exact ⟨Lib.tabBelow_of_tabIs (Lib.tabIs_of_head gP tP Tryz.underlying235 Tryz.underlying22 cellsU64 cellsA20 hP), fun w' hb => ⟨_, _, var_below hv2 hb⟩, fun w' hb => ⟨_, _, var_below hv1 hb⟩⟩
theorem door_met (os : Os) (args : Array Value) : laidMetH Tryz.prog laid5 ((World.doorLaid Tryz.prog 400 os).forCall (fun _ _ => 0) ⟨#[], args, []⟩).memory :=
  laidMetH_of_parts3 (fuel := 8) (laidMet_of_run' 8 (by kernel_rfl) (by kernel_rfl)) (by kernel_rfl) (by kernel_rfl)
def Wf (k : IntKind) (n : Int) : Prop := (Lit.int k n).wf = true
theorem wf_u8 {n : Int} (h : Wf .u8 n) : 0 ≤ n ∧ n < 256 := by simp [Wf, Lit.wf, IntKind.min, IntKind.max, IntKind.signed, IntKind.bits] at h; omega
theorem wf_u16 {n : Int} (h : Wf .u16 n) : 0 ≤ n ∧ n < 65536 := by simp [Wf, Lit.wf, IntKind.min, IntKind.max, IntKind.signed, IntKind.bits] at h; omega
theorem wf_u32 {n : Int} (h : Wf .u32 n) : 0 ≤ n ∧ n < 4294967296 := by simp [Wf, Lit.wf, IntKind.min, IntKind.max, IntKind.signed, IntKind.bits] at h; omega
theorem wf_u64 {n : Int} (h : Wf .u64 n) : 0 ≤ n ∧ n < 18446744073709551616 := by simp [Wf, Lit.wf, IntKind.min, IntKind.max, IntKind.signed, IntKind.bits] at h; omega
theorem wf_i64 {n : Int} (h : Wf .i64 n) : -9223372036854775808 ≤ n ∧ n ≤ 9223372036854775807 := by simp [Wf, Lit.wf, IntKind.min, IntKind.max, IntKind.signed, IntKind.bits] at h; omega
section
variable {H : Type} {enc : TypeId × Value → H} {W : World} {base : Nat} {sp : Nat → Bool} {held : Bool}
theorem intc_of {t : TypeId} {k : IntKind} (ht : Tryz.prog.underlying t = some (.int k)) {n : Nat} {v : Value} {y : DataW H × List MemPlace} (h : DataW.trod enc Tryz.prog W base sp held n t [v] = some y) : ∃ c : Int, v = .int k c ∧ Wf k c := by
  obtain ⟨a, g, _, w0⟩ := DataW.trod_int ht h
  simp only [List.cons.injEq, and_true] at g
  exact ⟨a, g, w0⟩
theorem boolc_of {t : TypeId} (ht : Tryz.prog.underlying t = some .bool) {n : Nat} {v : Value} {y : DataW H × List MemPlace} (h : DataW.trod enc Tryz.prog W base sp held n t [v] = some y) : ∃ c : Bool, v = .bool c := by
  obtain ⟨a, g, _⟩ := DataW.trod_bool ht h
  simp only [List.cons.injEq, and_true] at g
  exact ⟨a, g⟩
theorem tkU : ∃ f0 f1 : Field, Tryz.prog.underlying 24 = some (.struct #[f0, f1]) ∧ (f0.offset = 0 ∧ f1.offset = 1) ∧ (f0.type = 5 ∧ f1.type = 22) :=
  ⟨_, _, Tryz.underlying24, ⟨rfl, rfl⟩, ⟨rfl, rfl⟩⟩
set_option maxRecDepth 100000 in
theorem tk_of {n : Nat} {cs : List Value} {y : DataW H × List MemPlace} (h : DataW.trod enc Tryz.prog W base sp held n 24 cs = some y) (hl : cs.length = 2) : ∃ (x0 : Int), ∃ (x1 : Int), cs = [.int .u8 x0, .int .u64 x1] ∧ Wf .u8 x0 ∧ Wf .u64 x1 := by
  obtain ⟨f0, f1, hu, ⟨o0, o1⟩, t0, t1⟩ := tkU
  obtain ⟨xs, m, _, _, _, hn, hel⟩ := DataW.trod_struct hu h
  match cs, hl with
  | [a0, a1], _ =>
    have e0 := hel 0 f0 rfl
    rw [t0, o0, cellsU8, List.getElem?_eq_getElem (by rw [hn]; show _ < 2; omega)] at e0
    have e1 := hel 1 f1 rfl
    rw [t1, o1, cellsU64, List.getElem?_eq_getElem (by rw [hn]; show _ < 2; omega)] at e1
    obtain ⟨x0, rfl, w0⟩ := intc_of Tryz.underlying5 e0
    obtain ⟨x1, rfl, w1⟩ := intc_of Tryz.underlying22 e1
    exact ⟨x0, x1, rfl, w0, w1⟩
theorem keU : ∃ f0 f1 : Field, Tryz.prog.underlying 26 = some (.struct #[f0, f1]) ∧ (f0.offset = 0 ∧ f1.offset = 2) ∧ (f0.type = 24 ∧ f1.type = 5) :=
  ⟨_, _, Tryz.underlying26, ⟨rfl, rfl⟩, ⟨rfl, rfl⟩⟩
set_option maxRecDepth 100000 in
theorem ke_of {n : Nat} {cs : List Value} {y : DataW H × List MemPlace} (h : DataW.trod enc Tryz.prog W base sp held n 26 cs = some y) (hl : cs.length = 3) : ∃ (x0 : Int), ∃ (x1 : Int), ∃ (x2 : Int), cs = [.int .u8 x0, .int .u64 x1, .int .u8 x2] ∧ Wf .u8 x0 ∧ Wf .u64 x1 ∧ Wf .u8 x2 := by
  obtain ⟨f0, f1, hu, ⟨o0, o1⟩, t0, t1⟩ := keU
  obtain ⟨xs, m, _, _, _, hn, hel⟩ := DataW.trod_struct hu h
  match cs, hl with
  | [a0, a1, a2], _ =>
    have e0 := hel 0 f0 rfl
    rw [t0, o0, cTk, List.getElem?_eq_getElem (by rw [hn]; show _ < 2; omega)] at e0
    have e1 := hel 1 f1 rfl
    rw [t1, o1, cellsU8, List.getElem?_eq_getElem (by rw [hn]; show _ < 2; omega)] at e1
    obtain ⟨x0, x1, h0, w0, w1⟩ := tk_of e0 rfl
    simp only [List.drop_zero, List.take_succ_cons, List.take_zero, List.cons.injEq, and_true] at h0
    obtain ⟨rfl, rfl⟩ := h0
    obtain ⟨x2, rfl, w2⟩ := intc_of Tryz.underlying5 e1
    exact ⟨x0, x1, x2, rfl, w0, w1, w2⟩
theorem lgU : ∃ f0 f1 f2 : Field, Tryz.prog.underlying 30 = some (.struct #[f0, f1, f2]) ∧ (f0.offset = 0 ∧ f1.offset = 1 ∧ f2.offset = 2) ∧ (f0.type = 5 ∧ f1.type = 27 ∧ f2.type = 28) :=
  ⟨_, _, _, Tryz.underlying30, ⟨rfl, rfl, rfl⟩, ⟨rfl, rfl, rfl⟩⟩
set_option maxRecDepth 100000 in
theorem lg_of {n : Nat} {cs : List Value} {y : DataW H × List MemPlace} (h : DataW.trod enc Tryz.prog W base sp held n 30 cs = some y) (hl : cs.length = 3) : ∃ (x0 : Int), ∃ (x1 : Int), ∃ (x2 : Int), cs = [.int .u8 x0, .int .u16 x1, .int .u32 x2] ∧ Wf .u8 x0 ∧ Wf .u16 x1 ∧ Wf .u32 x2 := by
  obtain ⟨f0, f1, f2, hu, ⟨o0, o1, o2⟩, t0, t1, t2⟩ := lgU
  obtain ⟨xs, m, _, _, _, hn, hel⟩ := DataW.trod_struct hu h
  match cs, hl with
  | [a0, a1, a2], _ =>
    have e0 := hel 0 f0 rfl
    rw [t0, o0, cellsU8, List.getElem?_eq_getElem (by rw [hn]; show _ < 3; omega)] at e0
    have e1 := hel 1 f1 rfl
    rw [t1, o1, cU16, List.getElem?_eq_getElem (by rw [hn]; show _ < 3; omega)] at e1
    have e2 := hel 2 f2 rfl
    rw [t2, o2, cU32, List.getElem?_eq_getElem (by rw [hn]; show _ < 3; omega)] at e2
    obtain ⟨x0, rfl, w0⟩ := intc_of Tryz.underlying5 e0
    obtain ⟨x1, rfl, w1⟩ := intc_of Tryz.underlying27 e1
    obtain ⟨x2, rfl, w2⟩ := intc_of Tryz.underlying28 e2
    exact ⟨x0, x1, x2, rfl, w0, w1, w2⟩
theorem cpU : ∃ f0 f1 f2 f3 : Field, Tryz.prog.underlying 33 = some (.struct #[f0, f1, f2, f3]) ∧ (f0.offset = 0 ∧ f1.offset = 3 ∧ f2.offset = 4 ∧ f3.offset = 5) ∧ (f0.type = 30 ∧ f1.type = 2 ∧ f2.type = 31 ∧ f3.type = 28) :=
  ⟨_, _, _, _, Tryz.underlying33, ⟨rfl, rfl, rfl, rfl⟩, ⟨rfl, rfl, rfl, rfl⟩⟩
set_option maxRecDepth 100000 in
theorem cp_of {n : Nat} {cs : List Value} {y : DataW H × List MemPlace} (h : DataW.trod enc Tryz.prog W base sp held n 33 cs = some y) (hl : cs.length = 6) : ∃ (x0 : Int), ∃ (x1 : Int), ∃ (x2 : Int), ∃ (x3 : Int), ∃ (x4 : Int), ∃ (x5 : Int), cs = [.int .u8 x0, .int .u16 x1, .int .u32 x2, .int .i64 x3, .int .u8 x4, .int .u32 x5] ∧ Wf .u8 x0 ∧ Wf .u16 x1 ∧ Wf .u32 x2 ∧ Wf .i64 x3 ∧ Wf .u8 x4 ∧ Wf .u32 x5 := by
  obtain ⟨f0, f1, f2, f3, hu, ⟨o0, o1, o2, o3⟩, t0, t1, t2, t3⟩ := cpU
  obtain ⟨xs, m, _, _, _, hn, hel⟩ := DataW.trod_struct hu h
  match cs, hl with
  | [a0, a1, a2, a3, a4, a5], _ =>
    have e0 := hel 0 f0 rfl
    rw [t0, o0, cLg, List.getElem?_eq_getElem (by rw [hn]; show _ < 4; omega)] at e0
    have e1 := hel 1 f1 rfl
    rw [t1, o1, cI64, List.getElem?_eq_getElem (by rw [hn]; show _ < 4; omega)] at e1
    have e2 := hel 2 f2 rfl
    rw [t2, o2, cSt, List.getElem?_eq_getElem (by rw [hn]; show _ < 4; omega)] at e2
    have e3 := hel 3 f3 rfl
    rw [t3, o3, cU32, List.getElem?_eq_getElem (by rw [hn]; show _ < 4; omega)] at e3
    obtain ⟨x0, x1, x2, h0, w0, w1, w2⟩ := lg_of e0 rfl
    simp only [List.drop_zero, List.take_succ_cons, List.take_zero, List.cons.injEq, and_true] at h0
    obtain ⟨rfl, rfl, rfl⟩ := h0
    obtain ⟨x3, rfl, w3⟩ := intc_of Tryz.underlying2 e1
    obtain ⟨x4, rfl, w4⟩ := intc_of Tryz.underlying31 e2
    obtain ⟨x5, rfl, w5⟩ := intc_of Tryz.underlying28 e3
    exact ⟨x0, x1, x2, x3, x4, x5, rfl, w0, w1, w2, w3, w4, w5⟩
theorem msU : ∃ f0 f1 f2 f3 f4 : Field, Tryz.prog.underlying 36 = some (.struct #[f0, f1, f2, f3, f4]) ∧ (f0.offset = 0 ∧ f1.offset = 1 ∧ f2.offset = 4 ∧ f3.offset = 10 ∧ f4.offset = 11) ∧ (f0.type = 5 ∧ f1.type = 26 ∧ f2.type = 33 ∧ f3.type = 2 ∧ f4.type = 34) :=
  ⟨_, _, _, _, _, Tryz.underlying36, ⟨rfl, rfl, rfl, rfl, rfl⟩, ⟨rfl, rfl, rfl, rfl, rfl⟩⟩
set_option maxRecDepth 100000 in
theorem ms_of {n : Nat} {cs : List Value} {y : DataW H × List MemPlace} (h : DataW.trod enc Tryz.prog W base sp held n 36 cs = some y) (hl : cs.length = 12) : ∃ (x0 : Int), ∃ (x1 : Int), ∃ (x2 : Int), ∃ (x3 : Int), ∃ (x4 : Int), ∃ (x5 : Int), ∃ (x6 : Int), ∃ (x7 : Int), ∃ (x8 : Int), ∃ (x9 : Int), ∃ (x10 : Int), ∃ (x11 : Int), cs = [.int .u8 x0, .int .u8 x1, .int .u64 x2, .int .u8 x3, .int .u8 x4, .int .u16 x5, .int .u32 x6, .int .i64 x7, .int .u8 x8, .int .u32 x9, .int .i64 x10, .int .i64 x11] ∧ Wf .u8 x0 ∧ Wf .u8 x1 ∧ Wf .u64 x2 ∧ Wf .u8 x3 ∧ Wf .u8 x4 ∧ Wf .u16 x5 ∧ Wf .u32 x6 ∧ Wf .i64 x7 ∧ Wf .u8 x8 ∧ Wf .u32 x9 ∧ Wf .i64 x10 ∧ Wf .i64 x11 := by
  obtain ⟨f0, f1, f2, f3, f4, hu, ⟨o0, o1, o2, o3, o4⟩, t0, t1, t2, t3, t4⟩ := msU
  obtain ⟨xs, m, _, _, _, hn, hel⟩ := DataW.trod_struct hu h
  match cs, hl with
  | [a0, a1, a2, a3, a4, a5, a6, a7, a8, a9, a10, a11], _ =>
    have e0 := hel 0 f0 rfl
    rw [t0, o0, cellsU8, List.getElem?_eq_getElem (by rw [hn]; show _ < 5; omega)] at e0
    have e1 := hel 1 f1 rfl
    rw [t1, o1, cKe, List.getElem?_eq_getElem (by rw [hn]; show _ < 5; omega)] at e1
    have e2 := hel 2 f2 rfl
    rw [t2, o2, cCp, List.getElem?_eq_getElem (by rw [hn]; show _ < 5; omega)] at e2
    have e3 := hel 3 f3 rfl
    rw [t3, o3, cI64, List.getElem?_eq_getElem (by rw [hn]; show _ < 5; omega)] at e3
    have e4 := hel 4 f4 rfl
    rw [t4, o4, cEr, List.getElem?_eq_getElem (by rw [hn]; show _ < 5; omega)] at e4
    obtain ⟨x0, rfl, w0⟩ := intc_of Tryz.underlying5 e0
    obtain ⟨x1, x2, x3, h1, w1, w2, w3⟩ := ke_of e1 rfl
    simp only [List.drop_succ_cons, List.drop_zero, List.take_succ_cons, List.take_zero, List.cons.injEq, and_true] at h1
    obtain ⟨rfl, rfl, rfl⟩ := h1
    obtain ⟨x4, x5, x6, x7, x8, x9, h2, w4, w5, w6, w7, w8, w9⟩ := cp_of e2 rfl
    simp only [List.drop_succ_cons, List.drop_zero, List.take_succ_cons, List.take_zero, List.cons.injEq, and_true] at h2
    obtain ⟨rfl, rfl, rfl, rfl, rfl, rfl⟩ := h2
    obtain ⟨x10, rfl, w10⟩ := intc_of Tryz.underlying2 e3
    obtain ⟨x11, rfl, w11⟩ := intc_of Tryz.underlying34 e4
    exact ⟨x0, x1, x2, x3, x4, x5, x6, x7, x8, x9, x10, x11, rfl, w0, w1, w2, w3, w4, w5, w6, w7, w8, w9, w10, w11⟩
theorem pkU : ∃ f0 f1 f2 f3 f4 : Field, Tryz.prog.underlying 38 = some (.struct #[f0, f1, f2, f3, f4]) ∧ (f0.offset = 0 ∧ f1.offset = 1 ∧ f2.offset = 2 ∧ f3.offset = 3 ∧ f4.offset = 4) ∧ (f0.type = 5 ∧ f1.type = 5 ∧ f2.type = 4 ∧ f3.type = 22 ∧ f4.type = 36) :=
  ⟨_, _, _, _, _, Tryz.underlying38, ⟨rfl, rfl, rfl, rfl, rfl⟩, ⟨rfl, rfl, rfl, rfl, rfl⟩⟩
set_option maxRecDepth 100000 in
theorem pk_of {n : Nat} {cs : List Value} {y : DataW H × List MemPlace} (h : DataW.trod enc Tryz.prog W base sp held n 38 cs = some y) (hl : cs.length = 16) : ∃ (x0 : Int), ∃ (x1 : Int), ∃ (x2 : Bool), ∃ (x3 : Int), ∃ (x4 : Int), ∃ (x5 : Int), ∃ (x6 : Int), ∃ (x7 : Int), ∃ (x8 : Int), ∃ (x9 : Int), ∃ (x10 : Int), ∃ (x11 : Int), ∃ (x12 : Int), ∃ (x13 : Int), ∃ (x14 : Int), ∃ (x15 : Int), cs = [.int .u8 x0, .int .u8 x1, .bool x2, .int .u64 x3, .int .u8 x4, .int .u8 x5, .int .u64 x6, .int .u8 x7, .int .u8 x8, .int .u16 x9, .int .u32 x10, .int .i64 x11, .int .u8 x12, .int .u32 x13, .int .i64 x14, .int .i64 x15] ∧ Wf .u8 x0 ∧ Wf .u8 x1 ∧ Wf .u64 x3 ∧ Wf .u8 x4 ∧ Wf .u8 x5 ∧ Wf .u64 x6 ∧ Wf .u8 x7 ∧ Wf .u8 x8 ∧ Wf .u16 x9 ∧ Wf .u32 x10 ∧ Wf .i64 x11 ∧ Wf .u8 x12 ∧ Wf .u32 x13 ∧ Wf .i64 x14 ∧ Wf .i64 x15 := by
  obtain ⟨f0, f1, f2, f3, f4, hu, ⟨o0, o1, o2, o3, o4⟩, t0, t1, t2, t3, t4⟩ := pkU
  obtain ⟨xs, m, _, _, _, hn, hel⟩ := DataW.trod_struct hu h
  match cs, hl with
  | [a0, a1, a2, a3, a4, a5, a6, a7, a8, a9, a10, a11, a12, a13, a14, a15], _ =>
    have e0 := hel 0 f0 rfl
    rw [t0, o0, cellsU8, List.getElem?_eq_getElem (by rw [hn]; show _ < 5; omega)] at e0
    have e1 := hel 1 f1 rfl
    rw [t1, o1, cellsU8, List.getElem?_eq_getElem (by rw [hn]; show _ < 5; omega)] at e1
    have e2 := hel 2 f2 rfl
    rw [t2, o2, cBo, List.getElem?_eq_getElem (by rw [hn]; show _ < 5; omega)] at e2
    have e3 := hel 3 f3 rfl
    rw [t3, o3, cellsU64, List.getElem?_eq_getElem (by rw [hn]; show _ < 5; omega)] at e3
    have e4 := hel 4 f4 rfl
    rw [t4, o4, cMs, List.getElem?_eq_getElem (by rw [hn]; show _ < 5; omega)] at e4
    obtain ⟨x0, rfl, w0⟩ := intc_of Tryz.underlying5 e0
    obtain ⟨x1, rfl, w1⟩ := intc_of Tryz.underlying5 e1
    obtain ⟨x2, rfl⟩ := boolc_of Tryz.underlying4 e2
    obtain ⟨x3, rfl, w3⟩ := intc_of Tryz.underlying22 e3
    obtain ⟨x4, x5, x6, x7, x8, x9, x10, x11, x12, x13, x14, x15, h4, w4, w5, w6, w7, w8, w9, w10, w11, w12, w13, w14, w15⟩ := ms_of e4 rfl
    simp only [List.drop_succ_cons, List.drop_zero, List.take_succ_cons, List.take_zero, List.cons.injEq, and_true] at h4
    obtain ⟨rfl, rfl, rfl, rfl, rfl, rfl, rfl, rfl, rfl, rfl, rfl, rfl⟩ := h4
    exact ⟨x0, x1, x2, x3, x4, x5, x6, x7, x8, x9, x10, x11, x12, x13, x14, x15, rfl, w0, w1, w3, w4, w5, w6, w7, w8, w9, w10, w11, w12, w13, w14, w15⟩
set_option maxRecDepth 100000 in
theorem open_packet {r : Reach} {b0 : Nat} {v : Value} {d : DataW H} {p : List MemPlace} (hv : Value.okWide Tryz.prog W r b0 38 v) (h : DataW.Trod enc Tryz.prog W base sp held 38 v d p) :
    ∃ x : Pk, v = .agg (pkV x) ∧ x.Ty := by
  obtain ⟨f0, f1, f2, f3, f4, hu, _⟩ := pkU
  simp only [Value.okWide, hu] at hv
  obtain ⟨cs, rfl, hsz, _⟩ := hv
  rw [cPk] at hsz
  obtain ⟨fuel, hf0⟩ := h
  obtain ⟨y, hf⟩ : ∃ y, DataW.trod enc Tryz.prog W base sp held fuel 38 cs.toList = some y := ⟨_, hf0⟩
  obtain ⟨x0, x1, x2, x3, x4, x5, x6, x7, x8, x9, x10, x11, x12, x13, x14, x15, hs, w0, w1, w3, w4, w5, w6, w7, w8, w9, w10, w11, w12, w13, w14, w15⟩ := pk_of hf (by simpa using hsz)
  have q0 := wf_u8 w0
  have q1 := wf_u8 w1
  have q3 := wf_u64 w3
  have q4 := wf_u8 w4
  have q5 := wf_u8 w5
  have q6 := wf_u64 w6
  have q7 := wf_u8 w7
  have q8 := wf_u8 w8
  have q9 := wf_u16 w9
  have q10 := wf_u32 w10
  have q11 := wf_i64 w11
  have q12 := wf_u8 w12
  have q13 := wf_u32 w13
  have q14 := wf_i64 w14
  have q15 := wf_i64 w15
  clear w0 w1 w3 w4 w5 w6 w7 w8 w9 w10 w11 w12 w13 w14 w15 hf
  refine ⟨⟨x0.toNat, x1.toNat, x3.toNat, x2, ⟨x4.toNat, x5.toNat, x6.toNat, x7.toNat, x8.toNat, x9.toNat, x10.toNat, x11, x12.toNat, x13.toNat, x14, x15⟩⟩, ?_, ⟨by show x0.toNat < 256; omega, by show x1.toNat < 256; omega, by show x3.toNat < 18446744073709551616; omega, ⟨by show x4.toNat < 256; omega, by show x5.toNat < 256; omega, by show x6.toNat < 18446744073709551616; omega, by show x7.toNat < 256; omega, by show x8.toNat < 256; omega, by show x9.toNat < 65536; omega, by show x10.toNat < 4294967296; omega, q11, by show x12.toNat < 256; omega, by show x13.toNat < 4294967296; omega, q14, q15⟩⟩⟩
  have e : ∀ z : Int, 0 ≤ z → ((z.toNat : Nat) : Int) = z := fun z hz => by omega
  congr 1
  apply Array.toList_inj.1
  rw [hs]
  show _ = [Value.int .u8 ((x0.toNat : Nat) : Int), .int .u8 ((x1.toNat : Nat) : Int), .bool x2, .int .u64 ((x3.toNat : Nat) : Int), .int .u8 ((x4.toNat : Nat) : Int), .int .u8 ((x5.toNat : Nat) : Int), .int .u64 ((x6.toNat : Nat) : Int), .int .u8 ((x7.toNat : Nat) : Int), .int .u8 ((x8.toNat : Nat) : Int), .int .u16 ((x9.toNat : Nat) : Int), .int .u32 ((x10.toNat : Nat) : Int), .int .i64 x11, .int .u8 ((x12.toNat : Nat) : Int), .int .u32 ((x13.toNat : Nat) : Int), .int .i64 x14, .int .i64 x15]
  rw [e x0 q0.1, e x1 q1.1, e x3 q3.1, e x4 q4.1, e x5 q5.1, e x6 q6.1, e x7 q7.1, e x8 q8.1, e x9 q9.1, e x10 q10.1, e x12 q12.1, e x13 q13.1]
end
end Go.Proofs.YtgaoeljdlpemnaaGreatDoor
