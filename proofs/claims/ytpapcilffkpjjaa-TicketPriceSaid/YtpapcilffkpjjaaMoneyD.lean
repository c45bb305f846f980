/- Contract of math/bits' division of two words by one. -/
import Derived.Test.YtpapcilffkpjjaaMoneyShelf
import Derived.Test.YtpapcilffkpjjaaMoneyW
import Derived.Laws.Shifts
import Derived.Test.YtpapcilffkpjjaaMoneyPure2
import Derived.Laws.Bits64b
import Derived.Laws.MathBits
import Derived.Deep.CutBlock
import Derived.Deep.DeepCutAuto
namespace Go.Proofs.Ytpapcilffkpjjaa
open Go.RowKit Go.Money

theorem aux_len (f : Nat) : ∀ x : Nat, 0 < x → x < 2 ^ f → x < 2 ^ Lib.bitLenAux f x ∧ 2 ^ Lib.bitLenAux f x ≤ 2 * x ∧ Lib.bitLenAux f x ≤ f ∧ 1 ≤ Lib.bitLenAux f x := by
  induction f with
  | zero => intro x h1 h2; simp at h2; omega
  | succ f ih =>
    intro x h1 h2
    have hx : ¬ x = 0 := by omega
    simp only [Lib.bitLenAux, if_neg hx]
    by_cases h : x / 2 = 0
    · have : Lib.bitLenAux f (x / 2) = 0 := by rw [h]; cases f <;> rfl
      rw [this]; omega
    · have h3 := ih (x / 2) (by omega) (by rw [Nat.pow_succ] at h2; omega)
      rw [Nat.add_comm 1, Nat.pow_succ]
      omega
theorem left_over (u w Y q R : Nat) (hq : q = (u * 4294967296 + w) / Y) (hR : R = (u * 4294967296 + w) % Y) (hRY : R < Y) (hY : Y ≤ 18446744073709551615) :
    ∃ X1 X2 X3 : Nat, IntKind.u64.wrap ((u : Int) * 4294967296) = (X1 : Int) ∧ IntKind.u64.wrap ((X1 : Int) + (w : Int)) = (X2 : Int) ∧ IntKind.u64.wrap ((q : Int) * (Y : Int)) = (X3 : Int) ∧ IntKind.u64.wrap ((X2 : Int) - (X3 : Int)) = (R : Int) := by
  have h := Nat.div_add_mod (u * 4294967296 + w) Y
  rw [← hq, ← hR, Nat.mul_comm] at h
  have e : ((q * Y : Nat) : Int) = (q : Int) * (Y : Int) := Int.natCast_mul ..
  refine ⟨u * 4294967296 % 18446744073709551616, (u * 4294967296 + w) % 18446744073709551616, q * Y % 18446744073709551616, ?_, ?_, ?_, ?_⟩
  · rw [IntKind.wrap_u64]; omega
  · rw [IntKind.wrap_u64]; omega
  · rw [IntKind.wrap_u64, ← e]; omega
  · rw [IntKind.wrap_u64]
    generalize q * Y = z at *
    omega
set_option maxRecDepth 100000 in
set_option maxHeartbeats 1600000 in
theorem div64_walk (hi lo y s Y v1 v0 A Bv u C w1 w0 q1 q0 U1 Rm : Nat) (w : World) (h0 : (1 : Int) ≤ (hi : Int)) (hh : (hi : Int) + 1 ≤ (y : Int)) (hs2 : s ≤ 63)
    (hlz : ∀ w, Calls Try.prog 75 #[.int .u64 (y : Int)] w fun e w' => e = .returned (.int .i64 (s : Int)) ∧ w = w')
    (hY : IntKind.u64.wrap ((y : Int) * 2 ^ s) = (Y : Int)) (hv1 : (Y : Int) / 4294967296 = (v1 : Int)) (hv0 : bits .and .u64 (Y : Int) 4294967295 = (v0 : Int))
    (hA : IntKind.u64.wrap ((hi : Int) * 2 ^ s) = (A : Int)) (hB : (lo : Int) / 2 ^ (64 - s) = (Bv : Int)) (hu : bits .or .u64 (A : Int) (Bv : Int) = (u : Int))
    (hC : IntKind.u64.wrap ((lo : Int) * 2 ^ s) = (C : Int)) (hw1 : (C : Int) / 4294967296 = (w1 : Int)) (hw0 : bits .and .u64 (C : Int) 4294967295 = (w0 : Int))
    (eV : v1 * 4294967296 + v0 = Y) (f2 : 2147483648 ≤ v1) (f3 : (v1 : Int) ≤ 4294967295) (f4 : (v0 : Int) ≤ 4294967295) (bu : u < Y)
    (c1 : (w1 : Int) ≤ 4294967295) (c0 : (w0 : Int) ≤ 4294967295)
    (e1 : q1 = (u * 4294967296 + w1) / Y) (e2 : U1 = (u * 4294967296 + w1) % Y) (e3 : q0 = (U1 * 4294967296 + w0) / Y) (e4 : Rm = (U1 * 4294967296 + w0) % Y) :
    Calls Try.prog 60 #[.int .u64 (hi : Int), .int .u64 (lo : Int), .int .u64 (y : Int)] w fun e w' => e = .returned (.tuple #[.int .u64 ((q1 * 4294967296 + q0 : Nat) : Int), .int .u64 ((Rm : Int) / 2 ^ s)]) ∧ w = w' := by
  have nu : (0 : Int) ≤ (u : Int) := Int.natCast_nonneg _
  have bY : (Y : Int) ≤ 18446744073709551615 := by omega
  have nY : (0 : Int) ≤ (Y : Int) := Int.natCast_nonneg _
  have hu2 : (u : Int) ≤ 18446744073709551615 := by omega
  have f5 : (1 : Int) ≤ (v1 : Int) := by omega
  have n0 : (0 : Int) ≤ (v0 : Int) := Int.natCast_nonneg _
  have nw1 : (0 : Int) ≤ (w1 : Int) := Int.natCast_nonneg _
  have nw0 : (0 : Int) ≤ (w0 : Int) := Int.natCast_nonneg _
  obtain ⟨Qs, hQs⟩ : ∃ Qs, Qs = u / v1 := ⟨_, rfl⟩
  have bQ : Qs ≤ 4294967297 := by rw [hQs]; exact digit_first (v0 := v0) (by omega) f2 (by omega)
  have pQ : Qs * v1 + u % v1 = u := by rw [hQs, Nat.mul_comm]; exact Nat.div_add_mod ..
  have pR : u % v1 < v1 := Nat.mod_lt _ (by omega)
  generalize u % v1 = Rs at *
  have hq : (u : Int) / (v1 : Int) = (Qs : Int) := by rw [hQs]; simp
  have hqm : (0 : Int) ≤ (Qs : Int) * (v1 : Int) := Int.mul_nonneg (Int.natCast_nonneg _) (Int.natCast_nonneg _)
  have hqn : (Qs : Int) * (v1 : Int) ≤ (u : Int) := by have : ((Qs * v1 : Nat) : Int) = (Qs : Int) * (v1 : Int) := Int.natCast_mul ..; omega
  have hqr : (u : Int) - (Qs : Int) * (v1 : Int) = (Rs : Int) := by have : ((Qs * v1 : Nat) : Int) = (Qs : Int) * (v1 : Int) := Int.natCast_mul ..; omega
  have bR : (Rs : Int) ≤ 4294967295 := by omega
  have bQ2 : (Qs : Int) ≤ 4294967297 := by omega
  have hU1 : U1 < Y := by rw [e2]; exact Nat.mod_lt _ (by omega)
  have BU2 := Lib.hid hU1
  obtain ⟨Q2, hQ2⟩ : ∃ Q2, Q2 = U1 / v1 := ⟨_, rfl⟩
  have bQ2n : Q2 ≤ 4294967297 := by rw [hQ2]; exact digit_first (v0 := v0) (by omega) f2 (by omega)
  have pQ2 : Q2 * v1 + U1 % v1 = U1 := by rw [hQ2, Nat.mul_comm]; exact Nat.div_add_mod ..
  have pR2 : U1 % v1 < v1 := Nat.mod_lt _ (by omega)
  generalize U1 % v1 = R2 at *
  have hq2 : (U1 : Int) / (v1 : Int) = (Q2 : Int) := by rw [hQ2]; simp
  have hqm2 : (0 : Int) ≤ (Q2 : Int) * (v1 : Int) := Int.mul_nonneg (Int.natCast_nonneg _) (Int.natCast_nonneg _)
  have hqn2 : (Q2 : Int) * (v1 : Int) ≤ (U1 : Int) := by have : ((Q2 * v1 : Nat) : Int) = (Q2 : Int) * (v1 : Int) := Int.natCast_mul ..; omega
  have hqr2 : (U1 : Int) - (Q2 : Int) * (v1 : Int) = (R2 : Int) := by have : ((Q2 * v1 : Nat) : Int) = (Q2 : Int) * (v1 : Int) := Int.natCast_mul ..; omega
  have nU1 : (0 : Int) ≤ (U1 : Int) := Int.natCast_nonneg _
  have bU1 : (U1 : Int) ≤ 18446744073709551615 := by omega
  have bR2 : (R2 : Int) ≤ 4294967295 := by omega
  have bQ22 : (Q2 : Int) ≤ 4294967297 := by omega
  have lq1 : (q1 : Int) ≤ 4294967295 := by have := digit_lt (B := 4294967296) (w := w1) bu (by omega); rw [← e1] at this; omega
  have lq0 : (q0 : Int) ≤ 4294967295 := by have := digit_lt (B := 4294967296) (w := w0) hU1 (by omega); rw [← e3] at this; omega
  have nq1 : (0 : Int) ≤ (q1 : Int) := Int.natCast_nonneg _
  have nq0 : (0 : Int) ≤ (q0 : Int) := Int.natCast_nonneg _
  have QL2 := Lib.hid (digit_top (B := 4294967296) (w := w0) (v0 := v0) pQ2 pR2 (by omega) (by omega))
  rw [eV, ← e3] at QL2
  have PQ2 := Lib.hid pQ2
  obtain ⟨X1, X2, X3, hx1, hx2, hx3, hx4⟩ := left_over u w1 Y q1 U1 e1 e2 hU1 (by omega)
  obtain ⟨X5, X6, X7, hx5, hx6, hx7, hx8⟩ := left_over U1 w0 Y q0 Rm e3 e4 (by rw [e4]; exact Nat.mod_lt _ (by omega)) (by omega)
  have QL := Lib.hid (digit_top (B := 4294967296) (w := w1) (v0 := v0) pQ pR (by omega) (by omega))
  rw [eV, ← e1] at QL
  clear hU1 hQ2 bQ2n pQ2 pR2
  have HL := Lib.hid hlz
  have EV := Lib.hid eV
  have F2 := Lib.hid f2
  have BU := Lib.hid bu
  have E1 := Lib.hid e1
  have E2 := Lib.hid e2
  have E3 := Lib.hid e3
  have E4 := Lib.hid e4
  have PQ := Lib.hid pQ
  clear hlz eV f2 bu e1 e2 e3 e4 hQs bQ pQ pR
  go_enter Try.func60, Try.ntmps60
  go_upto_block 0 with (go_at_call 75; refine (HL.out _).mono ?_; rintro e w' ⟨rfl, rfl⟩)
  go_cut [15, 16] from 67 to 85 (fun q r wx => q = .int .u64 (q1 : Int) ∧ (∃ R : Int, r = .int .u64 R) ∧ w = wx)
  case first =>
    go_wp2_with fail
    go_loopw [15, 16] (fun q r wr => ∃ (Qn Rn : Nat) (Q R : Int), q = .int .u64 Q ∧ r = .int .u64 R ∧ Hid (Q = (Qn : Int)) ∧ Hid (R = (Rn : Int)) ∧ Hid (Qn * v1 + Rn = u) ∧ Hid (q1 ≤ Qn) ∧ 0 ≤ Q ∧ Q ≤ 4294967297 ∧ 0 ≤ R ∧ R ≤ 4294967295 ∧ w = wr) (fun q _ _ => (intOf q).toNat)
    case atStart => exact ⟨Qs, Rs, _, _, rfl, rfl, rfl, rfl, PQ.out, QL.out, Int.natCast_nonneg _, bQ2, Int.natCast_nonneg _, bR, rfl⟩
    case round =>
      obtain ⟨Qn, Rn, Q, R, rfl, rfl, q1', r1', h1, hT, nQ, bQ, nR, bR, rfl⟩ := hrel
      have EQ := Lib.hid q1'.out
      have ER := Lib.hid r1'.out
      have H1 := Lib.hid h1.out
      have HT := Lib.hid hT.out
      clear h1 hT q1' r1'
      have np : (0 : Int) ≤ Q * (v0 : Int) := Int.mul_nonneg nQ n0
      have hY0 : 0 < v1 * 4294967296 + v0 := by have := F2.out; omega
      have hG := digit_go (B := 4294967296) (w := w1) (v0 := v0) H1.out (by have := BU.out; have := EV.out; omega) (by omega)
      have hS := digit_stop (B := 4294967296) (w := w1) (v0 := v0) H1.out hY0
      have hK : 1 ≤ Qn → _ := fun hQ1 => digit_break (B := 4294967296) (w := w1) (v0 := v0) (digit_dec H1.out hQ1) hY0 (by have := EQ.out; omega) (by omega)
      rw [EV.out, ← E1.out] at hG hS hK
      have HG := Lib.hid hG
      have HS := Lib.hid hS
      have HK := Lib.hid hK
      clear hG hS hK hY0
      have hcast : ((Qn * v0 : Nat) : Int) = Q * (v0 : Int) := by rw [EQ.out]; exact Int.natCast_mul ..
      by_cases hbig : (4294967296 : Int) ≤ Q
      · obtain ⟨g1, g2⟩ := HG.out (Or.inl (by have := EQ.out; omega))
        have G1 := Lib.hid g1
        have G2 := Lib.hid g2
        have hQ1 : (1 : Int) ≤ Q := by have := EQ.out; omega
        clear g1 g2 hcast
        by_cases hbr : (4294967296 : Int) ≤ R + (v1 : Int)
        · have hq : Qn - 1 = q1 := HK.out G2.out (by have := ER.out; omega) G1.out
          have hqq : Q - 1 = (q1 : Int) := by have := EQ.out; have := G2.out; omega
          have HQQ := Lib.hid hqq
          clear hq hqq
          go_wp2
          go_meet
          case rel => exact ⟨congrArg (Value.int IntKind.u64) HQQ.out, ⟨_, rfl⟩, rfl⟩
        · have hbr2 : R + (v1 : Int) ≤ 4294967295 := by omega
          go_wp2
          case roundEnd =>
            go_roundw
            case rel => exact ⟨Qn - 1, Rn + v1, _, _, rfl, rfl, (by have := EQ.out; have := G2.out; show _ = _; omega), (by have := ER.out; show _ = _; omega), digit_dec H1.out G2.out, G1.out, by have := EQ.out; have := G2.out; omega, by omega, by omega, by omega, trivial⟩
            case measure => have := EQ.out; have := G2.out; simp [intOf]; omega
      · have hb2 : Q ≤ 4294967295 := by omega
        have hpl : Q * (v0 : Int) ≤ 18446744065119617025 := by rw [EQ.out]; exact prod_le (by have := EQ.out; omega) (by omega)
        by_cases hgt : 4294967296 * R + (w1 : Int) < Q * (v0 : Int)
        · obtain ⟨g1, g2⟩ := HG.out (Or.inr (by have := ER.out; omega))
          have G1 := Lib.hid g1
          have G2 := Lib.hid g2
          have hQ1 : (1 : Int) ≤ Q := by have := EQ.out; omega
          clear g1 g2 hcast
          by_cases hbr : (4294967296 : Int) ≤ R + (v1 : Int)
          · have hq : Qn - 1 = q1 := HK.out G2.out (by have := ER.out; omega) G1.out
            have hqq : Q - 1 = (q1 : Int) := by have := EQ.out; have := G2.out; omega
            have HQQ := Lib.hid hqq
            clear hq hqq
            go_wp2
            go_meet
            case rel => exact ⟨congrArg (Value.int IntKind.u64) HQQ.out, ⟨_, rfl⟩, rfl⟩
          · have hbr2 : R + (v1 : Int) ≤ 4294967295 := by omega
            go_wp2
            case roundEnd =>
              go_roundw
              case rel => exact ⟨Qn - 1, Rn + v1, _, _, rfl, rfl, (by have := EQ.out; have := G2.out; show _ = _; omega), (by have := ER.out; show _ = _; omega), digit_dec H1.out G2.out, G1.out, by have := EQ.out; have := G2.out; omega, by omega, by omega, by omega, trivial⟩
              case measure => have := EQ.out; have := G2.out; simp [intOf]; omega
        · have hle : Q * (v0 : Int) ≤ 4294967296 * R + (w1 : Int) := by omega
          have hq : Qn = q1 := HS.out (by have := ER.out; omega) HT.out
          clear hcast
          have hqq : Q = (q1 : Int) := by rw [EQ.out, hq]
          have HQQ := Lib.hid hqq
          clear hq hqq
          go_wp2
          go_meet
          case rel => exact ⟨congrArg (Value.int IntKind.u64) HQQ.out, ⟨_, rfl⟩, rfl⟩
  case rest =>
    obtain ⟨rfl, ⟨Rx, rfl⟩, rfl⟩ := hcut
    clear hq hqm hqn hqr bR bQ2
    go_upto_block 2 with fail
    go_cut [18, 16] from 102 to 120 (fun q r wx => q = .int .u64 (q0 : Int) ∧ (∃ R : Int, r = .int .u64 R) ∧ w = wx)
    case first =>
      go_wp2_with fail
      go_loopw [18, 16] (fun q r wr => ∃ (Qn Rn : Nat) (Q R : Int), q = .int .u64 Q ∧ r = .int .u64 R ∧ Hid (Q = (Qn : Int)) ∧ Hid (R = (Rn : Int)) ∧ Hid (Qn * v1 + Rn = U1) ∧ Hid (q0 ≤ Qn) ∧ 0 ≤ Q ∧ Q ≤ 4294967297 ∧ 0 ≤ R ∧ R ≤ 4294967295 ∧ w = wr) (fun q _ _ => (intOf q).toNat)
      case atStart => exact ⟨Q2, R2, _, _, rfl, rfl, rfl, rfl, PQ2.out, QL2.out, Int.natCast_nonneg _, bQ22, Int.natCast_nonneg _, bR2, rfl⟩
      case round =>
        obtain ⟨Qn, Rn, Q, R, rfl, rfl, q1', r1', h1, hT, nQ, bQ, nR, bR, rfl⟩ := hrel
        have EQ := Lib.hid q1'.out
        have ER := Lib.hid r1'.out
        have H1 := Lib.hid h1.out
        have HT := Lib.hid hT.out
        clear h1 hT q1' r1'
        have np : (0 : Int) ≤ Q * (v0 : Int) := Int.mul_nonneg nQ n0
        have hY0 : 0 < v1 * 4294967296 + v0 := by have := F2.out; omega
        have hG := digit_go (B := 4294967296) (w := w0) (v0 := v0) H1.out (by have := BU2.out; have := EV.out; omega) (by omega)
        have hS := digit_stop (B := 4294967296) (w := w0) (v0 := v0) H1.out hY0
        have hK : 1 ≤ Qn → _ := fun hQ1 => digit_break (B := 4294967296) (w := w0) (v0 := v0) (digit_dec H1.out hQ1) hY0 (by have := EQ.out; omega) (by omega)
        rw [EV.out, ← E3.out] at hG hS hK
        have HG := Lib.hid hG
        have HS := Lib.hid hS
        have HK := Lib.hid hK
        clear hG hS hK hY0
        have hcast : ((Qn * v0 : Nat) : Int) = Q * (v0 : Int) := by rw [EQ.out]; exact Int.natCast_mul ..
        by_cases hbig : (4294967296 : Int) ≤ Q
        · obtain ⟨g1, g2⟩ := HG.out (Or.inl (by have := EQ.out; omega))
          have G1 := Lib.hid g1
          have G2 := Lib.hid g2
          have hQ1 : (1 : Int) ≤ Q := by have := EQ.out; omega
          clear g1 g2 hcast
          by_cases hbr : (4294967296 : Int) ≤ R + (v1 : Int)
          · have hq : Qn - 1 = q0 := HK.out G2.out (by have := ER.out; omega) G1.out
            have hqq : Q - 1 = (q0 : Int) := by have := EQ.out; have := G2.out; omega
            have HQQ := Lib.hid hqq
            clear hq hqq
            go_wp2
            go_meet
            case rel => exact ⟨congrArg (Value.int IntKind.u64) HQQ.out, ⟨_, rfl⟩, rfl⟩
          · have hbr2 : R + (v1 : Int) ≤ 4294967295 := by omega
            go_wp2
            case roundEnd =>
              go_roundw
              case rel => exact ⟨Qn - 1, Rn + v1, _, _, rfl, rfl, (by have := EQ.out; have := G2.out; show _ = _; omega), (by have := ER.out; show _ = _; omega), digit_dec H1.out G2.out, G1.out, by have := EQ.out; have := G2.out; omega, by omega, by omega, by omega, trivial⟩
              case measure => have := EQ.out; have := G2.out; simp [intOf]; omega
        · have hb2 : Q ≤ 4294967295 := by omega
          have hpl : Q * (v0 : Int) ≤ 18446744065119617025 := by rw [EQ.out]; exact prod_le (by have := EQ.out; omega) (by omega)
          by_cases hgt : 4294967296 * R + (w0 : Int) < Q * (v0 : Int)
          · obtain ⟨g1, g2⟩ := HG.out (Or.inr (by have := ER.out; omega))
            have G1 := Lib.hid g1
            have G2 := Lib.hid g2
            have hQ1 : (1 : Int) ≤ Q := by have := EQ.out; omega
            clear g1 g2 hcast
            by_cases hbr : (4294967296 : Int) ≤ R + (v1 : Int)
            · have hq : Qn - 1 = q0 := HK.out G2.out (by have := ER.out; omega) G1.out
              have hqq : Q - 1 = (q0 : Int) := by have := EQ.out; have := G2.out; omega
              have HQQ := Lib.hid hqq
              clear hq hqq
              go_wp2
              go_meet
              case rel => exact ⟨congrArg (Value.int IntKind.u64) HQQ.out, ⟨_, rfl⟩, rfl⟩
            · have hbr2 : R + (v1 : Int) ≤ 4294967295 := by omega
              go_wp2
              case roundEnd =>
                go_roundw
                case rel => exact ⟨Qn - 1, Rn + v1, _, _, rfl, rfl, (by have := EQ.out; have := G2.out; show _ = _; omega), (by have := ER.out; show _ = _; omega), digit_dec H1.out G2.out, G1.out, by have := EQ.out; have := G2.out; omega, by omega, by omega, by omega, trivial⟩
                case measure => have := EQ.out; have := G2.out; simp [intOf]; omega
          · have hle : Q * (v0 : Int) ≤ 4294967296 * R + (w0 : Int) := by omega
            have hq : Qn = q0 := HS.out (by have := ER.out; omega) HT.out
            clear hcast
            have hqq : Q = (q0 : Int) := by rw [EQ.out, hq]
            have HQQ := Lib.hid hqq
            clear hq hqq
            go_wp2
            go_meet
            case rel => exact ⟨congrArg (Value.int IntKind.u64) HQQ.out, ⟨_, rfl⟩, rfl⟩
    case rest =>
      obtain ⟨rfl, ⟨Ry, rfl⟩, rfl⟩ := hcut
      go_wp2
      go_ret2
      refine ⟨?_, rfl⟩
      have hc : ((q1 * 4294967296 + q0 : Nat) : Int) = (q1 : Int) * 4294967296 + (q0 : Int) := by rw [Int.natCast_add, Int.natCast_mul]; rfl
      rw [hc]
      rfl
theorem lz_any (y : Nat) (h1 : 1 ≤ y) (h2 : y ≤ 18446744073709551615) : ∃ s : Nat, s ≤ 63 ∧ 9223372036854775808 ≤ y * 2 ^ s ∧ y * 2 ^ s < 18446744073709551616 ∧ ∀ w, Calls Try.prog 75 #[.int .u64 (y : Int)] w fun e w' => e = .returned (.int .i64 (s : Int)) ∧ w = w' := by
  obtain ⟨a1, a2, a3, a4⟩ := aux_len 64 y h1 (by have e : (2 : Nat) ^ 64 = 18446744073709551616 := by decide
                                                 omega)
  have hb : Lib.bitLen y = Lib.bitLenAux 64 y := rfl
  rw [← hb] at a1 a2 a3 a4
  have hB := hb
  clear hb hB
  have hcall := fun w => Try.bits_LeadingZeros64 (y : Int) w (by omega) (by omega)
  rw [Int.toNat_natCast] at hcall
  generalize Lib.bitLen y = n at *
  refine ⟨64 - n, by omega, ?_, ?_, fun w => ?_⟩
  · have e : 2 ^ n * 2 ^ (64 - n) = 18446744073709551616 := by rw [← Nat.pow_add, show n + (64 - n) = 64 by omega]
    have h := Nat.mul_le_mul_right (2 ^ (64 - n)) a2
    rw [e, Nat.mul_assoc] at h
    generalize y * 2 ^ (64 - n) = z at *
    omega
  · have e : 2 ^ n * 2 ^ (64 - n) = 18446744073709551616 := by rw [← Nat.pow_add, show n + (64 - n) = 64 by omega]
    have h := Nat.mul_lt_mul_of_pos_right a1 (Nat.two_pow_pos (64 - n))
    rw [e] at h
    exact h
  · refine (hcall w).mono ?_
    rintro e w' ⟨rfl, rfl⟩
    exact ⟨by rw [show ((64 - n : Nat) : Int) = 64 - (n : Int) by omega], rfl⟩
theorem up_alg {hi lo P B C W : Nat} (h : lo * P = B * W + C) : (hi * W + lo) * P = (hi * P + B) * W + C := by
  rw [Nat.add_mul, h]; grind
theorem div_pow_cast (x s : Nat) : ((x / 2 ^ s : Nat) : Int) = (x : Int) / 2 ^ s := by simp
theorem low_mask (C : Nat) (h : C < 18446744073709551616) : bits .and .u64 (C : Int) 4294967295 = ((C % 4294967296 : Nat) : Int) := by
  rw [and_low32 _ (by omega) (by omega)]; omega
theorem div64_big (hi lo y : Nat) (w : World) (h0 : 1 ≤ hi) (hh : hi < y) (hy : y ≤ 18446744073709551615) (hl : lo < 18446744073709551616) :
    Calls Try.prog 60 #[.int .u64 (hi : Int), .int .u64 (lo : Int), .int .u64 (y : Int)] w fun e w' => e = .returned (.tuple #[.int .u64 (((hi * 18446744073709551616 + lo) / y : Nat) : Int), .int .u64 (((hi * 18446744073709551616 + lo) % y : Nat) : Int)]) ∧ w = w' := by
  obtain ⟨s, hs, hY1, hY2, hlz⟩ := lz_any y (by omega) hy
  obtain ⟨hB1, hB2⟩ := dv_low lo s hs hl
  have hP : 0 < 2 ^ s := Nat.two_pow_pos s
  have hpc : ((2 ^ s : Nat) : Int) = (2 : Int) ^ s := by push_cast; rfl
  have hpd : ((2 ^ (64 - s) : Nat) : Int) = (2 : Int) ^ (64 - s) := by push_cast; rfl
  have hor := dv_or hi (lo / 2 ^ (64 - s)) s hB1
  have hA : hi * 2 ^ s + 2 ^ s ≤ y * 2 ^ s := by rw [← Nat.succ_mul]; exact Nat.mul_le_mul_right _ hh
  have hW : 4294967296 * 4294967296 = 18446744073709551616 := by decide
  have hU : (hi * 18446744073709551616 + lo) * 2 ^ s = (hi * 2 ^ s + lo / 2 ^ (64 - s)) * (4294967296 * 4294967296) + lo * 2 ^ s % 18446744073709551616 := by
    rw [hW]; exact up_alg hB2
  have hCl : lo * 2 ^ s % 18446744073709551616 < 18446744073709551616 := Nat.mod_lt _ (by decide)
  have hf := dv_fin (B := 4294967296) (N := hi * 18446744073709551616 + lo) (y := y) (P := 2 ^ s) (w1 := lo * 2 ^ s % 18446744073709551616 / 4294967296) (w0 := lo * 2 ^ s % 18446744073709551616 % 4294967296) (by omega) hP rfl hU (by omega)
  have hlod : (lo : Int) / 2 ^ (64 - s) = ((lo / 2 ^ (64 - s) : Nat) : Int) := by rw [← hpd]; simp
  have hyp : IntKind.u64.wrap ((y : Int) * 2 ^ s) = ((y * 2 ^ s : Nat) : Int) := by
    rw [← hpc, ← Int.natCast_mul, IntKind.wrap_u64]; omega
  have hhp : IntKind.u64.wrap ((hi : Int) * 2 ^ s) = ((hi * 2 ^ s : Nat) : Int) := by
    rw [← hpc, ← Int.natCast_mul, IntKind.wrap_u64]; omega
  have hlp : IntKind.u64.wrap ((lo : Int) * 2 ^ s) = ((lo * 2 ^ s % 18446744073709551616 : Nat) : Int) := by
    rw [← hpc, ← Int.natCast_mul, IntKind.wrap_u64]; omega
  rw [hf.1, hf.2]
  rw [div_pow_cast]
  clear hf
  generalize hYe : y * 2 ^ s = Y at *
  generalize hAe : hi * 2 ^ s = A at *
  generalize lo / 2 ^ (64 - s) = Bv at *
  generalize lo * 2 ^ s % 18446744073709551616 = C at *
  refine div64_walk hi lo y s Y (Y / 4294967296) (Y % 4294967296) A Bv (A + Bv) C (C / 4294967296) (C % 4294967296) _ _ _ _ w (by omega) (by omega) hs hlz hyp (by omega) (low_mask Y (by omega)) hhp hlod ?_ hlp (by omega) (low_mask C hCl) (by omega) (by omega) (by omega) (by omega) (by omega) (by omega) (by omega) rfl rfl rfl rfl
  rw [bits_or_u64_nat _ _ (by omega) (by omega), hor]
set_option maxRecDepth 100000 in
set_option maxHeartbeats 1600000 in
theorem div64_any (hi lo y : Nat) (w : World) (hh : hi < y) (hy : y ≤ 18446744073709551615) (hl : lo < 18446744073709551616) :
    Calls Try.prog 60 #[.int .u64 (hi : Int), .int .u64 (lo : Int), .int .u64 (y : Int)] w fun e w' => e = .returned (.tuple #[.int .u64 (((hi * 18446744073709551616 + lo) / y : Nat) : Int), .int .u64 (((hi * 18446744073709551616 + lo) % y : Nat) : Int)]) ∧ ∃ m, w' = w.drewN m := by
  by_cases h0 : hi = 0
  · subst h0
    rw [Nat.zero_mul, Nat.zero_add]
    have hy1 : (1 : Int) ≤ (y : Int) := by omega
    have hl1 : (lo : Int) ≤ 18446744073709551615 := by omega
    have hl0 : (0 : Int) ≤ (lo : Int) := Int.natCast_nonneg _
    have hd : (lo : Int) / (y : Int) = ((lo / y : Nat) : Int) := by simp
    have hm : (lo : Int) % (y : Int) = ((lo % y : Nat) : Int) := by simp
    have hqb : ((lo / y : Nat) : Int) ≤ 18446744073709551615 := by have : lo / y ≤ lo := Nat.div_le_self _ _; omega
    have hq0 : (0 : Int) ≤ ((lo / y : Nat) : Int) := Int.natCast_nonneg _
    generalize lo / y = q at *
    generalize lo % y = r at *
    clear hh hy hl
    go_enter Try.func60, Try.ntmps60
    go_wp2
    go_quiet (fail)
    go_wp2
    go_ret2
    refine ⟨?_, nq, rfl⟩
    show Ending.returned (.tuple #[.int .u64 (q : Int), .int .u64 ((lo : Int) % (y : Int))]) = _
    rw [hm]
  · refine (div64_big hi lo y w (by omega) hh hy hl).mono ?_
    rintro e w' ⟨rfl, rfl⟩
    exact ⟨rfl, 0, by rw [World.drewN_zero]⟩
end Go.Proofs.Ytpapcilffkpjjaa
