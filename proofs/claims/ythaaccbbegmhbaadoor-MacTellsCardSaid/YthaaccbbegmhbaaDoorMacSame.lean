/- Contract of mac.Same, over the translated program. -/
import Derived.Test.YthaaccbbegmhbaaDoorMacW5
import Derived.Test.YthaaccbbegmhbaaDoorShaPureS
namespace Go.Proofs.YthaaccbbegmhbaaDoor
open Go.RowKit Go.Sha

/-- what two digests are unlike in, gathered over the first k bytes -/
def unl (a b : List Nat) : Nat → Nat
  | 0 => 0
  | k + 1 => unl a b k ||| (at0 a k ^^^ at0 b k)
theorem unl_zero (a b : List Nat) : unl a b 0 = 0 := rfl
theorem unl_succ (a b : List Nat) (k : Nat) : unl a b (k + 1) = unl a b k ||| (at0 a k ^^^ at0 b k) := rfl
theorem unl_lt {a b : List Nat} (ha : Lt 256 a) (hb : Lt 256 b) : ∀ k, unl a b k < 256
  | 0 => by rw [unl_zero]; decide
  | k + 1 => by rw [unl_succ]; exact Nat.or_lt_two_pow (n := 8) (unl_lt ha hb k) (xor_byte (ha.getD (by decide) _) (hb.getD (by decide) _))
theorem xor_zero {a b : Nat} : a ^^^ b = 0 ↔ a = b := by
  constructor
  · intro h
    have : a ^^^ b ^^^ b = 0 ^^^ b := by rw [h]
    rw [Nat.xor_assoc, Nat.xor_self, Nat.xor_zero, Nat.zero_xor] at this
    exact this
  · rintro rfl; exact Nat.xor_self a
theorem unl_all (a b : List Nat) : ∀ k, unl a b k = 0 ↔ ∀ j, j < k → at0 a j = at0 b j
  | 0 => by rw [unl_zero]; simp
  | k + 1 => by
    rw [unl_succ, Nat.or_eq_zero_iff, unl_all a b k, xor_zero]
    constructor
    · rintro ⟨h1, h2⟩ j hj
      by_cases e : j = k
      · subst e; exact h2
      · exact h1 j (by omega)
    · intro h
      exact ⟨fun j hj => h j (by omega), h k (by omega)⟩
theorem unl_eq {a b : List Nat} (ha : a.length = 32) (hb : b.length = 32) : ((unl a b 32 : Int) == 0) = decide (a = b) := by
  rw [Bool.eq_iff_iff]
  simp only [beq_iff_eq, decide_eq_true_eq]
  constructor
  · intro h
    have h2 := (unl_all a b 32).1 (by omega)
    exact list_at0 (by omega) (fun j hj => h2 j (by omega))
  · rintro rfl
    have := (unl_all a a 32).2 (fun _ _ => rfl)
    omega
theorem u8or {a b : Nat} (ha : a < 256) (hb : b < 256) : bits .or .u8 (a : Int) (b : Int) = ((a ||| b : Nat) : Int) := u8_or_nat a b ha hb
attribute [irreducible] unl

set_option maxRecDepth 100000 in
set_option maxHeartbeats 800000 in
theorem same_any (a b : List Nat) (w : World) (ha : a.length = 32) (hb : b.length = 32) (ha1 : Lt 256 a) (hb1 : Lt 256 b) :
    Calls Tryd.prog 17 #[.agg (bv a), .agg (bv b)] w fun e w' => e = .returned (.bool (decide (a = b))) ∧ Below w.heap.size w w' := by
  have HA := Lib.hid ha; clear ha
  have HB := Lib.hid hb; clear hb
  have HA1 := Lib.hid ha1; clear ha1
  have HB1 := Lib.hid hb1; clear hb1
  go_enter Tryd.func17, Tryd.ntmps17
  go_wp2
  go_loopw [5, 6, 7] (fun u _ i wr => ∃ k : Nat, k ≤ 32 ∧ i = .int .i64 k ∧ u = .int .u8 (unl a b k : Nat) ∧ wr.heap[w.heap.size]? = some (.cells (bv a) 25 (0, 0)) ∧ wr.heap[w.heap.size + 1]? = some (.cells (bv b) 25 (0, 0)) ∧ Below w.heap.size w wr) (fun _ _ i _ => 32 - (intOf i).toNat)
  case atStart => exact ⟨0, Nat.zero_le _, rfl, by rw [unl_zero]; rfl, (heap_prev _ _ _ (by simp)).trans (heap_last _ _ _ rfl), heap_last _ _ _ (by simp), ((Below.refl _ _).alloc (Nat.le_refl _) _).alloc (by simp) _⟩
  case round =>
    obtain ⟨k, hk, rfl, rfl, h1, h2, hb⟩ := hrel
    have H1 := Lib.hid h1; clear h1
    have H2 := Lib.hid h2; clear h2
    have HBel := Lib.hid hb; clear hb
    by_cases hlt : k < 32
    · have x1 : wr.cell? ⟨w.heap.size, k, none⟩ = some (.int .u8 (at0 a k : Nat)) := (cell_of_row _ _ k _ _ _ H1.out).trans (bv_get a k (by rw [HA.out]; exact hlt))
      have x2 : wr.cell? ⟨w.heap.size + 1, k, none⟩ = some (.int .u8 (at0 b k : Nat)) := (cell_of_row _ _ k _ _ _ H2.out).trans (bv_get b k (by rw [HB.out]; exact hlt))
      have la : at0 a k < 256 := HA1.out.getD (by decide) _
      have lb : at0 b k < 256 := HB1.out.getD (by decide) _
      have lu : unl a b k < 256 := unl_lt HA1.out HB1.out k
      have HX := Lib.hid (u8xor la lb)
      have HY := Lib.hid (u8or lu (xor_byte la lb))
      have HS := Lib.hid (unl_succ a b k)
      generalize unl a b k = u at *
      generalize at0 a k = y at *
      generalize at0 b k = z at *
      go_wp2
      go_region
      go_wp2
      go_roundw
      case rel =>
        go_light
        rw [HX.out, HY.out]
        exact ⟨k + 1, by omega, by go_num, by rw [HS.out], H1.out, H2.out, HBel.out.drew⟩
      case measure => simp [intOf]; omega
    · obtain rfl : k = 32 := by omega
      have HE := Lib.hid (unl_eq HA.out HB.out)
      generalize unl a b 32 = u at *
      go_wp2
      go_ret
      refine ⟨?_, HBel.out⟩
      rw [← HE.out]
      rfl
end Go.Proofs.YthaaccbbegmhbaaDoor
