/- The plain model of a coupon's ways: the table, where a command leads; the map that holds it, key by key. -/
import Derived.Maps.RangeWalk
namespace Go.Coupon
open Go.Maps (Keyed)

abbrev D0 := DataW Unit
/-- the key of a status and a command, as a map's key reads -/
def ks (s c : Nat) : Lit := .string [UInt8.ofNat s, UInt8.ofNat c]
/-- a status, as a map's element reads -/
def vs (t : Nat) : D0 := .lit (.int .u8 (t : Int))
def tab : List (Nat × Nat × Nat) := [(1, 9, 2), (2, 10, 1), (2, 11, 3), (3, 12, 4), (1, 3, 5), (1, 4, 6), (1, 5, 7)]
def opt (b : Bool) (s c t : Nat) (D : D0) : D0 := if b then D.put (ks s c) (vs t) else D
/-- the map when those ways have come that the bits tell -/
def Dl (b0 b1 b2 b3 b4 b5 b6 : Bool) : D0 := opt b0 1 9 2 (opt b1 2 10 1 (opt b2 2 11 3 (opt b3 3 12 4 (opt b4 1 3 5 (opt b5 1 4 6 (opt b6 1 5 7 (.map [])))))))
def D7 : D0 := Dl true true true true true true true
theorem Dl_none : Dl false false false false false false false = .map [] := rfl
theorem Dl_0 (b1 b2 b3 b4 b5 b6 : Bool) : (Dl false b1 b2 b3 b4 b5 b6).put (ks 1 9) (vs 2) = Dl true b1 b2 b3 b4 b5 b6 := by cases b1 <;> cases b2 <;> cases b3 <;> cases b4 <;> cases b5 <;> cases b6 <;> rfl
theorem Dl_1 (b0 b2 b3 b4 b5 b6 : Bool) : (Dl b0 false b2 b3 b4 b5 b6).put (ks 2 10) (vs 1) = Dl b0 true b2 b3 b4 b5 b6 := by cases b0 <;> cases b2 <;> cases b3 <;> cases b4 <;> cases b5 <;> cases b6 <;> rfl
theorem Dl_2 (b0 b1 b3 b4 b5 b6 : Bool) : (Dl b0 b1 false b3 b4 b5 b6).put (ks 2 11) (vs 3) = Dl b0 b1 true b3 b4 b5 b6 := by cases b0 <;> cases b1 <;> cases b3 <;> cases b4 <;> cases b5 <;> cases b6 <;> rfl
theorem Dl_3 (b0 b1 b2 b4 b5 b6 : Bool) : (Dl b0 b1 b2 false b4 b5 b6).put (ks 3 12) (vs 4) = Dl b0 b1 b2 true b4 b5 b6 := by cases b0 <;> cases b1 <;> cases b2 <;> cases b4 <;> cases b5 <;> cases b6 <;> rfl
theorem Dl_4 (b0 b1 b2 b3 b5 b6 : Bool) : (Dl b0 b1 b2 b3 false b5 b6).put (ks 1 3) (vs 5) = Dl b0 b1 b2 b3 true b5 b6 := by cases b0 <;> cases b1 <;> cases b2 <;> cases b3 <;> cases b5 <;> cases b6 <;> rfl
theorem Dl_5 (b0 b1 b2 b3 b4 b6 : Bool) : (Dl b0 b1 b2 b3 b4 false b6).put (ks 1 4) (vs 6) = Dl b0 b1 b2 b3 b4 true b6 := by cases b0 <;> cases b1 <;> cases b2 <;> cases b3 <;> cases b4 <;> cases b6 <;> rfl
theorem Dl_6 (b0 b1 b2 b3 b4 b5 : Bool) : (Dl b0 b1 b2 b3 b4 b5 false).put (ks 1 5) (vs 7) = Dl b0 b1 b2 b3 b4 b5 true := by cases b0 <;> cases b1 <;> cases b2 <;> cases b3 <;> cases b4 <;> cases b5 <;> rfl

def isS (s : Nat) : Bool := decide (1 ≤ s) && decide (s ≤ 7)
def isC (c : Nat) : Bool := tab.any fun x => x.2.1 == c
/-- where a command leads: the status, the error -/
def nextL (s c : Nat) : Nat × Nat :=
  if !isS s || !isC c then (0, 1) else match tab.find? (fun x => x.1 == s && x.2.1 == c) with | some x => (x.2.2, 0) | none => (0, 6)
/-- the map's keys are the table's -/
theorem has_tab {kl : Lit} (h : Maps.has D7 kl = true) : ∃ a b t, (a, b, t) ∈ tab ∧ kl = ks a b := by
  have e : D7 = .map [(ks 1 3, vs 5), (ks 1 4, vs 6), (ks 1 5, vs 7), (ks 1 9, vs 2), (ks 2 10, vs 1), (ks 2 11, vs 3), (ks 3 12, vs 4)] := rfl
  rw [e] at h
  obtain ⟨p, hp, hk⟩ := List.any_eq_true.1 h
  have hk' := WideAt.sameKey_eq hk
  simp only [List.mem_cons, List.not_mem_nil, or_false] at hp
  rcases hp with rfl | rfl | rfl | rfl | rfl | rfl | rfl
  · exact ⟨1, 3, 5, by decide, hk'.symm⟩
  · exact ⟨1, 4, 6, by decide, hk'.symm⟩
  · exact ⟨1, 5, 7, by decide, hk'.symm⟩
  · exact ⟨1, 9, 2, by decide, hk'.symm⟩
  · exact ⟨2, 10, 1, by decide, hk'.symm⟩
  · exact ⟨2, 11, 3, by decide, hk'.symm⟩
  · exact ⟨3, 12, 4, by decide, hk'.symm⟩
theorem tab_has {a b t : Nat} (h : (a, b, t) ∈ tab) : Maps.has D7 (ks a b) = true := by
  unfold tab at h
  simp only [List.mem_cons, List.not_mem_nil, or_false, Prod.mk.injEq] at h
  rcases h with ⟨rfl, rfl, rfl⟩ | ⟨rfl, rfl, rfl⟩ | ⟨rfl, rfl, rfl⟩ | ⟨rfl, rfl, rfl⟩ | ⟨rfl, rfl, rfl⟩ | ⟨rfl, rfl, rfl⟩ | ⟨rfl, rfl, rfl⟩ <;> rfl
theorem tab_lt {a b t : Nat} (h : (a, b, t) ∈ tab) : a < 256 ∧ b < 256 := by
  unfold tab at h
  simp only [List.mem_cons, List.not_mem_nil, or_false, Prod.mk.injEq] at h
  omega
theorem ks_inj {a b a' b' : Nat} (ha : a < 256) (hb : b < 256) (ha' : a' < 256) (hb' : b' < 256) (h : ks a b = ks a' b') : a = a' ∧ b = b' := by
  unfold ks at h
  simp only [Lit.string.injEq, List.cons.injEq, and_true] at h
  have h1 := congrArg UInt8.toNat h.1
  have h2 := congrArg UInt8.toNat h.2
  simp only [UInt8.toNat_ofNat'] at h1 h2
  omega
theorem isC_of {a b t : Nat} (h : (a, b, t) ∈ tab) : isC b = true := List.any_eq_true.2 ⟨_, h, by simp⟩
theorem not_isC {c : Nat} (h : ∀ a b t, (a, b, t) ∈ tab → b ≠ c) : isC c = false := by
  unfold isC
  rw [List.any_eq_false]
  rintro ⟨a, b, t⟩ hm
  simpa using h a b t hm
theorem isC_cases {c : Nat} (h : isC c = true) : c = 9 ∨ c = 10 ∨ c = 11 ∨ c = 12 ∨ c = 3 ∨ c = 4 ∨ c = 5 := by
  obtain ⟨⟨a, b, t⟩, hm, hb⟩ := List.any_eq_true.1 h
  unfold tab at hm
  simp only [List.mem_cons, List.not_mem_nil, or_false, Prod.mk.injEq] at hm
  simp only [beq_iff_eq] at hb
  omega
theorem isS_cases {s : Nat} (h : isS s = true) : s = 1 ∨ s = 2 ∨ s = 3 ∨ s = 4 ∨ s = 5 ∨ s = 6 ∨ s = 7 := by
  unfold isS at h
  simp only [Bool.and_eq_true, decide_eq_true_eq] at h
  omega
/-- what a look-up of a status and a command that are some tells -/
theorem next_look {s c : Nat} (hs : isS s = true) (hc : isC c = true) : (Maps.has D7 (ks s c) = true ∧ ∃ t, nextL s c = (t, 0) ∧ D7.atKey (ks s c) (vs 0) = vs t) ∨ (Maps.has D7 (ks s c) = false ∧ nextL s c = (0, 6)) := by
  rcases isS_cases hs with rfl | rfl | rfl | rfl | rfl | rfl | rfl <;> rcases isC_cases hc with rfl | rfl | rfl | rfl | rfl | rfl | rfl <;>
    first | exact .inr ⟨rfl, rfl⟩ | exact .inl ⟨rfl, _, rfl, rfl⟩
theorem next_arg {s c : Nat} (h : isS s = false ∨ isC c = false) : nextL s c = (0, 1) := by
  unfold nextL
  rcases h with h | h <;> simp [h]
theorem nextL_lt (s c : Nat) : (nextL s c).1 < 8 := by
  by_cases h : isS s = true ∧ isC c = true
  · rcases isS_cases h.1 with rfl | rfl | rfl | rfl | rfl | rfl | rfl <;> rcases isC_cases h.2 with rfl | rfl | rfl | rfl | rfl | rfl | rfl <;> decide
  · rw [next_arg (by cases h1 : isS s <;> cases h2 : isC c <;> simp_all)]; decide
end Go.Coupon
