/- The plain model of codec: one walk over a record's fields, that lays or reads their bytes. -/
import Derived.Test.YtjdfdihopgceoaaJnPure
namespace Go.Cod
open Go.Dk Go.Jn

/-- a walk between two fields: could all be done so far; the row -/
structure St where
  ok : Bool
  L : By
/-- a step: lays bytes behind the row (true), or fills bytes with the row's first ones -/
def stp (m : Bool) (L b : By) : Bool × By × By :=
  if m then (true, L ++ b, b) else if L.length < b.length then (false, L, b) else (true, L.drop b.length, L.take b.length)
theorem stp_len (m : Bool) (L b : By) : (stp m L b).2.2.length = b.length := by
  unfold stp; split
  · rfl
  · split
    · rfl
    · simp; omega
theorem stp_row (m : Bool) (L b : By) : (stp m L b).2.1.length ≤ L.length + b.length := by
  unfold stp; split
  · simp
  · split
    · simp
    · simp; omega
/-- over bytes -/
def byM (m : Bool) (s : St) (b : By) : St × By := if s.ok then (⟨(stp m s.L b).1, (stp m s.L b).2.1⟩, (stp m s.L b).2.2) else (s, b)
theorem byM_len (m : Bool) (s : St) (b : By) : (byM m s b).2.length = b.length := by
  unfold byM; split
  · exact stp_len m s.L b
  · rfl
theorem byM_row (m : Bool) (s : St) (b : By) : (byM m s b).1.L.length ≤ s.L.length + b.length := by
  unfold byM; split
  · exact stp_row m s.L b
  · exact Nat.le_add_right _ _
/-- over a number of so many bytes -/
def nuM (m : Bool) (s : St) (k v : Nat) : St × Nat := ((byM m s (beL k v)).1, valB (byM m s (beL k v)).2)
theorem nuM_lt (m : Bool) (s : St) (k v : Nat) : (nuM m s k v).2 < 256 ^ k := by
  have := valB_lt (byM m s (beL k v)).2
  rwa [byM_len, beL_len] at this
theorem nuM_row (m : Bool) (s : St) (k v : Nat) : (nuM m s k v).1.L.length ≤ s.L.length + k := by
  have := byM_row m s (beL k v)
  rwa [beL_len] at this
/-- a number's kind -/
inductive K where
  | u8 | u16 | u32 | u64 | i64
  deriving DecidableEq
def K.sz : K → Nat
  | .u8 => 1
  | .u16 => 2
  | .u32 => 4
  | .u64 => 8
  | .i64 => 8
def tot (fs : List K) : Nat := (fs.map K.sz).sum
theorem tot_append (a b : List K) : tot (a ++ b) = tot a + tot b := by simp [tot]
/-- numbers of such kinds -/
def Vld (fs : List K) (vs : List Nat) : Prop := vs.length = fs.length ∧ ∀ (j : Nat) (k : K) (v : Nat), fs[j]? = some k → vs[j]? = some v → v < 256 ^ k.sz
/-- over numbers, one behind the other -/
def nusM (m : Bool) : St → List K → List Nat → St × List Nat
  | s, k :: ks, v :: vs => ((nusM m (nuM m s k.sz v).1 ks vs).1, (nuM m s k.sz v).2 :: (nusM m (nuM m s k.sz v).1 ks vs).2)
  | s, _, _ => (s, [])
theorem nusM_append (m : Bool) : ∀ (s : St) (f1 f2 : List K) (v1 v2 : List Nat), v1.length = f1.length →
    nusM m s (f1 ++ f2) (v1 ++ v2) = ((nusM m (nusM m s f1 v1).1 f2 v2).1, (nusM m s f1 v1).2 ++ (nusM m (nusM m s f1 v1).1 f2 v2).2)
  | s, [], f2, [], v2, _ => by simp [nusM]
  | s, k :: f1, f2, v :: v1, v2, h => by
    have ih := nusM_append m (nuM m s k.sz v).1 f1 f2 v1 v2 (by simpa using h)
    simp only [List.cons_append, nusM, ih]
  | s, [], f2, _ :: _, v2, h => by simp at h
  | s, _ :: _, f2, [], v2, h => by simp at h
theorem nusM_vld (m : Bool) : ∀ (s : St) (fs : List K) (vs : List Nat), vs.length = fs.length → Vld fs (nusM m s fs vs).2
  | s, [], [], _ => ⟨rfl, fun j k v h => by simp at h⟩
  | s, k :: fs, v :: vs, h => by
    obtain ⟨h1, h2⟩ := nusM_vld m (nuM m s k.sz v).1 fs vs (by simpa using h)
    refine ⟨by simp [nusM, h1], fun j k' v' hj hv => ?_⟩
    cases j with
    | zero => simp [nusM] at hj hv; subst hj hv; exact nuM_lt m s k.sz v
    | succ j => simp [nusM] at hj hv; exact h2 j k' v' hj hv
  | s, [], _ :: _, h => by simp at h
  | s, _ :: _, [], h => by simp at h
/-- how many there are -/
def coM (m : Bool) (s : St) (n most : Nat) : St × Nat :=
  let a := nuM m ⟨s.ok && decide (n ≤ most), s.L⟩ 1 (n % 256)
  (⟨a.1.ok && decide (a.2 ≤ most), a.1.L⟩, if a.1.ok && decide (a.2 ≤ most) then a.2 else 0)
/-- over a text -/
def teM (m : Bool) (s : St) (t : By) : St × By :=
  let a := coM m s t.length 32
  byM m a.1 (t.take a.2 ++ List.replicate (a.2 - t.length) 0)
/-- over a list's elements -/
def elM {α : Type} (f : St → α → St × α) : St → List α → St × List α
  | s, [] => (s, [])
  | s, x :: l => ((elM f (f s x).1 l).1, (f s x).2 :: (elM f (f s x).1 l).2)
/-- over a list -/
def liM {α : Type} (m : Bool) (f : St → α → St × α) (z : α) (s : St) (l : List α) : St × List α :=
  let a := coM m s l.length 4
  elM f a.1 (l.take a.2 ++ List.replicate (a.2 - l.length) z)
theorem nuM_lay (s : St) (k v : Nat) (hv : v < 256 ^ k) : nuM true s k v = (⟨s.ok, if s.ok then s.L ++ beL k v else s.L⟩, v) := by
  obtain ⟨ok, L⟩ := s
  unfold nuM byM stp
  cases ok <;> simp [valB_beL, Nat.mod_eq_of_lt hv]
theorem coM_lay (s : St) (q most : Nat) (hm : most ≤ 255) : coM true s q most = (⟨s.ok && decide (q ≤ most), if s.ok && decide (q ≤ most) then s.L ++ beL 1 q else s.L⟩, if s.ok && decide (q ≤ most) then q else 0) := by
  unfold coM
  rw [nuM_lay _ _ _ (by rw [Nat.pow_one]; omega)]
  simp only
  by_cases hq : q ≤ most
  · rw [Nat.mod_eq_of_lt (show q < 256 by omega)]
    obtain ⟨ok, L⟩ := s
    cases ok <;> simp [hq]
  · simp [hq]
theorem coM_row (m : Bool) (s : St) (q most : Nat) : (coM m s q most).1.L.length ≤ s.L.length + 1 := by
  unfold coM
  exact nuM_row m _ 1 _
end Go.Cod
