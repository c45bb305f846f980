/- EdiKnown's rows, and what the plain reader and printer answer to them. -/
import Derived.Test.YtihcpoigfhnceaaEdiMn
import Derived.KernelRfl
namespace Go.Proofs.Ytihcpoigfhnceaa
open Go.RowKit Go.Edi

/-- a text, an error, a place -/
abbrev Rw := Tx × Nat × Nat
def flat : List Rw → List Value
  | [] => []
  | r :: l => str r.1 :: .int .i64 (r.2.1 : Nat) :: .int .i64 (r.2.2 : Nat) :: flat l
theorem flat_get : ∀ (l : List Rw) (k : Nat) (h : k < l.length), (flat l)[k * 3]? = some (str l[k].1) ∧ (flat l)[k * 3 + 1]? = some (.int .i64 (l[k].2.1 : Nat)) ∧ (flat l)[k * 3 + 2]? = some (.int .i64 (l[k].2.2 : Nat))
  | [], k, h => by simp at h
  | r :: l, 0, _ => ⟨rfl, rfl, rfl⟩
  | r :: l, k + 1, h => by
    have := flat_get l k (by simpa using h)
    rw [show (k + 1) * 3 = k * 3 + 3 by omega]
    exact this
def exs : List Rw := [([65, 66, 67, 43, 97, 58, 98, 43, 63, 43, 39, 32, 68, 49, 50, 39], 30, 11), ([65, 66, 43, 39], 30, 2), ([65, 66, 67], 31, 3), ([65, 66, 67, 43, 63, 97, 39], 30, 5), ([], 0, 0), ([10, 65, 66, 67, 39], 30, 0),
  ([65, 66, 67, 39, 10, 10, 68, 69, 70, 39, 10], 0, 0), ([65, 66, 67, 58, 97, 39], 30, 3), ([65, 66, 67, 68, 39], 30, 3), ([97, 98, 99, 39], 30, 0), ([65, 66, 67, 43, 97, 10, 39], 30, 5), ([65, 66, 67, 43, 127, 39], 30, 4), ([65, 66, 67, 43, 97], 31, 5),
  ([65, 66, 67, 43, 63], 31, 5), ([65, 66, 67, 43, 63, 39], 31, 6), ([65, 66, 67, 43, 63, 63, 39], 0, 0), ([65], 31, 1), ([65, 66, 67, 43, 63, 63, 63, 39, 39], 0, 0), ([65, 66, 67, 39, 65], 31, 5)]
def okR (r : Rw) : Bool := (parseL r.1).2.1 == r.2.2 && (parseL r.1).2.2 == r.2.1
theorem exs_ok : exs.all okR = true := by kernel_rfl
def lims : List Rw := [(rep [65, 66, 67, 39] 64, 0, 0), (rep [65, 66, 67, 39] 65, 2, 256), (rep [65, 66, 67, 39] 64 ++ [10], 0, 0), ([65, 66, 67] ++ rep [43] 16 ++ [39], 0, 0), ([65, 66, 67] ++ rep [43] 17 ++ [39], 2, 19),
  ([65, 66, 67, 43] ++ rep [58] 7 ++ [39], 0, 0), ([65, 66, 67, 43] ++ rep [58] 8 ++ [39], 2, 11), ([65, 66, 67, 43] ++ rep [97] 256 ++ [39], 0, 0), ([65, 66, 67, 43] ++ rep [97] 257 ++ [39], 2, 260), ([65, 66, 67, 43] ++ rep [63, 58] 257 ++ [39], 2, 517)]
theorem lims_ok : lims.all okR = true := by kernel_rfl
theorem big_ok : okR (rep [65] 65537, 2, 0) = true := by
  have h : parseL (rep [65] 65537) = ([], 0, 2) := by
    unfold parseL
    rw [if_pos (by rw [rep_len]; decide)]
  unfold okR
  rw [h]; rfl
theorem big2_ok : okR (rep [65] 65536, 30, 3) = true := by
  have hr : rep [65] 65536 = 65 :: 65 :: 65 :: 65 :: rep [65] 65532 := rfl
  have h : parseL (rep [65] 65536) = ([], 3, 30) := by
    have hl : ¬ 65536 < (rep [65] 65536).length := by rw [rep_len]; decide
    unfold parseL
    rw [if_neg hl, hr]
    simp [runL, Go.Edi.step, s0, outS, inTag, behTag, tgc]
  unfold okR
  rw [h]; rfl
def limA : List Rw := lims ++ [(rep [65] 65537, 2, 0), (rep [65] 65536, 30, 3)]
theorem limA_ok : limA.all okR = true := by
  unfold limA
  rw [List.all_append, lims_ok]
  simp [big_ok, big2_ok]
theorem okR_get {l : List Rw} (h : l.all okR = true) (k : Nat) (hk : k < l.length) : (parseL l[k].1).2.1 = l[k].2.2 ∧ (parseL l[k].1).2.2 = l[k].2.1 := by
  rw [List.all_eq_true] at h
  have := h _ (List.getElem_mem hk)
  simpa [okR] using this
end Go.Proofs.Ytihcpoigfhnceaa
