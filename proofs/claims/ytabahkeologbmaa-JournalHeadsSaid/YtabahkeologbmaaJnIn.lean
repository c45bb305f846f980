/- Contract of inRow, for whatever steps: the caller says what holds when so many are done. -/
import Derived.Test.YtabahkeologbmaaJnS
import Derived.Shelf.Abstract
namespace Go.Proofs.Ytabahkeologbmaa.Jn
open Go.RowKit Go.Shelf Go.Dk Go.Jn Go.Sha Go.Proofs.Ytabahkeologbmaa.Dk

/-- a step: a function, what is bound to it, what it captured -/
structure Stp3 where
  g : Nat
  first : Array Value
  caps : Array Value
def Stp3.val (s : Stp3) : Value := .func (.func s.g) s.first s.caps
/-- how a step ends -/
def StepP (ok : World → Prop) (Out : Int → World → Prop) (e : Ending) (w' : World) : Prop := (e = .returned (.int .i64 0) ∧ ok w') ∨ (∃ n : Int, n ≠ 0 ∧ e = .returned (.int .i64 n) ∧ Out n w')
set_option maxRecDepth 100000 in
set_option maxHeartbeats 800000 in
theorem inRow_any (vs : List Stp3) (q : Nat) (Inv : Nat → World → Prop) (Out : Int → World → Prop) (w : World) (hm : vs.length ≤ 100)
    (hcell : ∀ k W, Inv k W → ∀ i v, vs[i]? = some v → W.cell? ⟨q, i, none⟩ = some v.val)
    (hent : ∀ (i : Nat) v, vs[i]? = some v → Enters Try.prog v.g)
    (hstep : ∀ k v W, vs[k]? = some v → Inv k W → Calls Try.prog v.g (v.first ++ v.caps) W (StepP (Inv (k + 1)) Out))
    (h0 : Inv 0 w) : Calls Try.prog 26 #[.slice (some ⟨q, 0, none⟩) vs.length vs.length] w (StepP (Inv vs.length) Out) := by
  have hmI : (vs.length : Int) ≤ 100 := by omega
  have HC := Lib.hid hcell
  have HE := Lib.hid hent
  have HS := Lib.hid hstep
  have H0 := Lib.hid h0
  clear hcell hent hstep h0
  go_enter Try.func26, Try.ntmps26
  go_wp2
  go_loopw [8] (fun i wr => ∃ k : Nat, k ≤ vs.length ∧ i = .int .i64 (k : Int) ∧ Inv k wr) (fun i _ => vs.length - (intOf i).toNat)
  case atStart => exact ⟨0, Nat.zero_le _, rfl, H0.out⟩
  case round =>
    obtain ⟨k, hk, rfl, hI⟩ := hrel
    have HI := Lib.hid hI
    have hk0 : (0 : Int) ≤ (k : Int) := Int.natCast_nonneg _
    clear hI
    by_cases hlt : (k : Int) < (vs.length : Int)
    · have hkl : k < vs.length := by omega
      obtain ⟨v, hv⟩ : ∃ v, vs[k]? = some v := ⟨_, List.getElem?_eq_getElem hkl⟩
      have cc := HC.out k wr HI.out k v hv
      have hen := HE.out k v hv
      have HST := Lib.hid (HS.out k v wr hv HI.out)
      obtain ⟨g, first, caps⟩ := v
      dsimp only [Stp3.val] at cc hen HST
      unfold Enters at hen
      clear hv
      go_wp2_with (go_simp; refine (HST.out).mono ?_; rintro e w' (⟨rfl, hI2⟩ | ⟨n, hn, rfl, hO⟩))
      · go_roundw
        case rel => exact ⟨k + 1, by omega, by go_num, hI2⟩
        case measure => simp [intOf]; omega
      · have hnb : (n != 0) = true := by simp [hn]
        go_wp2
        go_ret
        exact .inr ⟨n, hn, rfl, hO⟩
    · obtain rfl : k = vs.length := by omega
      go_wp2
      go_ret
      exact .inl ⟨rfl, HI.out⟩
end Go.Proofs.Ytabahkeologbmaa.Jn
