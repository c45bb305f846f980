/- What the rows' condition on the two package-level variables gives; a start that meets it. -/
import Derived.Test.YthaaccbbegmhbaaDoorRows
import Derived.Test.YthaaccbbegmhbaaDoorCards
import Derived.Test.YthaaccbbegmhbaaDoorTie
import Derived.Test.YthaaccbbegmhbaaDoorShaW3
import Derived.ProofKit
import Derived.LaidMore
import Derived.OpenShut
import Derived.Stop.Joined
import Derived.Stop.LaidErr
import Derived.Lib.LaidTab
import Derived.SevenTiedAt
namespace Go.Proofs.YthaaccbbegmhbaaDoor
open Go.ChangeShapes Go.WideShapes Go.ChangeAt Go.RowKit Go.Sha

theorem own : ownKnob Tryd.prog.godebug = none := by kernel_rfl
theorem laidOut : laidOutB Tryd.prog = true := by kernel_rfl
theorem gB : Tryd.prog.globalNamed "tarmac/sha.beginning" = some 0 := by kernel_rfl
theorem gC : Tryd.prog.globalNamed "tarmac/sha.constants" = some 1 := by kernel_rfl
theorem tB : (Tryd.prog.globals[0]?).map (·.type) = some 57 := by kernel_rfl
theorem tC : (Tryd.prog.globals[1]?).map (·.type) = some 64 := by kernel_rfl
theorem cells36 : Tryd.prog.cellsOf 41 = 1 := by kernel_rfl
theorem cells42 : Tryd.prog.cellsOf 57 = 8 := by kernel_rfl
theorem cells49 : Tryd.prog.cellsOf 64 = 64 := by kernel_rfl
abbrev laid2 : List (String × DataW Unit) := [("tarmac/sha.beginning", Rows.laid_tarmac_sha_beginning), ("tarmac/sha.constants", Rows.laid_tarmac_sha_constants)]
def numsI (l : List Nat) : List Int := l.map fun (n : Nat) => (n : Int)
theorem numsI_wv (l : List Nat) : ((numsI l).map fun z => Value.int .u32 z).toArray = wv l := by unfold numsI wv; simp [Function.comp_def]
theorem dB : (Rows.laid_tarmac_sha_beginning : DataW Unit) = Lib.tabData .u32 (numsI BEG) := by kernel_rfl
theorem dC : (Rows.laid_tarmac_sha_constants : DataW Unit) = Lib.tabData .u32 (numsI KON) := by kernel_rfl
theorem heap_of_var {W : World} {name : String} {g : Nat} {cs : Array Value} (hg : Tryd.prog.globalNamed name = some g) (h : W.var? Tryd.prog name = some cs) : ∃ t f, W.heap[g]? = some (.cells cs t f) := by
  unfold World.var? at h
  rw [hg] at h
  simp only [Option.bind_some] at h
  split at h
  · rename_i cs' t f hh
    cases h
    exact ⟨t, f, hh⟩
  · cases h
theorem gl_of_laid {W : World} (h : laidMetH Tryd.prog laid2 W) : Gl W := by
  rw [MakeChecks.laidMetH_plain _ _ _ (by kernel_rfl)] at h
  have hB : laidMet Tryd.prog [("tarmac/sha.beginning", Lib.tabData .u32 (numsI BEG)), ("tarmac/sha.constants", Lib.tabData .u32 (numsI KON))] W := by rw [← dB, ← dC]; exact h
  have h1 := Lib.tabIs_of_head gB tB Tryd.underlying57 Tryd.underlying41 cells36 cells42 hB
  have h2 := Lib.tabIs_of_head gC tC Tryd.underlying64 Tryd.underlying41 cells36 cells49 hB.tail
  unfold Lib.TabIs at h1 h2
  rw [numsI_wv] at h1 h2
  exact ⟨heap_of_var gB h1, heap_of_var gC h2⟩
theorem door_met (os : Os) (args : Array Value) : laidMetH Tryd.prog laid2 ((World.doorLaid Tryd.prog 400 os).forCall (fun _ _ => 0) ⟨#[], args, []⟩).memory :=
  laidMetH_of_parts3 (fuel := 8) (laidMet_of_run' 8 (by kernel_rfl) (by kernel_rfl)) (by kernel_rfl) (by kernel_rfl)

end Go.Proofs.YthaaccbbegmhbaaDoor
