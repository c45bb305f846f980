/- PROVED: for every int and list of lists of bytes tarmaclaw13.JournalHeads returns true and leaves what came in as it reads (both heads and the data stand on the disk to the byte as the document says); no condition. -/
import Derived.Test.YtabahkeologbmaaJnOpen
import Derived.Test.YtabahkeologbmaaJnHdW
namespace Go.Proofs.Ytabahkeologbmaa
open Go.ChangeShapes Go.WideShapes Go.ChangeAt Go.RowKit Go.ChangeMaps Go.Dk Go.Jn Go.Proofs.Ytabahkeologbmaa.Dk Go.Proofs.Ytabahkeologbmaa.Jn

set_option maxRecDepth 100000 in
theorem jnheads_lifted (os : Os) (started : os.Started) (H : Type) (enc : TypeId × Value → H) :
    ReturnsInHanded {} Try.checked os 7 .any (Rows.journalHeadsSpec.pre6 enc Try.prog Try.f7 [] false) (Rows.journalHeadsSpec.post enc Try.prog Try.f7 false true false false) := by
  refine returnsInHanded_of_change (C := Try.checked) own started (by kernel_rfl) Try.func7
    (ChangeSpec.witness6 (enc := enc) (C := Try.checked) false ⟨#[], #[.int .i64 0, .slice none 0 0], []⟩ 8 (by kernel_rfl) (by kernel_rfl) (by kernel_rfl) (by kernel_rfl)) ?_
  intro W base args ds gs before hval0 hW _ _
  have hval : ∀ (j : Nat) t v, Try.f7.params[j]? = some t → args[j]? = some v → Value.okWide Try.prog W .any base t v := hval0
  have hW' := hW
  obtain ⟨p, q, hA0, hV, rfl, _, _⟩ := hW
  have hA : DataW.TrodAll enc Try.prog W 0 (fun _ => true) true Try.f7.params.toList args.toList ds p := hA0
  rw [Try.params7] at hA hval
  obtain ⟨rfl, rfl⟩ := trodVars_none hV
  clear hA0 hval0
  simp only [List.append_nil] at hW'
  have hlt : ∀ x ∈ p, x.block < W.heap.size := fun x hx => by simpa using hW'.lt x hx
  have hlens := trodAll_length hA
  obtain ⟨v0, v1, rfl⟩ := arr2 args (by have := hlens.1; exact this)
  have hc : Calls Try.prog 7 #[v0, v1] W fun e w' => e = .returned (.bool true) ∧ Below W.heap.size W w' := by
    obtain ⟨a0, rfl, _⟩ := open_int' (hval 0 3 v0 rfl rfl) (trodAll_get hA 0 rfl rfl).choose_spec.choose_spec
    obtain ⟨rs, lp, lc, rfl, hl⟩ := open_rows (hval 1 28 v1 rfl rfl) (trodAll_get hA 1 rfl rfl).choose_spec.choose_spec
    exact jnheads_any a0 rs lp lc W hl
  refine hc.mono ?_
  rintro e W' ⟨rfl, hb⟩
  have hB := trodAll_below hA (by kernel_rfl) (by decide) hb hlt
  obtain ⟨d0, d1, rfl⟩ := list2 ds (by have := hlens.2; exact this)
  refine ⟨_, rfl, [d0, d1], [], p, [], p, [], hW', trodAll_mk1 (shut_bool Try.underlying4 true), hB, rfl, hb.frame _, fun h => by cases h⟩

theorem jnheads_said : Rows.JournalHeadsSaid :=
  OpenClaim.holds_of_wide 7 Try.f7 rfl rfl rfl rfl rfl rfl rfl ⟨rfl, rfl, rfl, rfl, rfl⟩ rfl rfl rfl rfl rfl (by kernel_rfl) Try.func7 (by kernel_rfl)
    (of_decide_eq_true (by kernel_rfl)) (by unfold Func.isWrapper; first | (rw [if_pos (by decide +kernel)]; kernel_rfl) | (rw [if_neg (by decide +kernel)]; exact ⟨rfl, rfl⟩))
    (fun os started H enc _ => jnheads_lifted os started H enc)
#print axioms jnheads_said
end Go.Proofs.Ytabahkeologbmaa
