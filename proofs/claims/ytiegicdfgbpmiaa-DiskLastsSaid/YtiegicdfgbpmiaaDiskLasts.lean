/- PROVED: for every int, two lists of acts and list of ints tarmaclaw12.DiskLasts returns true and leaves what came in as it reads (what was synced lasts; what waited comes in part, from its beginning); no condition. -/
import Derived.Test.YtiegicdfgbpmiaaDkOpen
import Derived.Test.YtiegicdfgbpmiaaDkLtW
namespace Go.Proofs.Ytiegicdfgbpmiaa
open Go.ChangeShapes Go.WideShapes Go.ChangeAt Go.RowKit Go.ChangeMaps Go.Dk Go.Proofs.Ytiegicdfgbpmiaa.Dk

set_option maxRecDepth 100000 in
theorem dklasts_lifted (os : Os) (started : os.Started) (H : Type) (enc : TypeId × Value → H) :
    ReturnsInHanded {} Try.checked os 3 .any (Rows.diskLastsSpec.pre6 enc Try.prog Try.f3 [] false) (Rows.diskLastsSpec.post enc Try.prog Try.f3 false true false false) := by
  refine returnsInHanded_of_change (C := Try.checked) own started (by kernel_rfl) Try.func3
    (ChangeSpec.witness6 (enc := enc) (C := Try.checked) false ⟨#[], #[.int .i64 0, .slice none 0 0, .slice none 0 0, .slice none 0 0], []⟩ 8 (by kernel_rfl) (by kernel_rfl) (by kernel_rfl) (by kernel_rfl)) ?_
  intro W base args ds gs before hval0 hW _ _
  have hval : ∀ (j : Nat) t v, Try.f3.params[j]? = some t → args[j]? = some v → Value.okWide Try.prog W .any base t v := hval0
  have hW' := hW
  obtain ⟨p, q, hA0, hV, rfl, _, _⟩ := hW
  have hA : DataW.TrodAll enc Try.prog W 0 (fun _ => true) true Try.f3.params.toList args.toList ds p := hA0
  rw [Try.params3] at hA hval
  obtain ⟨rfl, rfl⟩ := trodVars_none hV
  clear hA0 hval0
  simp only [List.append_nil] at hW'
  have hlt : ∀ x ∈ p, x.block < W.heap.size := fun x hx => by simpa using hW'.lt x hx
  have hlens := trodAll_length hA
  obtain ⟨v0, v1, v2, v3, rfl⟩ := arr4 args (by have := hlens.1; exact this)
  have hc : Calls Try.prog 3 #[v0, v1, v2, v3] W fun e w' => e = .returned (.bool true) ∧ Below W.heap.size W w' := by
    obtain ⟨a0, rfl, h0⟩ := open_int' (hval 0 3 v0 rfl rfl) (trodAll_get hA 0 rfl rfl).choose_spec.choose_spec
    obtain ⟨L, lp, lc, rfl, hL⟩ := open_acts (hval 1 22 v1 rfl rfl) (trodAll_get hA 1 rfl rfl).choose_spec.choose_spec
    obtain ⟨L2, lp2, lc2, rfl, hL2⟩ := open_acts (hval 2 22 v2 rfl rfl) (trodAll_get hA 2 rfl rfl).choose_spec.choose_spec
    obtain ⟨fs, fp, fc, rfl, hf⟩ := open_fates (hval 3 23 v3 rfl rfl) (trodAll_get hA 3 rfl rfl).choose_spec.choose_spec
    exact dklasts_any a0 h0 L lp lc L2 lp2 lc2 fs fp fc W hL hL2 hf
  refine hc.mono ?_
  rintro e W' ⟨rfl, hb⟩
  have hB := trodAll_below hA (by kernel_rfl) (by decide) hb hlt
  obtain ⟨d0, d1, d2, d3, rfl⟩ := list4 ds (by have := hlens.2; exact this)
  refine ⟨_, rfl, [d0, d1, d2, d3], [], p, [], p, [], hW', trodAll_mk1 (shut_bool Try.underlying4 true), hB, rfl, hb.frame _, fun h => by cases h⟩

theorem dklasts_said : Rows.DiskLastsSaid :=
  OpenClaim.holds_of_wide 3 Try.f3 rfl rfl rfl rfl rfl rfl rfl ⟨rfl, rfl, rfl, rfl, rfl⟩ rfl rfl rfl rfl rfl (by kernel_rfl) Try.func3 (by kernel_rfl)
    (of_decide_eq_true (by kernel_rfl)) (by unfold Func.isWrapper; first | (rw [if_pos (by decide +kernel)]; kernel_rfl) | (rw [if_neg (by decide +kernel)]; exact ⟨rfl, rfl⟩))
    (fun os started H enc _ => dklasts_lifted os started H enc)
#print axioms dklasts_said
end Go.Proofs.Ytiegicdfgbpmiaa
