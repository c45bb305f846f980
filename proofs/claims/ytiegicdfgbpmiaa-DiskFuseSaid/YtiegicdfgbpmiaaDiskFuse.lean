/- PROVED: for every int, list of acts, uint8 and list of ints tarmaclaw12.DiskFuse returns true and leaves what came in as it reads (with a fuse of n just n calls are done); no condition. -/
import Derived.Test.YtiegicdfgbpmiaaDkOpen
import Derived.Test.YtiegicdfgbpmiaaDkFuW
namespace Go.Proofs.Ytiegicdfgbpmiaa
open Go.ChangeShapes Go.WideShapes Go.ChangeAt Go.RowKit Go.ChangeMaps Go.Dk Go.Proofs.Ytiegicdfgbpmiaa.Dk

set_option maxRecDepth 100000 in
theorem dkfuse_lifted (os : Os) (started : os.Started) (H : Type) (enc : TypeId × Value → H) :
    ReturnsInHanded {} Try.checked os 4 .any (Rows.diskFuseSpec.pre6 enc Try.prog Try.f4 [] false) (Rows.diskFuseSpec.post enc Try.prog Try.f4 false true false false) := by
  refine returnsInHanded_of_change (C := Try.checked) own started (by kernel_rfl) Try.func4
    (ChangeSpec.witness6 (enc := enc) (C := Try.checked) false ⟨#[], #[.int .i64 0, .slice none 0 0, .int .u8 0, .slice none 0 0], []⟩ 8 (by kernel_rfl) (by kernel_rfl) (by kernel_rfl) (by kernel_rfl)) ?_
  intro W base args ds gs before hval0 hW _ _
  have hval : ∀ (j : Nat) t v, Try.f4.params[j]? = some t → args[j]? = some v → Value.okWide Try.prog W .any base t v := hval0
  have hW' := hW
  obtain ⟨p, q, hA0, hV, rfl, _, _⟩ := hW
  have hA : DataW.TrodAll enc Try.prog W 0 (fun _ => true) true Try.f4.params.toList args.toList ds p := hA0
  rw [Try.params4] at hA hval
  obtain ⟨rfl, rfl⟩ := trodVars_none hV
  clear hA0 hval0
  simp only [List.append_nil] at hW'
  have hlt : ∀ x ∈ p, x.block < W.heap.size := fun x hx => by simpa using hW'.lt x hx
  have hlens := trodAll_length hA
  obtain ⟨v0, v1, v2, v3, rfl⟩ := arr4 args (by have := hlens.1; exact this)
  have hc : Calls Try.prog 4 #[v0, v1, v2, v3] W fun e w' => e = .returned (.bool true) ∧ Below W.heap.size W w' := by
    obtain ⟨a0, rfl, h0⟩ := open_int' (hval 0 3 v0 rfl rfl) (trodAll_get hA 0 rfl rfl).choose_spec.choose_spec
    obtain ⟨L, lp, lc, rfl, hL⟩ := open_acts (hval 1 22 v1 rfl rfl) (trodAll_get hA 1 rfl rfl).choose_spec.choose_spec
    obtain ⟨z, rfl, hz⟩ := open_u8' (hval 2 5 v2 rfl rfl) (trodAll_get hA 2 rfl rfl).choose_spec.choose_spec
    obtain ⟨fs, fp, fc, rfl, hf⟩ := open_fates (hval 3 23 v3 rfl rfl) (trodAll_get hA 3 rfl rfl).choose_spec.choose_spec
    exact dkfuse_law a0 h0 L lp lc z hz fs fp fc W hL hf
  refine hc.mono ?_
  rintro e W' ⟨rfl, hb⟩
  have hB := trodAll_below hA (by kernel_rfl) (by decide) hb hlt
  obtain ⟨d0, d1, d2, d3, rfl⟩ := list4 ds (by have := hlens.2; exact this)
  refine ⟨_, rfl, [d0, d1, d2, d3], [], p, [], p, [], hW', trodAll_mk1 (shut_bool Try.underlying4 true), hB, rfl, hb.frame _, fun h => by cases h⟩

theorem dkfuse_said : Rows.DiskFuseSaid :=
  OpenClaim.holds_of_wide 4 Try.f4 rfl rfl rfl rfl rfl rfl rfl ⟨rfl, rfl, rfl, rfl, rfl⟩ rfl rfl rfl rfl rfl (by kernel_rfl) Try.func4 (by kernel_rfl)
    (of_decide_eq_true (by kernel_rfl)) (by unfold Func.isWrapper; first | (rw [if_pos (by decide +kernel)]; kernel_rfl) | (rw [if_neg (by decide +kernel)]; exact ⟨rfl, rfl⟩))
    (fun os started H enc _ => dkfuse_lifted os started H enc)
#print axioms dkfuse_said
end Go.Proofs.Ytiegicdfgbpmiaa
