/- PROVED: for every record tarmaclaw14.CodecOwn returns true and leaves what came in as it reads (what Put and Get tell is new memory, each time); no condition. -/
import Derived.Test.YtjdfdihopgceoaaCdOpen
import Derived.Test.YtjdfdihopgceoaaCdOwW
namespace Go.Proofs.Ytjdfdihopgceoaa
open Go.ChangeShapes Go.WideShapes Go.ChangeAt Go.RowKit Go.ChangeMaps Go.Dk Go.Jn Go.Cod Go.Proofs.Ytjdfdihopgceoaa.Cd

set_option maxRecDepth 100000 in
theorem codecown_lifted (os : Os) (started : os.Started) (H : Type) (enc : TypeId × Value → H) :
    ReturnsInHanded {} Try.checked os 7 .any (Rows.codecOwnSpec.pre6 enc Try.prog Try.f7 [] false) (Rows.codecOwnSpec.post enc Try.prog Try.f7 false true false false) := by
  refine returnsInHanded_of_change (C := Try.checked) own started (by kernel_rfl) Try.func7
    (ChangeSpec.witness6 (enc := enc) (C := Try.checked) false ⟨#[], #[.agg #[.int .u8 0, .int .u8 0, .int .u8 0, .int .u64 0, .int .u8 0, .string ⟨#[]⟩, .slice none 0 0, .int .i64 0, .slice none 0 0, .int .i64 0, .int .i64 0, .int .u8 0, .int .u64 0, .int .u8 0, .int .u8 0, .int .u64 0, .int .u8 0, .int .u8 0, .int .u16 0, .int .u32 0, .int .i64 0, .int .u8 0, .int .u32 0, .int .i64 0, .int .i64 0]], []⟩ 8 (by kernel_rfl) (by kernel_rfl) (by kernel_rfl) (by kernel_rfl)) ?_
  intro W base args ds gs before hval0 hW _ _
  have hval : ∀ (j : Nat) t v, Try.f7.params[j]? = some t → args[j]? = some v → Value.okWide Try.prog W .any base t v := hval0
  have hW' := hW
  obtain ⟨p, q, hA0, hV, rfl, _, _⟩ := hW
  have hA : DataW.TrodAll enc Try.prog W 0 (fun _ => true) true Try.f7.params.toList args.toList ds p := hA0
  rw [Try.params7] at hA hval
  obtain ⟨rfl, rfl⟩ := trodVars_none hV
  clear hA0 hval0
  simp only [List.append_nil] at hW'
  have hlt : ∀ x ∈ p, x.block < W.heap.size := fun x hx => by simpa using hW'.lt x hx
  have hlens := trodAll_length hA
  obtain ⟨v0, rfl⟩ := arr1 args (by have := hlens.1; exact this)
  have hc : Calls Try.prog 7 #[v0] W fun e w' => e = .returned (.bool true) ∧ Below W.heap.size W w' := by
    obtain ⟨r0, lp0, lc0, tp0, tc0, rfl, hi0, hl0, ht0⟩ := open_rec (hval 0 44 v0 rfl rfl) (trodAll_get hA 0 rfl rfl).choose_spec.choose_spec
    exact cdown_any r0 lp0 tp0 lc0 tc0 W ⟨hi0.ok, hl0, ht0, hi0.msg.1⟩
  refine hc.mono ?_
  rintro e W' ⟨rfl, hb⟩
  have hB := trodAll_below hA (by kernel_rfl) (by decide) hb hlt
  obtain ⟨d0, rfl⟩ := list1 ds (by have := hlens.2; exact this)
  refine ⟨_, rfl, [d0], [], p, [], p, [], hW', trodAll_mk1 (shut_bool Try.underlying4 true), hB, rfl, hb.frame _, fun h => by cases h⟩

theorem codecown_said : Rows.CodecOwnSaid :=
  OpenClaim.holds_of_wide 7 Try.f7 rfl rfl rfl rfl rfl rfl rfl ⟨rfl, rfl, rfl, rfl, rfl⟩ rfl rfl rfl rfl rfl (by kernel_rfl) Try.func7 (by kernel_rfl)
    (of_decide_eq_true (by kernel_rfl)) (by unfold Func.isWrapper; first | (rw [if_pos (by decide +kernel)]; kernel_rfl) | (rw [if_neg (by decide +kernel)]; exact ⟨rfl, rfl⟩))
    (fun os started H enc _ => codecown_lifted os started H enc)
#print axioms codecown_said
end Go.Proofs.Ytjdfdihopgceoaa
