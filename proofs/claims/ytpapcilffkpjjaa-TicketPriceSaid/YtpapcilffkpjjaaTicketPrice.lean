/- PROVED: for every sale, int and tax tarmaclaw09.TicketPrice returns true and leaves what came in as it reads (a sale that may be has a price that may be, no less than its fare; a tax more makes it that much dearer, or is refused); no condition. -/
import Derived.Test.YtpapcilffkpjjaaTkCard
import Derived.Test.YtpapcilffkpjjaaTkPcX
namespace Go.Proofs.Ytpapcilffkpjjaa
open Go.ChangeShapes Go.WideShapes Go.ChangeAt Go.RowKit Go.Money Go.ChangeMaps Go.Pror Go.Tick

set_option maxRecDepth 100000 in
theorem tkprice_lifted (os : Os) (started : os.Started) (H : Type) (enc : TypeId × Value → H) :
    ReturnsInHanded {} Try.checked os 5 .any (Rows.ticketPriceSpec.pre6 enc Try.prog Try.f5 [] false) (Rows.ticketPriceSpec.post enc Try.prog Try.f5 false true false false) := by
  refine returnsInHanded_of_change (C := Try.checked) own started (by kernel_rfl) Try.func5
    (ChangeSpec.witness6 (enc := enc) (C := Try.checked) false ⟨#[], #[.agg #[.string ⟨#[]⟩, .slice none 0 0, .int .i64 0, .slice none 0 0, .int .i64 0], .int .i64 0, .agg #[.string ⟨#[]⟩, .int .i64 0]], []⟩ 8 (by kernel_rfl) (by kernel_rfl) (by kernel_rfl) (by kernel_rfl)) ?_
  intro W base args ds gs before hval0 hW _ _
  have hval : ∀ (j : Nat) t v, Try.f5.params[j]? = some t → args[j]? = some v → Value.okWide Try.prog W .any base t v := hval0
  have hW' := hW
  obtain ⟨p, q, hA0, hV, rfl, _, _⟩ := hW
  have hA : DataW.TrodAll enc Try.prog W 0 (fun _ => true) true Try.f5.params.toList args.toList ds p := hA0
  rw [Try.params5] at hA hval
  obtain ⟨rfl, rfl⟩ := trodVars_none hV
  clear hA0 hval0
  simp only [List.append_nil] at hW'
  have hlt : ∀ x ∈ p, x.block < W.heap.size := fun x hx => by simpa using hW'.lt x hx
  have hlens := trodAll_length hA
  obtain ⟨v0, v1, v2, rfl⟩ := arr3 args (by have := hlens.1; exact this)
  have hc : Calls Try.prog 5 #[v0, v1, v2] W fun e w' => e = .returned (.bool true) ∧ Below W.heap.size W w' := by
    obtain ⟨s, lp, lc, tp, tc, rfl, hP⟩ := open_sale (hval 0 28 v0 rfl rfl) (trodAll_get hA 0 rfl rfl).choose_spec.choose_spec
    obtain ⟨n, rfl, _, _⟩ := open_int' (hval 1 3 v1 rfl rfl) (trodAll_get hA 1 rfl rfl).choose_spec.choose_spec
    obtain ⟨x, rfl, _, _⟩ := open_tax (hval 2 48 v2 rfl rfl) (trodAll_get hA 2 rfl rfl).choose_spec.choose_spec
    exact tkprice_any s lp lc tp tc n x W hP
  refine hc.mono ?_
  rintro e W' ⟨rfl, hb⟩
  have hB := trodAll_below hA (by kernel_rfl) (by decide) hb hlt
  obtain ⟨d0, d1, d2, rfl⟩ := list3 ds (by have := hlens.2; exact this)
  refine ⟨_, rfl, [d0, d1, d2], [], p, [], p, [], hW', trodAll_mk1 (shut_bool Try.underlying4 true), hB, rfl, hb.frame _, fun h => by cases h⟩

theorem tkprice_said : Rows.TicketPriceSaid :=
  OpenClaim.holds_of_wide 5 Try.f5 rfl rfl rfl rfl rfl rfl rfl ⟨rfl, rfl, rfl, rfl, rfl⟩ rfl rfl rfl rfl rfl (by kernel_rfl) Try.func5 (by kernel_rfl)
    (of_decide_eq_true (by kernel_rfl)) (by unfold Func.isWrapper; first | (rw [if_pos (by decide +kernel)]; kernel_rfl) | (rw [if_neg (by decide +kernel)]; exact ⟨rfl, rfl⟩))
    (fun os started H enc _ => tkprice_lifted os started H enc)
#print axioms tkprice_said
end Go.Proofs.Ytpapcilffkpjjaa
