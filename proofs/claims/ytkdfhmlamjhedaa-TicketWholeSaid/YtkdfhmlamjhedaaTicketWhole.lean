/- PROVED: for every ticket, sale, int and list of bools tarmaclaw09.TicketWhole returns true and leaves what came in as it reads (a ticket's coupons make up its fare, to the unit; its balance is 0 as long as all are open, and stays so when any of them are paid back); no condition. -/
import Derived.Test.YtkdfhmlamjhedaaTkCard
import Derived.Test.YtkdfhmlamjhedaaTkWhX
namespace Go.Proofs.Ytkdfhmlamjhedaa
open Go.ChangeShapes Go.WideShapes Go.ChangeAt Go.RowKit Go.Money Go.ChangeMaps Go.Pror Go.Tick

set_option maxRecDepth 100000 in
theorem tkwhole_lifted (os : Os) (started : os.Started) (H : Type) (enc : TypeId × Value → H) :
    ReturnsInHanded {} Try.checked os 4 .any (Rows.ticketWholeSpec.pre6 enc Try.prog Try.f4 [] false) (Rows.ticketWholeSpec.post enc Try.prog Try.f4 false true false false) := by
  refine returnsInHanded_of_change (C := Try.checked) own started (by kernel_rfl) Try.func4
    (ChangeSpec.witness6 (enc := enc) (C := Try.checked) false ⟨#[], #[.agg #[.int .u8 0, .int .u64 0], .agg #[.string ⟨#[]⟩, .slice none 0 0, .int .i64 0, .slice none 0 0, .int .i64 0], .int .i64 0, .slice none 0 0], []⟩ 8 (by kernel_rfl) (by kernel_rfl) (by kernel_rfl) (by kernel_rfl)) ?_
  intro W base args ds gs before hval0 hW _ _
  have hval : ∀ (j : Nat) t v, Try.f4.params[j]? = some t → args[j]? = some v → Value.okWide Try.prog W .any base t v := hval0
  have hW' := hW
  obtain ⟨p, q, hA0, hV, rfl, _, _⟩ := hW
  have hA : DataW.TrodAll enc Try.prog W 0 (fun _ => true) true Try.f4.params.toList args.toList ds p := hA0
  rw [Try.params4] at hA hval
  obtain ⟨rfl, rfl⟩ := trodVars_none hV
  clear hA0 hval0
  simp only [List.append_nil] at hW'
  have hlt : ∀ x ∈ p, x.block < W.heap.size := fun x hx => by simpa using hW'.lt x hx
  have hlens := trodAll_length hA
  obtain ⟨v0, v1, v2, v3, rfl⟩ := arr4 args (by have := hlens.1; exact this)
  have hc : Calls Try.prog 4 #[v0, v1, v2, v3] W fun e w' => e = .returned (.bool true) ∧ Below W.heap.size W w' := by
    obtain ⟨c, sr, rfl, hc⟩ := open_tk (hval 0 24 v0 rfl rfl) (trodAll_get hA 0 rfl rfl).choose_spec.choose_spec
    obtain ⟨s, lp, lc, tp, tc, rfl, hP⟩ := open_sale (hval 1 28 v1 rfl rfl) (trodAll_get hA 1 rfl rfl).choose_spec.choose_spec
    obtain ⟨n, rfl, _, _⟩ := open_int' (hval 2 3 v2 rfl rfl) (trodAll_get hA 2 rfl rfl).choose_spec.choose_spec
    obtain ⟨wp, wh, wc, rfl, hW⟩ := open_bools (hval 3 33 v3 rfl rfl) (trodAll_get hA 3 rfl rfl).choose_spec.choose_spec
    exact tkwhole_any c sr s lp lc tp tc n wp wh wc W hc hP hW
  refine hc.mono ?_
  rintro e W' ⟨rfl, hb⟩
  have hB := trodAll_below hA (by kernel_rfl) (by decide) hb hlt
  obtain ⟨d0, d1, d2, d3, rfl⟩ := list4 ds (by have := hlens.2; exact this)
  refine ⟨_, rfl, [d0, d1, d2, d3], [], p, [], p, [], hW', trodAll_mk1 (shut_bool Try.underlying4 true), hB, rfl, hb.frame _, fun h => by cases h⟩

theorem tkwhole_said : Rows.TicketWholeSaid :=
  OpenClaim.holds_of_wide 4 Try.f4 rfl rfl rfl rfl rfl rfl rfl ⟨rfl, rfl, rfl, rfl, rfl⟩ rfl rfl rfl rfl rfl (by kernel_rfl) Try.func4 (by kernel_rfl)
    (of_decide_eq_true (by kernel_rfl)) (by unfold Func.isWrapper; first | (rw [if_pos (by decide +kernel)]; kernel_rfl) | (rw [if_neg (by decide +kernel)]; exact ⟨rfl, rfl⟩))
    (fun os started H enc _ => tkwhole_lifted os started H enc)
#print axioms tkwhole_said
end Go.Proofs.Ytkdfhmlamjhedaa
