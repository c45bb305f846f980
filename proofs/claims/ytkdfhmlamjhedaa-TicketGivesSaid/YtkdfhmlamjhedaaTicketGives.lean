/- PROVED: for every int64, int64, document, list of statuses and of bools tarmaclaw09.TicketGives returns true and leaves what came in as it reads (what is given and kept of a value, and a document's balance, is the document's); no condition. -/
import Derived.Test.YtkdfhmlamjhedaaTkCard
import Derived.Test.YtkdfhmlamjhedaaTkGiW
namespace Go.Proofs.Ytkdfhmlamjhedaa
open Go.ChangeShapes Go.WideShapes Go.ChangeAt Go.RowKit Go.Money Go.ChangeMaps Go.Pror Go.Tick

set_option maxRecDepth 100000 in
theorem tkgives_lifted (os : Os) (started : os.Started) (H : Type) (enc : TypeId × Value → H) :
    ReturnsInHanded {} Try.checked os 3 .any (Rows.ticketGivesSpec.pre6 enc Try.prog Try.f3 [] false) (Rows.ticketGivesSpec.post enc Try.prog Try.f3 false true false false) := by
  refine returnsInHanded_of_change (C := Try.checked) own started (by kernel_rfl) Try.func3
    (ChangeSpec.witness6 (enc := enc) (C := Try.checked) false ⟨#[], #[.int .i64 0, .int .i64 0, .agg #[.int .u8 0, .int .u64 0, .string ⟨#[]⟩, .slice none 0 0, .int .i64 0, .slice none 0 0, .int .i64 0, .slice none 0 0, .int .u8 0, .int .u64 0, .int .u8 0, .int .u64 0, .int .i64 0, .int .i64 0, .int .i64 0, .int .i64 0, .int .i64 0], .slice none 0 0, .slice none 0 0], []⟩ 8 (by kernel_rfl) (by kernel_rfl) (by kernel_rfl) (by kernel_rfl)) ?_
  intro W base args ds gs before hval0 hW _ _
  have hval : ∀ (j : Nat) t v, Try.f3.params[j]? = some t → args[j]? = some v → Value.okWide Try.prog W .any base t v := hval0
  have hW' := hW
  obtain ⟨p, q, hA0, hV, rfl, _, _⟩ := hW
  have hA : DataW.TrodAll enc Try.prog W 0 (fun _ => true) true Try.f3.params.toList args.toList ds p := hA0
  rw [Try.params3] at hA hval
  obtain ⟨rfl, rfl⟩ := trodVars_none hV
  clear hA0 hval0
  simp only [List.append_nil] at hW'
  have hlt : ∀ x ∈ p, x.block < W.heap.size := fun x hx => by simpa using hW'.lt x hx
  have hlens := trodAll_length hA
  obtain ⟨v0, v1, v2, v3, v4, rfl⟩ := arr5 args (by have := hlens.1; exact this)
  have hc : Calls Try.prog 3 #[v0, v1, v2, v3, v4] W fun e w' => e = .returned (.bool true) ∧ Below W.heap.size W w' := by
    obtain ⟨a0, rfl, _, b0⟩ := open_i64 (hval 0 2 v0 rfl rfl) (trodAll_get hA 0 rfl rfl).choose_spec.choose_spec
    obtain ⟨a1, rfl, _, _⟩ := open_i64 (hval 1 2 v1 rfl rfl) (trodAll_get hA 1 rfl rfl).choose_spec.choose_spec
    obtain ⟨c0, s0, s, lp, lc, tp, tc, vp, V, vc, c1, s1, c2, s2, cr, pd, bk, kp, lf, rfl, hV⟩ := open_doc (hval 2 31 v2 rfl rfl) (trodAll_get hA 2 rfl rfl).choose_spec.choose_spec
    obtain ⟨sp, S, sc, rfl, hS, hlt2⟩ := open_stats (hval 3 32 v3 rfl rfl) (trodAll_get hA 3 rfl rfl).choose_spec.choose_spec
    obtain ⟨pp, np, pc, rfl⟩ := okWide_slice Try.underlying33 (hval 4 33 v4 rfl rfl)
    exact tkgives_any a0 a1 b0 c0 s0 s lp lc tp tc vp V vc c1 s1 c2 s2 cr pd bk kp lf S sp sc pp np pc W hV hS hlt2
  refine hc.mono ?_
  rintro e W' ⟨rfl, hb⟩
  have hB := trodAll_below hA (by kernel_rfl) (by decide) hb hlt
  obtain ⟨d0, d1, d2, d3, d4, rfl⟩ := list5 ds (by have := hlens.2; exact this)
  refine ⟨_, rfl, [d0, d1, d2, d3, d4], [], p, [], p, [], hW', trodAll_mk1 (shut_bool Try.underlying4 true), hB, rfl, hb.frame _, fun h => by cases h⟩

theorem tkgives_said : Rows.TicketGivesSaid :=
  OpenClaim.holds_of_wide 3 Try.f3 rfl rfl rfl rfl rfl rfl rfl ⟨rfl, rfl, rfl, rfl, rfl⟩ rfl rfl rfl rfl rfl (by kernel_rfl) Try.func3 (by kernel_rfl)
    (of_decide_eq_true (by kernel_rfl)) (by unfold Func.isWrapper; first | (rw [if_pos (by decide +kernel)]; kernel_rfl) | (rw [if_neg (by decide +kernel)]; exact ⟨rfl, rfl⟩))
    (fun os started H enc _ => tkgives_lifted os started H enc)
#print axioms tkgives_said
end Go.Proofs.Ytkdfhmlamjhedaa
