/- PROVED: for every two tickets, two sales and int tarmaclaw09.TicketAlone returns true and leaves what came in as it reads (what coupons are worth hangs on nothing but the fare and the legs' weights); no condition. -/
import Derived.Test.YtkdfhmlamjhedaaTkCard
import Derived.Test.YtkdfhmlamjhedaaTkAlX
namespace Go.Proofs.Ytkdfhmlamjhedaa
open Go.ChangeShapes Go.WideShapes Go.ChangeAt Go.RowKit Go.Money Go.ChangeMaps Go.Pror Go.Tick

set_option maxRecDepth 100000 in
theorem tkalone_lifted (os : Os) (started : os.Started) (H : Type) (enc : TypeId × Value → H) :
    ReturnsInHanded {} Try.checked os 6 .any (Rows.ticketAloneSpec.pre6 enc Try.prog Try.f6 [] false) (Rows.ticketAloneSpec.post enc Try.prog Try.f6 false true false false) := by
  refine returnsInHanded_of_change (C := Try.checked) own started (by kernel_rfl) Try.func6
    (ChangeSpec.witness6 (enc := enc) (C := Try.checked) false ⟨#[], #[.agg #[.int .u8 0, .int .u64 0], .agg #[.int .u8 0, .int .u64 0], .agg #[.string ⟨#[]⟩, .slice none 0 0, .int .i64 0, .slice none 0 0, .int .i64 0], .agg #[.string ⟨#[]⟩, .slice none 0 0, .int .i64 0, .slice none 0 0, .int .i64 0], .int .i64 0], []⟩ 8 (by kernel_rfl) (by kernel_rfl) (by kernel_rfl) (by kernel_rfl)) ?_
  intro W base args ds gs before hval0 hW _ _
  have hval : ∀ (j : Nat) t v, Try.f6.params[j]? = some t → args[j]? = some v → Value.okWide Try.prog W .any base t v := hval0
  have hW' := hW
  obtain ⟨p, q, hA0, hV, rfl, _, _⟩ := hW
  have hA : DataW.TrodAll enc Try.prog W 0 (fun _ => true) true Try.f6.params.toList args.toList ds p := hA0
  rw [Try.params6] at hA hval
  obtain ⟨rfl, rfl⟩ := trodVars_none hV
  clear hA0 hval0
  simp only [List.append_nil] at hW'
  have hlt : ∀ x ∈ p, x.block < W.heap.size := fun x hx => by simpa using hW'.lt x hx
  have hlens := trodAll_length hA
  obtain ⟨v0, v1, v2, v3, v4, rfl⟩ := arr5 args (by have := hlens.1; exact this)
  have hc : Calls Try.prog 6 #[v0, v1, v2, v3, v4] W fun e w' => e = .returned (.bool true) ∧ Below W.heap.size W w' := by
    obtain ⟨c1, sr1, rfl, hc1⟩ := open_tk (hval 0 24 v0 rfl rfl) (trodAll_get hA 0 rfl rfl).choose_spec.choose_spec
    obtain ⟨c2, sr2, rfl, hc2⟩ := open_tk (hval 1 24 v1 rfl rfl) (trodAll_get hA 1 rfl rfl).choose_spec.choose_spec
    obtain ⟨s, lp, lc, tp, tc, rfl, hP⟩ := open_sale (hval 2 28 v2 rfl rfl) (trodAll_get hA 2 rfl rfl).choose_spec.choose_spec
    obtain ⟨o, lp2, lc2, tp2, tc2, rfl, hP2⟩ := open_sale (hval 3 28 v3 rfl rfl) (trodAll_get hA 3 rfl rfl).choose_spec.choose_spec
    obtain ⟨n, rfl, _, _⟩ := open_int' (hval 4 3 v4 rfl rfl) (trodAll_get hA 4 rfl rfl).choose_spec.choose_spec
    exact tkalone_any c1 sr1 c2 sr2 s lp lc tp tc o lp2 lc2 tp2 tc2 n W hc1 hc2 hP hP2
  refine hc.mono ?_
  rintro e W' ⟨rfl, hb⟩
  have hB := trodAll_below hA (by kernel_rfl) (by decide) hb hlt
  obtain ⟨d0, d1, d2, d3, d4, rfl⟩ := list5 ds (by have := hlens.2; exact this)
  refine ⟨_, rfl, [d0, d1, d2, d3, d4], [], p, [], p, [], hW', trodAll_mk1 (shut_bool Try.underlying4 true), hB, rfl, hb.frame _, fun h => by cases h⟩

theorem tkalone_said : Rows.TicketAloneSaid :=
  OpenClaim.holds_of_wide 6 Try.f6 rfl rfl rfl rfl rfl rfl rfl ⟨rfl, rfl, rfl, rfl, rfl⟩ rfl rfl rfl rfl rfl (by kernel_rfl) Try.func6 (by kernel_rfl)
    (of_decide_eq_true (by kernel_rfl)) (by unfold Func.isWrapper; first | (rw [if_pos (by decide +kernel)]; kernel_rfl) | (rw [if_neg (by decide +kernel)]; exact ⟨rfl, rfl⟩))
    (fun os started H enc _ => tkalone_lifted os started H enc)
#print axioms tkalone_said
end Go.Proofs.Ytkdfhmlamjhedaa
