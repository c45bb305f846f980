/- What must be of an interchange's tail: the closure that reads it, and the two that compare. -/
import Derived.Test.YtjlifjgljejabaaGreatDoorWrapH
namespace Go.Proofs.YtjlifjgljejabaaGreatDoor
open Go.RowKit Go.Edi Go.Wrap

def tailRs (n c d : Nat) : List Rdr := [⟨true, n, ⟨c, 0, none⟩⟩, ⟨true, n + 1, ⟨d, 0, none⟩⟩]
theorem tail_good {n c d : Nat} {tag : Tx} {els : List (List Tx)} (h : AllGood (tailRs n c d) tag [85, 78, 90] els) : tailV ⟨tag, els⟩ = some (vl 18446744073709551615 (els.getD 0 []), vl 18446744073709551615 (els.getD 1 [])) := by
  obtain ⟨rfl, h2, h3⟩ := h
  match els, h2 with
  | [a, b], _ =>
    obtain ⟨x, rfl, hx⟩ := oneN_vl (show oneN 18446744073709551615 a = true from h3 0 (by simp [tailRs]))
    obtain ⟨y, rfl, hy⟩ := oneN_vl (show oneN 18446744073709551615 b = true from h3 1 (by simp [tailRs]))
    show tailV ⟨[85, 78, 90], [[x], [y]]⟩ = _
    simp only [tailV, if_true]
    rw [hx, hy]
    rfl
theorem tail_bad {n c d : Nat} {tag : Tx} {els : List (List Tx)} (h : ¬ AllGood (tailRs n c d) tag [85, 78, 90] els) : tailV ⟨tag, els⟩ = none := by
  apply Option.eq_none_iff_forall_ne_some.2
  rintro ⟨x, y⟩ hh
  apply h
  simp only [tailV] at hh
  split at hh
  · rename_i ht
    split at hh
    · rename_i a b
      split at hh
      · rename_i p q h1 h2
        refine ⟨ht, rfl, fun i hi => ?_⟩
        match i, hi with
        | 0, _ => show (numL 18446744073709551615 a).isSome = true; rw [h1]; rfl
        | 1, _ => show (numL 18446744073709551615 b).isSome = true; rw [h2]; rfl
      · cases hh
    · cases hh
  · cases hh
def TlAns (s : Sg) (c d : Nat) (W : World) (e : Ending) (w' : World) : Prop :=
  ∃ ok, e = .returned (.bool ok) ∧ ok = (tailV s).isSome ∧ (∀ x y, tailV s = some (x, y) → w'.heap[c]? = some (.cells #[.int .u64 (x : Int)] 22 (0, 0)) ∧ w'.heap[d]? = some (.cells #[.int .u64 (y : Int)] 22 (0, 0))) ∧ Frq (fun k => k = c ∨ k = d) W w'
set_option maxHeartbeats 1600000 in
theorem tailRead_any (tag : Tx) (els : List (List Tx)) (ve : Value) (n q c d : Nat) (x0 x1 : Value) (F : Nat → Prop) (W : World)
    (hve : ElsF W F ve els) (hF : ∀ b, F b → b < W.heap.size ∧ b ≠ c ∧ b ≠ d) (hen : els.length ≤ 1000000000000) (hlen : ∀ e ∈ els, ∀ t ∈ e, t.length ≤ 1000000000000)
    (hc : W.heap[c]? = some (.cells #[x0] 22 (0, 0))) (hd : W.heap[d]? = some (.cells #[x1] 22 (0, 0))) (hcd : c ≠ d)
    (hq : ∀ (i : Nat) (r : Rdr), (tailRs n c d)[i]? = some r → W.cell? ⟨q, i, none⟩ = some r.val) (hqg : q < W.heap.size ∧ q ≠ c ∧ q ≠ d)
    (hp : ∀ (i : Nat) (r : Rdr), (tailRs n c d)[i]? = some r → W.cell? ⟨r.p, 0, none⟩ = some (.pointer (some r.a)) ∧ r.p < W.heap.size ∧ r.p ≠ c ∧ r.p ≠ d) :
    Calls Tryz.prog 65 #[.agg #[str tag, ve], str [85, 78, 90], .slice (some ⟨q, 0, none⟩) 2 2] W (TlAns ⟨tag, els⟩ c d W) := by
  let Inv : Nat → World → Prop := fun k w' => w'.heap[c]? = some (.cells #[if 0 < k then .int .u64 ((vl 18446744073709551615 (els.getD 0 []) : Nat) : Int) else x0] 22 (0, 0)) ∧ w'.heap[d]? = some (.cells #[if 1 < k then .int .u64 ((vl 18446744073709551615 (els.getD 1 []) : Nat) : Int) else x1] 22 (0, 0)) ∧ Frq (fun k => k = c ∨ k = d) W w' ∧ w'.cell? ⟨W.heap.size, 1, none⟩ = some ve
  have hca : c < W.heap.size := (Array.getElem?_eq_some_iff.1 hc).1
  have hda : d < W.heap.size := (Array.getElem?_eq_some_iff.1 hd).1
  have hno : ∀ b, b ≠ c ∧ b ≠ d → ¬ (b = c ∨ b = d) := fun b h e => e.elim h.1 h.2
  have h := isRead_any (tailRs n c d) tag [85, 78, 90] ve els W F q Inv (fun w' => Frq (fun k => k = c ∨ k = d) W w') (by simp [tailRs]) hen hlen hve
    (fun k w' hi => ⟨hve.kept (fun b hb => ⟨hb, hi.2.2.1.block b (hF b hb).1 (hno b (hF b hb).2)⟩), fun i r hr => (World.cell?_of_block (a := ⟨q, i, none⟩) (hi.2.2.1.block q hqg.1 (hno q hqg.2))).trans (hq i r hr), hi.2.2.2, hi.2.2.1⟩)
    ⟨(Below.heap_alloc _ _ _ hca).trans hc, (Below.heap_alloc _ _ _ hda).trans hd, (Frq.refl _ _).alloc _, by rw [World.cell?_alloc_new]; rfl⟩
    (fun k r t w' hr he hi => by
      have hpp := hp k r hr
      refine ⟨(World.cell?_of_block (a := ⟨r.p, 0, none⟩) (hi.2.2.1.block r.p hpp.2.1 (hno _ hpp.2.2))).trans hpp.1, ?_⟩
      match k, hr with
      | 0, hr =>
        obtain rfl := Option.some.inj hr
        refine ⟨⟨_, cell_of_arr hi.1 0⟩, frozen_of_arr hi.1 0, fun m hm => ⟨?_, (Below.heap_setCell w' _ _ d (Ne.symm hcd)).trans hi.2.1, (hi.2.2.1.setCell (Or.inl rfl) _).drew, ?_⟩, (hi.2.2.1.setCell (Or.inl rfl) _).drew⟩
        · rw [set_arr hi.1 0, show vl 18446744073709551615 (els.getD 0 []) = m by rw [getD_one he]; simp only [vl]; rw [show numL 18446744073709551615 t = some m from hm]; rfl]
          rfl
        · exact (cell_set_other hi.2.2.2 (Nat.ne_of_gt hca))
      | 1, hr =>
        obtain rfl := Option.some.inj hr
        refine ⟨⟨_, cell_of_arr hi.2.1 0⟩, frozen_of_arr hi.2.1 0, fun m hm => ⟨(Below.heap_setCell w' _ _ c hcd).trans hi.1, ?_, (hi.2.2.1.setCell (Or.inr rfl) _).drew, ?_⟩, (hi.2.2.1.setCell (Or.inr rfl) _).drew⟩
        · rw [set_arr hi.2.1 0, show vl 18446744073709551615 (els.getD 1 []) = m by rw [getD_one he]; simp only [vl]; rw [show numL 18446744073709551615 t = some m from hm]; rfl]
          rfl
        · exact (cell_set_other hi.2.2.2 (Nat.ne_of_gt hda))
      | k + 2, hr => cases hr)
  refine h.mono ?_
  rintro e w' ⟨ok, rfl, h1, h2, h3⟩
  cases ok with
  | true =>
    obtain ⟨g1, g2⟩ := h1 rfl
    have hh := tail_good g1
    refine ⟨true, rfl, by rw [hh]; rfl, fun x y hft => ?_, h3⟩
    rw [hh] at hft
    obtain ⟨rfl, rfl⟩ : _ = x ∧ _ = y := by simpa using hft
    exact ⟨g2.1, g2.2.1⟩
  | false =>
    have hh := tail_bad (h2 rfl)
    exact ⟨false, rfl, by rw [hh]; rfl, fun x y hft => (by rw [hh] at hft; cases hft), h3⟩
theorem allocs3 (w : World) (a b : Value) (ta tb tq : TypeId) (Q : Array Value) (W : World) (hW : W = (((w.alloc (.cells #[a] ta)).alloc (.cells #[b] tb)).alloc (.cells Q tq)).drew) :
    W.cell? ⟨w.heap.size, 0, none⟩ = some a ∧ W.cell? ⟨w.heap.size + 1, 0, none⟩ = some b ∧ (∀ i, W.cell? ⟨w.heap.size + 1 + 1, i, none⟩ = Q[i]?) ∧ W.heap.size = w.heap.size + 1 + 1 + 1 ∧ Below w.heap.size w W := by
  subst hW
  refine ⟨?_, ?_, fun i => ?_, by simp, (((Below.refl _ _).alloc (Nat.le_refl _) _).alloc (by simp) _).alloc (by simp <;> omega) _ |>.drew⟩
  · rw [World.cell?_drew, World.cell?_alloc_past _ _ _ (by simp <;> omega), World.cell?_alloc_past _ _ _ (by simp), World.cell?_alloc_at _ _ _ _ rfl]; rfl
  · rw [World.cell?_drew, World.cell?_alloc_past _ _ _ (by simp), World.cell?_alloc_at _ _ _ _ (by simp)]; rfl
  · rw [World.cell?_drew, World.cell?_alloc_at _ _ _ _ (by simp)]
set_option maxRecDepth 100000 in
set_option maxHeartbeats 1600000 in
theorem tail_any (l : List Sg) (v : Value) (w : World) (s lb c d k : Nat) (x0 x1 : Value) (F : Nat → Prop) (hs : w.cell? ⟨s, 0, none⟩ = some v) (hv : SegsF w F v l) (hF : ∀ b, F b → b < w.heap.size ∧ b ≠ c ∧ b ≠ d) (hk : k < l.length) (hfit : sane l)
    (hlb : w.cell? ⟨lb, 0, none⟩ = some (.int .i64 (k : Int))) (hc : w.heap[c]? = some (.cells #[x0] 22 (0, 0))) (hd : w.heap[d]? = some (.cells #[x1] 22 (0, 0))) (hcd : c ≠ d) :
    Calls Tryz.prog 68 #[.pointer (some ⟨s, 0, none⟩), .pointer (some ⟨lb, 0, none⟩), .pointer (some ⟨c, 0, none⟩), .pointer (some ⟨d, 0, none⟩)] w (TlAns l[k] c d w) := by
  obtain ⟨xs, ⟨pv, cap, rfl, hnc, hrow⟩, hel⟩ := hv
  obtain ⟨b, o, rfl, hFb, hcc⟩ := hrow (by omega)
  obtain ⟨hx0, ve, hx1, hve⟩ := SgC.get hel k hk
  have c0 : w.cell? ⟨b, o + k * 2, none⟩ = some (str l[k].tag) := by rw [Nat.mul_comm]; exact hcc _ _ hx0
  have c1 : w.cell? ⟨b, o + k * 2 + 1, none⟩ = some ve := by rw [Nat.mul_comm, Nat.add_assoc]; exact hcc _ _ hx1
  have hkI : (k : Int) < (l.length : Int) := by omega
  have hk0 : (0 : Int) ≤ (k : Int) := Int.natCast_nonneg _
  have hfit0 := hfit.2 _ (List.getElem_mem hk)
  have hs0 := block_lt_of_cell hs
  have hs1 : s < w.heap.size + 1 := Nat.lt_succ_of_lt hs0
  have hs2 : s < w.heap.size + 1 + 1 := Nat.lt_succ_of_lt hs1
  have hs3 : s < w.heap.size + 1 + 1 + 1 := Nat.lt_succ_of_lt hs2
  have hl0 := block_lt_of_cell hlb
  have hl1 : lb < w.heap.size + 1 := Nat.lt_succ_of_lt hl0
  have hl2 : lb < w.heap.size + 1 + 1 := Nat.lt_succ_of_lt hl1
  have hl3 : lb < w.heap.size + 1 + 1 + 1 := Nat.lt_succ_of_lt hl2
  have hb0 := (hF b hFb).1
  have hb1 : b < w.heap.size + 1 := Nat.lt_succ_of_lt hb0
  have hb2 : b < w.heap.size + 1 + 1 := Nat.lt_succ_of_lt hb1
  have hb3 : b < w.heap.size + 1 + 1 + 1 := Nat.lt_succ_of_lt hb2
  have HFit := Lib.hid hfit0
  have HVE := Lib.hid hve
  have HFF := Lib.hid hF
  have HC := Lib.hid hc
  have HD := Lib.hid hd
  have HCL := Lib.hid (Array.getElem?_eq_some_iff.1 hc).1
  have HDL := Lib.hid (Array.getElem?_eq_some_iff.1 hd).1
  have HCD := Lib.hid hcd
  clear hfit hfit0 hve hF hc hd hcd hrow hcc hel hx0 hx1
  generalize l[k] = sg at *
  go_enter Tryz.func68, Tryz.ntmps68
  go_wp2
  go_region_law (first
    | (go_simp; refine (whole_any _ _).mono ?_; rintro e w' ⟨rfl, rfl⟩)
    | (go_simp
       generalize hW : (((w.alloc (.cells #[.pointer (some ⟨c, 0, none⟩)] 133)).alloc (.cells #[.pointer (some ⟨d, 0, none⟩)] 133)).alloc _).drew = W
       have hA := allocs3 _ _ _ _ _ _ _ _ hW.symm
       have HA := Lib.hid hA
       clear hA hW
       refine (tailRead_any sg.tag sg.els ve w.heap.size (w.heap.size + 1 + 1) c d x0 x1 F W ?_ ?_ ?_ ?_ ?_ ?_ ?_ ?_ ?_ ?_).mono ?_
       · exact HVE.out.kept fun b hb => ⟨hb, HA.out.2.2.2.2.block b (HFF.out b hb).1⟩
       · exact fun b hb => ⟨by rw [HA.out.2.2.2.1]; have := (HFF.out b hb).1; omega, (HFF.out b hb).2⟩
       · have := HFit.out.1; omega
       · exact fun e he t ht => by have := (HFit.out.2 e he).2 t ht; omega
       · exact (HA.out.2.2.2.2.block c HCL.out).trans HC.out
       · exact (HA.out.2.2.2.2.block d HDL.out).trans HD.out
       · exact HCD.out
       · intro i r hr
         rw [HA.out.2.2.1 i]
         match i, hr with
         | 0, hr => obtain rfl := Option.some.inj hr; rfl
         | 1, hr => obtain rfl := Option.some.inj hr; rfl
         | i + 2, hr => cases hr
       · exact ⟨by rw [HA.out.2.2.2.1]; omega, by have := HCL.out; omega, by have := HDL.out; omega⟩
       · intro i r hr
         rw [HA.out.2.2.2.1]
         have hgl := HCL.out
         have hdl := HDL.out
         match i, hr with
         | 0, hr => obtain rfl := Option.some.inj hr; exact ⟨HA.out.1, by show w.heap.size < _; omega, by show w.heap.size ≠ c; omega, by show w.heap.size ≠ d; omega⟩
         | 1, hr => obtain rfl := Option.some.inj hr; exact ⟨HA.out.2.1, by show w.heap.size + 1 < _; omega, by show w.heap.size + 1 ≠ c; omega, by show w.heap.size + 1 ≠ d; omega⟩
         | i + 2, hr => cases hr
       rintro e w' ⟨ok, rfl, h1, h2, h3⟩
       have H1 := Lib.hid h1
       have H2 := Lib.hid h2
       have H3 := Lib.hid h3
       clear h1 h2 h3))
  all_goals
    go_wp2
    go_ret
    exact ⟨ok, rfl, H1.out, H2.out, (Frq.ofBelow HA.out.2.2.2.2).trans H3.out⟩
end Go.Proofs.YtjlifjgljejabaaGreatDoor
