/- The reader's methods that end a component, an element, a segment. -/
import Derived.Test.YtgaoeljdlpemnaaGreatDoorWrapH
import Derived.Test.YtgaoeljdlpemnaaGreatDoorEdiOw
import Derived.Deep.RegionLaw
/- What must be of an interchange's tail: the closure that reads it, and the two that compare. -/
namespace Go.Proofs.YtgaoeljdlpemnaaGreatDoor
open Go.RowKit Go.Edi Go.Wrap

def tailRs (n c d : Nat) : List Rdr := [⟨true, n, ⟨c, 0, none⟩⟩, ⟨true, n + 1, ⟨d, 0, none⟩⟩]
theorem tail_good {n c d : Nat} {tag : Tx} {els : List (List Tx)} (h : AllGood (tailRs n c d) tag [85, 78, 90] els) : tailV ⟨tag, els⟩ = some (vl 18446744073709551615 (els.getD 0 []), vl 18446744073709551615 (els.getD 1 [])) := by
  obtain ⟨rfl, h2, h3⟩ := h
  match els, h2 with
  | [a, b], _ =>
    obtain ⟨x, rfl, hx⟩ := oneN_vl (show oneN 18446744073709551615 a = true from h3 0 (by simp [tailRs]))
    obtain ⟨y, rfl, hy⟩ := oneN_vl (show oneN 18446744073709551615 b = true from h3 1 (by simp [tailRs]))
    show tailV ⟨[85, 78, 90], [[x], [y]]⟩ = _
    simp only [tailV, if_true]
    rw [hx, hy]
    rfl
theorem tail_bad {n c d : Nat} {tag : Tx} {els : List (List Tx)} (h : ¬ AllGood (tailRs n c d) tag [85, 78, 90] els) : tailV ⟨tag, els⟩ = none := by
  apply Option.eq_none_iff_forall_ne_some.2
  rintro ⟨x, y⟩ hh
  apply h
  simp only [tailV] at hh
  split at hh
  · rename_i ht
    split at hh
    · rename_i a b
      split at hh
      · rename_i p q h1 h2
        refine ⟨ht, rfl, fun i hi => ?_⟩
        match i, hi with
        | 0, _ => show (numL 18446744073709551615 a).isSome = true; rw [h1]; rfl
        | 1, _ => show (numL 18446744073709551615 b).isSome = true; rw [h2]; rfl
      · cases hh
    · cases hh
  · cases hh
def TlAns (s : Sg) (c d : Nat) (W : World) (e : Ending) (w' : World) : Prop :=
  ∃ ok, e = .returned (.bool ok) ∧ ok = (tailV s).isSome ∧ (∀ x y, tailV s = some (x, y) → w'.heap[c]? = some (.cells #[.int .u64 (x : Int)] 22 (0, 0)) ∧ w'.heap[d]? = some (.cells #[.int .u64 (y : Int)] 22 (0, 0))) ∧ Frq (fun k => k = c ∨ k = d) W w'
set_option maxHeartbeats 1600000 in
theorem tailRead_any (tag : Tx) (els : List (List Tx)) (ve : Value) (n q c d : Nat) (x0 x1 : Value) (F : Nat → Prop) (W : World)
    (hve : ElsF W F ve els) (hF : ∀ b, F b → b < W.heap.size ∧ b ≠ c ∧ b ≠ d) (hen : els.length ≤ 1000000000000) (hlen : ∀ e ∈ els, ∀ t ∈ e, t.length ≤ 1000000000000)
    (hc : W.heap[c]? = some (.cells #[x0] 22 (0, 0))) (hd : W.heap[d]? = some (.cells #[x1] 22 (0, 0))) (hcd : c ≠ d)
    (hq : ∀ (i : Nat) (r : Rdr), (tailRs n c d)[i]? = some r → W.cell? ⟨q, i, none⟩ = some r.val) (hqg : q < W.heap.size ∧ q ≠ c ∧ q ≠ d)
    (hp : ∀ (i : Nat) (r : Rdr), (tailRs n c d)[i]? = some r → W.cell? ⟨r.p, 0, none⟩ = some (.pointer (some r.a)) ∧ r.p < W.heap.size ∧ r.p ≠ c ∧ r.p ≠ d) :
    Calls Tryz.prog 60 #[.agg #[str tag, ve], str [85, 78, 90], .slice (some ⟨q, 0, none⟩) 2 2] W (TlAns ⟨tag, els⟩ c d W) := by
  let Inv : Nat → World → Prop := fun k w' => w'.heap[c]? = some (.cells #[if 0 < k then .int .u64 ((vl 18446744073709551615 (els.getD 0 []) : Nat) : Int) else x0] 22 (0, 0)) ∧ w'.heap[d]? = some (.cells #[if 1 < k then .int .u64 ((vl 18446744073709551615 (els.getD 1 []) : Nat) : Int) else x1] 22 (0, 0)) ∧ Frq (fun k => k = c ∨ k = d) W w' ∧ w'.cell? ⟨W.heap.size, 1, none⟩ = some ve
  have hca : c < W.heap.size := (Array.getElem?_eq_some_iff.1 hc).1
  have hda : d < W.heap.size := (Array.getElem?_eq_some_iff.1 hd).1
  have hno : ∀ b, b ≠ c ∧ b ≠ d → ¬ (b = c ∨ b = d) := fun b h e => e.elim h.1 h.2
  have h := isRead_any (tailRs n c d) tag [85, 78, 90] ve els W F q Inv (fun w' => Frq (fun k => k = c ∨ k = d) W w') (by simp [tailRs]) hen hlen hve
    (fun k w' hi => ⟨hve.kept (fun b hb => ⟨hb, hi.2.2.1.block b (hF b hb).1 (hno b (hF b hb).2)⟩), fun i r hr => (World.cell?_of_block (a := ⟨q, i, none⟩) (hi.2.2.1.block q hqg.1 (hno q hqg.2))).trans (hq i r hr), hi.2.2.2, hi.2.2.1⟩)
    ⟨(Below.heap_alloc _ _ _ hca).trans hc, (Below.heap_alloc _ _ _ hda).trans hd, (Frq.refl _ _).alloc _, by rw [World.cell?_alloc_new]; rfl⟩
    (fun k r t w' hr he hi => by
      have hpp := hp k r hr
      refine ⟨(World.cell?_of_block (a := ⟨r.p, 0, none⟩) (hi.2.2.1.block r.p hpp.2.1 (hno _ hpp.2.2))).trans hpp.1, ?_⟩
      match k, hr with
      | 0, hr =>
        obtain rfl := Option.some.inj hr
        refine ⟨⟨_, cell_of_arr hi.1 0⟩, frozen_of_arr hi.1 0, fun m hm => ⟨?_, (Below.heap_setCell w' _ _ d (Ne.symm hcd)).trans hi.2.1, (hi.2.2.1.setCell (Or.inl rfl) _).drew, ?_⟩, (hi.2.2.1.setCell (Or.inl rfl) _).drew⟩
        · rw [set_arr hi.1 0, show vl 18446744073709551615 (els.getD 0 []) = m by rw [getD_one he]; simp only [vl]; rw [show numL 18446744073709551615 t = some m from hm]; rfl]
          rfl
        · exact (cell_set_other hi.2.2.2 (Nat.ne_of_gt hca))
      | 1, hr =>
        obtain rfl := Option.some.inj hr
        refine ⟨⟨_, cell_of_arr hi.2.1 0⟩, frozen_of_arr hi.2.1 0, fun m hm => ⟨(Below.heap_setCell w' _ _ c hcd).trans hi.1, ?_, (hi.2.2.1.setCell (Or.inr rfl) _).drew, ?_⟩, (hi.2.2.1.setCell (Or.inr rfl) _).drew⟩
        · rw [set_arr hi.2.1 0, show vl 18446744073709551615 (els.getD 1 []) = m by rw [getD_one he]; simp only [vl]; rw [show numL 18446744073709551615 t = some m from hm]; rfl]
          rfl
        · exact (cell_set_other hi.2.2.2 (Nat.ne_of_gt hda))
      | k + 2, hr => cases hr)
  refine h.mono ?_
  rintro e w' ⟨ok, rfl, h1, h2, h3⟩
  cases ok with
  | true =>
    obtain ⟨g1, g2⟩ := h1 rfl
    have hh := tail_good g1
    refine ⟨true, rfl, by rw [hh]; rfl, fun x y hft => ?_, h3⟩
    rw [hh] at hft
    obtain ⟨rfl, rfl⟩ : _ = x ∧ _ = y := by simpa using hft
    exact ⟨g2.1, g2.2.1⟩
  | false =>
    have hh := tail_bad (h2 rfl)
    exact ⟨false, rfl, by rw [hh]; rfl, fun x y hft => (by rw [hh] at hft; cases hft), h3⟩
theorem allocs3 (w : World) (a b : Value) (ta tb tq : TypeId) (Q : Array Value) (W : World) (hW : W = (((w.alloc (.cells #[a] ta)).alloc (.cells #[b] tb)).alloc (.cells Q tq)).drew) :
    W.cell? ⟨w.heap.size, 0, none⟩ = some a ∧ W.cell? ⟨w.heap.size + 1, 0, none⟩ = some b ∧ (∀ i, W.cell? ⟨w.heap.size + 1 + 1, i, none⟩ = Q[i]?) ∧ W.heap.size = w.heap.size + 1 + 1 + 1 ∧ Below w.heap.size w W := by
  subst hW
  refine ⟨?_, ?_, fun i => ?_, by simp, (((Below.refl _ _).alloc (Nat.le_refl _) _).alloc (by simp) _).alloc (by simp <;> omega) _ |>.drew⟩
  · rw [World.cell?_drew, World.cell?_alloc_past _ _ _ (by simp <;> omega), World.cell?_alloc_past _ _ _ (by simp), World.cell?_alloc_at _ _ _ _ rfl]; rfl
  · rw [World.cell?_drew, World.cell?_alloc_past _ _ _ (by simp), World.cell?_alloc_at _ _ _ _ (by simp)]; rfl
  · rw [World.cell?_drew, World.cell?_alloc_at _ _ _ _ (by simp)]
set_option maxRecDepth 100000 in
set_option maxHeartbeats 1600000 in
theorem tail_any (l : List Sg) (v : Value) (w : World) (s lb c d k : Nat) (x0 x1 : Value) (F : Nat → Prop) (hs : w.cell? ⟨s, 0, none⟩ = some v) (hv : SegsF w F v l) (hF : ∀ b, F b → b < w.heap.size ∧ b ≠ c ∧ b ≠ d) (hk : k < l.length) (hfit : sane l)
    (hlb : w.cell? ⟨lb, 0, none⟩ = some (.int .i64 (k : Int))) (hc : w.heap[c]? = some (.cells #[x0] 22 (0, 0))) (hd : w.heap[d]? = some (.cells #[x1] 22 (0, 0))) (hcd : c ≠ d) :
    Calls Tryz.prog 63 #[.pointer (some ⟨s, 0, none⟩), .pointer (some ⟨lb, 0, none⟩), .pointer (some ⟨c, 0, none⟩), .pointer (some ⟨d, 0, none⟩)] w (TlAns l[k] c d w) := by
  obtain ⟨xs, ⟨pv, cap, rfl, hnc, hrow⟩, hel⟩ := hv
  obtain ⟨b, o, rfl, hFb, hcc⟩ := hrow (by omega)
  obtain ⟨hx0, ve, hx1, hve⟩ := SgC.get hel k hk
  have c0 : w.cell? ⟨b, o + k * 2, none⟩ = some (str l[k].tag) := by rw [Nat.mul_comm]; exact hcc _ _ hx0
  have c1 : w.cell? ⟨b, o + k * 2 + 1, none⟩ = some ve := by rw [Nat.mul_comm, Nat.add_assoc]; exact hcc _ _ hx1
  have hkI : (k : Int) < (l.length : Int) := by omega
  have hk0 : (0 : Int) ≤ (k : Int) := Int.natCast_nonneg _
  have hfit0 := hfit.2 _ (List.getElem_mem hk)
  have hs0 := block_lt_of_cell hs
  have hs1 : s < w.heap.size + 1 := Nat.lt_succ_of_lt hs0
  have hs2 : s < w.heap.size + 1 + 1 := Nat.lt_succ_of_lt hs1
  have hs3 : s < w.heap.size + 1 + 1 + 1 := Nat.lt_succ_of_lt hs2
  have hl0 := block_lt_of_cell hlb
  have hl1 : lb < w.heap.size + 1 := Nat.lt_succ_of_lt hl0
  have hl2 : lb < w.heap.size + 1 + 1 := Nat.lt_succ_of_lt hl1
  have hl3 : lb < w.heap.size + 1 + 1 + 1 := Nat.lt_succ_of_lt hl2
  have hb0 := (hF b hFb).1
  have hb1 : b < w.heap.size + 1 := Nat.lt_succ_of_lt hb0
  have hb2 : b < w.heap.size + 1 + 1 := Nat.lt_succ_of_lt hb1
  have hb3 : b < w.heap.size + 1 + 1 + 1 := Nat.lt_succ_of_lt hb2
  have HFit := Lib.hid hfit0
  have HVE := Lib.hid hve
  have HFF := Lib.hid hF
  have HC := Lib.hid hc
  have HD := Lib.hid hd
  have HCL := Lib.hid (Array.getElem?_eq_some_iff.1 hc).1
  have HDL := Lib.hid (Array.getElem?_eq_some_iff.1 hd).1
  have HCD := Lib.hid hcd
  clear hfit hfit0 hve hF hc hd hcd hrow hcc hel hx0 hx1
  generalize l[k] = sg at *
  go_enter Tryz.func63, Tryz.ntmps63
  go_wp2
  go_region_law (first
    | (go_simp; refine (whole_any _ _).mono ?_; rintro e w' ⟨rfl, rfl⟩)
    | (go_simp
       generalize hW : (((w.alloc (.cells #[.pointer (some ⟨c, 0, none⟩)] 139)).alloc (.cells #[.pointer (some ⟨d, 0, none⟩)] 139)).alloc _).drew = W
       have hA := allocs3 _ _ _ _ _ _ _ _ hW.symm
       have HA := Lib.hid hA
       clear hA hW
       refine (tailRead_any sg.tag sg.els ve w.heap.size (w.heap.size + 1 + 1) c d x0 x1 F W ?_ ?_ ?_ ?_ ?_ ?_ ?_ ?_ ?_ ?_).mono ?_
       · exact HVE.out.kept fun b hb => ⟨hb, HA.out.2.2.2.2.block b (HFF.out b hb).1⟩
       · exact fun b hb => ⟨by rw [HA.out.2.2.2.1]; have := (HFF.out b hb).1; omega, (HFF.out b hb).2⟩
       · have := HFit.out.1; omega
       · exact fun e he t ht => by have := (HFit.out.2 e he).2 t ht; omega
       · exact (HA.out.2.2.2.2.block c HCL.out).trans HC.out
       · exact (HA.out.2.2.2.2.block d HDL.out).trans HD.out
       · exact HCD.out
       · intro i r hr
         rw [HA.out.2.2.1 i]
         match i, hr with
         | 0, hr => obtain rfl := Option.some.inj hr; rfl
         | 1, hr => obtain rfl := Option.some.inj hr; rfl
         | i + 2, hr => cases hr
       · exact ⟨by rw [HA.out.2.2.2.1]; omega, by have := HCL.out; omega, by have := HDL.out; omega⟩
       · intro i r hr
         rw [HA.out.2.2.2.1]
         have hgl := HCL.out
         have hdl := HDL.out
         match i, hr with
         | 0, hr => obtain rfl := Option.some.inj hr; exact ⟨HA.out.1, by show w.heap.size < _; omega, by show w.heap.size ≠ c; omega, by show w.heap.size ≠ d; omega⟩
         | 1, hr => obtain rfl := Option.some.inj hr; exact ⟨HA.out.2.1, by show w.heap.size + 1 < _; omega, by show w.heap.size + 1 ≠ c; omega, by show w.heap.size + 1 ≠ d; omega⟩
         | i + 2, hr => cases hr
       rintro e w' ⟨ok, rfl, h1, h2, h3⟩
       have H1 := Lib.hid h1
       have H2 := Lib.hid h2
       have H3 := Lib.hid h3
       clear h1 h2 h3))
  all_goals
    go_wp2
    go_ret
    exact ⟨ok, rfl, H1.out, H2.out, (Frq.ofBelow HA.out.2.2.2.2).trans H3.out⟩
end Go.Proofs.YtgaoeljdlpemnaaGreatDoor
/- The three closures that only compare: how many, the count, both Refs. -/
namespace Go.Proofs.YtgaoeljdlpemnaaGreatDoor
open Go.RowKit Go.Edi Go.Wrap

set_option maxRecDepth 100000 in
theorem two_any (w : World) (s : Nat) (p : Option Addr) (n cap : Nat) (hs : w.cell? ⟨s, 0, none⟩ = some (.slice p n cap)) :
    Calls Tryz.prog 58 #[.pointer (some ⟨s, 0, none⟩)] w fun e w' => e = .returned (.bool (decide (2 ≤ n))) ∧ w' = w := by
  rw [show decide (2 ≤ n) = decide ((2 : Int) ≤ (n : Int)) by rw [decide_eq_decide]; omega]
  go_enter Tryz.func58, Tryz.ntmps58
  go_wp2
  go_ret
  exact ⟨ret_bool (by simp), rfl⟩
set_option maxRecDepth 100000 in
theorem count_any (w : World) (s c : Nat) (p : Option Addr) (n cap x : Nat) (hs : w.cell? ⟨s, 0, none⟩ = some (.slice p n cap)) (hc : w.cell? ⟨c, 0, none⟩ = some (.int .u64 (x : Int))) (hn : 2 ≤ n) (hn2 : n ≤ 1000000000000) :
    Calls Tryz.prog 64 #[.pointer (some ⟨c, 0, none⟩), .pointer (some ⟨s, 0, none⟩)] w fun e w' => e = .returned (.bool (decide (x = n - 2))) ∧ w' = w := by
  rw [show decide (x = n - 2) = decide ((x : Int) = (n : Int) - 2) by rw [decide_eq_decide]; omega]
  have h1 : (2 : Int) ≤ (n : Int) := by omega
  have h2 : (n : Int) ≤ 1000000000000 := by omega
  clear hn hn2
  go_enter Tryz.func64, Tryz.ntmps64
  go_wp2
  go_ret
  exact ⟨ret_bool (by first | rfl | simp), rfl⟩
set_option maxRecDepth 100000 in
theorem refs_any (w : World) (d g : Nat) (x y : Nat) (hd : w.cell? ⟨d, 0, none⟩ = some (.int .u64 (x : Int))) (hg : w.cell? ⟨g, 2, none⟩ = some (.int .u64 (y : Int))) :
    Calls Tryz.prog 65 #[.pointer (some ⟨d, 0, none⟩), .pointer (some ⟨g, 0, none⟩)] w fun e w' => e = .returned (.bool (decide (x = y))) ∧ w' = w := by
  rw [show decide (x = y) = decide ((x : Int) = (y : Int)) by rw [decide_eq_decide]; omega]
  go_enter Tryz.func65, Tryz.ntmps65
  go_wp2
  go_ret
  exact ⟨ret_bool (by first | rfl | simp), rfl⟩
theorem SgC.drop1 {w : World} {F : Nat → Prop} {s : Sg} {r : List Sg} {xs : List Value} (h : SgC w F (s :: r) xs) : SgC w F r (xs.drop 2) := by
  match xs, h with
  | _ :: _ :: t, h => exact h.2.2
theorem SgC.take {w : World} {F : Nat → Prop} : ∀ {sl : List Sg} {xs : List Value} (n : Nat), SgC w F sl xs → SgC w F (sl.take n) (xs.take (n * 2))
  | [], xs, n, h => by
    match xs, h with
    | [], _ => simp [SgC]
  | s :: r, a :: v :: t, 0, h => by simp [SgC]
  | s :: r, a :: v :: t, n + 1, h => by
    have e : (n + 1) * 2 = n * 2 + 1 + 1 := by omega
    rw [e]
    exact ⟨h.1, h.2.1, SgC.take n h.2.2⟩
  | _ :: _, [], _, h => h.elim
  | _ :: _, [_], _, h => h.elim
/-- what lies between the first and the last one -/
theorem segs_mid {w : World} {F : Nat → Prop} {l : List Sg} {b o cap : Nat} (h : SegsF w F (.slice (some ⟨b, o, none⟩) l.length cap) l) (hl : 2 ≤ l.length) :
    SegsF w F (.slice (some ⟨b, o + 2, none⟩) (l.length - 2) (l.length - 2)) ((l.take (l.length - 1)).drop 1) := by
  obtain ⟨xs, ⟨p, cap', he, _, hr⟩, hc⟩ := h
  simp only [Value.slice.injEq, true_and] at he
  obtain ⟨rfl, rfl⟩ := he
  obtain ⟨b', o', e1, hF, hx⟩ := hr (by omega)
  obtain ⟨rfl, rfl⟩ : b = b' ∧ o = o' := by simpa using e1
  have hlen : ((l.take (l.length - 1)).drop 1).length = l.length - 2 := by simp; omega
  refine ⟨(xs.take ((l.length - 1) * 2)).drop 2, ⟨_, _, by rw [hlen], by rw [hlen]; exact Nat.le_refl _, fun _ => ⟨b, o + 2, rfl, hF, fun j u hu => ?_⟩⟩, ?_⟩
  · rw [List.getElem?_drop, List.getElem?_take] at hu
    split at hu
    · have := hx (2 + j) u hu
      rw [show o + 2 + j = o + (2 + j) by omega]
      exact this
    · cases hu
  · have h1 := SgC.take (l.length - 1) hc
    match hh : l.take (l.length - 1), h1 with
    | [], _ => exact absurd (congrArg List.length hh) (by simp; omega)
    | s :: r, h1 => exact SgC.drop1 h1
end Go.Proofs.YtgaoeljdlpemnaaGreatDoor
namespace Go.Proofs.YtgaoeljdlpemnaaGreatDoor
open Go.RowKit Go.Edi

theorem RdV.drew {B g : Nat} {F : Nat → Prop} {s : RS} {vn vs ve vl vw : Value} {w : World} (h : RdV B g F s vn vs ve vl vw w) : RdV B g F s vn vs ve vl vw w.drew :=
  h.to ⟨Nat.le_refl _, fun _ _ _ _ => rfl⟩ h.hg h.vn rfl rfl rfl rfl
set_option maxRecDepth 100000 in
set_option maxHeartbeats 1600000 in
theorem endComp_v {B g : Nat} {F : Nat → Prop} {s : RS} {vn vs ve vl vw : Value} (w : World) (h : RdV B g F s vn vs ve vl vw w) (hBw : B ≤ w.heap.size) (hbd : s.el.length ≤ 1000) :
    Calls Tryz.prog 179 #[.pointer (some ⟨g, 0, none⟩)] w fun e w' => e = .returned (.tuple #[]) ∧ RdAt B g (endComp s) w' ∧ Below B w w' := by
  have HR := Lib.hid h.drew
  have HBL := Lib.hid hbd
  have HBw := Lib.hid hBw
  have HBd := Lib.hid (show Below B w w.drew from (Below.refl B w).drew)
  have HTW := Lib.hid (takeWord_v _ h.drew hBw)
  obtain ⟨p, cap, rfl⟩ := own_slice h.el
  have c4 : w.cell? ⟨g, 4, none⟩ = some (.slice p s.el.length cap) := (h.cell 4).trans rfl
  clear h hBw hbd
  go_enter Tryz.func179, Tryz.ntmps179
  go_wp2
  go_region_law (first
    | (go_simp
       refine (HTW.out).mono ?_
       rintro e w4 ⟨rfl, ⟨vw4, h4⟩, hb4⟩
       have c4b : w4.cell? ⟨g, 4, none⟩ = some (.slice p s.el.length cap) := (h4.cell 4).trans rfl
       have H4 := Lib.hid h4
       have HB4 := Lib.hid (HBd.out.trans hb4)
       have c4c : ∀ o, (w4.alloc o).cell? ⟨g, 4, none⟩ = some (.slice p s.el.length cap) := fun o => (World.cell?_of_block (a := ⟨g, 4, none⟩) (Below.heap_alloc _ _ _ H4.out.lt)).trans c4b
       clear h4 hb4)
    | (rw [if_pos (by rfl)]
       refine st_app1 129 9 (.string ⟨#[]⟩) 1 16 par_str Tryz.underlying129 rfl (by decide) (by decide) B (.slice p s.el.length cap) s.el.length (s.el.map str) rfl (H4.out.el.alloc _) w4.heap.size 1 [str s.wd] 9 (0, 0) rfl rfl (at_last _ _) (by intro u hu; simp at hu; subst hu; rfl) (by have := HBL.out; omega) (by have := HB4.out.size; have := HBw.out; simp; omega) ?_
       intro v' w2 ho hgr hbl
       obtain ⟨p', cap', rfl⟩ := own_slice ho
       have hng := own_not H4.out.el H4.out.hg (by decide)
       have hg2 : w2.heap[g]? = some (.cells #[vn, vs, str s.tg, ve, .slice p s.el.length cap, vw4, .bool s.wi] 131 (0, 0)) := by
         rw [hgr.block g (by have := H4.out.lt; simp; omega) hng, Below.heap_alloc _ _ _ H4.out.lt]; exact H4.out.hg
       have c4' : w2.cell? ⟨g, 4, none⟩ = some (.slice p s.el.length cap) := by simp [World.cell?, hg2]
       have f4' : w2.frozen? ⟨g, 4, none⟩ = false := by simp [World.frozen?, hg2]
       have HG2 := Lib.hid hg2
       have HO := Lib.hid ho
       have HGR := Lib.hid hgr
       have HBK := Lib.hid hbl
       clear hg2 ho hgr hbl hng))
  all_goals
    go_end0
    have h4 := H4.out
    have hc : Chg w4 w2 g (Value.slice p s.el.length cap).ownBlock := grown_alloc_owner _ HGR.out
    have hfin : RdV B g F (endComp s) vn vs ve (.slice p' (s.el.length + 1) cap') vw4 (w2.setCell ⟨g, 4, none⟩ (.slice p' (s.el.length + 1) cap')) := by
      refine h4.elem (el' := s.el ++ [s.wd]) (hc.set 4 _) ?_ ?_ (set_heap HG2.out 4 _)
      · rw [List.length_append, List.map_append]
        exact own_chg (g := g) HO.out HG2.out (by decide) ((Chg.refl w2 g none).set 4 _) (Classical.em _)
      · rcases HBK.out with e | e
        · exact Or.inl e
        · exact Or.inr ⟨_, e, by simp⟩
    exact ⟨rfl, ⟨F, _, _, _, _, _, hfin⟩, HB4.out.trans (below_chg (hc.set 4 _) h4.hB (fun k hk => (h4.el.lt k hk).1) HGR.out.os HGR.out.tape HGR.out.output (by have := HB4.out.size; have := HBw.out; omega))⟩
end Go.Proofs.YtgaoeljdlpemnaaGreatDoor
