/- Blocks of values; the weights of legs; a sale with rows of its own. -/
import Derived.Test.YtpapcilffkpjjaaTkK
import Derived.Lib.LazyBuf
namespace Go.Proofs.Ytpapcilffkpjjaa
open Go.Shelf Go.RowKit Go.Lib Go.Money Go.Pror Go.Tick

/-- a block of values -/
structure Blk (w : World) (g : Nat) (ty : TypeId) (vs : List Value) : Prop where
  row : w.heap[g]? = some (.cells vs.toArray ty (0, 0))
theorem Blk.lt {w : World} {g : Nat} {ty : TypeId} {vs : List Value} (h : Blk w g ty vs) : g < w.heap.size := lt_heap h.row
theorem Blk.cell {w : World} {g : Nat} {ty : TypeId} {vs : List Value} (h : Blk w g ty vs) (j : Nat) : w.cell? ⟨g, j, none⟩ = vs[j]? := by rw [cell_arr h.row, List.getElem?_toArray]
theorem Blk.frozen {w : World} {g : Nat} {ty : TypeId} {vs : List Value} (h : Blk w g ty vs) (j : Nat) : w.frozen? ⟨g, j, none⟩ = false := frozen_of_row w g j _ ty h.row
theorem Blk.set {w : World} {g : Nat} {ty : TypeId} {vs : List Value} (h : Blk w g ty vs) (j : Nat) (v : Value) : Blk (w.setCell ⟨g, j, none⟩ v) g ty (vs.set j v) := by
  refine ⟨?_⟩
  rw [heap_setCell_same w g j _ ty _ h.row, List.setIfInBounds_toArray]
theorem Blk.other {w : World} {g : Nat} {ty : TypeId} {vs : List Value} (h : Blk w g ty vs) (a : Addr) (v : Value) (ha : g ≠ a.block) : Blk (w.setCell a v) g ty vs := ⟨by rw [heap_setCell_other w a g v ha]; exact h.row⟩
theorem Blk.keep {w w' : World} {B g : Nat} {ty : TypeId} {vs : List Value} (h : Blk w g ty vs) (hb : Below B w w') (hg : g < B) : Blk w' g ty vs := ⟨by rw [hb.block g hg]; exact h.row⟩
theorem Blk.alloc {w : World} {g : Nat} {ty : TypeId} {vs : List Value} (h : Blk w g ty vs) (o : Obj) : Blk (w.alloc o) g ty vs := ⟨(Below.heap_alloc _ _ _ h.lt).trans h.row⟩
def zU (n : Nat) : Array Value := madeCells #[.int .u32 0] n
theorem zU_eq (n : Nat) : zU n = ((List.replicate n (0 : Int)).map (Value.int .u32)).toArray := by
  unfold zU
  apply Array.toList_inj.1
  rw [toList_madeCells_one, List.map_replicate]
theorem mk_u32s (n : Nat) (hn : n ≤ 1000000) (w : World) : (Instr.makeSlice 68 (.int .i64 (n : Int)) (.int .i64 (n : Int))).run Try.prog w = .ok (.slice (some ⟨w.heap.size, 0, none⟩) n n) (w.alloc (.cells (zU n) 56)) :=
  run_make_row' 68 56 (.int .u32 0) 4 Try.underlying68 par_u32 rfl .i64 .i64 n (by omega) (by omega) w
attribute [irreducible] zU
theorem blk_zU (w : World) (n : Nat) : Blk (w.alloc (.cells (zU n) 56)) w.heap.size 56 ((List.replicate n (0 : Int)).map (Value.int .u32)) := ⟨by rw [heap_last w _ _ rfl, zU_eq]⟩
theorem Blk.nums {w : World} {g : Nat} {ty : TypeId} {k : IntKind} {l : List Int} (h : Blk w g ty (l.map (Value.int k))) : Nums w k (some ⟨g, 0, none⟩) l :=
  ⟨fun _ => ⟨g, 0, rfl, h.lt, fun j hj => by
    rw [Nat.zero_add, h.cell, List.getElem?_map, List.getElem?_eq_getElem hj, List.getD_eq_getElem?_getD, List.getElem?_eq_getElem hj]; rfl⟩⟩
set_option maxRecDepth 100000 in
set_option maxHeartbeats 1600000 in
theorem weights_any (L : List Lg) (lp : Option Addr) (lc : Nat) (w : World) (hL : Row w 3 lgC lp L) (hl : L.length ≤ 1000) :
    Calls Try.prog 29 #[.slice lp L.length lc] w fun e w' => ∃ p, e = .returned (.slice p L.length L.length) ∧ Nums w' .u32 p (ints (L.map Lg.wt)) ∧ Below w.heap.size w w' := by
  have HL := Lib.hid hL
  have hmk := mk_u32s L.length (by omega)
  have lI : (L.length : Int) ≤ 1000 := by omega
  have HZ := Lib.hid (blk_zU w L.length)
  have hl2 : (L.map Lg.wt).length = L.length := by simp
  have HL2 := Lib.hid hl2
  clear hL hl hl2
  go_enter Try.func29, Try.ntmps29
  go_wp2
  go_loopw [4, 5, 11] (fun _ _ i wr => ∃ k : Nat, i = .int .i64 k ∧ k ≤ L.length ∧ Hid (Blk wr w.heap.size 56 ((prt (L.map Lg.wt) k).map (Value.int .u32))) ∧ Hid (Below w.heap.size w wr)) (fun _ _ i _ => L.length - (intOf i).toNat)
  case atStart => exact ⟨0, rfl, Nat.zero_le _, (by rw [prt_zero, HL2.out]; exact HZ.out), (Below.refl _ _).alloc (Nat.le_refl _) _⟩
  case round =>
    obtain ⟨k, rfl, hk, hB, hb⟩ := hrel
    have HB := Lib.hid hB.out
    have HBB := Lib.hid hb.out
    clear hB hb
    by_cases hlt : (k : Int) < (L.length : Int)
    · have hkl : k < L.length := by omega
      have hk0 : (0 : Int) ≤ (k : Int) := Int.natCast_nonneg _
      obtain ⟨b, o, rfl, hbl, hcell⟩ := HL.out.at_ (by omega)
      have c0 := (HBB.out.cell (p := ⟨b, o + k * 3, none⟩) hbl).trans (hcell k hkl 0 (.int .u8 ((L[k]!).c.toNat : Int)) rfl)
      have c1 := (HBB.out.cell (p := ⟨b, o + k * 3 + 1, none⟩) hbl).trans (hcell k hkl 1 (.int .u16 ((L[k]!).f : Int)) rfl)
      have c2 := (HBB.out.cell (p := ⟨b, o + k * 3 + 2, none⟩) hbl).trans (hcell k hkl 2 (.int .u32 ((L[k]!).wt : Int)) rfl)
      have cw : wr.cell? ⟨w.heap.size, k, none⟩ = some (.int .u32 ((prt (L.map Lg.wt) k).getD k 0)) := by
        rw [HB.out.cell, List.getElem?_map, List.getD_eq_getElem?_getD, List.getElem?_eq_getElem (by rw [prt_len, HL2.out]; exact hkl)]; rfl
      have fw := HB.out.frozen k
      have hwl : w.heap.size < wr.heap.size := HB.out.lt
      have HG := Lib.hid (show (L.map Lg.wt).getD k 0 = (L[k]!).wt by
        rw [List.getD_eq_getElem?_getD, List.getElem?_map, List.getElem?_eq_getElem hkl, getElem!_pos L k hkl]; rfl)
      clear hcell
      generalize L[k]! = x at *
      generalize (prt (L.map Lg.wt) k).getD k 0 = old at *
      go_wp2
      go_roundw
      case rel =>
        refine ⟨k + 1, by go_num, by omega, ?_, ?_⟩
        · have := HB.out.set k (.int .u32 (x.wt : Int))
          rw [← HG.out, ← List.map_set, prt_set] at this
          rw [HG.out] at this
          exact this.alloc _
        · exact (HBB.out.setCell (p := ⟨w.heap.size, k, none⟩) (Nat.le_refl _) _).alloc (by have := HBB.out.size; simpa using this) _
      case measure => simp [intOf]; omega
    · obtain rfl : k = L.length := by omega
      go_wp2
      go_ret
      have h := HB.out
      rw [← HL2.out, prt_all] at h
      exact ⟨_, rfl, h.nums, HBB.out⟩
theorem flat_at {α : Type} [Inhabited α] {enc : α → List Value} {k : Nat} (hk : ∀ x, (enc x).length = k) : ∀ (L : List α) (j : Nat) (u : Value), (L.flatMap enc)[j]? = some u → ∃ i r, i < L.length ∧ j = i * k + r ∧ (enc L[i]!)[r]? = some u
  | [], j, u, h => by simp at h
  | a :: L, j, u, h => by
    rw [List.flatMap_cons] at h
    by_cases hj : j < k
    · rw [List.getElem?_append_left (by rw [hk]; exact hj)] at h
      exact ⟨0, j, by simp, by omega, by simpa using h⟩
    · rw [List.getElem?_append_right (by rw [hk]; omega), hk] at h
      obtain ⟨i, r, h1, h2, h3⟩ := flat_at hk L (j - k) u h
      refine ⟨i + 1, r, by simpa using h1, ?_, by simpa using h3⟩
      rw [Nat.add_mul]; omega
theorem flat_get {α : Type} [Inhabited α] {enc : α → List Value} {k : Nat} (hk : ∀ x, (enc x).length = k) : ∀ (L : List α) (i r : Nat) (u : Value), i < L.length → (enc L[i]!)[r]? = some u → (L.flatMap enc)[i * k + r]? = some u
  | [], i, r, u, h, _ => by simp at h
  | a :: L, 0, r, u, _, h => by
    rw [List.flatMap_cons]
    have hr : r < (enc a).length := (List.getElem?_eq_some_iff.1 (by simpa using h)).1
    rw [List.getElem?_append_left (by omega)]
    simpa using h
  | a :: L, i + 1, r, u, hi, h => by
    rw [List.flatMap_cons, List.getElem?_append_right (by rw [hk, Nat.add_mul]; omega), hk]
    have := flat_get hk L i r u (by simpa using hi) (by simpa using h)
    rw [show (i + 1) * k + r - k = i * k + r by rw [Nat.add_mul]; omega]
    exact this
theorem flat_len {α : Type} {enc : α → List Value} {k : Nat} (hk : ∀ x, (enc x).length = k) (L : List α) : (L.flatMap enc).length = L.length * k := by
  induction L with
  | nil => simp
  | cons a L ih => rw [List.flatMap_cons, List.length_append, hk, ih, List.length_cons, Nat.add_mul]; omega
theorem flat_row {α : Type} [Inhabited α] {enc : α → List Value} {k : Nat} (hk : ∀ x, (enc x).length = k) {w : World} {p : Option Addr} {L : List α} {cap : Nat} (h : Row w k enc p L) (hc : L.length ≤ cap) : RowF w (· < w.heap.size) (.slice p L.length cap) L.length (L.flatMap enc) := by
  refine ⟨p, cap, rfl, hc, fun h0 => ?_⟩
  obtain ⟨b, o, h1, h2, h3⟩ := h.at_ h0
  refine ⟨b, o, h1, h2, fun j u hu => ?_⟩
  obtain ⟨i, r, hi, rfl, hr⟩ := flat_at hk L j u hu
  rw [← Nat.add_assoc]
  exact h3 i hi r u hr
/-- a row of things in a block from base on -/
structure RowA {α : Type} [Inhabited α] (w : World) (base : Nat) (k : Nat) (enc : α → List Value) (p : Option Addr) (l : List α) : Prop where
  at_ : 0 < l.length → ∃ b o, p = some ⟨b, o, none⟩ ∧ base ≤ b ∧ b < w.heap.size ∧ ∀ j, j < l.length → ∀ i v, (enc l[j]!)[i]? = some v → w.cell? ⟨b, o + j * k + i, none⟩ = some v
theorem RowA.row {α : Type} [Inhabited α] {w : World} {base k : Nat} {enc : α → List Value} {p : Option Addr} {l : List α} (h : RowA w base k enc p l) : Row w k enc p l :=
  ⟨fun h0 => by obtain ⟨b, o, h1, _, h2, h3⟩ := h.at_ h0; exact ⟨b, o, h1, h2, h3⟩⟩
theorem RowA.mono {α : Type} [Inhabited α] {w : World} {base base' k : Nat} {enc : α → List Value} {p : Option Addr} {l : List α} (h : RowA w base k enc p l) (hb : base' ≤ base) : RowA w base' k enc p l :=
  ⟨fun h0 => by obtain ⟨b, o, h1, h4, h2, h3⟩ := h.at_ h0; exact ⟨b, o, h1, Nat.le_trans hb h4, h2, h3⟩⟩
theorem RowA.keepA {α : Type} [Inhabited α] {w w' : World} {base k : Nat} {enc : α → List Value} {p : Option Addr} {l : List α} (h : RowA w base k enc p l) (hs : w.heap.size ≤ w'.heap.size) (hk : ∀ b, base ≤ b → b < w.heap.size → w'.heap[b]? = w.heap[b]?) : RowA w' base k enc p l :=
  ⟨fun h0 => by
    obtain ⟨b, o, h1, h4, h2, h3⟩ := h.at_ h0
    exact ⟨b, o, h1, h4, Nat.lt_of_lt_of_le h2 hs, fun j hj i v hv => (World.cell?_of_block (a := ⟨b, o + j * k + i, none⟩) (hk b h4 h2)).trans (h3 j hj i v hv)⟩⟩
theorem RowA.keep {α : Type} [Inhabited α] {w w' : World} {base k : Nat} {enc : α → List Value} {p : Option Addr} {l : List α} (h : RowA w base k enc p l) (hb : Below w.heap.size w w') : RowA w' base k enc p l := h.keepA hb.size fun b _ h2 => hb.block b h2
theorem row_of_own {α : Type} [Inhabited α] {enc : α → List Value} {k : Nat} (hk : ∀ x, (enc x).length = k) {w : World} {base : Nat} {e : TypeId} {v : Value} {L : List α} {n : Nat} (hn : L.length = n) (h : w.ownsRow base e k v n (L.flatMap enc)) : ∃ p cap, v = .slice p n cap ∧ n ≤ cap ∧ RowA w base k enc p L := by
  subst hn
  have h' := h
  rcases h.2 with ⟨rfl, h0⟩ | ⟨g, cap, cur, rfl, hb, hg, hnc, _⟩
  · exact ⟨none, 0, by rw [h0], by omega, ⟨fun h1 => absurd h1 (by omega)⟩⟩
  · refine ⟨_, cap, rfl, hnc, ⟨fun h1 => ⟨g, 0, rfl, hb, lt_heap hg, fun j hj i v hv => ?_⟩⟩⟩
    have hf := flat_get hk L j i v hj hv
    have hlt := (List.getElem?_eq_some_iff.1 hf).1
    rw [flat_len hk] at hlt
    rw [Nat.zero_add, h'.cellAt _ hlt, hf]
theorem one_lg (L : List Lg) : ∀ u ∈ L.flatMap lgC, u.oneCell' = true := by
  intro u hu
  obtain ⟨x, _, hx⟩ := List.mem_flatMap.1 hu
  simp only [lgC, List.mem_cons, List.not_mem_nil, or_false] at hx
  rcases hx with rfl | rfl | rfl <;> rfl
theorem one_tx (L : List Tax) : ∀ u ∈ L.flatMap txC, u.oneCell' = true := by
  intro u hu
  obtain ⟨x, _, hx⟩ := List.mem_flatMap.1 hu
  simp only [txC, List.mem_cons, List.not_mem_nil, or_false] at hx
  rcases hx with rfl | rfl <;> rfl
theorem par_leg : (Try.prog.info? 58).map (fun i => (i.zero, i.size, i.bytes)) = some (some (.agg #[.int .u8 0, .int .u16 0, .int .u32 0]), 3, 8) := by kernel_rfl
theorem par_tax : (Try.prog.info? 48).map (fun i => (i.zero, i.size, i.bytes)) = some (some (.agg #[.string ⟨#[]⟩, .int .i64 0]), 2, 24) := by kernel_rfl
theorem clleg_any (L : List Lg) (p : Option Addr) (cap : Nat) (w : World) (hR : Row w 3 lgC p L) (hc : L.length ≤ cap) (hl : L.length ≤ 1000000) :
    Calls Try.prog 39 #[.slice p L.length cap] w fun e w' => ∃ p' cap', e = .returned (.slice p' L.length cap') ∧ L.length ≤ cap' ∧ RowA w' w.heap.size 3 lgC p' L ∧ Below w.heap.size w w' := by
  have q22 : ∀ (w : World) (a : Option Addr) (n c : Nat), (binOp .eql 25 (.slice a n c) (.slice none 0 0)).run Try.prog w = .ok (.bool a.isNone) w := fun w a n c => Lib.run_eql_slice_nil w 25 58 a n c 0 0 Try.underlying25
  cases p with
  | none =>
    have h0 : L.length = 0 := by
      rcases Nat.eq_zero_or_pos L.length with h | h
      · exact h
      · obtain ⟨b, o, h1, _⟩ := hR.at_ h; cases h1
    have hL : L = [] := List.eq_nil_of_length_eq_zero h0
    subst hL
    clear hR hc hl h0
    go_enter Try.func39, Try.ntmps39
    go_wp2
    go_ret
    exact ⟨none, 0, rfl, Nat.le_refl _, ⟨fun h => absurd h (by simp)⟩, Below.refl _ _⟩
  | some a =>
    have hb : Below w.heap.size w (w.alloc (.cells #[] 58)) := (Below.refl _ _).alloc (Nat.le_refl _) _
    have HF := Lib.hid (flat_row (enc := lgC) (k := 3) (fun _ => rfl) (hR.keep hb) hc)
    have HO := Lib.hid (World.ownsRow_made (base := w.heap.size) (e := 58) (size := 3) w #[] 0 (Nat.le_refl _) (Nat.zero_le _) (by simp))
    have HB := Lib.hid hb
    have HLEN := Lib.hid (flat_len (enc := lgC) (k := 3) (fun _ => rfl) L)
    have HL := Lib.hid hl
    clear hR hc hb hl
    go_enter Try.func39, Try.ntmps39
    go_wp2_with (at_builtin; refine wl_appF 25 58 (.agg #[.int .u8 0, .int .u16 0, .int .u32 0]) 3 8 par_leg Try.underlying25 rfl (by decide) (by decide) w.heap.size _ 0 [] rfl HO.out _ _ L.length (L.flatMap lgC) rfl HF.out HLEN.out (one_lg L) (by have := HL.out; omega) (by simp) ?_)
    intro v2 w2 ho hgr hbk
    have HO2 := Lib.hid ho
    have HB2 := Lib.hid (HB.out.grown hgr (by simp) (fun k hk => (HO.out.lt k hk).1))
    clear ho hgr hbk
    go_wp2
    go_ret
    have h := HO2.out
    rw [Nat.zero_add, List.nil_append] at h
    obtain ⟨p', cap', rfl, h1, h2⟩ := row_of_own (enc := lgC) (k := 3) (fun _ => rfl) rfl h
    exact ⟨p', cap', rfl, h1, h2, HB2.out⟩
theorem cltax_any (L : List Tax) (p : Option Addr) (cap : Nat) (w : World) (hR : Row w 2 txC p L) (hc : L.length ≤ cap) (hl : L.length ≤ 1000000) :
    Calls Try.prog 40 #[.slice p L.length cap] w fun e w' => ∃ p' cap', e = .returned (.slice p' L.length cap') ∧ L.length ≤ cap' ∧ RowA w' w.heap.size 2 txC p' L ∧ Below w.heap.size w w' := by
  have q22 : ∀ (w : World) (a : Option Addr) (n c : Nat), (binOp .eql 26 (.slice a n c) (.slice none 0 0)).run Try.prog w = .ok (.bool a.isNone) w := fun w a n c => Lib.run_eql_slice_nil w 26 48 a n c 0 0 Try.underlying26
  cases p with
  | none =>
    have h0 : L.length = 0 := by
      rcases Nat.eq_zero_or_pos L.length with h | h
      · exact h
      · obtain ⟨b, o, h1, _⟩ := hR.at_ h; cases h1
    have hL : L = [] := List.eq_nil_of_length_eq_zero h0
    subst hL
    clear hR hc hl h0
    go_enter Try.func40, Try.ntmps40
    go_wp2
    go_ret
    exact ⟨none, 0, rfl, Nat.le_refl _, ⟨fun h => absurd h (by simp)⟩, Below.refl _ _⟩
  | some a =>
    have hb : Below w.heap.size w (w.alloc (.cells #[] 48)) := (Below.refl _ _).alloc (Nat.le_refl _) _
    have HF := Lib.hid (flat_row (enc := txC) (k := 2) (fun _ => rfl) (hR.keep hb) hc)
    have HO := Lib.hid (World.ownsRow_made (base := w.heap.size) (e := 48) (size := 2) w #[] 0 (Nat.le_refl _) (Nat.zero_le _) (by simp))
    have HB := Lib.hid hb
    have HLEN := Lib.hid (flat_len (enc := txC) (k := 2) (fun _ => rfl) L)
    have HL := Lib.hid hl
    clear hR hc hb hl
    go_enter Try.func40, Try.ntmps40
    go_wp2_with (at_builtin; refine wl_appF 26 48 (.agg #[.string ⟨#[]⟩, .int .i64 0]) 2 24 par_tax Try.underlying26 rfl (by decide) (by decide) w.heap.size _ 0 [] rfl HO.out _ _ L.length (L.flatMap txC) rfl HF.out HLEN.out (one_tx L) (by have := HL.out; omega) (by simp) ?_)
    intro v2 w2 ho hgr hbk
    have HO2 := Lib.hid ho
    have HB2 := Lib.hid (HB.out.grown hgr (by simp) (fun k hk => (HO.out.lt k hk).1))
    clear ho hgr hbk
    go_wp2
    go_ret
    have h := HO2.out
    rw [Nat.zero_add, List.nil_append] at h
    obtain ⟨p', cap', rfl, h1, h2⟩ := row_of_own (enc := txC) (k := 2) (fun _ => rfl) rfl h
    exact ⟨p', cap', rfl, h1, h2, HB2.out⟩
end Go.Proofs.Ytpapcilffkpjjaa
