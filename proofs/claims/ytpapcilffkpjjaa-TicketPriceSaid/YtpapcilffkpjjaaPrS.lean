/- Contracts of together and Share. -/
import Derived.Test.YtpapcilffkpjjaaPrB2
import Derived.Test.YtpapcilffkpjjaaPrPure2
import Derived.Deep.CutBlock
import Derived.Deep.DeepCutAuto
namespace Go.Proofs.Ytpapcilffkpjjaa
open Go.Shelf Go.RowKit Go.Lib Go.Sort Go.Stb Go.Money Go.Pror

theorem sum_bound : ∀ (ws : List Nat), (∀ x ∈ ws, x ≤ 4294967295) → ws.sum ≤ ws.length * 4294967295
  | [], _ => by simp
  | a :: l, h => by
    have h1 := h a (by simp)
    have h2 := sum_bound l (fun x hx => h x (by simp [hx]))
    simp only [List.sum_cons, List.length_cons]
    omega
theorem getD_mem {l : List Nat} {k : Nat} (h : k < l.length) : l.getD k 0 ∈ l := by
  rw [List.getD_eq_getElem?_getD, List.getElem?_eq_getElem h]; exact List.getElem_mem h
/-- the cell of a weight -/
theorem wcell {w : World} {p : Option Addr} {ws : List Nat} (h : Nums w .u32 p (ints ws)) {j : Nat} (hj : j < ws.length) : ∃ b o, p = some ⟨b, o, none⟩ ∧ b < w.heap.size ∧ w.cell? ⟨b, o + j, none⟩ = some (.int .u32 ((ws.getD j 0 : Nat) : Int)) := by
  obtain ⟨b, o, h1, h2, h3⟩ := h.cell (j := j) (by rw [ints_len]; exact hj)
  rw [ints_getD] at h3
  exact ⟨b, o, h1, h2, h3⟩
set_option maxRecDepth 100000 in
theorem together_any' (ws : List Nat) (p : Option Addr) (cap : Nat) (w : World) (hN : Nums w .u32 p (ints ws)) (h64 : ws.length ≤ 64) (hw : ∀ x ∈ ws, x ≤ 4294967295) :
    Calls Try.prog 36 #[.slice p ws.length cap] w fun e w' => e = .returned (iv ((ws.sum : Nat) : Int)) ∧ w = w' := by
  have HN := Lib.hid hN
  have HW := Lib.hid hw
  have l1 : (ws.length : Int) ≤ 64 := by omega
  have HB := Lib.hid (show ws.sum ≤ 274877906880 by have := sum_bound ws hw; omega)
  clear hN hw h64
  go_enter Try.func36, Try.ntmps36
  go_wp2
  go_loopw [3, 5, 8] (fun s _ i wr => ∃ (k x : Nat), i = .int .i64 k ∧ s = .int .i64 x ∧ k ≤ ws.length ∧ Hid (x = (ws.take k).sum) ∧ w = wr) (fun _ _ i _ => ws.length - (intOf i).toNat)
  case atStart => exact ⟨0, 0, rfl, rfl, Nat.zero_le _, by show _ = _; simp, rfl⟩
  case round =>
    obtain ⟨k, x, rfl, rfl, hk, hx, rfl⟩ := hrel
    have HX := Lib.hid hx.out
    clear hx
    by_cases hlt : (k : Int) < (ws.length : Int)
    · have hk0 : (0 : Int) ≤ (k : Int) := Int.natCast_nonneg _
      obtain ⟨b, o, rfl, hb, hcell⟩ := wcell HN.out (j := k) (by omega)
      obtain ⟨y, hy⟩ : ∃ y, y = x + ws.getD k 0 := ⟨_, rfl⟩
      have e1 := sum_take_succ ws k (by omega)
      have e2 := sum_take_le ws (k + 1)
      have e3 := HX.out
      have e4 := HB.out
      have b1 : ((ws.getD k 0 : Nat) : Int) ≤ 4294967295 := by have := HW.out _ (getD_mem (l := ws) (k := k) (by omega)); omega
      have ey : (x : Int) + ((ws.getD k 0 : Nat) : Int) = (y : Int) := by omega
      have yb : (y : Int) ≤ 274877906880 := by omega
      have y0 : (0 : Int) ≤ (y : Int) := Int.natCast_nonneg _
      have HY := Lib.hid (show y = (ws.take (k + 1)).sum by omega)
      clear e1 e2 e3 e4 hy
      generalize ws.getD k 0 = a at *
      have a0 : (0 : Int) ≤ (a : Int) := Int.natCast_nonneg _
      go_wp2
      go_roundw
      case rel => exact ⟨k + 1, y, by go_num, rfl, by omega, HY.out, trivial⟩
      case measure => simp [intOf]; omega
    · have HE := Lib.hid (show ws.take k = ws from List.take_of_length_le (by omega))
      go_wp2
      go_ret
      refine ⟨?_, rfl⟩
      rw [HX.out, HE.out]
      rfl
/-- the memory of Share's first loop -/
structure ShM (w : World) (A : Nat) (ws : List Nat) (k gs gr : Nat) (wr : World) : Prop where
  s : BlkI wr gs 2 (prt (wholes A ws.sum ws) k)
  r : BlkI wr gr 2 (prt (rests A ws.sum ws) k)
  bel : Below w.heap.size w wr
  ls : w.heap.size ≤ gs
  lr : w.heap.size ≤ gr
  ne : gs ≠ gr
theorem ShM.next {w wr : World} {A : Nat} {ws : List Nat} {k gs gr : Nat} (h : ShM w A ws k gs gr wr) {x y : Int} (hx : x = (((wholes A ws.sum ws).getD k 0 : Nat) : Int)) (hy : y = (((rests A ws.sum ws).getD k 0 : Nat) : Int)) : ShM w A ws (k + 1) gs gr ((wr.setCell ⟨gs, k, none⟩ (.int .i64 x)).setCell ⟨gr, k, none⟩ (.int .i64 y)) := by
  subst hx hy
  have hls := h.ls
  have hlr := h.lr
  refine ⟨?_, ?_, (h.bel.setCell (by simp; omega) _).setCell (by simp; omega) _, hls, hlr, h.ne⟩
  · rw [← prt_set]; exact (h.s.set k _).other _ _ h.ne
  · rw [← prt_set]; exact (h.r.other _ _ (Ne.symm h.ne)).set k _
/-- the memory of its second loop -/
structure ShN (w : World) (A : Nat) (ws : List Nat) (L : List Nat) (j gs q : Nat) (wr : World) : Prop where
  s : BlkI wr gs 2 (ints (given A ws j))
  pl : Nums wr .i64 (some ⟨q, 0, none⟩) (ints L)
  bel : Below w.heap.size w wr
  ls : w.heap.size ≤ gs
  ne : q ≠ gs
theorem cell_set_other (w : World) (a b : Addr) (v : Value) (h : a.block ≠ b.block) : (w.setCell b v).cell? a = w.cell? a := by
  simp only [World.cell?, heap_setCell_other w b a.block v h]
theorem ShN.next {w wr : World} {A : Nat} {ws L : List Nat} {j gs q : Nat} (h : ShN w A ws L j gs q wr) (hs : Srt (restI A ws) L) (hj : j < ws.length) {i : Nat} {x : Int} (hi : i = L.getD j 0) (hx : x = (((given A ws j).getD i 0 + 1 : Nat) : Int)) :
    ShN w A ws L (j + 1) gs q (wr.setCell ⟨gs, i, none⟩ (.int .i64 x)) := by
  subst hi hx
  have hls := h.ls
  refine ⟨?_, ⟨fun h0 => ?_⟩, h.bel.setCell (by simp; omega) _, hls, h.ne⟩
  · rw [← given_next A ws L hs j hj]
    have := h.s.set (L.getD j 0) (((given A ws j).getD (L.getD j 0) 0 + 1 : Nat) : Int)
    unfold ints at this ⊢
    rw [List.map_set]; exact this
  · obtain ⟨b, o, e1, e2, e3⟩ := h.pl.at_ h0
    simp only [Option.some.injEq, Addr.mk.injEq] at e1
    obtain ⟨rfl, rfl, _⟩ := e1
    refine ⟨q, 0, rfl, by simpa using e2, fun t ht => ?_⟩
    rw [cell_set_other _ _ _ _ (by show q ≠ gs; exact h.ne)]
    exact e3 t ht
def ShareP (t : Int) (ws : List Nat) (w : World) (e : Ending) (w' : World) : Prop :=
  ∃ q cap, e = .returned (.tuple #[.slice q (shareR t ws).1.length cap, iv (shareR t ws).2]) ∧ (shareR t ws).1.length ≤ cap ∧ Nums w' .i64 q (shareR t ws).1 ∧ Below w.heap.size w w'
theorem share_nil {t : Int} {ws : List Nat} {c : Int} {w w' : World} (h : shareR t ws = ([], c)) (hb : Below w.heap.size w w') : ShareP t ws w (.returned (.tuple #[.slice none 0 0, iv c])) w' := by
  unfold ShareP
  rw [h]
  exact ⟨none, 0, rfl, Nat.le_refl _, ⟨fun h => absurd h (by simp)⟩, hb⟩
end Go.Proofs.Ytpapcilffkpjjaa
