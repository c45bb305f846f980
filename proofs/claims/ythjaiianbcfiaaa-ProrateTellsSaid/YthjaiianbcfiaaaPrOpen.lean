/- What the prorate rows' cards lean on: lists of uint32 and of uint16 that came in. -/
import Derived.Test.YthjaiianbcfiaaaMoneyOpen
import Derived.Test.YthjaiianbcfiaaaPrPure2
namespace Go.Proofs.Ythjaiianbcfiaaa
open Go.ChangeShapes Go.WideShapes Go.ChangeAt Go.RowKit Go.Money Go.ChangeMaps Go.Pror

theorem cellsU32 : Try.prog.cellsOf 29 = 1 := by kernel_rfl
theorem ints_of {l : List Int} {B : Nat} (h : ∀ x ∈ l, 0 ≤ x ∧ x ≤ (B : Int)) : ∃ ws : List Nat, l = ints ws ∧ ∀ x ∈ ws, x ≤ B := by
  refine ⟨l.map Int.toNat, ?_, fun x hx => ?_⟩
  · unfold ints
    rw [List.map_map]
    have : l.map ((fun (i : Nat) => (i : Int)) ∘ Int.toNat) = l.map id := List.map_congr_left fun x hx => by have := h x hx; simp; omega
    rw [this, List.map_id]
  · obtain ⟨y, hy, rfl⟩ := List.mem_map.1 hx
    have := h y hy; omega
theorem open_u32s {H : Type} {enc : TypeId × Value → H} {W : World} {r : Reach} {b0 base : Nat} {held : Bool} {v : Value} {d : DataW H} {p : List MemPlace}
    (hv : Value.okWide Try.prog W r b0 22 v) (h : DataW.Trod enc Try.prog W base (fun _ => true) held 22 v d p) :
    ∃ (pc : Option Addr) (ws : List Nat) (cap : Nat), v = .slice pc ws.length cap ∧ ws.length ≤ cap ∧ Nums W .u32 pc (ints ws) ∧ ∀ x ∈ ws, x ≤ 4294967295 := by
  obtain ⟨pc, l, cap, rfl, c1, _, c3, c4⟩ := open_nums Try.underlying22 Try.underlying29 cellsU32 hv h
  obtain ⟨ws, rfl, hw⟩ := ints_of (B := 4294967295) (fun x hx => bounds_u32 (c4 x hx))
  rw [ints_len] at *
  exact ⟨pc, ws, cap, rfl, c1, c3, hw⟩
theorem open_u16s {H : Type} {enc : TypeId × Value → H} {W : World} {r : Reach} {b0 base : Nat} {held : Bool} {v : Value} {d : DataW H} {p : List MemPlace}
    (hv : Value.okWide Try.prog W r b0 37 v) (h : DataW.Trod enc Try.prog W base (fun _ => true) held 37 v d p) :
    ∃ (pc : Option Addr) (ws : List Nat) (cap : Nat), v = .slice pc ws.length cap ∧ ws.length ≤ cap ∧ Nums W .u16 pc (ints ws) ∧ ∀ x ∈ ws, x ≤ 65535 := by
  obtain ⟨pc, l, cap, rfl, c1, _, c3, c4⟩ := open_nums Try.underlying37 Try.underlying38 cellsU16 hv h
  obtain ⟨ws, rfl, hw⟩ := ints_of (B := 65535) (fun x hx => bounds_u16 (c4 x hx))
  rw [ints_len] at *
  exact ⟨pc, ws, cap, rfl, c1, c3, hw⟩
end Go.Proofs.Ythjaiianbcfiaaa
