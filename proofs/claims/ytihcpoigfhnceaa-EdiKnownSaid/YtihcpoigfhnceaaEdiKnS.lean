/- EdiKnown's segments in memory: those that are none, and the four that it prints. -/
import Derived.Test.YtihcpoigfhnceaaEdiApF
import Derived.Test.YtihcpoigfhnceaaEdiRd
import Derived.Test.YtihcpoigfhnceaaEdiKnP
namespace Go.Proofs.Ytihcpoigfhnceaa
open Go.RowKit Go.Edi

/-- one segment of a slice -/
theorem segs_sub {w : World} {F : Nat → Prop} {b o n cap : Nat} {l : List Sg} (h : SegsF w F (.slice (some ⟨b, o, none⟩) n cap) l) (k : Nat) (hk : k < l.length) : SegsF w F (.slice (some ⟨b, o + k * 2, none⟩) 1 (cap - k)) [l[k]] := by
  obtain ⟨xs, ⟨p, cap', e, hc, hp⟩, hx⟩ := h
  simp only [Value.slice.injEq] at e
  obtain ⟨rfl, rfl, rfl⟩ := e
  obtain ⟨b', o', e, hF, hcell⟩ := hp (by omega)
  simp only [Option.some.injEq, Addr.mk.injEq, and_true] at e
  obtain ⟨rfl, rfl⟩ := e
  obtain ⟨h1, v, h2, h3⟩ := hx.get k hk
  refine ⟨[str l[k].tag, v], ⟨_, _, rfl, by simp only [List.length_cons, List.length_nil]; omega, fun _ => ⟨b, o + k * 2, rfl, hF, fun j u hu => ?_⟩⟩, rfl, h3, True.intro⟩
  match j, hu with
  | 0, hu =>
    simp only [List.getElem?_cons_zero, Option.some.injEq] at hu
    subst hu
    have := hcell _ _ h1
    rw [show o + 2 * k = o + k * 2 + 0 by omega] at this; exact this
  | 1, hu =>
    simp only [List.getElem?_cons_succ, List.getElem?_cons_zero, Option.some.injEq] at hu
    subst hu
    have := hcell _ _ h2
    rw [show o + (2 * k + 1) = o + k * 2 + 1 by omega] at this; exact this
  | j + 2, hu => simp at hu
theorem run_sizeSeg (w : World) : (sizeOf 37).run Try.prog w = .ok 2 w := by
  obtain ⟨i0, hi0, _, hz1, _⟩ := info_parts par_seg
  simp [sizeOf, typeInfo, hi0, hz1]
theorem elemSegs : Try.prog.elem 22 = 37 := by kernel_rfl
theorem undSegs : Try.prog.underlying 22 = some (.slice (Try.prog.elem 22)) := by rw [elemSegs]; exact Try.underlying22
theorem run_sliceSeg (w : World) (b o n cap k : Nat) (l h : Int) (hl : l = (k : Int)) (hh : h = (k : Int) + 1) (hk : k < cap) :
    (Instr.sliceAt 22 (.slice (some ⟨b, o, none⟩) n cap) (some (.int .i64 l)) (some (.int .i64 h)) none).run Try.prog w = .ok (.slice (some ⟨b, o + k * 2, none⟩) 1 (cap - k)) w := by
  subst hl; subst hh
  rw [run_sliceAt_slice _ _ _ _ _ _ undSegs, run_slice_lh _ _ _ _ _ undSegs _ _ _ _ (by omega) (by omega) (by omega), elemSegs, run_sizeSeg, Result.andThen_ok]
  unfold sliced
  rw [Int.toNat_natCast, show ((k : Int) + 1).toNat = k + 1 by omega, show k + 1 - k = 1 by omega, if_neg (by omega), Option.map_some, Addr.add_mid]
theorem wl_sliceSeg {ops : Array Oper} {rest : List Oper} {a : Act} {w : World} {Q : Exit → Act → World → Prop} {dst : Tmp} {x y z : Operand} {typ : TypeId} {pos : String} {after : Array Edge}
    (b o n cap k : Nat) (l h : Int) (hx : a.eval x = .slice (some ⟨b, o, none⟩) n cap) (hy : a.eval y = .int .i64 l) (hz : a.eval z = .int .i64 h) (hl : l = (k : Int)) (hh : h = (k : Int) + 1) (hk : k < cap)
    (hK : wpList Try.prog ops Q rest (a.put (some dst) (.slice (some ⟨b, o + k * 2, none⟩) 1 (cap - k))) w) : wpList Try.prog ops Q (⟨some dst, .slice 22 x (some y) (some z) none, typ, pos, after, none⟩ :: rest) a w := by
  refine wpList_plain rfl fun K hK' => ?_
  unfold Oper.wp execOp
  simp only [hx, hy, hz, Option.map_some, Option.map_none, Sem.run_bind, run_sliceSeg w b o n cap k l h hl hh hk, Result.andThen_ok, Sem.run_pure]
  exact hK' _ _ hK
def bads : List Sg := [⟨[], []⟩, ⟨[65, 66], []⟩, ⟨[97, 98, 99], []⟩, ⟨[65, 66, 67], [[]]⟩, ⟨[65, 66, 67, 68], []⟩]
theorem bads_ok : bads.all (fun s => (printL [s]).2 == 1) = true := by kernel_rfl
theorem bads_get (k : Nat) (hk : k < bads.length) : printL [bads[k]] = ([], 1) := by
  have h := bads_ok
  rw [List.all_eq_true] at h
  have h1 := h _ (List.getElem_mem hk)
  rw [beq_iff_eq] at h1
  have h2 := printL_bad [bads[k]] (by omega)
  rw [show printL [bads[k]] = ((printL [bads[k]]).1, (printL [bads[k]]).2) from rfl, h1, h2]
def badW (w : World) : World := ((w.alloc (.cells #[] 9)).alloc (.cells #[.slice (some ⟨w.heap.size, 0, none⟩) 0 0] 38)).alloc (.cells #[str [], .slice none 0 0, str [65, 66], .slice none 0 0, str [97, 98, 99], .slice none 0 0, str [65, 66, 67], .slice (some ⟨w.heap.size + 1, 0, none⟩) 1 1, str [65, 66, 67, 68], .slice none 0 0] 37)
theorem badW_size (w : World) : (badW w).heap.size = w.heap.size + 3 := by simp [badW]
theorem badW_below (w : World) : Below w.heap.size w (badW w) := (((Below.refl _ _).alloc (Nat.le_refl _) _).alloc (by simp) _).alloc (by simp; omega) _
theorem row_nil {w : World} {F : Nat → Prop} (p : Option Addr) (cap : Nat) : RowF w F (.slice p 0 cap) 0 [] := ⟨p, cap, rfl, Nat.zero_le _, fun h => absurd h (by omega)⟩
theorem els_nil {w : World} {F : Nat → Prop} (p : Option Addr) (cap : Nat) : ElsF w F (.slice p 0 cap) [] := ⟨[], row_nil p cap, True.intro⟩
theorem badW_segs (w : World) : SegsF (badW w) (· < (badW w).heap.size) (.slice (some ⟨w.heap.size + 2, 0, none⟩) 5 5) bads := by
  have hs := badW_size w
  have h1 : (badW w).heap[w.heap.size + 1]? = some (.cells #[.slice (some ⟨w.heap.size, 0, none⟩) 0 0] 38 (0, 0)) := by
    unfold badW
    rw [heap_old _ _ _ (by simp)]; simpa using at_last (w.alloc (.cells #[] 9)) (.cells #[.slice (some ⟨w.heap.size, 0, none⟩) 0 0] 38)
  have h2 : (badW w).heap[w.heap.size + 2]? = some (.cells #[str [], .slice none 0 0, str [65, 66], .slice none 0 0, str [97, 98, 99], .slice none 0 0, str [65, 66, 67], .slice (some ⟨w.heap.size + 1, 0, none⟩) 1 1, str [65, 66, 67, 68], .slice none 0 0] 37 (0, 0)) := by
    unfold badW
    simpa using at_last ((w.alloc (.cells #[] 9)).alloc (.cells #[.slice (some ⟨w.heap.size, 0, none⟩) 0 0] 38)) (.cells #[str [], .slice none 0 0, str [65, 66], .slice none 0 0, str [97, 98, 99], .slice none 0 0, str [65, 66, 67], .slice (some ⟨w.heap.size + 1, 0, none⟩) 1 1, str [65, 66, 67, 68], .slice none 0 0] 37)
  refine ⟨[str [], .slice none 0 0, str [65, 66], .slice none 0 0, str [97, 98, 99], .slice none 0 0, str [65, 66, 67], .slice (some ⟨w.heap.size + 1, 0, none⟩) 1 1, str [65, 66, 67, 68], .slice none 0 0], row_lit h2 (by show _ < _; omega) (Nat.le_refl _), rfl, els_nil _ _, rfl, els_nil _ _, rfl, els_nil _ _, rfl, ⟨[.slice (some ⟨w.heap.size, 0, none⟩) 0 0], row_lit h1 (by show _ < _; omega) (Nat.le_refl _), row_nil _ _, True.intro⟩, rfl, els_nil _ _, True.intro⟩
/-- one element's segment, and perhaps one without any behind it -/
def litW (w : World) (c1 : List Value) (s1 : List Value) : World := ((w.alloc (.cells c1.toArray 9)).alloc (.cells #[.slice (some ⟨w.heap.size, 0, none⟩) c1.length c1.length] 38)).alloc (.cells s1.toArray 37)
theorem litW_size (w : World) (c1 s1 : List Value) : (litW w c1 s1).heap.size = w.heap.size + 3 := by simp [litW]
theorem litW_below (w : World) (c1 s1 : List Value) : Below w.heap.size w (litW w c1 s1) := (((Below.refl _ _).alloc (Nat.le_refl _) _).alloc (by simp) _).alloc (by simp; omega) _
theorem litW_segs (w : World) (cs : List Tx) (n : Nat) (s1 : List Value) (l : List Sg) (hn : n = l.length)
    (h : ∀ (W : World) (F : Nat → Prop), ElsF W F (.slice (some ⟨w.heap.size + 1, 0, none⟩) 1 1) [cs] → SgC W F l s1) : SegsF (litW w (cs.map str) s1) (· < (litW w (cs.map str) s1).heap.size) (.slice (some ⟨w.heap.size + 2, 0, none⟩) n n) l := by
  have hs := litW_size w (cs.map str) s1
  have h0 : (litW w (cs.map str) s1).heap[w.heap.size]? = some (.cells (cs.map str).toArray 9 (0, 0)) := by
    unfold litW
    rw [heap_old _ _ _ (by simp; omega), heap_old _ _ _ (by simp)]; exact at_last _ _
  have h1 : (litW w (cs.map str) s1).heap[w.heap.size + 1]? = some (.cells [Value.slice (some ⟨w.heap.size, 0, none⟩) cs.length cs.length].toArray 38 (0, 0)) := by
    unfold litW
    rw [heap_old _ _ _ (by simp)]; simpa using at_last (w.alloc (.cells (cs.map str).toArray 9)) (.cells #[.slice (some ⟨w.heap.size, 0, none⟩) (cs.map str).length (cs.map str).length] 38)
  have h2 : (litW w (cs.map str) s1).heap[w.heap.size + 2]? = some (.cells s1.toArray 37 (0, 0)) := by
    unfold litW
    simpa using at_last ((w.alloc (.cells (cs.map str).toArray 9)).alloc (.cells #[.slice (some ⟨w.heap.size, 0, none⟩) (cs.map str).length (cs.map str).length] 38)) (.cells s1.toArray 37)
  subst hn
  refine ⟨s1, row_lit h2 (by show _ < _; omega) (Nat.le_refl _), h _ _ ⟨_, row_lit h1 (by show _ < _; omega) (Nat.le_refl _), ?_, True.intro⟩⟩
  exact row_lit h0 (by show _ < _; omega) (Nat.le_refl _)
end Go.Proofs.Ytihcpoigfhnceaa
