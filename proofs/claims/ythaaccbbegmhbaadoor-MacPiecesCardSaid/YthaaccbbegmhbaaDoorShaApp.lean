/- append of bytes onto a slice of bytes of the call's own, wherever the bytes lie, as one law of the walk. -/
import Derived.Test.YthaaccbbegmhbaaDoorShaKit
import Derived.Laws.OwnMore
import Derived.Laws.CopyOwn
namespace Go.Proofs.YthaaccbbegmhbaaDoor
open Go.RowKit Go.Sha

/-- bytes that lie in memory, or none -/
def Src (w : World) (v : Value) (l : List Nat) : Prop :=
  ∃ p cap, v = .slice p l.length cap ∧ (0 < l.length → ∃ b o, p = some ⟨b, o, none⟩ ∧ ∀ j, j < l.length → w.cell? ⟨b, o + j, none⟩ = some (.int .u8 (at0 l j : Nat)))
theorem Byt.src {w : World} {g : Nat} {v : Value} {l : List Nat} (h : Byt w g v l) : Src w v l := by
  obtain ⟨p, cap, h1, _, h3⟩ := h
  refine ⟨p, cap, h1, fun h0 => ?_⟩
  obtain ⟨b, o, e1, _, _, e4⟩ := h3 h0
  exact ⟨b, o, e1, e4⟩
/-- a slice of bytes in a block of one's own -/
def Own (w : World) (base : Nat) (v : Value) (l : List Nat) : Prop := w.ownsRow base 5 1 v l.length (bl l)
theorem own_nil (w : World) (base : Nat) : Own w base (.slice none 0 0) [] := by
  have h : bl [] = [] := List.eq_nil_of_length_eq_zero (by rw [bl_len]; rfl)
  unfold Own; rw [h]; exact World.ownsRow_nil _ _ _ _
theorem bl_app (x y : List Nat) : bl x ++ bl y = bl (x ++ y) := by unfold bl bv; simp
theorem run_append_none (w : World) (base : Nat) (t ty e : TypeId) (i : TypeInfo) (size c : Nat) (ht : Tryd.prog.underlying t = some (.slice e)) (hi : Tryd.prog.info? e = some i)
    (v : Value) (n : Nat) (xs : List Value) (hown : w.ownsRow base e size v n xs) :
    (Builtin.append_ #[t, t] ty #[v, .slice none 0 c]).run Tryd.prog w = .ok v w := by
  rcases hown.2 with ⟨rfl, rfl⟩ | ⟨g, cap, cur, rfl, _, _, hnc, _⟩
  · simp [Builtin.append_, run_underlying ht, sizeOf, typeInfo, hi, Builtin.lenOf, Builtin.firstCells]
  · simp [Builtin.append_, run_underlying ht, sizeOf, typeInfo, hi, Builtin.lenOf, Builtin.firstCells, hnc, storeCells]
theorem run_app (w : World) (base : Nat) (ty : TypeId) (v u : Value) (l k : List Nat) (hown : Own w base v l) (hsrc : Src w u k) (hlen : l.length + k.length ≤ 1000000) (hbase : base ≤ w.heap.size) :
    ∃ v' w', (Builtin.append_ #[22, 22] ty #[v, u]).run Tryd.prog w = .ok v' w' ∧ Own w' base v' (l ++ k) ∧ w.grownBy w' v.ownBlock ∧ (v'.ownBlock = v.ownBlock ∨ v'.ownBlock = some w.heap.size) := by
  obtain ⟨i0, hi0, hz0, hz1, hz2⟩ := info_parts parts5p
  obtain ⟨p, cap, rfl, hp⟩ := hsrc
  have go : ∀ (ad : Addr), (∀ j u, (bl k)[j]? = some u → w.cell? (ad.add j) = some u) →
      ∃ v' w', (Builtin.append_ #[22, 22] ty #[v, .slice (some ad) k.length cap]).run Tryd.prog w = .ok v' w' ∧ Own w' base v' (l ++ k) ∧ w.grownBy w' v.ownBlock ∧ (v'.ownBlock = v.ownBlock ∨ v'.ownBlock = some w.heap.size) := by
    intro ad h
    obtain ⟨v', w', hr, h2, h3, _, h5⟩ := run_append_own_at (P := Tryd.prog) w base 22 ty 5 i0 (.int .u8 0) 1 1 Tryd.underlying22 hi0 hz0 hz1 hz2 rfl (by decide) v l.length (bl l) hown ad k.length cap (bl k) (by rw [bl_len]; omega) h (bl_one k) (by unfold maxLen; omega) (by omega) hbase
    refine ⟨v', w', hr, ?_, h3, h5⟩
    unfold Own
    rw [List.length_append, ← bl_app]
    exact h2
  by_cases h0 : 0 < k.length
  · obtain ⟨b, o, rfl, hc⟩ := hp h0
    exact go ⟨b, o, none⟩ (fun j u hu => by
      have := bl_src hc k.length j u (by rw [List.take_length]; exact hu)
      exact this)
  · obtain rfl : k = [] := List.eq_nil_of_length_eq_zero (by omega)
    cases p with
    | some ad => exact go ad (fun j u hu => by
        have := (List.getElem?_eq_some_iff.1 hu).1
        rw [bl_len] at this; exact absurd this (by simp))
    | none =>
      refine ⟨v, w, run_append_none w base 22 ty 5 i0 1 cap Tryd.underlying22 hi0 v l.length (bl l) hown, ?_, ⟨rfl, rfl, rfl, Nat.le_refl _, fun _ _ _ => rfl⟩, Or.inl rfl⟩
      rw [List.append_nil]; exact hown
theorem wl_app {ops : Array Oper} {rest : List Oper} {a : Act} {w : World} {Q : Exit → Act → World → Prop} {dst : Tmp} {s x : Operand} {typ : TypeId} {pos : String} {after : Array Edge}
    (base : Nat) (v u : Value) (l k : List Nat) (hs : a.eval s = v) (hx : a.eval x = u) (hown : Own w base v l) (hsrc : Src w u k) (hlen : l.length + k.length ≤ 1000000) (hbase : base ≤ w.heap.size)
    (h : ∀ v' w', Own w' base v' (l ++ k) → w.grownBy w' v.ownBlock → (v'.ownBlock = v.ownBlock ∨ v'.ownBlock = some w.heap.size) → wpList Tryd.prog ops Q rest (a.put (some dst) v') w') :
    wpList Tryd.prog ops Q (⟨some dst, .call { callee := .builtin .append, args := #[s, x], argTypes := #[22, 22] }, typ, pos, after, none⟩ :: rest) a w := by
  refine wpList_plain rfl fun K hK => ?_
  obtain ⟨v', w', hr, h2, h3, h5⟩ := run_app w base typ v u l k hown hsrc hlen hbase
  unfold Oper.wp execOp
  simp only [resolve, invoke, builtin, Sem.run_bind, Sem.run_pure, Result.andThen_ok, List.map_toArray, List.map_cons, List.map_nil, hs, hx, hr]
  exact hK _ _ (h v' w' h2 h3 h5)
/-- a byte that lies in the block that was made last -/
theorem src_one (w : World) (x : Nat) (t : TypeId) (c : Nat) : Src (w.alloc (.cells #[.int .u8 (x : Int)] t)) (.slice (some ⟨w.heap.size, 0, none⟩) 1 c) [x] :=
  ⟨_, c, rfl, fun _ => ⟨w.heap.size, 0, rfl, fun j hj => by
    rw [Nat.zero_add, cell_of_row _ _ j _ _ _ (heap_last _ _ _ rfl)]
    obtain rfl : j = 0 := by simp at hj; omega
    rfl⟩⟩
theorem Own.byt {w : World} {base g : Nat} {v : Value} {l : List Nat} (h : Own w base v l) (hg : g < base) : Byt w g v l := (byt_of_owns h hg).1
theorem Own.src {w : World} {base : Nat} {v : Value} {l : List Nat} (h : Own w base v l) : Src w v l := by
  obtain ⟨h1, h2⟩ := h
  rcases h2 with ⟨rfl, h0⟩ | ⟨b, cap, cur, rfl, hb, hh, hn, hm, hsz, htk⟩
  · exact ⟨none, 0, by rw [h0], fun h => by omega⟩
  · rw [Nat.mul_one] at hsz htk
    refine ⟨some ⟨b, 0, none⟩, cap, rfl, fun _ => ⟨b, 0, rfl, fun j hj => ?_⟩⟩
    rw [Nat.zero_add, cell_of_row w b j cur _ _ hh, ← bv_get l j hj, ← bl_get, ← htk, List.getElem?_take, if_pos (by omega)]
    simp
theorem Own.lt {w : World} {base : Nat} {v : Value} {l : List Nat} (h : Own w base v l) : ∀ k, v.ownBlock = some k → base ≤ k ∧ k < w.heap.size := World.ownsRow.lt h
/-- memory that is kept -/
theorem Own.kept {w w' : World} {base : Nat} {v : Value} {l : List Nat} (h : Own w base v l) (hb : Below w.heap.size w w') : Own w' base v l := by
  obtain ⟨h1, h2⟩ := h
  refine ⟨h1, h2.imp id ?_⟩
  rintro ⟨b, cap, cur, e1, e2, e3, e4⟩
  exact ⟨b, cap, cur, e1, e2, (hb.block b (Array.getElem?_eq_some_iff.1 e3).1).trans e3, e4⟩
theorem Own.apart {w w' : World} {base : Nat} {v : Value} {l : List Nat} {row : Option Nat} (h : Own w base v l) (hg : w.grownBy w' row) (hne : v.ownBlock = none ∨ v.ownBlock ≠ row) : Own w' base v l := by
  obtain ⟨h1, h2⟩ := h
  refine ⟨h1, h2.imp id ?_⟩
  rintro ⟨b, cap, cur, rfl, e2, e3, e4⟩
  refine ⟨b, cap, cur, rfl, e2, (hg.block b (Array.getElem?_eq_some_iff.1 e3).1 (fun e => ?_)).trans e3, e4⟩
  rcases hne with h | h
  · simp [Value.ownBlock] at h
  · exact h (by simp [Value.ownBlock, e])
theorem Own.byt' {w : World} {base g : Nat} {v : Value} {l : List Nat} (h : Own w base v l) (hg : v.ownBlock ≠ some g) : Byt w g v l := by
  obtain ⟨h1, h2⟩ := h
  rcases h2 with ⟨rfl, h0⟩ | ⟨b, cap, cur, rfl, hb, hh, hn, hm, hsz, htk⟩
  · exact ⟨none, 0, by rw [h0], by omega, fun h => by omega⟩
  · rw [Nat.mul_one] at hsz htk
    refine ⟨some ⟨b, 0, none⟩, cap, rfl, hn, fun _ => ⟨b, 0, rfl, fun e => hg (by simp [Value.ownBlock, e]), (Array.getElem?_eq_some_iff.1 hh).1, fun j hj => ?_⟩⟩
    rw [Nat.zero_add, cell_of_row w b j cur _ _ hh, ← bv_get l j hj, ← bl_get, ← htk, List.getElem?_take, if_pos (by omega)]
    simp
theorem grown_to_below {w w' : World} {B : Nat} {row : Option Nat} (hg : w.grownBy w' row) (hB : B ≤ w.heap.size) (hr : ∀ k, row = some k → B ≤ k) : Below B w w' :=
  ⟨hg.os, hg.tape, hg.output, hg.size, fun k hk => hg.block k (by omega) (fun e => by have := hr k e.symm; omega)⟩
/-- a walk stands still at a copy, at an append -/
theorem stp_copy {P : Program} {ops : Array Oper} {rest : List Oper} {a : Act} {w : World} {Q : Exit → Act → World → Prop} {dst : Tmp} {args : Array Operand} {ats : Array TypeId} {typ : TypeId} {pos : String} {after : Array Edge}
    (h : Stp (wpList P ops Q (⟨some dst, .call { callee := .builtin .copy, args := args, argTypes := ats }, typ, pos, after, none⟩ :: rest) a w)) : wpList P ops Q (⟨some dst, .call { callee := .builtin .copy, args := args, argTypes := ats }, typ, pos, after, none⟩ :: rest) a w := h
theorem stp_append {P : Program} {ops : Array Oper} {rest : List Oper} {a : Act} {w : World} {Q : Exit → Act → World → Prop} {dst : Tmp} {args : Array Operand} {ats : Array TypeId} {typ : TypeId} {pos : String} {after : Array Edge}
    (h : Stp (wpList P ops Q (⟨some dst, .call { callee := .builtin .append, args := args, argTypes := ats }, typ, pos, after, none⟩ :: rest) a w)) : wpList P ops Q (⟨some dst, .call { callee := .builtin .append, args := args, argTypes := ats }, typ, pos, after, none⟩ :: rest) a w := h
/-- bytes are copied into a row of noughts of one's own, from its beginning -/
theorem wl_copyN {ops : Array Oper} {rest : List Oper} {a : Act} {w : World} {Q : Exit → Act → World → Prop} {dst : Tmp} {d s : Operand} {typ : TypeId} {pos : String} {after : Array Edge}
    (g n dc : Nat) (t : TypeId) (v : Value) (k : List Nat) (hd : a.eval d = .slice (some ⟨g, 0, none⟩) n dc) (hs : a.eval s = v) (hsrc : Src w v k) (hk : k.length ≤ n)
    (hg : w.heap[g]? = some (.cells (bv (zl n)) t (0, 0))) (B : Nat) (w0 : World) (hb : Below B w0 w) (hBg : B ≤ g)
    (h : ∀ w', Hid (w'.heap[g]? = some (.cells (bv (lay (zl n) 0 k)) t (0, 0))) → Below B w0 w' → w.grownBy w' (some g) → wpList Tryd.prog ops Q rest (a.put (some dst) (goInt k.length)) w') :
    wpList Tryd.prog ops Q (⟨some dst, .call { callee := .builtin .copy, args := #[d, s], argTypes := #[22, 22] }, typ, pos, after, none⟩ :: rest) a w := by
  obtain ⟨p, cap, rfl, hp⟩ := hsrc
  have hrow : (splice (bl (zl n)) 0 (bl k)).toArray = bv (lay (zl n) 0 k) := by
    rw [← bl_arr, bl_lay]; unfold splice; rw [bl_len, List.append_assoc]
  by_cases h0 : k.length = 0
  · obtain rfl : k = [] := List.eq_nil_of_length_eq_zero h0
    refine wpList_copy_nothing rfl d s 22 22 rfl 5 Tryd.underlying22 info5 (some ⟨g, 0, none⟩) p n dc 0 cap hd hs (by simp) ?_
    refine h w (show _ = _ from ?_) hb ⟨rfl, rfl, rfl, Nat.le_refl _, fun _ _ _ => rfl⟩
    rw [hg]
    unfold lay
    simp
  · obtain ⟨b, o, rfl, hc⟩ := hp (by omega)
    refine wpList_copy_own rfl d s 22 22 rfl 5 Tryd.underlying22 info5 g 0 n dc ⟨b, o, none⟩ k.length cap hd hs (bv (zl n)) t hg (bl k) ?_ ?_ ?_ (bl_one k) ?_
    · rw [bl_len]; exact (Nat.min_eq_left hk).symm
    · intro j u hu
      exact bl_src hc k.length j u (by rw [List.take_length]; exact hu)
    · rw [bl_len, bv_size, zl_len]; omega
    · have e : ((bv (zl n)).toList.take 0 ++ (bl k ++ (bv (zl n)).toList.drop (0 + (bl k).length))).toArray = bv (lay (zl n) 0 k) := by rw [← hrow]; unfold splice bl; rfl
      rw [e, bl_len]
      refine h _ (show _ = _ from setRow_heap _ _ _ _ _ _ hg) (below_setRow' hb hBg _) (grown_setRow ⟨rfl, rfl, rfl, Nat.le_refl _, fun _ _ _ => rfl⟩ _)
end Go.Proofs.YthaaccbbegmhbaaDoor
