/- The plain model of mac: the block of a key, its bytes xored, the mac. -/
import Derived.Test.YtgaoeljdlpemnaaGreatDoorShaLaws3
import Derived.Maps.AppendAt
import Derived.Deep.RegionHeld
import Derived.Laws.OwnMore
import Derived.Laws.CopyOwn
import Derived.Test.YtgaoeljdlpemnaaGreatDoorShaW6
/- What walks of laws over sha lean on: a walk stopped by hand, slices of one's own, regions that draw their order. -/
namespace Go.Proofs.YtgaoeljdlpemnaaGreatDoor.Hs
open Go.RowKit Go.Sha

/-- where a walk is to stand still -/
def Stp (p : Prop) : Prop := p
theorem stp {p : Prop} (h : Stp p) : p := h
/-- a slice of ints in memory -/
def Ints (w : World) (p : Option Addr) (cs : List Int) : Prop := 0 < cs.length → ∃ b o, p = some ⟨b, o, none⟩ ∧ b < w.heap.size ∧ ∀ j, j < cs.length → w.cell? ⟨b, o + j, none⟩ = some (.int .i64 (cs.getD j 0))
theorem byt_of_owns {w : World} {base n g : Nat} {v : Value} {x : List Nat} (h : w.ownsRow base 5 1 v n (bl x)) (hg : g < base) : Byt w g v x ∧ x.length = n ∧
    ∃ p cap, v = .slice p n cap ∧ (0 < n → ∃ b, p = some ⟨b, 0, none⟩ ∧ base ≤ b ∧ ∃ cur : Array Value, w.heap[b]? = some (.cells cur 5 (0, 0)) ∧ n ≤ cur.size) := by
  obtain ⟨h1, h2⟩ := h
  rw [bl_len, Nat.mul_one] at h1
  rcases h2 with ⟨rfl, rfl⟩ | ⟨b, cap, cur, rfl, hb, hh, hn, hm, hsz, htk⟩
  · exact ⟨⟨none, 0, by rw [h1], by omega, fun h => by omega⟩, h1, none, 0, rfl, fun h => by omega⟩
  · rw [Nat.mul_one] at hsz htk
    refine ⟨⟨some ⟨b, 0, none⟩, cap, by rw [h1], by omega, fun _ => ⟨b, 0, rfl, by omega, (Array.getElem?_eq_some_iff.1 hh).1, fun j hj => ?_⟩⟩, h1, some ⟨b, 0, none⟩, cap, rfl, fun _ => ⟨b, rfl, hb, cur, hh, by omega⟩⟩
    rw [Nat.zero_add, cell_of_row w b j cur _ _ hh, ← bv_get x j hj, ← bl_get, ← htk]
    rw [List.getElem?_take, if_pos (by omega)]
    simp
theorem parts5p : (Tryz.prog.info? 5).map (fun i => (i.zero, i.size, i.bytes)) = some (some (.int .u8 0), 1, 1) := by kernel_rfl
/-- the number of bytes of a piece -/
theorem tmod_abs (c : Int) (L k : Nat) (hk : k ≤ L) : ∃ n : Nat, n ≤ L - k ∧ (c.tmod ((L : Int) - (k : Int) + 1) = (n : Int) ∨ (c.tmod ((L : Int) - (k : Int) + 1) = -(n : Int) ∧ 0 < n)) := by
  refine ⟨(c.tmod ((L : Int) - (k : Int) + 1)).natAbs, ?_, ?_⟩
  · rw [Int.natAbs_tmod]
    have : ((L : Int) - (k : Int) + 1).natAbs = L - k + 1 := by omega
    rw [this]
    have := Nat.mod_lt c.natAbs (show 0 < L - k + 1 by omega)
    omega
  · omega
/-- what the drawn regions of ShaPieces lean on -/
def TP (w : World) (g : Nat) (s : HS) (w' : World) : Prop := w'.heap[g]? = some (.cells s.cells 123 (0, 0)) ∧ Below w.heap.size w w' ∧ Gl w'
theorem TP_below {w w1 w2 : World} {g : Nat} {s : HS} (h : TP w g s w1) (hb : Below w1.heap.size w1 w2) : TP w g s w2 :=
  ⟨(hb.block _ (Array.getElem?_eq_some_iff.1 h.1).1).trans h.1, h.2.1.trans (hb.mono h.2.1.size), h.2.2.below h.2.2.size hb⟩
theorem yi_neq_same {P : Program} {ops : Array Oper} {S : World → Prop} {o : Oper} {a : Act} (hw : Region.wanted o (yielded ops a.tmps) = true) (ty ty2 : TypeId) (x y : Operand) (ho : o.op = .binOp .neq ty x y ty2)
    (e : TypeId) (n : Nat) (l : List Nat) (hu : P.underlying ty = some (.array n e)) (he : P.underlying e = some (.int .u8)) (hc : P.cellsOf e = 1) (hm : P.eqGuardType P.depth ty = false)
    (hx : a.eval x = .agg (bv l)) (hy : a.eval y = .agg (bv l)) (hl : l.length = n) : YieldsIf P ops S o (.bool false) a :=
  .inl ⟨hw, fun w _ => by
    unfold execOp
    simp only [ho, hx, hy, Sem.run_bind, run_eqGuard_agg w .neq ty x y (bv l) (bv l) hm, Result.andThen_ok, run_neq_bytes w hu he hc l l hl hl, Sem.run_pure, decide_true, Bool.not_true]⟩
def TQ (w : World) (g : Nat) (s : HS) (x : Nat) (D : List Nat) (w' : World) : Prop := w'.heap[x]? = some (.cells (bv D) 62 (0, 0)) ∧ TP w g s w'
theorem TQ_below {w w1 w2 : World} {g x : Nat} {s : HS} {D : List Nat} (h : TQ w g s x D w1) (hb : Below w1.heap.size w1 w2) : TQ w g s x D w2 :=
  ⟨(hb.block _ (Array.getElem?_eq_some_iff.1 h.1).1).trans h.1, TP_below h.2 hb⟩
theorem yi_row' {P : Program} {ops : Array Oper} {S : World → Prop} {o : Oper} {a : Act} (hw : Region.wanted o (yielded ops a.tmps) = true) (ty : TypeId) (x : Operand) (ho : o.op = .load ty x)
    (g : Nat) (A : Array Value) (n : Nat) (el : TypeId) (hu : P.underlying ty = some (.array n el)) (hi : (P.info? ty).map (·.size) = some A.size) (hx : a.eval x = .pointer (some ⟨g, 0, none⟩))
    (hS : ∀ w, S w → ∃ t fr, w.heap[g]? = some (.cells A t fr)) : YieldsIf P ops S o (.agg A) a :=
  .inl ⟨hw, fun w h => by
    obtain ⟨t, fr, hg⟩ := hS w h
    unfold execOp
    simp only [ho, hx, Instr.loadAt, Instr.sureAddr, Sem.run_bind, Sem.run_pure, Result.andThen_ok, run_loadVar_row w g t ty A fr _ hg hu rfl hi]⟩
theorem yi_eql_same {P : Program} {ops : Array Oper} {S : World → Prop} {o : Oper} {a : Act} (hw : Region.wanted o (yielded ops a.tmps) = true) (ty ty2 : TypeId) (x y : Operand) (ho : o.op = .binOp .eql ty x y ty2)
    (e : TypeId) (n : Nat) (l : List Nat) (hu : P.underlying ty = some (.array n e)) (he : P.underlying e = some (.int .u8)) (hc : P.cellsOf e = 1) (hm : P.eqGuardType P.depth ty = false)
    (hx : a.eval x = .agg (bv l)) (hy : a.eval y = .agg (bv l)) (hl : l.length = n) : YieldsIf P ops S o (.bool true) a :=
  .inl ⟨hw, fun w _ => by
    unfold execOp
    simp only [ho, hx, hy, Sem.run_bind, run_eqGuard_agg w .eql ty x y (bv l) (bv l) hm, Result.andThen_ok, run_eql_bytes w hu he hc l l hl hl, Sem.run_pure, decide_true]⟩
end Go.Proofs.YtgaoeljdlpemnaaGreatDoor.Hs
/- append of bytes onto a slice of bytes of the call's own, wherever the bytes lie, as one law of the walk. -/
namespace Go.Proofs.YtgaoeljdlpemnaaGreatDoor.Hs
open Go.RowKit Go.Sha

/-- bytes that lie in memory, or none -/
def Src (w : World) (v : Value) (l : List Nat) : Prop :=
  ∃ p cap, v = .slice p l.length cap ∧ (0 < l.length → ∃ b o, p = some ⟨b, o, none⟩ ∧ ∀ j, j < l.length → w.cell? ⟨b, o + j, none⟩ = some (.int .u8 (at0 l j : Nat)))
theorem Byt.src {w : World} {g : Nat} {v : Value} {l : List Nat} (h : Byt w g v l) : Src w v l := by
  obtain ⟨p, cap, h1, _, h3⟩ := h
  refine ⟨p, cap, h1, fun h0 => ?_⟩
  obtain ⟨b, o, e1, _, _, e4⟩ := h3 h0
  exact ⟨b, o, e1, e4⟩
/-- a slice of bytes in a block of one's own -/
def Own (w : World) (base : Nat) (v : Value) (l : List Nat) : Prop := w.ownsRow base 5 1 v l.length (bl l)
theorem own_nil (w : World) (base : Nat) : Own w base (.slice none 0 0) [] := by
  have h : bl [] = [] := List.eq_nil_of_length_eq_zero (by rw [bl_len]; rfl)
  unfold Own; rw [h]; exact World.ownsRow_nil _ _ _ _
theorem bl_app (x y : List Nat) : bl x ++ bl y = bl (x ++ y) := by unfold bl bv; simp
theorem run_append_none (w : World) (base : Nat) (t ty e : TypeId) (i : TypeInfo) (size c : Nat) (ht : Tryz.prog.underlying t = some (.slice e)) (hi : Tryz.prog.info? e = some i)
    (v : Value) (n : Nat) (xs : List Value) (hown : w.ownsRow base e size v n xs) :
    (Builtin.append_ #[t, t] ty #[v, .slice none 0 c]).run Tryz.prog w = .ok v w := by
  rcases hown.2 with ⟨rfl, rfl⟩ | ⟨g, cap, cur, rfl, _, _, hnc, _⟩
  · simp [Builtin.append_, run_underlying ht, sizeOf, typeInfo, hi, Builtin.lenOf, Builtin.firstCells]
  · simp [Builtin.append_, run_underlying ht, sizeOf, typeInfo, hi, Builtin.lenOf, Builtin.firstCells, hnc, storeCells]
theorem run_app (w : World) (base : Nat) (ty : TypeId) (v u : Value) (l k : List Nat) (hown : Own w base v l) (hsrc : Src w u k) (hlen : l.length + k.length ≤ 1000000) (hbase : base ≤ w.heap.size) :
    ∃ v' w', (Builtin.append_ #[39, 39] ty #[v, u]).run Tryz.prog w = .ok v' w' ∧ Own w' base v' (l ++ k) ∧ w.grownBy w' v.ownBlock ∧ (v'.ownBlock = v.ownBlock ∨ v'.ownBlock = some w.heap.size) := by
  obtain ⟨i0, hi0, hz0, hz1, hz2⟩ := info_parts parts5p
  obtain ⟨p, cap, rfl, hp⟩ := hsrc
  have go : ∀ (ad : Addr), (∀ j u, (bl k)[j]? = some u → w.cell? (ad.add j) = some u) →
      ∃ v' w', (Builtin.append_ #[39, 39] ty #[v, .slice (some ad) k.length cap]).run Tryz.prog w = .ok v' w' ∧ Own w' base v' (l ++ k) ∧ w.grownBy w' v.ownBlock ∧ (v'.ownBlock = v.ownBlock ∨ v'.ownBlock = some w.heap.size) := by
    intro ad h
    obtain ⟨v', w', hr, h2, h3, _, h5⟩ := run_append_own_at (P := Tryz.prog) w base 39 ty 5 i0 (.int .u8 0) 1 1 Tryz.underlying39 hi0 hz0 hz1 hz2 rfl (by decide) v l.length (bl l) hown ad k.length cap (bl k) (by rw [bl_len]; omega) h (bl_one k) (by unfold maxLen; omega) (by omega) hbase
    refine ⟨v', w', hr, ?_, h3, h5⟩
    unfold Own
    rw [List.length_append, ← bl_app]
    exact h2
  by_cases h0 : 0 < k.length
  · obtain ⟨b, o, rfl, hc⟩ := hp h0
    exact go ⟨b, o, none⟩ (fun j u hu => by
      have := bl_src hc k.length j u (by rw [List.take_length]; exact hu)
      exact this)
  · obtain rfl : k = [] := List.eq_nil_of_length_eq_zero (by omega)
    cases p with
    | some ad => exact go ad (fun j u hu => by
        have := (List.getElem?_eq_some_iff.1 hu).1
        rw [bl_len] at this; exact absurd this (by simp))
    | none =>
      refine ⟨v, w, run_append_none w base 39 ty 5 i0 1 cap Tryz.underlying39 hi0 v l.length (bl l) hown, ?_, ⟨rfl, rfl, rfl, Nat.le_refl _, fun _ _ _ => rfl⟩, Or.inl rfl⟩
      rw [List.append_nil]; exact hown
theorem wl_app {ops : Array Oper} {rest : List Oper} {a : Act} {w : World} {Q : Exit → Act → World → Prop} {dst : Tmp} {s x : Operand} {typ : TypeId} {pos : String} {after : Array Edge}
    (base : Nat) (v u : Value) (l k : List Nat) (hs : a.eval s = v) (hx : a.eval x = u) (hown : Own w base v l) (hsrc : Src w u k) (hlen : l.length + k.length ≤ 1000000) (hbase : base ≤ w.heap.size)
    (h : ∀ v' w', Own w' base v' (l ++ k) → w.grownBy w' v.ownBlock → (v'.ownBlock = v.ownBlock ∨ v'.ownBlock = some w.heap.size) → wpList Tryz.prog ops Q rest (a.put (some dst) v') w') :
    wpList Tryz.prog ops Q (⟨some dst, .call { callee := .builtin .append, args := #[s, x], argTypes := #[39, 39] }, typ, pos, after, none⟩ :: rest) a w := by
  refine wpList_plain rfl fun K hK => ?_
  obtain ⟨v', w', hr, h2, h3, h5⟩ := run_app w base typ v u l k hown hsrc hlen hbase
  unfold Oper.wp execOp
  simp only [resolve, invoke, builtin, Sem.run_bind, Sem.run_pure, Result.andThen_ok, List.map_toArray, List.map_cons, List.map_nil, hs, hx, hr]
  exact hK _ _ (h v' w' h2 h3 h5)
/-- a byte that lies in the block that was made last -/
theorem src_one (w : World) (x : Nat) (t : TypeId) (c : Nat) : Src (w.alloc (.cells #[.int .u8 (x : Int)] t)) (.slice (some ⟨w.heap.size, 0, none⟩) 1 c) [x] :=
  ⟨_, c, rfl, fun _ => ⟨w.heap.size, 0, rfl, fun j hj => by
    rw [Nat.zero_add, cell_of_row _ _ j _ _ _ (heap_last _ _ _ rfl)]
    obtain rfl : j = 0 := by simp at hj; omega
    rfl⟩⟩
theorem Own.byt {w : World} {base g : Nat} {v : Value} {l : List Nat} (h : Own w base v l) (hg : g < base) : Byt w g v l := (byt_of_owns h hg).1
theorem Own.src {w : World} {base : Nat} {v : Value} {l : List Nat} (h : Own w base v l) : Src w v l := by
  obtain ⟨h1, h2⟩ := h
  rcases h2 with ⟨rfl, h0⟩ | ⟨b, cap, cur, rfl, hb, hh, hn, hm, hsz, htk⟩
  · exact ⟨none, 0, by rw [h0], fun h => by omega⟩
  · rw [Nat.mul_one] at hsz htk
    refine ⟨some ⟨b, 0, none⟩, cap, rfl, fun _ => ⟨b, 0, rfl, fun j hj => ?_⟩⟩
    rw [Nat.zero_add, cell_of_row w b j cur _ _ hh, ← bv_get l j hj, ← bl_get, ← htk, List.getElem?_take, if_pos (by omega)]
    simp
theorem Own.lt {w : World} {base : Nat} {v : Value} {l : List Nat} (h : Own w base v l) : ∀ k, v.ownBlock = some k → base ≤ k ∧ k < w.heap.size := World.ownsRow.lt h
/-- memory that is kept -/
theorem Own.kept {w w' : World} {base : Nat} {v : Value} {l : List Nat} (h : Own w base v l) (hb : Below w.heap.size w w') : Own w' base v l := by
  obtain ⟨h1, h2⟩ := h
  refine ⟨h1, h2.imp id ?_⟩
  rintro ⟨b, cap, cur, e1, e2, e3, e4⟩
  exact ⟨b, cap, cur, e1, e2, (hb.block b (Array.getElem?_eq_some_iff.1 e3).1).trans e3, e4⟩
theorem Own.apart {w w' : World} {base : Nat} {v : Value} {l : List Nat} {row : Option Nat} (h : Own w base v l) (hg : w.grownBy w' row) (hne : v.ownBlock = none ∨ v.ownBlock ≠ row) : Own w' base v l := by
  obtain ⟨h1, h2⟩ := h
  refine ⟨h1, h2.imp id ?_⟩
  rintro ⟨b, cap, cur, rfl, e2, e3, e4⟩
  refine ⟨b, cap, cur, rfl, e2, (hg.block b (Array.getElem?_eq_some_iff.1 e3).1 (fun e => ?_)).trans e3, e4⟩
  rcases hne with h | h
  · simp [Value.ownBlock] at h
  · exact h (by simp [Value.ownBlock, e])
theorem Own.byt' {w : World} {base g : Nat} {v : Value} {l : List Nat} (h : Own w base v l) (hg : v.ownBlock ≠ some g) : Byt w g v l := by
  obtain ⟨h1, h2⟩ := h
  rcases h2 with ⟨rfl, h0⟩ | ⟨b, cap, cur, rfl, hb, hh, hn, hm, hsz, htk⟩
  · exact ⟨none, 0, by rw [h0], by omega, fun h => by omega⟩
  · rw [Nat.mul_one] at hsz htk
    refine ⟨some ⟨b, 0, none⟩, cap, rfl, hn, fun _ => ⟨b, 0, rfl, fun e => hg (by simp [Value.ownBlock, e]), (Array.getElem?_eq_some_iff.1 hh).1, fun j hj => ?_⟩⟩
    rw [Nat.zero_add, cell_of_row w b j cur _ _ hh, ← bv_get l j hj, ← bl_get, ← htk, List.getElem?_take, if_pos (by omega)]
    simp
theorem grown_to_below {w w' : World} {B : Nat} {row : Option Nat} (hg : w.grownBy w' row) (hB : B ≤ w.heap.size) (hr : ∀ k, row = some k → B ≤ k) : Below B w w' :=
  ⟨hg.os, hg.tape, hg.output, hg.size, fun k hk => hg.block k (by omega) (fun e => by have := hr k e.symm; omega)⟩
/-- a walk stands still at a copy, at an append -/
theorem stp_copy {P : Program} {ops : Array Oper} {rest : List Oper} {a : Act} {w : World} {Q : Exit → Act → World → Prop} {dst : Tmp} {args : Array Operand} {ats : Array TypeId} {typ : TypeId} {pos : String} {after : Array Edge}
    (h : Stp (wpList P ops Q (⟨some dst, .call { callee := .builtin .copy, args := args, argTypes := ats }, typ, pos, after, none⟩ :: rest) a w)) : wpList P ops Q (⟨some dst, .call { callee := .builtin .copy, args := args, argTypes := ats }, typ, pos, after, none⟩ :: rest) a w := h
theorem stp_append {P : Program} {ops : Array Oper} {rest : List Oper} {a : Act} {w : World} {Q : Exit → Act → World → Prop} {dst : Tmp} {args : Array Operand} {ats : Array TypeId} {typ : TypeId} {pos : String} {after : Array Edge}
    (h : Stp (wpList P ops Q (⟨some dst, .call { callee := .builtin .append, args := args, argTypes := ats }, typ, pos, after, none⟩ :: rest) a w)) : wpList P ops Q (⟨some dst, .call { callee := .builtin .append, args := args, argTypes := ats }, typ, pos, after, none⟩ :: rest) a w := h
/-- bytes are copied into a row of noughts of one's own, from its beginning -/
theorem wl_copyN {ops : Array Oper} {rest : List Oper} {a : Act} {w : World} {Q : Exit → Act → World → Prop} {dst : Tmp} {d s : Operand} {typ : TypeId} {pos : String} {after : Array Edge}
    (g n dc : Nat) (t : TypeId) (v : Value) (k : List Nat) (hd : a.eval d = .slice (some ⟨g, 0, none⟩) n dc) (hs : a.eval s = v) (hsrc : Src w v k) (hk : k.length ≤ n)
    (hg : w.heap[g]? = some (.cells (bv (zl n)) t (0, 0))) (B : Nat) (w0 : World) (hb : Below B w0 w) (hBg : B ≤ g)
    (h : ∀ w', Hid (w'.heap[g]? = some (.cells (bv (lay (zl n) 0 k)) t (0, 0))) → Below B w0 w' → w.grownBy w' (some g) → wpList Tryz.prog ops Q rest (a.put (some dst) (goInt k.length)) w') :
    wpList Tryz.prog ops Q (⟨some dst, .call { callee := .builtin .copy, args := #[d, s], argTypes := #[39, 39] }, typ, pos, after, none⟩ :: rest) a w := by
  obtain ⟨p, cap, rfl, hp⟩ := hsrc
  have hrow : (splice (bl (zl n)) 0 (bl k)).toArray = bv (lay (zl n) 0 k) := by
    rw [← bl_arr, bl_lay]; unfold splice; rw [bl_len, List.append_assoc]
  by_cases h0 : k.length = 0
  · obtain rfl : k = [] := List.eq_nil_of_length_eq_zero h0
    refine wpList_copy_nothing rfl d s 39 39 rfl 5 Tryz.underlying39 info5 (some ⟨g, 0, none⟩) p n dc 0 cap hd hs (by simp) ?_
    refine h w (show _ = _ from ?_) hb ⟨rfl, rfl, rfl, Nat.le_refl _, fun _ _ _ => rfl⟩
    rw [hg]
    unfold lay
    simp
  · obtain ⟨b, o, rfl, hc⟩ := hp (by omega)
    refine wpList_copy_own rfl d s 39 39 rfl 5 Tryz.underlying39 info5 g 0 n dc ⟨b, o, none⟩ k.length cap hd hs (bv (zl n)) t hg (bl k) ?_ ?_ ?_ (bl_one k) ?_
    · rw [bl_len]; exact (Nat.min_eq_left hk).symm
    · intro j u hu
      exact bl_src hc k.length j u (by rw [List.take_length]; exact hu)
    · rw [bl_len, bv_size, zl_len]; omega
    · have e : ((bv (zl n)).toList.take 0 ++ (bl k ++ (bv (zl n)).toList.drop (0 + (bl k).length))).toArray = bv (lay (zl n) 0 k) := by rw [← hrow]; unfold splice bl; rfl
      rw [e, bl_len]
      refine h _ (show _ = _ from setRow_heap _ _ _ _ _ _ hg) (below_setRow' hb hBg _) (grown_setRow ⟨rfl, rfl, rfl, Nat.le_refl _, fun _ _ _ => rfl⟩ _)
end Go.Proofs.YtgaoeljdlpemnaaGreatDoor.Hs
namespace Go.Sha

def kk (key : List Nat) : List Nat := if 64 < key.length then shaL key else key
theorem kk_len (key : List Nat) : (kk key).length ≤ 64 := by
  unfold kk; split
  · rw [shaL_len]; decide
  · omega
theorem kk_lt {key : List Nat} (h : Lt 256 key) : Lt 256 (kk key) := by
  unfold kk; split
  · exact shaL_lt _
  · exact h
/-- the block of a key that has at most 64 bytes -/
def blk0 (k : List Nat) : List Nat := lay (zl 64) 0 k
def blk (key : List Nat) : List Nat := blk0 (kk key)
theorem blk0_len {k : List Nat} (h : k.length ≤ 64) : (blk0 k).length = 64 := by
  unfold blk0; rw [lay_len (by rw [zl_len]; omega), zl_len]
theorem blk_len (key : List Nat) : (blk key).length = 64 := blk0_len (kk_len key)
theorem blk0_lt {k : List Nat} (h : Lt 256 k) : Lt 256 (blk0 k) := lay_lt (zl_lt 64 256 (by decide)) h
theorem blk_lt {key : List Nat} (h : Lt 256 key) : Lt 256 (blk key) := blk0_lt (kk_lt h)
theorem blk0_eq (k : List Nat) : blk0 k = k ++ zl (64 - k.length) := by
  unfold blk0 lay zl
  rw [List.take_zero, List.nil_append, Nat.zero_add, List.drop_replicate]

def xr (x : Nat) (b : List Nat) : List Nat := b.map (· ^^^ x)
theorem xr_len (x : Nat) (b : List Nat) : (xr x b).length = b.length := by simp [xr]
theorem xor_byte {a b : Nat} (ha : a < 256) (hb : b < 256) : a ^^^ b < 256 := Nat.xor_lt_two_pow (n := 8) ha hb
theorem xr_lt {x : Nat} {b : List Nat} (hx : x < 256) (h : Lt 256 b) : Lt 256 (xr x b) := by
  intro y hy
  simp only [xr, List.mem_map] at hy
  obtain ⟨z, hz, rfl⟩ := hy
  exact xor_byte (h z hz) hx
/-- the first k bytes xored -/
def xrTo (x : Nat) (b : List Nat) (k : Nat) : List Nat := xr x (b.take k) ++ b.drop k
theorem xrTo_zero (x : Nat) (b : List Nat) : xrTo x b 0 = b := by simp [xrTo, xr]
theorem xrTo_all (x : Nat) {b : List Nat} {k : Nat} (h : b.length = k) : xrTo x b k = xr x b := by subst h; simp [xrTo]
theorem xrTo_len (x : Nat) (b : List Nat) (k : Nat) : (xrTo x b k).length = b.length := by simp [xrTo, xr_len]; omega
theorem xrTo_at (x : Nat) (b : List Nat) (k : Nat) (h : k < b.length) : at0 (xrTo x b k) k = at0 b k := by
  unfold at0 xrTo
  rw [List.getD_eq_getElem?_getD, List.getD_eq_getElem?_getD, List.getElem?_append_right (by simp [xr_len]; omega)]
  have e : k - (xr x (b.take k)).length = 0 := by simp [xr_len]; omega
  rw [e, List.getElem?_drop, Nat.add_zero]
theorem xrTo_succ (x : Nat) (b : List Nat) (k : Nat) (h : k < b.length) : (xrTo x b k).set k (at0 b k ^^^ x) = xrTo x b (k + 1) := by
  have e : (xr x (b.take k)).length = k := by simp [xr_len]; omega
  unfold xrTo
  rw [List.set_append_right _ _ (by omega), e, Nat.sub_self, List.drop_eq_getElem_cons h, List.set_cons_zero]
  have e2 : xr x (b.take (k + 1)) = xr x (b.take k) ++ [b[k] ^^^ x] := by
    unfold xr
    rw [List.take_succ_eq_append_getElem h, List.map_append]
    rfl
  rw [e2, List.append_assoc]
  simp [at0, List.getD_eq_getElem?_getD, h]

def inn (key : List Nat) : List Nat := xr 54 (blk key)
def out (key : List Nat) : List Nat := xr 92 (blk key)
theorem inn_len (key : List Nat) : (inn key).length = 64 := by rw [inn, xr_len, blk_len]
theorem out_len (key : List Nat) : (out key).length = 64 := by rw [out, xr_len, blk_len]
theorem inn_lt {key : List Nat} (h : Lt 256 key) : Lt 256 (inn key) := xr_lt (by decide) (blk_lt h)
theorem out_lt {key : List Nat} (h : Lt 256 key) : Lt 256 (out key) := xr_lt (by decide) (blk_lt h)
/-- what a pen tells: o is its outer block, s its inner hash -/
def penL (o : List Nat) (s : HS) : List Nat := shaL (o ++ sumL s)
def macL (key b : List Nat) : List Nat := shaL (out key ++ shaL (inn key ++ b))
theorem penL_len (o : List Nat) (s : HS) : (penL o s).length = 32 := shaL_len _
theorem penL_lt (o : List Nat) (s : HS) : Lt 256 (penL o s) := shaL_lt _
theorem macL_len (key b : List Nat) : (macL key b).length = 32 := shaL_len _
theorem macL_lt (key b : List Nat) : Lt 256 (macL key b) := shaL_lt _
theorem sha_two (a b : List Nat) : sumL (putL (putL hs0 a) b) = shaL (a ++ b) := by rw [← putL_append]; unfold shaL; rfl
theorem pen_mac (key b : List Nat) : penL (out key) (putL (putL hs0 (inn key)) b) = macL key b := by
  unfold penL macL; rw [sha_two]
attribute [irreducible] kk blk0 blk xr xrTo inn out penL macL
end Go.Sha
