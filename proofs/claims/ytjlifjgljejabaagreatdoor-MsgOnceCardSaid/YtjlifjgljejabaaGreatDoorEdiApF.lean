/- append of many things out of memory, as one law; a text's beginning. -/
import Derived.Test.YtjlifjgljejabaaGreatDoorEdiW6
namespace Go.Proofs.YtjlifjgljejabaaGreatDoor
open Go.RowKit Go.Edi

theorem run_append_none (w : World) (base : Nat) (t ty e : TypeId) (i : TypeInfo) (size c : Nat) (ht : Tryz.prog.underlying t = some (.slice e)) (hi : Tryz.prog.info? e = some i)
    (v : Value) (n : Nat) (xs : List Value) (hown : w.ownsRow base e size v n xs) :
    (Builtin.append_ #[t, t] ty #[v, .slice none 0 c]).run Tryz.prog w = .ok v w := by
  rcases hown.2 with ⟨rfl, rfl⟩ | ⟨g, cap, cur, rfl, _, _, hnc, _⟩
  · simp [Builtin.append_, run_underlying ht, sizeOf, typeInfo, hi, Builtin.lenOf, Builtin.firstCells]
  · simp [Builtin.append_, run_underlying ht, sizeOf, typeInfo, hi, Builtin.lenOf, Builtin.firstCells, hnc, storeCells]
theorem run_appF (w : World) (t ty e : TypeId) (z : Value) (size bytes : Nat) (hpar : (Tryz.prog.info? e).map (fun i => (i.zero, i.size, i.bytes)) = some (some z, size, bytes)) (ht : Tryz.prog.underlying t = some (.slice e)) (hzs : z.cells.size = size) (hsz : 0 < size) (hby : bytes ≤ 100)
    (base : Nat) (v : Value) (n : Nat) (xs : List Value) (hown : w.ownsRow base e size v n xs) (u : Value) (F : Nat → Prop) (m : Nat) (news : List Value) (hsrc : RowF w F u m news) (hl : news.length = m * size) (h1 : ∀ u ∈ news, u.oneCell' = true) (hn : n + m ≤ 1000000000) (hbase : base ≤ w.heap.size) :
    ∃ v' w', (Builtin.append_ #[t, t] ty #[v, u]).run Tryz.prog w = .ok v' w' ∧ w'.ownsRow base e size v' (n + m) (xs ++ news) ∧ w.grownBy w' v.ownBlock ∧ (v'.ownBlock = v.ownBlock ∨ v'.ownBlock = some w.heap.size) := by
  obtain ⟨i0, hi0, hz0, hz1, hz2⟩ := info_parts hpar
  obtain ⟨p, cap, rfl, _, hp⟩ := hsrc
  have go : ∀ (ad : Addr), (∀ j u, news[j]? = some u → w.cell? (ad.add j) = some u) →
      ∃ v' w', (Builtin.append_ #[t, t] ty #[v, .slice (some ad) m cap]).run Tryz.prog w = .ok v' w' ∧ w'.ownsRow base e size v' (n + m) (xs ++ news) ∧ w.grownBy w' v.ownBlock ∧ (v'.ownBlock = v.ownBlock ∨ v'.ownBlock = some w.heap.size) := by
    intro ad h
    obtain ⟨v', w', hr, h2, h3, _, h5⟩ := run_append_own_at (P := Tryz.prog) w base t ty e i0 z size bytes ht hi0 hz0 hz1 hz2 hzs hsz v n xs hown ad m cap news hl h h1 (by unfold maxLen; omega) (by
      have := Nat.mul_le_mul hn hby
      omega) hbase
    exact ⟨v', w', hr, h2, h3, h5⟩
  by_cases h0 : 0 < m
  · obtain ⟨b, o, rfl, _, hc⟩ := hp h0
    exact go ⟨b, o, none⟩ (fun j u hu => by rw [Addr.add_mid]; exact hc j u hu)
  · obtain rfl : m = 0 := by omega
    obtain rfl : news = [] := List.eq_nil_of_length_eq_zero (by omega)
    cases p with
    | some ad => exact go ad (fun j u hu => by simp at hu)
    | none =>
      refine ⟨v, w, run_append_none w base t ty e i0 size cap ht hi0 v n xs hown, ?_, ⟨rfl, rfl, rfl, Nat.le_refl _, fun _ _ _ => rfl⟩, Or.inl rfl⟩
      rw [List.append_nil]; exact hown
theorem st_appF {a : Act} {w : World} {K : Act → World → Prop} {Q : Exit → Act → World → Prop} {dst : Tmp} {s x : Operand} {typ : TypeId} {pos : String} {after : Array Edge} {gd : Option (Nat × Bool)}
    (t e : TypeId) (z : Value) (size bytes : Nat) (hpar : (Tryz.prog.info? e).map (fun i => (i.zero, i.size, i.bytes)) = some (some z, size, bytes)) (ht : Tryz.prog.underlying t = some (.slice e)) (hzs : z.cells.size = size) (hsz : 0 < size) (hby : bytes ≤ 100)
    (base : Nat) (v : Value) (n : Nat) (xs : List Value) (hs : a.eval s = v) (hown : w.ownsRow base e size v n xs) (u : Value) (F : Nat → Prop) (m : Nat) (news : List Value) (hx : a.eval x = u) (hsrc : RowF w F u m news) (hl : news.length = m * size) (h1 : ∀ u ∈ news, u.oneCell' = true) (hn : n + m ≤ 1000000000) (hbase : base ≤ w.heap.size)
    (h : ∀ v' w', w'.ownsRow base e size v' (n + m) (xs ++ news) → w.grownBy w' v.ownBlock → (v'.ownBlock = v.ownBlock ∨ v'.ownBlock = some w.heap.size) → K (a.put (some dst) v') w') :
    Oper.wp Tryz.prog ⟨some dst, .call { callee := .builtin .append, args := #[s, x], argTypes := #[t, t] }, typ, pos, after, gd⟩ a w K Q := by
  obtain ⟨v', w', hr, h2, h3, h5⟩ := run_appF w t typ e z size bytes hpar ht hzs hsz hby base v n xs hown u F m news hsrc hl h1 hn hbase
  unfold Oper.wp execOp
  simp only [resolve, invoke, builtin, Sem.run_bind, Sem.run_pure, Result.andThen_ok, List.map_toArray, List.map_cons, List.map_nil, hs, hx, hr]
  exact h v' w' h2 h3 h5
theorem wl_appF {ops : Array Oper} {rest : List Oper} {a : Act} {w : World} {Q : Exit → Act → World → Prop} {dst : Tmp} {s x : Operand} {typ : TypeId} {pos : String} {after : Array Edge}
    (t e : TypeId) (z : Value) (size bytes : Nat) (hpar : (Tryz.prog.info? e).map (fun i => (i.zero, i.size, i.bytes)) = some (some z, size, bytes)) (ht : Tryz.prog.underlying t = some (.slice e)) (hzs : z.cells.size = size) (hsz : 0 < size) (hby : bytes ≤ 100)
    (base : Nat) (v : Value) (n : Nat) (xs : List Value) (hs : a.eval s = v) (hown : w.ownsRow base e size v n xs) (u : Value) (F : Nat → Prop) (m : Nat) (news : List Value) (hx : a.eval x = u) (hsrc : RowF w F u m news) (hl : news.length = m * size) (h1 : ∀ u ∈ news, u.oneCell' = true) (hn : n + m ≤ 1000000000) (hbase : base ≤ w.heap.size)
    (h : ∀ v' w', w'.ownsRow base e size v' (n + m) (xs ++ news) → w.grownBy w' v.ownBlock → (v'.ownBlock = v.ownBlock ∨ v'.ownBlock = some w.heap.size) → wpList Tryz.prog ops Q rest (a.put (some dst) v') w') :
    wpList Tryz.prog ops Q (⟨some dst, .call { callee := .builtin .append, args := #[s, x], argTypes := #[t, t] }, typ, pos, after, none⟩ :: rest) a w :=
  wpList_plain rfl fun _ hK => st_appF t e z size bytes hpar ht hzs hsz hby base v n xs hs hown u F m news hx hsrc hl h1 hn hbase (fun v' w' h2 h3 h5 => hK _ _ (h v' w' h2 h3 h5))
theorem one_strs (l : List Tx) : ∀ u ∈ l.map str, u.oneCell' = true := by
  intro u hu
  rw [List.mem_map] at hu
  obtain ⟨t, _, rfl⟩ := hu
  rfl
theorem one_elc {w : World} {F : Nat → Prop} : ∀ {els : List (List Tx)} {ys : List Value}, ElC w F els ys → ∀ u ∈ ys, u.oneCell' = true
  | [], [], _ => by simp
  | _ :: _, v :: _, h => by
    intro u hu
    rcases List.mem_cons.1 hu with rfl | hu
    · obtain ⟨p, cap, e, _⟩ := h.1; rw [e]; rfl
    · exact one_elc h.2 u hu
  | [], _ :: _, h => h.elim
  | _ :: _, [], h => h.elim
theorem one_sgc {w : World} {F : Nat → Prop} : ∀ {sl : List Sg} {xs : List Value}, SgC w F sl xs → ∀ u ∈ xs, u.oneCell' = true
  | [], [], _ => by simp
  | _ :: _, a :: v :: _, h => by
    intro u hu
    rcases List.mem_cons.1 hu with rfl | hu
    · rw [h.1]; rfl
    · rcases List.mem_cons.1 hu with rfl | hu
      · obtain ⟨ys, ⟨p, cap, e, _⟩, _⟩ := h.2.1; rw [e]; rfl
      · exact one_sgc h.2.2 u hu
  | [], _ :: _, h => h.elim
  | _ :: _, [], h => h.elim
  | _ :: _, [_], h => h.elim
theorem SgC.app {w : World} {F : Nat → Prop} {sm : List Sg} {ym : List Value} (hv : SgC w F sm ym) : ∀ {sl : List Sg} {xs : List Value}, SgC w F sl xs → SgC w F (sl ++ sm) (xs ++ ym)
  | [], [], _ => hv
  | _ :: _, _ :: _ :: _, h => ⟨h.1, h.2.1, SgC.app hv h.2.2⟩
  | [], _ :: _, h => h.elim
  | _ :: _, [], h => h.elim
  | _ :: _, [_], h => h.elim
theorem tx_take (t : Tx) (k : Nat) : (tx t).extract 0 k = tx (t.take k) := by
  simp [tx, ByteArray.ext_iff]
end Go.Proofs.YtjlifjgljejabaaGreatDoor
