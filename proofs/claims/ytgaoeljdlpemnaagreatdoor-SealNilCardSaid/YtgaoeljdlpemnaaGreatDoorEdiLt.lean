/- Few and short segments. -/
import Derived.Test.YtgaoeljdlpemnaaGreatDoorEdiW5
/- Contract of edi.areWhole. -/
namespace Go.Proofs.YtgaoeljdlpemnaaGreatDoor
open Go.RowKit Go.Edi

def nonE (e : List Tx) : Bool := decide (0 < e.length)
theorem wholeS_eq (s : Sg) : wholeS s = (isTag s.tag && s.els.all nonE) := rfl
theorem nonE_t {z : List Tx} (h : ¬ (z.length : Int) = 0) : nonE z = true := decide_eq_true (by omega)
theorem nonE_f {z : List Tx} (h : (z.length : Int) = 0) : nonE z = false := decide_eq_false (by omega)
/-- an element's row, met in a later world -/
theorem el_cell {w wr : World} {F : Nat → Prop} {b o j : Nat} {ys : List Value} {els : List (List Tx)} (hc : ∀ j u, ys[j]? = some u → w.cell? ⟨b, o + j, none⟩ = some u) (hs : ElC w F els ys) (hb : wr.heap[b]? = w.heap[b]?) (hj : j < els.length) :
    ∃ p cap, wr.cell? ⟨b, o + j, none⟩ = some (.slice p els[j].length cap) ∧ els[j].length ≤ cap ∧ StrsF w F (.slice p els[j].length cap) els[j] := by
  obtain ⟨v, h1, h2⟩ := hs.get j hj
  have hw := h2
  obtain ⟨p, cap, rfl, h3, _⟩ := h2
  exact ⟨p, cap, (World.cell?_of_block (a := ⟨b, o + j, none⟩) hb).trans (hc _ _ h1), h3, hw⟩
/-- none of the lists is longer than a number of the machine -/
def sane (l : List Sg) : Prop := l.length ≤ 1000000000000 ∧ ∀ s ∈ l, s.els.length ≤ 1000000000000 ∧ ∀ e ∈ s.els, e.length ≤ 1000000000000 ∧ ∀ t ∈ e, t.length ≤ 1000000000000
set_option maxRecDepth 100000 in
set_option maxHeartbeats 3200000 in
theorem areWhole_any (l : List Sg) (v : Value) (w : World) (hv : SegsF w (· < w.heap.size) v l) (hfit : sane l) :
    Calls Tryz.prog 44 #[v] w fun e w' => e = .returned (.bool (l.all wholeS)) ∧ Below w.heap.size w w' := by
  have HF := Lib.hid hfit
  obtain ⟨xs, ⟨p, cap, rfl, hnc, hp⟩, hxs⟩ := hv
  have HP := Lib.hid hp
  have HXS := Lib.hid hxs
  have hbz : (l.length : Int) ≤ 1000000000000 := by have := hfit.1; omega
  clear hp hxs hfit
  go_enter Tryz.func44, Tryz.ntmps44
  go_wp2
  go_loopw [9] (fun i wr => ∃ k : Nat, i = .int .i64 k ∧ k ≤ l.length ∧ (l.take k).all wholeS = true ∧ Below w.heap.size w wr) (fun i _ => l.length - (intOf i).toNat)
  case atStart => exact ⟨0, rfl, Nat.zero_le _, rfl, Below.refl _ _⟩
  case round =>
    obtain ⟨k, rfl, hk, hal, hb⟩ := hrel
    by_cases hlt : (k : Int) < (l.length : Int)
    · have hkl : k < l.length := by omega
      have hk0 : (0 : Int) ≤ (k : Int) := Int.natCast_nonneg _
      obtain ⟨b, o, rfl, hF, hc⟩ := HP.out (by omega)
      obtain ⟨hc1, pe, cape, ys, hc2, hnce, hrow, hel⟩ := seg_cells hc HXS.out (hb.block b hF) hkl
      have h1 := all_snoc wholeS l k hkl
      have h2 := all_false wholeS l k hkl
      have h3 := (HF.out.2 _ (List.getElem_mem hkl)).1
      generalize l[k]'hkl = y at *
      have hbe : (y.els.length : Int) ≤ 1000000000000 := by omega
      have HB := Lib.hid (hb.alloc hb.size (.cells #[str y.tag, .slice pe y.els.length cape] 112))
      have hq := isTag_any y.tag
      by_cases htg : isTag y.tag = true
      · rw [htg] at hq
        have HAL := Lib.hid hal
        have H1 := Lib.hid h1
        have H2 := Lib.hid h2
        have HROW := Lib.hid hrow
        have HEL := Lib.hid hel
        clear hal hb h1 h2 hc h3 hrow hel
        go_wp2_with (go_at_call 72; refine (hq _).mono ?_; rintro e w' ⟨rfl, rfl⟩)
        go_loopw [20] (fun i wr2 => ∃ j : Nat, i = .int .i64 j ∧ j ≤ y.els.length ∧ (y.els.take j).all nonE = true ∧ Below w.heap.size w wr2) (fun i _ => y.els.length - (intOf i).toNat)
        case atStart => exact ⟨0, rfl, Nat.zero_le _, rfl, HB.out⟩
        case round =>
          obtain ⟨j, rfl, hj, hal2, hb2⟩ := hrel
          have HB2 := Lib.hid hb2
          by_cases hlt2 : (j : Int) < (y.els.length : Int)
          · have hjl : j < y.els.length := by omega
            have hj0 : (0 : Int) ≤ (j : Int) := Int.natCast_nonneg _
            obtain ⟨pr, capr, hre, _, hpr⟩ := HROW.out
            simp only [Value.slice.injEq, true_and] at hre
            obtain ⟨rfl, rfl⟩ := hre
            obtain ⟨b2, o2, rfl, hF2, hc3⟩ := hpr (by omega)
            obtain ⟨pj, capj, hcj, hncj, _⟩ := el_cell hc3 HEL.out (hb2.block b2 hF2) hjl
            have g1 := all_snoc nonE y.els j hjl
            have g2 := all_false nonE y.els j hjl
            generalize y.els[j]'hjl = z at *
            have hz0 : (0 : Int) ≤ (z.length : Int) := Int.natCast_nonneg _
            by_cases hz : (z.length : Int) = 0
            · have HA := Lib.hid (show l.all wholeS = false from H2.out (by rw [wholeS_eq, htg, g2 (nonE_f hz)]; rfl))
              clear hal2 hb2 g1 g2 hc3
              go_wp2
              go_ret
              exact ⟨ret_bool HA.out.symm, HB2.out⟩
            · have HA := Lib.hid (show (y.els.take (j + 1)).all nonE = true by rw [g1, hal2, nonE_t hz]; rfl)
              clear hal2 hb2 g1 g2 hc3
              go_wp2
              go_roundw
              case rel => exact ⟨j + 1, by go_num, by omega, HA.out, HB2.out⟩
              case measure => simp [intOf]; omega
          · obtain rfl : j = y.els.length := by omega
            rw [List.take_length] at hal2
            have HA := Lib.hid (show (l.take (k + 1)).all wholeS = true by rw [H1.out, HAL.out, wholeS_eq, htg, hal2]; rfl)
            clear hal2 hb2
            go_wp2
            go_roundw
            case rel => exact ⟨k + 1, by go_num, by omega, HA.out, HB2.out⟩
            case measure => simp [intOf]; omega
      · rw [show isTag y.tag = false by simpa using htg] at hq
        have HA := Lib.hid (show l.all wholeS = false from h2 (by rw [wholeS_eq, show isTag y.tag = false by simpa using htg]; rfl))
        clear hal hb h1 h2 hc h3 hrow hel
        go_wp2_with (go_at_call 72; refine (hq _).mono ?_; rintro e w' ⟨rfl, rfl⟩)
        go_ret
        exact ⟨ret_bool HA.out.symm, HB.out⟩
    · obtain rfl : k = l.length := by omega
      rw [List.take_length] at hal
      have HA := Lib.hid hal
      have HB := Lib.hid hb
      clear hal hb
      go_wp2
      go_ret
      exact ⟨ret_bool HA.out.symm, HB.out⟩
end Go.Proofs.YtgaoeljdlpemnaaGreatDoor
/- append of many things out of memory, as one law; a text's beginning. -/
namespace Go.Proofs.YtgaoeljdlpemnaaGreatDoor
open Go.RowKit Go.Edi

theorem run_append_none (w : World) (base : Nat) (t ty e : TypeId) (i : TypeInfo) (size c : Nat) (ht : Tryz.prog.underlying t = some (.slice e)) (hi : Tryz.prog.info? e = some i)
    (v : Value) (n : Nat) (xs : List Value) (hown : w.ownsRow base e size v n xs) :
    (Builtin.append_ #[t, t] ty #[v, .slice none 0 c]).run Tryz.prog w = .ok v w := by
  rcases hown.2 with ⟨rfl, rfl⟩ | ⟨g, cap, cur, rfl, _, _, hnc, _⟩
  · simp [Builtin.append_, run_underlying ht, sizeOf, typeInfo, hi, Builtin.lenOf, Builtin.firstCells]
  · simp [Builtin.append_, run_underlying ht, sizeOf, typeInfo, hi, Builtin.lenOf, Builtin.firstCells, hnc, storeCells]
theorem run_appF (w : World) (t ty e : TypeId) (z : Value) (size bytes : Nat) (hpar : (Tryz.prog.info? e).map (fun i => (i.zero, i.size, i.bytes)) = some (some z, size, bytes)) (ht : Tryz.prog.underlying t = some (.slice e)) (hzs : z.cells.size = size) (hsz : 0 < size) (hby : bytes ≤ 100)
    (base : Nat) (v : Value) (n : Nat) (xs : List Value) (hown : w.ownsRow base e size v n xs) (u : Value) (F : Nat → Prop) (m : Nat) (news : List Value) (hsrc : RowF w F u m news) (hl : news.length = m * size) (h1 : ∀ u ∈ news, u.oneCell' = true) (hn : n + m ≤ 1000000000) (hbase : base ≤ w.heap.size) :
    ∃ v' w', (Builtin.append_ #[t, t] ty #[v, u]).run Tryz.prog w = .ok v' w' ∧ w'.ownsRow base e size v' (n + m) (xs ++ news) ∧ w.grownBy w' v.ownBlock ∧ (v'.ownBlock = v.ownBlock ∨ v'.ownBlock = some w.heap.size) := by
  obtain ⟨i0, hi0, hz0, hz1, hz2⟩ := info_parts hpar
  obtain ⟨p, cap, rfl, _, hp⟩ := hsrc
  have go : ∀ (ad : Addr), (∀ j u, news[j]? = some u → w.cell? (ad.add j) = some u) →
      ∃ v' w', (Builtin.append_ #[t, t] ty #[v, .slice (some ad) m cap]).run Tryz.prog w = .ok v' w' ∧ w'.ownsRow base e size v' (n + m) (xs ++ news) ∧ w.grownBy w' v.ownBlock ∧ (v'.ownBlock = v.ownBlock ∨ v'.ownBlock = some w.heap.size) := by
    intro ad h
    obtain ⟨v', w', hr, h2, h3, _, h5⟩ := run_append_own_at (P := Tryz.prog) w base t ty e i0 z size bytes ht hi0 hz0 hz1 hz2 hzs hsz v n xs hown ad m cap news hl h h1 (by unfold maxLen; omega) (by
      have := Nat.mul_le_mul hn hby
      omega) hbase
    exact ⟨v', w', hr, h2, h3, h5⟩
  by_cases h0 : 0 < m
  · obtain ⟨b, o, rfl, _, hc⟩ := hp h0
    exact go ⟨b, o, none⟩ (fun j u hu => by rw [Addr.add_mid]; exact hc j u hu)
  · obtain rfl : m = 0 := by omega
    obtain rfl : news = [] := List.eq_nil_of_length_eq_zero (by omega)
    cases p with
    | some ad => exact go ad (fun j u hu => by simp at hu)
    | none =>
      refine ⟨v, w, run_append_none w base t ty e i0 size cap ht hi0 v n xs hown, ?_, ⟨rfl, rfl, rfl, Nat.le_refl _, fun _ _ _ => rfl⟩, Or.inl rfl⟩
      rw [List.append_nil]; exact hown
theorem st_appF {a : Act} {w : World} {K : Act → World → Prop} {Q : Exit → Act → World → Prop} {dst : Tmp} {s x : Operand} {typ : TypeId} {pos : String} {after : Array Edge} {gd : Option (Nat × Bool)}
    (t e : TypeId) (z : Value) (size bytes : Nat) (hpar : (Tryz.prog.info? e).map (fun i => (i.zero, i.size, i.bytes)) = some (some z, size, bytes)) (ht : Tryz.prog.underlying t = some (.slice e)) (hzs : z.cells.size = size) (hsz : 0 < size) (hby : bytes ≤ 100)
    (base : Nat) (v : Value) (n : Nat) (xs : List Value) (hs : a.eval s = v) (hown : w.ownsRow base e size v n xs) (u : Value) (F : Nat → Prop) (m : Nat) (news : List Value) (hx : a.eval x = u) (hsrc : RowF w F u m news) (hl : news.length = m * size) (h1 : ∀ u ∈ news, u.oneCell' = true) (hn : n + m ≤ 1000000000) (hbase : base ≤ w.heap.size)
    (h : ∀ v' w', w'.ownsRow base e size v' (n + m) (xs ++ news) → w.grownBy w' v.ownBlock → (v'.ownBlock = v.ownBlock ∨ v'.ownBlock = some w.heap.size) → K (a.put (some dst) v') w') :
    Oper.wp Tryz.prog ⟨some dst, .call { callee := .builtin .append, args := #[s, x], argTypes := #[t, t] }, typ, pos, after, gd⟩ a w K Q := by
  obtain ⟨v', w', hr, h2, h3, h5⟩ := run_appF w t typ e z size bytes hpar ht hzs hsz hby base v n xs hown u F m news hsrc hl h1 hn hbase
  unfold Oper.wp execOp
  simp only [resolve, invoke, builtin, Sem.run_bind, Sem.run_pure, Result.andThen_ok, List.map_toArray, List.map_cons, List.map_nil, hs, hx, hr]
  exact h v' w' h2 h3 h5
theorem wl_appF {ops : Array Oper} {rest : List Oper} {a : Act} {w : World} {Q : Exit → Act → World → Prop} {dst : Tmp} {s x : Operand} {typ : TypeId} {pos : String} {after : Array Edge}
    (t e : TypeId) (z : Value) (size bytes : Nat) (hpar : (Tryz.prog.info? e).map (fun i => (i.zero, i.size, i.bytes)) = some (some z, size, bytes)) (ht : Tryz.prog.underlying t = some (.slice e)) (hzs : z.cells.size = size) (hsz : 0 < size) (hby : bytes ≤ 100)
    (base : Nat) (v : Value) (n : Nat) (xs : List Value) (hs : a.eval s = v) (hown : w.ownsRow base e size v n xs) (u : Value) (F : Nat → Prop) (m : Nat) (news : List Value) (hx : a.eval x = u) (hsrc : RowF w F u m news) (hl : news.length = m * size) (h1 : ∀ u ∈ news, u.oneCell' = true) (hn : n + m ≤ 1000000000) (hbase : base ≤ w.heap.size)
    (h : ∀ v' w', w'.ownsRow base e size v' (n + m) (xs ++ news) → w.grownBy w' v.ownBlock → (v'.ownBlock = v.ownBlock ∨ v'.ownBlock = some w.heap.size) → wpList Tryz.prog ops Q rest (a.put (some dst) v') w') :
    wpList Tryz.prog ops Q (⟨some dst, .call { callee := .builtin .append, args := #[s, x], argTypes := #[t, t] }, typ, pos, after, none⟩ :: rest) a w :=
  wpList_plain rfl fun _ hK => st_appF t e z size bytes hpar ht hzs hsz hby base v n xs hs hown u F m news hx hsrc hl h1 hn hbase (fun v' w' h2 h3 h5 => hK _ _ (h v' w' h2 h3 h5))
theorem one_strs (l : List Tx) : ∀ u ∈ l.map str, u.oneCell' = true := by
  intro u hu
  rw [List.mem_map] at hu
  obtain ⟨t, _, rfl⟩ := hu
  rfl
theorem one_elc {w : World} {F : Nat → Prop} : ∀ {els : List (List Tx)} {ys : List Value}, ElC w F els ys → ∀ u ∈ ys, u.oneCell' = true
  | [], [], _ => by simp
  | _ :: _, v :: _, h => by
    intro u hu
    rcases List.mem_cons.1 hu with rfl | hu
    · obtain ⟨p, cap, e, _⟩ := h.1; rw [e]; rfl
    · exact one_elc h.2 u hu
  | [], _ :: _, h => h.elim
  | _ :: _, [], h => h.elim
theorem one_sgc {w : World} {F : Nat → Prop} : ∀ {sl : List Sg} {xs : List Value}, SgC w F sl xs → ∀ u ∈ xs, u.oneCell' = true
  | [], [], _ => by simp
  | _ :: _, a :: v :: _, h => by
    intro u hu
    rcases List.mem_cons.1 hu with rfl | hu
    · rw [h.1]; rfl
    · rcases List.mem_cons.1 hu with rfl | hu
      · obtain ⟨ys, ⟨p, cap, e, _⟩, _⟩ := h.2.1; rw [e]; rfl
      · exact one_sgc h.2.2 u hu
  | [], _ :: _, h => h.elim
  | _ :: _, [], h => h.elim
  | _ :: _, [_], h => h.elim
theorem SgC.app {w : World} {F : Nat → Prop} {sm : List Sg} {ym : List Value} (hv : SgC w F sm ym) : ∀ {sl : List Sg} {xs : List Value}, SgC w F sl xs → SgC w F (sl ++ sm) (xs ++ ym)
  | [], [], _ => hv
  | _ :: _, _ :: _ :: _, h => ⟨h.1, h.2.1, SgC.app hv h.2.2⟩
  | [], _ :: _, h => h.elim
  | _ :: _, [], h => h.elim
  | _ :: _, [_], h => h.elim
theorem tx_take (t : Tx) (k : Nat) : (tx t).extract 0 k = tx (t.take k) := by
  simp [tx, ByteArray.ext_iff]
end Go.Proofs.YtgaoeljdlpemnaaGreatDoor
namespace Go.Proofs.YtgaoeljdlpemnaaGreatDoor
open Go.RowKit Go.Edi

def lightE (e : List Tx) : Prop := e.length ≤ 40 ∧ ∀ t ∈ e, t.length ≤ 3000
def lightS (s : Sg) : Prop := s.tag.length ≤ 300 ∧ s.els.length ≤ 40 ∧ ∀ e ∈ s.els, lightE e
def light (l : List Sg) : Prop := l.length ≤ 80 ∧ ∀ s ∈ l, lightS s
theorem light.sane {l : List Sg} (h : light l) : sane l :=
  ⟨by have := h.1; omega, fun s hs => ⟨by have := (h.2 s hs).2.1; omega, fun e he => ⟨by have := ((h.2 s hs).2.2 e he).1; omega, fun t ht => by have := ((h.2 s hs).2.2 e he).2 t ht; omega⟩⟩⟩
theorem mem_snoc {α : Type} {P : α → Prop} (l : List α) (k : Nat) (h : k < l.length) (h1 : ∀ x ∈ l.take k, P x) (h2 : P l[k]) : ∀ x ∈ l.take (k + 1), P x := by
  intro x hx
  rw [← List.take_append_getElem h, List.mem_append, List.mem_singleton] at hx
  rcases hx with hx | rfl
  · exact h1 x hx
  · exact h2
end Go.Proofs.YtgaoeljdlpemnaaGreatDoor
