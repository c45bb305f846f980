/- Contracts of edi.elemText, edi.segText and edi.textOf. -/
import Derived.Test.YtjlifjgljejabaaGreatDoorEdiW2
namespace Go.Proofs.YtjlifjgljejabaaGreatDoor
open Go.RowKit Go.Edi

/-- texts of one's own -/
def OwnT (w : World) (B : Nat) (v : Value) (n : Nat) (l : List Tx) : Prop := w.ownsRow B 9 1 v n (l.map str)
theorem OwnT.len {w : World} {B n : Nat} {v : Value} {l : List Tx} (h : OwnT w B v n l) : l.length = n := by have := h.1; simpa using this
theorem OwnT.strs {w : World} {B n : Nat} {v : Value} {l : List Tx} (h : OwnT w B v n l) : StrsF w (· < w.heap.size) v l := by
  have e := h.len
  subst e
  exact row_own h (fun b e => (h.lt b e).2)
theorem OwnT.below {w w' : World} {B n : Nat} {v : Value} {l : List Tx} (h : OwnT w B v n l) (hb : Below w.heap.size w w') : OwnT w' B v n l := by
  obtain ⟨h1, h2⟩ := h
  refine ⟨h1, h2.imp id ?_⟩
  rintro ⟨b, cap, cur, e1, e2, e3, e4⟩
  exact ⟨b, cap, cur, e1, e2, (hb.block b (lt_of_heap e3)).trans e3, e4⟩
theorem at_last0 (w : World) (o : Obj) : (w.alloc o).heap[w.heap.size]? = some o := by
  show (w.heap.push o)[w.heap.size]? = some o
  simp
theorem ownT_nil (w : World) (B : Nat) : OwnT w B (.slice none 0 0) 0 [] := World.ownsRow_nil _ _ _ _
theorem ownT_snoc {w : World} {B n : Nat} {v : Value} {l : List Tx} {t : Tx} (h : w.ownsRow B 9 1 v (n + 1) (l.map str ++ [str t])) : OwnT w B v (n + 1) (l ++ [t]) := by
  unfold OwnT; rw [List.map_append]; exact h
theorem map_take_snoc {α β : Type} (f : α → β) (l : List α) (k : Nat) (h : k < l.length) : (l.take (k + 1)).map f = (l.take k).map f ++ [f l[k]] := by
  rw [← List.take_append_getElem h, List.map_append]; rfl
theorem below_app {B : Nat} {w w1 w2 : World} {o : Obj} {row : Option Nat} (h : Below B w w1) (hB : B ≤ w.heap.size) (hg : (w1.alloc o).grownBy w2 row) (hr : ∀ k, row = some k → B ≤ k) : Below B w w2 :=
  (h.alloc (by have := h.size; omega) o).grown hg (by have := h.size; simp; omega) hr
set_option maxRecDepth 100000 in
set_option maxHeartbeats 1600000 in
theorem elemText_any (l : List Tx) (v : Value) (w : World) (hv : StrsF w (· < w.heap.size) v l) (hl : (elT l).length ≤ 100000000) (hn : l.length ≤ 100000) (ht : ∀ t ∈ l, t.length ≤ 100000) : Calls Tryz.prog 116 #[v] w fun e w' => e = .returned (str (elT l)) ∧ Below w.heap.size w w' := by
  have HL := Lib.hid hl
  have HT := Lib.hid ht
  obtain ⟨p, cap, rfl, hnc, hp⟩ := hv
  have HP := Lib.hid hp
  have hbz : (l.length : Int) ≤ 100000 := by omega
  clear hl hp hn ht
  go_enter Tryz.func116, Tryz.ntmps116
  go_wp2
  go_loopw [3, 8] (fun u i wr => ∃ (k : Nat) (p3 : Option Addr) (cap3 : Nat), i = .int .i64 k ∧ u = .slice p3 k cap3 ∧ k ≤ l.length ∧ OwnT wr w.heap.size (.slice p3 k cap3) k ((l.take k).map mkd) ∧ Below w.heap.size w wr) (fun _ i _ => l.length - (intOf i).toNat)
  case atStart => exact ⟨0, none, 0, rfl, rfl, Nat.zero_le _, ownT_nil _ _, Below.refl _ _⟩
  case round =>
    obtain ⟨k, p3, cap3, rfl, rfl, hk, hown, hb⟩ := hrel
    by_cases hlt : (k : Int) < (l.length : Int)
    · have hkl : k < l.length := by omega
      have hk0 : (0 : Int) ≤ (k : Int) := Int.natCast_nonneg _
      obtain ⟨b, o, rfl, hF, hc⟩ := HP.out (by omega)
      generalize hlk : l[k]'hkl = y at *
      have hck : wr.cell? ⟨b, o + k, none⟩ = some (str y) := (World.cell?_of_block (a := ⟨b, o + k, none⟩) (hb.block b hF)).trans (hc k _ (by rw [List.getElem?_map, List.getElem?_eq_getElem hkl, hlk]; rfl))
      have H1 := Lib.hid (marked_any y wr (hlk ▸ HT.out _ (List.getElem_mem hkl)))
      have HN := Lib.hid (show (l.take (k + 1)).map mkd = (l.take k).map mkd ++ [mkd y] by rw [map_take_snoc mkd l k hkl, hlk])
      have HB := Lib.hid hb
      have HO := Lib.hid hown
      clear hb hown hc hlk
      go_wp2_with (go_at_call 133; refine (H1.out).mono ?_)
      first | rintro e w1 rfl hb1 | rintro e w1 ⟨rfl, hb1⟩
      have HB1 := Lib.hid (HB.out.trans (hb1.mono HB.out.size))
      have HO1 := Lib.hid (HO.out.below hb1)
      clear hb1
      go_wp2_with (at_builtin; refine wl_app1 62 9 (.string ⟨#[]⟩) 1 16 par_str Tryz.underlying62 rfl (by decide) (by decide) w.heap.size (.slice p3 k cap3) k (((l.take k).map mkd).map str) rfl (World.ownsRow.alloc HO1.out _) w1.heap.size 1 [str (mkd y)] 9 (0, 0) rfl rfl (by show (w1.heap.push _)[w1.heap.size]? = _; simp) (by intro u hu; simp at hu; subst hu; rfl) (by omega) (by have := HB1.out.size; simp; omega) ?_)
      intro v' w2 ho hgr _
      obtain ⟨p', cap', rfl⟩ := own_slice ho
      have HB2 := Lib.hid (below_app HB1.out (Nat.le_refl _) hgr (fun k hk => (HO1.out.lt k hk).1))
      have HOO := Lib.hid (ownT_snoc ho)
      clear ho hgr
      go_wp2
      go_roundw
      case rel => exact ⟨k + 1, p', cap', by go_num, rfl, by omega, by rw [HN.out]; exact HOO.out, HB2.out⟩
      case measure => simp [intOf]; omega
    · obtain rfl : k = l.length := by omega
      rw [List.take_length] at hown
      have H1 := Lib.hid (joined_any [58] (l.map mkd) _ wr hown.strs HL.out (by simp; omega))
      have HB := Lib.hid hb
      clear hb hown
      go_wp2_with (go_at_call 88; refine (H1.out).mono ?_)
      first | rintro e w1 rfl hb1 | rintro e w1 ⟨rfl, hb1⟩
      have HB1 := Lib.hid (HB.out.trans (hb1.mono HB.out.size))
      clear hb1
      go_wp2
      go_ret
      exact ⟨rfl, HB1.out⟩
theorem jnT_len_le (x : Tx) (l : List Tx) (y : Tx) (h : y ∈ l) : y.length ≤ (jnT x l).length := by
  induction l with
  | nil => simp at h
  | cons z r ih =>
    simp only [jnT, List.length_append]
    rcases List.mem_cons.1 h with rfl | h
    · omega
    · have := ih h; omega
set_option maxRecDepth 100000 in
set_option maxHeartbeats 1600000 in
theorem segText_any (s : Sg) (v : Value) (w : World) (hv : ElsF w (· < w.heap.size) v s.els) (hl : (sgT s).length ≤ 100000000) (hn : s.els.length ≤ 100000 - 1) (ht : ∀ e ∈ s.els, e.length ≤ 100000 ∧ ∀ t ∈ e, t.length ≤ 100000) :
    Calls Tryz.prog 87 #[.agg #[str s.tag, v]] w fun e w' => e = .returned (str (sgT s)) ∧ Below w.heap.size w w' := by
  have HL := Lib.hid hl
  have HT := Lib.hid ht
  obtain ⟨tag, l⟩ := s
  simp only at hv hn ht HT
  obtain ⟨ys, ⟨p, cap, rfl, hnc, hp⟩, hys⟩ := hv
  have HP := Lib.hid hp
  have HYS := Lib.hid hys
  have hbz : (l.length : Int) ≤ 99999 := by omega
  clear hl hp hn ht hys
  go_enter Tryz.func87, Tryz.ntmps87
  go_wp2
  go_loopw [3, 12] (fun u i wr => ∃ (k : Nat) (p3 : Option Addr) (cap3 : Nat), i = .int .i64 k ∧ u = .slice p3 (k + 1) cap3 ∧ k ≤ l.length ∧ OwnT wr w.heap.size (.slice p3 (k + 1) cap3) (k + 1) (tag :: (l.take k).map elT) ∧ Below w.heap.size w wr) (fun _ i _ => l.length - (intOf i).toNat)
  case atStart =>
    refine ⟨0, some ⟨w.heap.size + 1, 0, none⟩, 1, rfl, by simp, Nat.zero_le _, ?_, ((Below.refl _ _).alloc (Nat.le_refl _) _).alloc (by simp) _⟩
    refine ⟨rfl, Or.inr ⟨w.heap.size + 1, 1, #[str tag], rfl, by omega, ?_, by simp, by unfold maxLen; omega, rfl, rfl⟩⟩
    have := at_last0 (w.alloc (.cells #[str tag, .slice p l.length cap] 59)) (.cells #[str tag] 9)
    simpa using this
  case round =>
    obtain ⟨k, p3, cap3, rfl, rfl, hk, hown, hb⟩ := hrel
    by_cases hlt : (k : Int) < (l.length : Int)
    · have hkl : k < l.length := by omega
      have hk0 : (0 : Int) ≤ (k : Int) := Int.natCast_nonneg _
      obtain ⟨b, o, rfl, hF, hc⟩ := HP.out (by omega)
      obtain ⟨ve, hve1, hve2⟩ := HYS.out.get k hkl
      have HTK := Lib.hid (HT.out _ (List.getElem_mem hkl))
      have hlen0 : (elT (l[k]'hkl)).length ≤ 100000000 := by
        have h1 := jnT_len_le [43] (l.map elT) (elT (l[k]'hkl)) (List.mem_map_of_mem (List.getElem_mem hkl))
        have h2 := HL.out
        simp only [sgT, jn, List.length_append] at h2
        omega
      generalize hlk : l[k]'hkl = y at *
      have hck : wr.cell? ⟨b, o + k, none⟩ = some ve := (World.cell?_of_block (a := ⟨b, o + k, none⟩) (hb.block b hF)).trans (hc k _ hve1)
      obtain ⟨py, capy, rfl, hncy, hpy⟩ := hve2
      have H1 := Lib.hid (elemText_any y (.slice py y.length capy) wr (StrsF.below ⟨py, capy, rfl, hncy, hpy⟩ hb) hlen0 HTK.out.1 HTK.out.2)
      have HN := Lib.hid (show tag :: (l.take (k + 1)).map elT = (tag :: (l.take k).map elT) ++ [elT y] by rw [map_take_snoc elT l k hkl, hlk]; rfl)
      have HB := Lib.hid hb
      have HO := Lib.hid hown
      clear hb hown hc hlk hpy hve1 hlen0 hncy
      go_wp2_with (go_at_call 116; refine (H1.out).mono ?_)
      first | rintro e w1 rfl hb1 | rintro e w1 ⟨rfl, hb1⟩
      have HB1 := Lib.hid (HB.out.trans (hb1.mono HB.out.size))
      have HO1 := Lib.hid (HO.out.below hb1)
      clear hb1
      go_wp2_with (at_builtin; refine wl_app1 62 9 (.string ⟨#[]⟩) 1 16 par_str Tryz.underlying62 rfl (by decide) (by decide) w.heap.size (.slice p3 (k + 1) cap3) (k + 1) ((tag :: (l.take k).map elT).map str) rfl (World.ownsRow.alloc HO1.out _) w1.heap.size 1 [str (elT y)] 9 (0, 0) rfl rfl (at_last0 _ _) (by intro u hu; simp at hu; subst hu; rfl) (by omega) (by have := HB1.out.size; simp; omega) ?_)
      intro v' w2 ho hgr _
      obtain ⟨p', cap', rfl⟩ := own_slice ho
      have HB2 := Lib.hid (below_app HB1.out (Nat.le_refl _) hgr (fun k hk => (HO1.out.lt k hk).1))
      have HOO := Lib.hid (ownT_snoc ho)
      clear ho hgr
      go_wp2
      go_roundw
      case rel => exact ⟨k + 1, p', cap', by go_num, rfl, by omega, by rw [HN.out]; exact HOO.out, HB2.out⟩
      case measure => simp [intOf]; omega
    · obtain rfl : k = l.length := by omega
      rw [List.take_length] at hown
      have H1 := Lib.hid (joined_any [43] (tag :: l.map elT) _ wr hown.strs HL.out (by simp; omega))
      have HB := Lib.hid hb
      clear hb hown
      go_wp2_with (go_at_call 88; refine (H1.out).mono ?_)
      first | rintro e w1 rfl hb1 | rintro e w1 ⟨rfl, hb1⟩
      have HB1 := Lib.hid (HB.out.trans (hb1.mono HB.out.size))
      clear hb1
      go_wp2
      go_ret
      exact ⟨rfl, HB1.out⟩
end Go.Proofs.YtjlifjgljejabaaGreatDoor
