/- Contracts of edi's questions about segments: isTag, isPlainText, isShortElem, areWhole. -/
import Derived.Test.YtgaoeljdlpemnaaGreatDoorEdiW2
/- Contracts of edi.elemText, edi.segText and edi.textOf. -/
namespace Go.Proofs.YtgaoeljdlpemnaaGreatDoor
open Go.RowKit Go.Edi

/-- texts of one's own -/
def OwnT (w : World) (B : Nat) (v : Value) (n : Nat) (l : List Tx) : Prop := w.ownsRow B 9 1 v n (l.map str)
theorem OwnT.len {w : World} {B n : Nat} {v : Value} {l : List Tx} (h : OwnT w B v n l) : l.length = n := by have := h.1; simpa using this
theorem OwnT.strs {w : World} {B n : Nat} {v : Value} {l : List Tx} (h : OwnT w B v n l) : StrsF w (· < w.heap.size) v l := by
  have e := h.len
  subst e
  exact row_own h (fun b e => (h.lt b e).2)
theorem OwnT.below {w w' : World} {B n : Nat} {v : Value} {l : List Tx} (h : OwnT w B v n l) (hb : Below w.heap.size w w') : OwnT w' B v n l := by
  obtain ⟨h1, h2⟩ := h
  refine ⟨h1, h2.imp id ?_⟩
  rintro ⟨b, cap, cur, e1, e2, e3, e4⟩
  exact ⟨b, cap, cur, e1, e2, (hb.block b (lt_of_heap e3)).trans e3, e4⟩
theorem at_last0 (w : World) (o : Obj) : (w.alloc o).heap[w.heap.size]? = some o := by
  show (w.heap.push o)[w.heap.size]? = some o
  simp
theorem ownT_nil (w : World) (B : Nat) : OwnT w B (.slice none 0 0) 0 [] := World.ownsRow_nil _ _ _ _
theorem ownT_snoc {w : World} {B n : Nat} {v : Value} {l : List Tx} {t : Tx} (h : w.ownsRow B 9 1 v (n + 1) (l.map str ++ [str t])) : OwnT w B v (n + 1) (l ++ [t]) := by
  unfold OwnT; rw [List.map_append]; exact h
theorem map_take_snoc {α β : Type} (f : α → β) (l : List α) (k : Nat) (h : k < l.length) : (l.take (k + 1)).map f = (l.take k).map f ++ [f l[k]] := by
  rw [← List.take_append_getElem h, List.map_append]; rfl
theorem below_app {B : Nat} {w w1 w2 : World} {o : Obj} {row : Option Nat} (h : Below B w w1) (hB : B ≤ w.heap.size) (hg : (w1.alloc o).grownBy w2 row) (hr : ∀ k, row = some k → B ≤ k) : Below B w w2 :=
  (h.alloc (by have := h.size; omega) o).grown hg (by have := h.size; simp; omega) hr
set_option maxRecDepth 100000 in
set_option maxHeartbeats 1600000 in
theorem elemText_any (l : List Tx) (v : Value) (w : World) (hv : StrsF w (· < w.heap.size) v l) (hl : (elT l).length ≤ 100000000) (hn : l.length ≤ 100000) (ht : ∀ t ∈ l, t.length ≤ 100000) : Calls Tryz.prog 100 #[v] w fun e w' => e = .returned (str (elT l)) ∧ Below w.heap.size w w' := by
  have HL := Lib.hid hl
  have HT := Lib.hid ht
  obtain ⟨p, cap, rfl, hnc, hp⟩ := hv
  have HP := Lib.hid hp
  have hbz : (l.length : Int) ≤ 100000 := by omega
  clear hl hp hn ht
  go_enter Tryz.func100, Tryz.ntmps100
  go_wp2
  go_loopw [3, 8] (fun u i wr => ∃ (k : Nat) (p3 : Option Addr) (cap3 : Nat), i = .int .i64 k ∧ u = .slice p3 k cap3 ∧ k ≤ l.length ∧ OwnT wr w.heap.size (.slice p3 k cap3) k ((l.take k).map mkd) ∧ Below w.heap.size w wr) (fun _ i _ => l.length - (intOf i).toNat)
  case atStart => exact ⟨0, none, 0, rfl, rfl, Nat.zero_le _, ownT_nil _ _, Below.refl _ _⟩
  case round =>
    obtain ⟨k, p3, cap3, rfl, rfl, hk, hown, hb⟩ := hrel
    by_cases hlt : (k : Int) < (l.length : Int)
    · have hkl : k < l.length := by omega
      have hk0 : (0 : Int) ≤ (k : Int) := Int.natCast_nonneg _
      obtain ⟨b, o, rfl, hF, hc⟩ := HP.out (by omega)
      generalize hlk : l[k]'hkl = y at *
      have hck : wr.cell? ⟨b, o + k, none⟩ = some (str y) := (World.cell?_of_block (a := ⟨b, o + k, none⟩) (hb.block b hF)).trans (hc k _ (by rw [List.getElem?_map, List.getElem?_eq_getElem hkl, hlk]; rfl))
      have H1 := Lib.hid (marked_any y wr (hlk ▸ HT.out _ (List.getElem_mem hkl)))
      have HN := Lib.hid (show (l.take (k + 1)).map mkd = (l.take k).map mkd ++ [mkd y] by rw [map_take_snoc mkd l k hkl, hlk])
      have HB := Lib.hid hb
      have HO := Lib.hid hown
      clear hb hown hc hlk
      go_wp2_with (go_at_call 125; refine (H1.out).mono ?_)
      first | rintro e w1 rfl hb1 | rintro e w1 ⟨rfl, hb1⟩
      have HB1 := Lib.hid (HB.out.trans (hb1.mono HB.out.size))
      have HO1 := Lib.hid (HO.out.below hb1)
      clear hb1
      go_wp2_with (at_builtin; refine wl_app1 129 9 (.string ⟨#[]⟩) 1 16 par_str Tryz.underlying129 rfl (by decide) (by decide) w.heap.size (.slice p3 k cap3) k (((l.take k).map mkd).map str) rfl (World.ownsRow.alloc HO1.out _) w1.heap.size 1 [str (mkd y)] 9 (0, 0) rfl rfl (by show (w1.heap.push _)[w1.heap.size]? = _; simp) (by intro u hu; simp at hu; subst hu; rfl) (by omega) (by have := HB1.out.size; simp; omega) ?_)
      intro v' w2 ho hgr _
      obtain ⟨p', cap', rfl⟩ := own_slice ho
      have HB2 := Lib.hid (below_app HB1.out (Nat.le_refl _) hgr (fun k hk => (HO1.out.lt k hk).1))
      have HOO := Lib.hid (ownT_snoc ho)
      clear ho hgr
      go_wp2
      go_roundw
      case rel => exact ⟨k + 1, p', cap', by go_num, rfl, by omega, by rw [HN.out]; exact HOO.out, HB2.out⟩
      case measure => simp [intOf]; omega
    · obtain rfl : k = l.length := by omega
      rw [List.take_length] at hown
      have H1 := Lib.hid (joined_any [58] (l.map mkd) _ wr hown.strs HL.out (by simp; omega))
      have HB := Lib.hid hb
      clear hb hown
      go_wp2_with (go_at_call 76; refine (H1.out).mono ?_)
      first | rintro e w1 rfl hb1 | rintro e w1 ⟨rfl, hb1⟩
      have HB1 := Lib.hid (HB.out.trans (hb1.mono HB.out.size))
      clear hb1
      go_wp2
      go_ret
      exact ⟨rfl, HB1.out⟩
theorem jnT_len_le (x : Tx) (l : List Tx) (y : Tx) (h : y ∈ l) : y.length ≤ (jnT x l).length := by
  induction l with
  | nil => simp at h
  | cons z r ih =>
    simp only [jnT, List.length_append]
    rcases List.mem_cons.1 h with rfl | h
    · omega
    · have := ih h; omega
set_option maxRecDepth 100000 in
set_option maxHeartbeats 1600000 in
theorem segText_any (s : Sg) (v : Value) (w : World) (hv : ElsF w (· < w.heap.size) v s.els) (hl : (sgT s).length ≤ 100000000) (hn : s.els.length ≤ 100000 - 1) (ht : ∀ e ∈ s.els, e.length ≤ 100000 ∧ ∀ t ∈ e, t.length ≤ 100000) :
    Calls Tryz.prog 75 #[.agg #[str s.tag, v]] w fun e w' => e = .returned (str (sgT s)) ∧ Below w.heap.size w w' := by
  have HL := Lib.hid hl
  have HT := Lib.hid ht
  obtain ⟨tag, l⟩ := s
  simp only at hv hn ht HT
  obtain ⟨ys, ⟨p, cap, rfl, hnc, hp⟩, hys⟩ := hv
  have HP := Lib.hid hp
  have HYS := Lib.hid hys
  have hbz : (l.length : Int) ≤ 99999 := by omega
  clear hl hp hn ht hys
  go_enter Tryz.func75, Tryz.ntmps75
  go_wp2
  go_loopw [3, 12] (fun u i wr => ∃ (k : Nat) (p3 : Option Addr) (cap3 : Nat), i = .int .i64 k ∧ u = .slice p3 (k + 1) cap3 ∧ k ≤ l.length ∧ OwnT wr w.heap.size (.slice p3 (k + 1) cap3) (k + 1) (tag :: (l.take k).map elT) ∧ Below w.heap.size w wr) (fun _ i _ => l.length - (intOf i).toNat)
  case atStart =>
    refine ⟨0, some ⟨w.heap.size + 1, 0, none⟩, 1, rfl, by simp, Nat.zero_le _, ?_, ((Below.refl _ _).alloc (Nat.le_refl _) _).alloc (by simp) _⟩
    refine ⟨rfl, Or.inr ⟨w.heap.size + 1, 1, #[str tag], rfl, by omega, ?_, by simp, by unfold maxLen; omega, rfl, rfl⟩⟩
    have := at_last0 (w.alloc (.cells #[str tag, .slice p l.length cap] 112)) (.cells #[str tag] 9)
    simpa using this
  case round =>
    obtain ⟨k, p3, cap3, rfl, rfl, hk, hown, hb⟩ := hrel
    by_cases hlt : (k : Int) < (l.length : Int)
    · have hkl : k < l.length := by omega
      have hk0 : (0 : Int) ≤ (k : Int) := Int.natCast_nonneg _
      obtain ⟨b, o, rfl, hF, hc⟩ := HP.out (by omega)
      obtain ⟨ve, hve1, hve2⟩ := HYS.out.get k hkl
      have HTK := Lib.hid (HT.out _ (List.getElem_mem hkl))
      have hlen0 : (elT (l[k]'hkl)).length ≤ 100000000 := by
        have h1 := jnT_len_le [43] (l.map elT) (elT (l[k]'hkl)) (List.mem_map_of_mem (List.getElem_mem hkl))
        have h2 := HL.out
        simp only [sgT, jn, List.length_append] at h2
        omega
      generalize hlk : l[k]'hkl = y at *
      have hck : wr.cell? ⟨b, o + k, none⟩ = some ve := (World.cell?_of_block (a := ⟨b, o + k, none⟩) (hb.block b hF)).trans (hc k _ hve1)
      obtain ⟨py, capy, rfl, hncy, hpy⟩ := hve2
      have H1 := Lib.hid (elemText_any y (.slice py y.length capy) wr (StrsF.below ⟨py, capy, rfl, hncy, hpy⟩ hb) hlen0 HTK.out.1 HTK.out.2)
      have HN := Lib.hid (show tag :: (l.take (k + 1)).map elT = (tag :: (l.take k).map elT) ++ [elT y] by rw [map_take_snoc elT l k hkl, hlk]; rfl)
      have HB := Lib.hid hb
      have HO := Lib.hid hown
      clear hb hown hc hlk hpy hve1 hlen0 hncy
      go_wp2_with (go_at_call 100; refine (H1.out).mono ?_)
      first | rintro e w1 rfl hb1 | rintro e w1 ⟨rfl, hb1⟩
      have HB1 := Lib.hid (HB.out.trans (hb1.mono HB.out.size))
      have HO1 := Lib.hid (HO.out.below hb1)
      clear hb1
      go_wp2_with (at_builtin; refine wl_app1 129 9 (.string ⟨#[]⟩) 1 16 par_str Tryz.underlying129 rfl (by decide) (by decide) w.heap.size (.slice p3 (k + 1) cap3) (k + 1) ((tag :: (l.take k).map elT).map str) rfl (World.ownsRow.alloc HO1.out _) w1.heap.size 1 [str (elT y)] 9 (0, 0) rfl rfl (at_last0 _ _) (by intro u hu; simp at hu; subst hu; rfl) (by omega) (by have := HB1.out.size; simp; omega) ?_)
      intro v' w2 ho hgr _
      obtain ⟨p', cap', rfl⟩ := own_slice ho
      have HB2 := Lib.hid (below_app HB1.out (Nat.le_refl _) hgr (fun k hk => (HO1.out.lt k hk).1))
      have HOO := Lib.hid (ownT_snoc ho)
      clear ho hgr
      go_wp2
      go_roundw
      case rel => exact ⟨k + 1, p', cap', by go_num, rfl, by omega, by rw [HN.out]; exact HOO.out, HB2.out⟩
      case measure => simp [intOf]; omega
    · obtain rfl : k = l.length := by omega
      rw [List.take_length] at hown
      have H1 := Lib.hid (joined_any [43] (tag :: l.map elT) _ wr hown.strs HL.out (by simp; omega))
      have HB := Lib.hid hb
      clear hb hown
      go_wp2_with (go_at_call 76; refine (H1.out).mono ?_)
      first | rintro e w1 rfl hb1 | rintro e w1 ⟨rfl, hb1⟩
      have HB1 := Lib.hid (HB.out.trans (hb1.mono HB.out.size))
      clear hb1
      go_wp2
      go_ret
      exact ⟨rfl, HB1.out⟩
end Go.Proofs.YtgaoeljdlpemnaaGreatDoor
/- Contract of edi.textOf. -/
namespace Go.Proofs.YtgaoeljdlpemnaaGreatDoor
open Go.RowKit Go.Edi

/-- some things are appended to a row of one's own -/
theorem wl_appm {ops : Array Oper} {rest : List Oper} {a : Act} {w : World} {Q : Exit → Act → World → Prop} {dst : Tmp} {s x : Operand} {typ : TypeId} {pos : String} {after : Array Edge}
    (t e : TypeId) (z : Value) (size bytes : Nat) (hpar : (Tryz.prog.info? e).map (fun i => (i.zero, i.size, i.bytes)) = some (some z, size, bytes)) (ht : Tryz.prog.underlying t = some (.slice e)) (hzs : z.cells.size = size) (hsz : 0 < size) (hby : bytes ≤ 100)
    (base : Nat) (v : Value) (n : Nat) (xs : List Value) (hs : a.eval s = v) (hown : w.ownsRow base e size v n xs) (m : Nat) (hm : m ≤ 1000) (g c : Nat) (news : List Value) (T : TypeId) (fr : Nat × Nat) (hx : a.eval x = .slice (some ⟨g, 0, none⟩) m c) (hl : news.length = m * size) (hg : w.heap[g]? = some (.cells news.toArray T fr)) (h1 : ∀ u ∈ news, u.oneCell' = true) (hn : n ≤ 1000000000) (hbase : base ≤ w.heap.size)
    (h : ∀ v' w', w'.ownsRow base e size v' (n + m) (xs ++ news) → w.grownBy w' v.ownBlock → (v'.ownBlock = v.ownBlock ∨ v'.ownBlock = some w.heap.size) → wpList Tryz.prog ops Q rest (a.put (some dst) v') w') :
    wpList Tryz.prog ops Q (⟨some dst, .call { callee := .builtin .append, args := #[s, x], argTypes := #[t, t] }, typ, pos, after, none⟩ :: rest) a w := by
  refine wpList_plain rfl fun K hK => ?_
  obtain ⟨i0, hi0, hz0, hz1, hz2⟩ := info_parts hpar
  obtain ⟨v', w', hr, a2, a3, _, a5⟩ := run_append_own_at (P := Tryz.prog) w base t typ e i0 z size bytes ht hi0 hz0 hz1 hz2 hzs hsz v n xs hown ⟨g, 0, none⟩ m c news hl
    (fun j u hu => by
      have : w.cell? ⟨g, j, none⟩ = news.toArray[j]? := by simp [World.cell?, hg]
      rw [Addr.add_mid, Nat.zero_add, this]; simpa using hu) h1 (by unfold maxLen; omega) (by
        have := Nat.mul_le_mul (show n + m ≤ 1000001000 by omega) hby
        omega) hbase
  unfold Oper.wp execOp
  simp only [resolve, invoke, builtin, Sem.run_bind, Sem.run_pure, Result.andThen_ok, List.map_toArray, List.map_cons, List.map_nil, hs, hx, hr]
  exact hK _ _ (h v' w' a2 a3 a5)
def prs : List Sg → List Tx
  | [] => []
  | s :: r => sgT s :: [39] :: prs r
theorem prs_app (a b : List Sg) : prs (a ++ b) = prs a ++ prs b := by
  induction a with
  | nil => rfl
  | cons s r ih => simp [prs, ih]
theorem prs_len (l : List Sg) : (prs l).length = 2 * l.length := by
  induction l with
  | nil => rfl
  | cons s r ih => simp [prs, ih]; omega
theorem jn_prs (l : List Sg) : jn [] (prs l) = txT l := by
  have h : ∀ l : List Sg, jnT [] (prs l) = txT l := by
    intro l
    induction l with
    | nil => rfl
    | cons s r ih => simp [prs, jnT, txT, ih]
  match l with
  | [] => rfl
  | s :: r => simp [prs, jn, jnT, txT, h r]
/-- segments whose text can be made -/
def fits (l : List Sg) : Prop := l.length ≤ 10000 ∧ (txT l).length ≤ 100000000 ∧ ∀ s ∈ l, s.els.length ≤ 99999 ∧ ∀ e ∈ s.els, e.length ≤ 100000 ∧ ∀ t ∈ e, t.length ≤ 100000
theorem txT_mem (l : List Sg) (s : Sg) (h : s ∈ l) : (sgT s).length ≤ (txT l).length := by
  induction l with
  | nil => simp at h
  | cons z r ih =>
    simp only [txT, List.length_append, List.length_cons]
    rcases List.mem_cons.1 h with rfl | h
    · omega
    · have := ih h; omega
theorem ElsF.below {w w' : World} {v : Value} {l : List (List Tx)} (h : ElsF w (· < w.heap.size) v l) (hb : Below w.heap.size w w') : ElsF w' (· < w'.heap.size) v l :=
  h.kept (fun b hb2 => ⟨by have := hb.size; show b < _; omega, hb.block b hb2⟩)
theorem SegsF.below {w w' : World} {v : Value} {l : List Sg} (h : SegsF w (· < w.heap.size) v l) (hb : Below w.heap.size w w') : SegsF w' (· < w'.heap.size) v l :=
  h.kept (fun b hb2 => ⟨by have := hb.size; show b < _; omega, hb.block b hb2⟩)
theorem seg_cells {w wr : World} {F : Nat → Prop} {b o k : Nat} {xs : List Value} {l : List Sg} (hc : ∀ j u, xs[j]? = some u → w.cell? ⟨b, o + j, none⟩ = some u) (hs : SgC w F l xs) (hb : wr.heap[b]? = w.heap[b]?) (hk : k < l.length) :
    wr.cell? ⟨b, o + k * 2, none⟩ = some (str l[k].tag) ∧ ∃ p cap ys, wr.cell? ⟨b, o + k * 2 + 1, none⟩ = some (.slice p l[k].els.length cap) ∧ l[k].els.length ≤ cap ∧ RowF w F (.slice p l[k].els.length cap) l[k].els.length ys ∧ ElC w F l[k].els ys := by
  obtain ⟨h1, ve, h2, ys, h3, h4⟩ := hs.get k hk
  have hw := h3
  obtain ⟨p, cap, rfl, h5, _⟩ := h3
  refine ⟨(World.cell?_of_block (a := ⟨b, o + k * 2, none⟩) hb).trans (by rw [Nat.mul_comm]; exact hc _ _ h1), p, cap, ys, (World.cell?_of_block (a := ⟨b, o + k * 2 + 1, none⟩) hb).trans (by rw [Nat.mul_comm]; exact hc _ _ h2), h5, hw, h4⟩
theorem old_kept {B : Nat} {w w' : World} (hb : Below B w w') (hB : w.heap.size ≤ B) : Kp (· < w.heap.size) (· < w'.heap.size) w w' := fun b h => ⟨by have := hb.size; show b < _; simp only at h; omega, hb.block b (by simp only at h; omega)⟩
set_option maxRecDepth 100000 in
set_option maxHeartbeats 1600000 in
theorem textOf_any (l : List Sg) (v : Value) (w : World) (hv : SegsF w (· < w.heap.size) v l) (hfit : fits l) :
    Calls Tryz.prog 47 #[v] w fun e w' => e = .returned (str (txT l)) ∧ Below w.heap.size w w' := by
  have HF := Lib.hid hfit
  obtain ⟨xs, ⟨p, cap, rfl, hnc, hp⟩, hxs⟩ := hv
  have HP := Lib.hid hp
  have HXS := Lib.hid hxs
  have hbz : (l.length : Int) ≤ 10000 := by have := hfit.1; omega
  clear hp hxs hfit
  go_enter Tryz.func47, Tryz.ntmps47
  go_wp2
  go_loopw [3, 8] (fun u i wr => ∃ (k : Nat) (p3 : Option Addr) (cap3 : Nat), i = .int .i64 k ∧ u = .slice p3 (2 * k) cap3 ∧ k ≤ l.length ∧ OwnT wr w.heap.size (.slice p3 (2 * k) cap3) (2 * k) (prs (l.take k)) ∧ Below w.heap.size w wr) (fun _ i _ => l.length - (intOf i).toNat)
  case atStart => exact ⟨0, none, 0, rfl, rfl, Nat.zero_le _, ownT_nil _ _, Below.refl _ _⟩
  case round =>
    obtain ⟨k, p3, cap3, rfl, rfl, hk, hown, hb⟩ := hrel
    by_cases hlt : (k : Int) < (l.length : Int)
    · have hkl : k < l.length := by omega
      have hk0 : (0 : Int) ≤ (k : Int) := Int.natCast_nonneg _
      obtain ⟨b, o, rfl, hF, hc⟩ := HP.out (by omega)
      obtain ⟨hc1, pe, cape, ys, hc2, hnce, hrow, hel⟩ := seg_cells hc HXS.out (hb.block b hF) hkl
      have HFK := Lib.hid (HF.out.2.2 _ (List.getElem_mem hkl))
      have HSL := Lib.hid (show (sgT (l[k]'hkl)).length ≤ 100000000 from Nat.le_trans (txT_mem l _ (List.getElem_mem hkl)) HF.out.2.1)
      have HN := Lib.hid (show prs (l.take (k + 1)) = prs (l.take k) ++ [sgT (l[k]'hkl), [39]] by rw [← List.take_append_getElem hkl, prs_app]; rfl)
      generalize l[k]'hkl = y at *
      have hb' := hb.alloc hb.size (.cells #[str y.tag, .slice pe y.els.length cape] 112)
      have H1 := Lib.hid (segText_any y (.slice pe y.els.length cape) _ (ElsF.kept ⟨ys, hrow, hel⟩ (old_kept hb' (Nat.le_refl _))) HSL.out HFK.out.1 HFK.out.2)
      have HB := Lib.hid hb'
      have HO := Lib.hid (World.ownsRow.alloc hown (.cells #[str y.tag, .slice pe y.els.length cape] 112))
      clear hb hb' hown hc hrow hel
      go_wp2_with (go_at_call 75; refine (H1.out).mono ?_)
      first | rintro e w1 rfl hb1 | rintro e w1 ⟨rfl, hb1⟩
      have HB1 := Lib.hid (HB.out.trans (hb1.mono HB.out.size))
      have HO1 := Lib.hid (OwnT.below HO.out hb1)
      clear hb1
      go_wp2_with (at_builtin; refine wl_appm 129 9 (.string ⟨#[]⟩) 1 16 par_str Tryz.underlying129 rfl (by decide) (by decide) w.heap.size (.slice p3 (2 * k) cap3) (2 * k) ((prs (l.take k)).map str) rfl (World.ownsRow.alloc HO1.out _) 2 (by decide) w1.heap.size 2 [str (sgT y), str [39]] 9 (0, 0) rfl rfl (at_last0 _ _) (by intro u hu; simp at hu; rcases hu with rfl | rfl <;> rfl) (by omega) (by have := HB1.out.size; simp; omega) ?_)
      intro v' w2 ho hgr _
      obtain ⟨p', cap', rfl⟩ := own_slice ho
      have HB2 := Lib.hid (below_app HB1.out (Nat.le_refl _) hgr (fun k hk => (HO1.out.lt k hk).1))
      have HOO := Lib.hid (show OwnT w2 w.heap.size (.slice p' (2 * k + 2) cap') (2 * k + 2) (prs (l.take k) ++ [sgT y, [39]]) by unfold OwnT; rw [List.map_append]; exact ho)
      clear ho hgr
      go_wp2
      go_roundw
      case rel => exact ⟨k + 1, p', cap', by go_num, rfl, by omega, by rw [HN.out]; exact HOO.out, HB2.out⟩
      case measure => simp [intOf]; omega
    · obtain rfl : k = l.length := by omega
      rw [List.take_length] at hown
      have H1 := Lib.hid (joined_any [] (prs l) _ wr hown.strs (by rw [jn_prs]; exact HF.out.2.1) (by rw [prs_len]; omega))
      have HB := Lib.hid hb
      clear hb hown
      go_wp2_with (go_at_call 76; refine (H1.out).mono ?_)
      first | rintro e w1 rfl hb1 | rintro e w1 ⟨rfl, hb1⟩
      have HB1 := Lib.hid (HB.out.trans (hb1.mono HB.out.size))
      clear hb1
      go_wp2
      go_ret
      rw [jn_prs]
      exact ⟨rfl, HB1.out⟩
end Go.Proofs.YtgaoeljdlpemnaaGreatDoor
namespace Go.Proofs.YtgaoeljdlpemnaaGreatDoor
open Go.RowKit Go.Edi

theorem isTag_at (t : Tx) (h : t.length = 3) (h0 : 0 < (tx t).size) (h1 : 1 < (tx t).size) (h2 : 2 < (tx t).size) : isTag t = (tgc ((tx t)[0]'h0) && tgc ((tx t)[1]'h1) && tgc ((tx t)[2]'h2)) := by
  match t, h with
  | [a, b, c], _ => rfl
theorem isTag_no (t : Tx) (h : ¬ t.length = 3) : isTag t = false := by
  unfold isTag
  split
  · simp at h
  · rfl
set_option maxRecDepth 100000 in
set_option maxHeartbeats 800000 in
theorem isTag_any (t : Tx) (w : World) : Calls Tryz.prog 72 #[str t] w fun e w' => e = .returned (.bool (isTag t)) ∧ w = w' := by
  have hsz : (tx t).size = t.length := by simp [tx, ByteArray.size]
  by_cases h3 : (t.length : Int) = 3
  · have g0 : 0 < (tx t).size := by omega
    have g1 : 1 < (tx t).size := by omega
    have g2 : 2 < (tx t).size := by omega
    rw [isTag_at t (by omega) g0 g1 g2]
    have q1 := isOfTag_any ((tx t)[0]'g0)
    have q2 := isOfTag_any ((tx t)[1]'g1)
    have q3 := isOfTag_any ((tx t)[2]'g2)
    have hS : (tx t).size = 3 := by omega
    by_cases ha : tgc ((tx t)[0]'g0) = true
    · rw [ha] at q1 ⊢
      by_cases hb : tgc ((tx t)[1]'g1) = true
      · rw [hb] at q2 ⊢
        go_enter Tryz.func72, Tryz.ntmps72
        go_wp2_with (first
          | (go_at_call 98; with_reducible refine (q1 _).mono ?_; rintro e w' ⟨rfl, rfl⟩)
          | (go_at_call 98; with_reducible refine (q2 _).mono ?_; rintro e w' ⟨rfl, rfl⟩)
          | (go_at_call 98; with_reducible refine (q3 _).mono ?_; rintro e w' ⟨rfl, rfl⟩))
        all_goals (go_ret; exact ⟨ret_bool (by simp), rfl⟩)
      · rw [show tgc ((tx t)[1]'g1) = false by simpa using hb] at q2 ⊢
        go_enter Tryz.func72, Tryz.ntmps72
        go_wp2_with (first
          | (go_at_call 98; with_reducible refine (q1 _).mono ?_; rintro e w' ⟨rfl, rfl⟩)
          | (go_at_call 98; with_reducible refine (q2 _).mono ?_; rintro e w' ⟨rfl, rfl⟩))
        all_goals (go_ret; exact ⟨ret_bool (by simp), rfl⟩)
    · rw [show tgc ((tx t)[0]'g0) = false by simpa using ha] at q1 ⊢
      go_enter Tryz.func72, Tryz.ntmps72
      go_wp2_with (go_at_call 98; with_reducible refine (q1 _).mono ?_; rintro e w' ⟨rfl, rfl⟩)
      all_goals (go_ret; exact ⟨ret_bool (by simp), rfl⟩)
  · rw [isTag_no t (by omega)]
    go_enter Tryz.func72, Tryz.ntmps72
    go_wp2
    go_ret
    exact ⟨rfl, rfl⟩
theorem all_snoc {α : Type} (f : α → Bool) (l : List α) (k : Nat) (h : k < l.length) : (l.take (k + 1)).all f = ((l.take k).all f && f l[k]) := by
  rw [← List.take_append_getElem h, List.all_append]; simp
theorem all_false {α : Type} (f : α → Bool) (l : List α) (k : Nat) (h : k < l.length) (hf : f l[k] = false) : l.all f = false := by
  rw [Bool.eq_false_iff]
  intro e
  rw [List.all_eq_true] at e
  rw [e _ (List.getElem_mem h)] at hf
  simp at hf
set_option maxRecDepth 100000 in
set_option maxHeartbeats 1600000 in
theorem isPlainText_any (t : Tx) (w : World) (hl : t.length ≤ 1000000000000) : Calls Tryz.prog 73 #[str t] w fun e w' => e = .returned (.bool (t.all pln)) ∧ Below w.heap.size w w' := by
  have hsz : (tx t).size = t.length := by simp [tx, ByteArray.size]
  have hbz : (t.length : Int) ≤ 1000000000000 := by omega
  clear hl
  go_enter Tryz.func73, Tryz.ntmps73
  go_wp2
  go_loopw [6] (fun i wr => ∃ k : Nat, i = .int .i64 k ∧ k ≤ t.length ∧ (t.take k).all pln = true ∧ Below w.heap.size w wr) (fun i _ => t.length - (intOf i).toNat)
  case atStart => exact ⟨0, rfl, Nat.zero_le _, rfl, Below.refl _ _⟩
  case round =>
    obtain ⟨k, rfl, hk, hal, hb⟩ := hrel
    by_cases hlt : (k : Int) < (t.length : Int)
    · have hkl : k < t.length := by omega
      have hk0 : (0 : Int) ≤ (k : Int) := Int.natCast_nonneg _
      have HB := Lib.hid hb
      by_cases hp : pln t[k] = true
      · have hq := isPlain_any t[k]
        rw [hp] at hq
        have HA := Lib.hid (show (t.take (k + 1)).all pln = true by rw [all_snoc _ _ _ hkl, hal, hp]; rfl)
        clear hal hb
        go_wp2_with (go_at_call 99; refine (hq _).mono ?_; rintro e w' ⟨rfl, rfl⟩)
        go_roundw
        case rel => exact ⟨k + 1, by go_num, by omega, HA.out, HB.out⟩
        case measure => simp [intOf]; omega
      · have hq := isPlain_any t[k]
        rw [show pln t[k] = false by simpa using hp] at hq
        have HA := Lib.hid (all_false pln t k hkl (by simpa using hp))
        clear hal hb
        go_wp2_with (go_at_call 99; refine (hq _).mono ?_; rintro e w' ⟨rfl, rfl⟩)
        go_ret
        exact ⟨ret_bool HA.out.symm, HB.out⟩
    · obtain rfl : k = t.length := by omega
      rw [List.take_length] at hal
      have HA := Lib.hid hal
      have HB := Lib.hid hb
      clear hal hb
      go_wp2
      go_ret
      exact ⟨ret_bool HA.out.symm, HB.out⟩
set_option maxRecDepth 100000 in
set_option maxHeartbeats 1600000 in
theorem isShortElem_any (l : List Tx) (v : Value) (w : World) (hv : StrsF w (· < w.heap.size) v l) (ht : ∀ t ∈ l, t.length ≤ 1000000000000) : Calls Tryz.prog 74 #[v] w fun e w' => e = .returned (.bool (shortE l)) ∧ Below w.heap.size w w' := by
  obtain ⟨p, cap, rfl, hnc, hp⟩ := hv
  have HP := Lib.hid hp
  have HT := Lib.hid ht
  clear hp ht
  by_cases h8 : (8 : Int) < (l.length : Int)
  · have HA := Lib.hid (show shortE l = false by unfold shortE; simp; omega)
    go_enter Tryz.func74, Tryz.ntmps74
    go_wp2
    go_ret
    exact ⟨ret_bool HA.out.symm, Below.refl _ _⟩
  · have HS := Lib.hid (show shortE l = l.all (fun c => decide (c.length ≤ 256)) by unfold shortE; rw [show decide (l.length ≤ 8) = true by simp; omega]; rfl)
    go_enter Tryz.func74, Tryz.ntmps74
    go_wp2
    go_loopw [10] (fun i wr => ∃ k : Nat, i = .int .i64 k ∧ k ≤ l.length ∧ (l.take k).all (fun c => decide (c.length ≤ 256)) = true ∧ Below w.heap.size w wr) (fun i _ => l.length - (intOf i).toNat)
    case atStart => exact ⟨0, rfl, Nat.zero_le _, rfl, Below.refl _ _⟩
    case round =>
      obtain ⟨k, rfl, hk, hal, hb⟩ := hrel
      have HB := Lib.hid hb
      by_cases hlt : (k : Int) < (l.length : Int)
      · have hkl : k < l.length := by omega
        have hk0 : (0 : Int) ≤ (k : Int) := Int.natCast_nonneg _
        obtain ⟨b, o, rfl, hF, hc⟩ := HP.out (by omega)
        have hck : wr.cell? ⟨b, o + k, none⟩ = some (str (l[k]'hkl)) := (World.cell?_of_block (a := ⟨b, o + k, none⟩) (hb.block b hF)).trans (hc k _ (by rw [List.getElem?_map, List.getElem?_eq_getElem hkl]; rfl))
        have h1 := all_snoc (fun c => decide (List.length c ≤ 256)) l k hkl
        have h2 := all_false (fun c => decide (List.length c ≤ 256)) l k hkl
        have h3 := HT.out _ (List.getElem_mem hkl)
        generalize l[k]'hkl = y at *
        have hsz : (tx y).size = y.length := by simp [tx, ByteArray.size]
        by_cases h256 : (256 : Int) < (y.length : Int)
        · have HA := Lib.hid (h2 (by simp; omega))
          clear hal hb h1 h2 hc
          go_wp2
          go_ret
          exact ⟨ret_bool (by rw [HS.out, HA.out]), HB.out⟩
        · have HA := Lib.hid (show (l.take (k + 1)).all (fun c => decide (c.length ≤ 256)) = true by rw [h1, hal]; simp; omega)
          clear hal hb h1 h2 hc
          go_wp2
          go_roundw
          case rel => exact ⟨k + 1, by go_num, by omega, HA.out, HB.out⟩
          case measure => simp [intOf]; omega
      · obtain rfl : k = l.length := by omega
        rw [List.take_length] at hal
        have HA := Lib.hid hal
        clear hal hb
        go_wp2
        go_ret
        exact ⟨ret_bool (by rw [HS.out, HA.out]), HB.out⟩
end Go.Proofs.YtgaoeljdlpemnaaGreatDoor
