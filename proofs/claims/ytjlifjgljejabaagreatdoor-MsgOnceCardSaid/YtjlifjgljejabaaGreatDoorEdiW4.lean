/- Contract of edi.textOf. -/
import Derived.Test.YtjlifjgljejabaaGreatDoorEdiW3
namespace Go.Proofs.YtjlifjgljejabaaGreatDoor
open Go.RowKit Go.Edi

/-- some things are appended to a row of one's own -/
theorem wl_appm {ops : Array Oper} {rest : List Oper} {a : Act} {w : World} {Q : Exit → Act → World → Prop} {dst : Tmp} {s x : Operand} {typ : TypeId} {pos : String} {after : Array Edge}
    (t e : TypeId) (z : Value) (size bytes : Nat) (hpar : (Tryz.prog.info? e).map (fun i => (i.zero, i.size, i.bytes)) = some (some z, size, bytes)) (ht : Tryz.prog.underlying t = some (.slice e)) (hzs : z.cells.size = size) (hsz : 0 < size) (hby : bytes ≤ 100)
    (base : Nat) (v : Value) (n : Nat) (xs : List Value) (hs : a.eval s = v) (hown : w.ownsRow base e size v n xs) (m : Nat) (hm : m ≤ 1000) (g c : Nat) (news : List Value) (T : TypeId) (fr : Nat × Nat) (hx : a.eval x = .slice (some ⟨g, 0, none⟩) m c) (hl : news.length = m * size) (hg : w.heap[g]? = some (.cells news.toArray T fr)) (h1 : ∀ u ∈ news, u.oneCell' = true) (hn : n ≤ 1000000000) (hbase : base ≤ w.heap.size)
    (h : ∀ v' w', w'.ownsRow base e size v' (n + m) (xs ++ news) → w.grownBy w' v.ownBlock → (v'.ownBlock = v.ownBlock ∨ v'.ownBlock = some w.heap.size) → wpList Tryz.prog ops Q rest (a.put (some dst) v') w') :
    wpList Tryz.prog ops Q (⟨some dst, .call { callee := .builtin .append, args := #[s, x], argTypes := #[t, t] }, typ, pos, after, none⟩ :: rest) a w := by
  refine wpList_plain rfl fun K hK => ?_
  obtain ⟨i0, hi0, hz0, hz1, hz2⟩ := info_parts hpar
  obtain ⟨v', w', hr, a2, a3, _, a5⟩ := run_append_own_at (P := Tryz.prog) w base t typ e i0 z size bytes ht hi0 hz0 hz1 hz2 hzs hsz v n xs hown ⟨g, 0, none⟩ m c news hl
    (fun j u hu => by
      have : w.cell? ⟨g, j, none⟩ = news.toArray[j]? := by simp [World.cell?, hg]
      rw [Addr.add_mid, Nat.zero_add, this]; simpa using hu) h1 (by unfold maxLen; omega) (by
        have := Nat.mul_le_mul (show n + m ≤ 1000001000 by omega) hby
        omega) hbase
  unfold Oper.wp execOp
  simp only [resolve, invoke, builtin, Sem.run_bind, Sem.run_pure, Result.andThen_ok, List.map_toArray, List.map_cons, List.map_nil, hs, hx, hr]
  exact hK _ _ (h v' w' a2 a3 a5)
def prs : List Sg → List Tx
  | [] => []
  | s :: r => sgT s :: [39] :: prs r
theorem prs_app (a b : List Sg) : prs (a ++ b) = prs a ++ prs b := by
  induction a with
  | nil => rfl
  | cons s r ih => simp [prs, ih]
theorem prs_len (l : List Sg) : (prs l).length = 2 * l.length := by
  induction l with
  | nil => rfl
  | cons s r ih => simp [prs, ih]; omega
theorem jn_prs (l : List Sg) : jn [] (prs l) = txT l := by
  have h : ∀ l : List Sg, jnT [] (prs l) = txT l := by
    intro l
    induction l with
    | nil => rfl
    | cons s r ih => simp [prs, jnT, txT, ih]
  match l with
  | [] => rfl
  | s :: r => simp [prs, jn, jnT, txT, h r]
/-- segments whose text can be made -/
def fits (l : List Sg) : Prop := l.length ≤ 10000 ∧ (txT l).length ≤ 100000000 ∧ ∀ s ∈ l, s.els.length ≤ 99999 ∧ ∀ e ∈ s.els, e.length ≤ 100000 ∧ ∀ t ∈ e, t.length ≤ 100000
theorem txT_mem (l : List Sg) (s : Sg) (h : s ∈ l) : (sgT s).length ≤ (txT l).length := by
  induction l with
  | nil => simp at h
  | cons z r ih =>
    simp only [txT, List.length_append, List.length_cons]
    rcases List.mem_cons.1 h with rfl | h
    · omega
    · have := ih h; omega
theorem ElsF.below {w w' : World} {v : Value} {l : List (List Tx)} (h : ElsF w (· < w.heap.size) v l) (hb : Below w.heap.size w w') : ElsF w' (· < w'.heap.size) v l :=
  h.kept (fun b hb2 => ⟨by have := hb.size; show b < _; omega, hb.block b hb2⟩)
theorem SegsF.below {w w' : World} {v : Value} {l : List Sg} (h : SegsF w (· < w.heap.size) v l) (hb : Below w.heap.size w w') : SegsF w' (· < w'.heap.size) v l :=
  h.kept (fun b hb2 => ⟨by have := hb.size; show b < _; omega, hb.block b hb2⟩)
theorem seg_cells {w wr : World} {F : Nat → Prop} {b o k : Nat} {xs : List Value} {l : List Sg} (hc : ∀ j u, xs[j]? = some u → w.cell? ⟨b, o + j, none⟩ = some u) (hs : SgC w F l xs) (hb : wr.heap[b]? = w.heap[b]?) (hk : k < l.length) :
    wr.cell? ⟨b, o + k * 2, none⟩ = some (str l[k].tag) ∧ ∃ p cap ys, wr.cell? ⟨b, o + k * 2 + 1, none⟩ = some (.slice p l[k].els.length cap) ∧ l[k].els.length ≤ cap ∧ RowF w F (.slice p l[k].els.length cap) l[k].els.length ys ∧ ElC w F l[k].els ys := by
  obtain ⟨h1, ve, h2, ys, h3, h4⟩ := hs.get k hk
  have hw := h3
  obtain ⟨p, cap, rfl, h5, _⟩ := h3
  refine ⟨(World.cell?_of_block (a := ⟨b, o + k * 2, none⟩) hb).trans (by rw [Nat.mul_comm]; exact hc _ _ h1), p, cap, ys, (World.cell?_of_block (a := ⟨b, o + k * 2 + 1, none⟩) hb).trans (by rw [Nat.mul_comm]; exact hc _ _ h2), h5, hw, h4⟩
theorem old_kept {B : Nat} {w w' : World} (hb : Below B w w') (hB : w.heap.size ≤ B) : Kp (· < w.heap.size) (· < w'.heap.size) w w' := fun b h => ⟨by have := hb.size; show b < _; simp only at h; omega, hb.block b (by simp only at h; omega)⟩
set_option maxRecDepth 100000 in
set_option maxHeartbeats 1600000 in
theorem textOf_any (l : List Sg) (v : Value) (w : World) (hv : SegsF w (· < w.heap.size) v l) (hfit : fits l) :
    Calls Tryz.prog 59 #[v] w fun e w' => e = .returned (str (txT l)) ∧ Below w.heap.size w w' := by
  have HF := Lib.hid hfit
  obtain ⟨xs, ⟨p, cap, rfl, hnc, hp⟩, hxs⟩ := hv
  have HP := Lib.hid hp
  have HXS := Lib.hid hxs
  have hbz : (l.length : Int) ≤ 10000 := by have := hfit.1; omega
  clear hp hxs hfit
  go_enter Tryz.func59, Tryz.ntmps59
  go_wp2
  go_loopw [3, 8] (fun u i wr => ∃ (k : Nat) (p3 : Option Addr) (cap3 : Nat), i = .int .i64 k ∧ u = .slice p3 (2 * k) cap3 ∧ k ≤ l.length ∧ OwnT wr w.heap.size (.slice p3 (2 * k) cap3) (2 * k) (prs (l.take k)) ∧ Below w.heap.size w wr) (fun _ i _ => l.length - (intOf i).toNat)
  case atStart => exact ⟨0, none, 0, rfl, rfl, Nat.zero_le _, ownT_nil _ _, Below.refl _ _⟩
  case round =>
    obtain ⟨k, p3, cap3, rfl, rfl, hk, hown, hb⟩ := hrel
    by_cases hlt : (k : Int) < (l.length : Int)
    · have hkl : k < l.length := by omega
      have hk0 : (0 : Int) ≤ (k : Int) := Int.natCast_nonneg _
      obtain ⟨b, o, rfl, hF, hc⟩ := HP.out (by omega)
      obtain ⟨hc1, pe, cape, ys, hc2, hnce, hrow, hel⟩ := seg_cells hc HXS.out (hb.block b hF) hkl
      have HFK := Lib.hid (HF.out.2.2 _ (List.getElem_mem hkl))
      have HSL := Lib.hid (show (sgT (l[k]'hkl)).length ≤ 100000000 from Nat.le_trans (txT_mem l _ (List.getElem_mem hkl)) HF.out.2.1)
      have HN := Lib.hid (show prs (l.take (k + 1)) = prs (l.take k) ++ [sgT (l[k]'hkl), [39]] by rw [← List.take_append_getElem hkl, prs_app]; rfl)
      generalize l[k]'hkl = y at *
      have hb' := hb.alloc hb.size (.cells #[str y.tag, .slice pe y.els.length cape] 59)
      have H1 := Lib.hid (segText_any y (.slice pe y.els.length cape) _ (ElsF.kept ⟨ys, hrow, hel⟩ (old_kept hb' (Nat.le_refl _))) HSL.out HFK.out.1 HFK.out.2)
      have HB := Lib.hid hb'
      have HO := Lib.hid (World.ownsRow.alloc hown (.cells #[str y.tag, .slice pe y.els.length cape] 59))
      clear hb hb' hown hc hrow hel
      go_wp2_with (go_at_call 87; refine (H1.out).mono ?_)
      first | rintro e w1 rfl hb1 | rintro e w1 ⟨rfl, hb1⟩
      have HB1 := Lib.hid (HB.out.trans (hb1.mono HB.out.size))
      have HO1 := Lib.hid (OwnT.below HO.out hb1)
      clear hb1
      go_wp2_with (at_builtin; refine wl_appm 62 9 (.string ⟨#[]⟩) 1 16 par_str Tryz.underlying62 rfl (by decide) (by decide) w.heap.size (.slice p3 (2 * k) cap3) (2 * k) ((prs (l.take k)).map str) rfl (World.ownsRow.alloc HO1.out _) 2 (by decide) w1.heap.size 2 [str (sgT y), str [39]] 9 (0, 0) rfl rfl (at_last0 _ _) (by intro u hu; simp at hu; rcases hu with rfl | rfl <;> rfl) (by omega) (by have := HB1.out.size; simp; omega) ?_)
      intro v' w2 ho hgr _
      obtain ⟨p', cap', rfl⟩ := own_slice ho
      have HB2 := Lib.hid (below_app HB1.out (Nat.le_refl _) hgr (fun k hk => (HO1.out.lt k hk).1))
      have HOO := Lib.hid (show OwnT w2 w.heap.size (.slice p' (2 * k + 2) cap') (2 * k + 2) (prs (l.take k) ++ [sgT y, [39]]) by unfold OwnT; rw [List.map_append]; exact ho)
      clear ho hgr
      go_wp2
      go_roundw
      case rel => exact ⟨k + 1, p', cap', by go_num, rfl, by omega, by rw [HN.out]; exact HOO.out, HB2.out⟩
      case measure => simp [intOf]; omega
    · obtain rfl : k = l.length := by omega
      rw [List.take_length] at hown
      have H1 := Lib.hid (joined_any [] (prs l) _ wr hown.strs (by rw [jn_prs]; exact HF.out.2.1) (by rw [prs_len]; omega))
      have HB := Lib.hid hb
      clear hb hown
      go_wp2_with (go_at_call 88; refine (H1.out).mono ?_)
      first | rintro e w1 rfl hb1 | rintro e w1 ⟨rfl, hb1⟩
      have HB1 := Lib.hid (HB.out.trans (hb1.mono HB.out.size))
      clear hb1
      go_wp2
      go_ret
      rw [jn_prs]
      exact ⟨rfl, HB1.out⟩
end Go.Proofs.YtjlifjgljejabaaGreatDoor
