/- Contract: the example that every statement tells and reads. -/
import Derived.Test.YtjkdhdficaacaaaGreatDoorMgShelf
import Derived.Test.YtjkdhdficaacaaaGreatDoorWrapBkQ
import Derived.Test.YtjkdhdficaacaaaGreatDoorMgMb
/- A packet that is told is read as it was; two packets of one text are one (no walk). -/
namespace Go.Proofs.YtjkdhdficaacaaaGreatDoor
open Go.RowKit Go.Edi Go.Wrap

theorem mwrap_ok {p : Pk} (h : (mwrapL p).2 = 0) : p.from_ < 8 ∧ p.to_ < 8 ∧ (toldL p).2 = 0 ∧ mwrapL p = (⟨p.from_, p.to_, p.num, (toldL p).1⟩, 0) := by
  unfold mwrapL at *
  split at h
  · cases h
  · rename_i h1
    split at h
    · rename_i h2
      rw [if_neg h1, if_pos h2]
      exact ⟨by omega, by omega, h2, rfl⟩
    · rename_i h2; exact absurd h h2
theorem mwrap_bad {p : Pk} (h : ¬ (mwrapL p).2 = 0) : (mwrapL p).1 = Wr.nil := by
  unfold mwrapL at *
  split
  · rfl
  · rename_i h1
    split
    · rename_i h2; rw [if_neg h1, if_pos h2] at h; exact absurd rfl h
    · rfl
theorem pack_told {p : Pk} (hp : p.Ty) (h : (mwrapL p).2 = 0) : packL (mwrapL p).1 = (p, 0) := by
  obtain ⟨h1, h2, h3, h4⟩ := mwrap_ok h
  rw [h4]
  obtain ⟨f, t, n, k, m⟩ := p
  simp only at h1 h2 h3 ⊢
  unfold packL
  rw [if_neg (by simp only; omega)]
  cases k with
  | true =>
    unfold toldL at h3 ⊢
    simp only [if_true] at h3 ⊢
    split at h3
    · rename_i hz
      rw [if_pos hz, hz]
      rfl
    · cases h3
  | false =>
    have e : toldL ⟨f, t, n, false, m⟩ = toldMs m := rfl
    rw [e] at h3 ⊢
    obtain ⟨s, r, hl, htg, hrd⟩ := read_told (m := m) (l := (toldMs m).1) hp.m (Prod.ext rfl h3)
    rw [hl]
    simp only
    rw [if_neg (by rw [htg]; decide), hrd]
theorem mtext_parse {p : Pk} (hp : p.Ty) (h : (mtextL p).2 = 0) : mparseL (mtextL p).1 = (p, 0) := by
  unfold mtextL at h ⊢
  split at h
  · rename_i h0
    rw [if_pos h0]
    have hr : (mwrapL p).1.ref < 18446744073709551616 := by rw [(mwrap_ok h0).2.2.2]; exact hp.num
    unfold mparseL
    rw [wback h hr]
    exact pack_told hp h0
  · rename_i h0; exact absurd h h0
theorem mtext_one {p q : Pk} (hp : p.Ty) (hq : q.Ty) (h1 : (mtextL p).2 = 0) (h2 : (mtextL q).2 = 0) (h : (mtextL p).1 = (mtextL q).1) : p = q := by
  have e1 := mtext_parse hp h1
  rw [h, mtext_parse hq h2] at e1
  exact (Prod.mk.inj e1).1.symm
theorem mtext_bad {p : Pk} (h : ¬ (mwrapL p).2 = 0) : mtextL p = ([], (mwrapL p).2) := by unfold mtextL; rw [if_neg h]
end Go.Proofs.YtjkdhdficaacaaaGreatDoor
/- Contract: the example that every statement tells and reads. -/
namespace Go.Proofs.YtjkdhdficaacaaaGreatDoor
open Go.RowKit Go.Edi Go.Wrap Go.Lib

def exP : Pk := ⟨1, 2, 7, false, ⟨1, 1, 1, 0, 0, 0, 0, 0, 0, 0, 0, 0⟩⟩
def exQ : Pk := ⟨2, 1, 7, true, .zero⟩
def exA : Tx := [85, 78, 66, 43, 49, 43, 50, 43, 55, 39, 77, 83, 71, 43, 49, 39, 75, 69, 89, 43, 48, 48, 49, 48, 48, 48, 48, 48, 48, 48, 48, 48, 49, 53, 43, 48, 39, 85, 78, 90, 43, 50, 43, 55, 39]
def exB : Tx := [85, 78, 66, 43, 50, 43, 49, 43, 55, 39, 65, 67, 75, 39, 85, 78, 90, 43, 49, 43, 55, 39]
theorem sd0 : sdig 0 = [48] := by show Lib.itoa 0 = _; unfold Lib.itoa; rw [if_neg (by decide)]; exact digs_small (by omega)
theorem sd1 : sdig 1 = [49] := by show Lib.itoa 1 = _; unfold Lib.itoa; rw [if_neg (by decide)]; exact digs_small (by omega)
theorem nt11 : Number.textL 1 1 = ([48, 48, 49, 48, 48, 48, 48, 48, 48, 48, 48, 48, 49, 53], 0) := by kernel_rfl
theorem ex_ty : exP.Ty := ⟨by decide, by decide, by decide, ⟨by decide, by decide, by decide, by decide, by decide, by decide, by decide, by decide, by decide, by decide, by decide, by decide⟩⟩
theorem ex_wrap : mwrapL exP = (⟨1, 2, 7, [sgL kindT [[49]], sgL keyT [[48, 48, 49, 48, 48, 48, 48, 48, 48, 48, 48, 48, 49, 53], [48]]]⟩, 0) := by
  have e : toldL exP = ([sgL kindT [[49]], sgL keyT [[48, 48, 49, 48, 48, 48, 48, 48, 48, 48, 48, 48, 49, 53], [48]]], 0) := by
    show toldMs ⟨1, 1, 1, 0, 0, 0, 0, 0, 0, 0, 0, 0⟩ = _
    unfold toldMs
    show (if (Number.textL 1 1).2 = 0 then (if mayL ⟨1, 1, 1, 0, 0, 0, 0, 0, 0, 0, 0, 0⟩ [] then (sgL kindT [sdig 1] :: sgL keyT [(Number.textL 1 1).1, sdig 0] :: [], 0) else ([], 101)) else ([], (Number.textL 1 1).2)) = _
    rw [nt11, sd0, sd1, if_pos rfl, if_pos (by decide)]
  unfold mwrapL
  rw [if_neg (by decide), e, if_pos rfl]
  rfl
theorem ex_text : mtextL exP = (exA, 0) := by
  unfold mtextL
  rw [ex_wrap, if_pos rfl]
  have h1 : digs 1 = [49] := digs_small (by omega)
  have h2 : digs 2 = [50] := digs_small (by omega)
  have h7 : digs 7 = [55] := digs_small (by omega)
  unfold wprintL
  rw [if_neg (by decide), if_neg (by decide)]
  show printL (Sg.mk [85, 78, 66] [[digs 1], [digs 2], [digs 7]] :: ([sgL kindT [[49]], sgL keyT [[48, 48, 49, 48, 48, 48, 48, 48, 48, 48, 48, 48, 49, 53], [48]]] ++ [Sg.mk [85, 78, 90] [[digs 2], [digs 7]]])) = _
  rw [h1, h2, h7]
  kernel_rfl
theorem ex_parse : mparseL exB = (exQ, 0) := by
  have e : wparseL exB = (⟨2, 1, 7, [⟨[65, 67, 75], []⟩]⟩, 0) := by kernel_rfl
  unfold mparseL
  rw [e, if_pos rfl]
  rfl
end Go.Proofs.YtjkdhdficaacaaaGreatDoor
namespace Go.Proofs.YtjkdhdficaacaaaGreatDoor
open Go.RowKit Go.Edi Go.Wrap Go.Lib

theorem ex_text_any (B : Nat) (w : World) (he : Env B w) (hB : B ≤ w.heap.size) : Calls Tryz.prog 23 #[.agg (pkV exP)] w (TextP (exA, 0) w) := by
  have h := mtext_any exP B w ex_ty he hB
  rw [ex_text] at h
  exact h
theorem ex_parse_any (B : Nat) (w : World) (he : Env B w) (hB : B ≤ w.heap.size) : Calls Tryz.prog 25 #[str exB] w (PackP (exQ, 0) w) := by
  have h := mparse_any exB B w he hB
  rw [ex_parse] at h
  exact h
set_option maxRecDepth 100000 in
set_option maxHeartbeats 3200000 in
theorem tells_any (B : Nat) (w : World) (he : Env B w) (hB : B ≤ w.heap.size) : Calls Tryz.prog 18 #[] w fun e w' => e = .returned (.bool true) ∧ Below w.heap.size w w' := by
  have HT := Lib.hid (show ∀ W, Below w.heap.size w W → Calls Tryz.prog 23 #[.agg #[.int .u8 1, .int .u8 2, .bool false, .int .u64 7, .int .u8 1, .int .u8 1, .int .u64 1, .int .u8 0, .int .u8 0, .int .u16 0, .int .u32 0, .int .i64 0, .int .u8 0, .int .u32 0, .int .i64 0, .int .i64 0]] W (fun e w' => e = .returned (.tuple #[.string { data := #[85, 78, 66, 43, 49, 43, 50, 43, 55, 39, 77, 83, 71, 43, 49, 39, 75, 69, 89, 43, 48, 48, 49, 48, 48, 48, 48, 48, 48, 48, 48, 48, 49, 53, 43, 48, 39, 85, 78, 90, 43, 50, 43, 55, 39] }, .int .i64 0]) ∧ Below W.heap.size W w') from fun W h => ex_text_any B W (he.on (h.mono hB)) (Nat.le_trans hB h.size))
  have HP := Lib.hid (show ∀ W, Below w.heap.size w W → Calls Tryz.prog 25 #[.string { data := #[85, 78, 66, 43, 50, 43, 49, 43, 55, 39, 65, 67, 75, 39, 85, 78, 90, 43, 49, 43, 55, 39] }] W (fun e w' => e = .returned (.tuple #[.agg #[.int .u8 2, .int .u8 1, .bool true, .int .u64 7, .int .u8 0, .int .u8 0, .int .u64 0, .int .u8 0, .int .u8 0, .int .u16 0, .int .u32 0, .int .i64 0, .int .u8 0, .int .u32 0, .int .i64 0, .int .i64 0], .int .i64 0]) ∧ Below W.heap.size W w') from fun W h => ex_parse_any B W (he.on (h.mono hB)) (Nat.le_trans hB h.size))
  have HB0 := Lib.hid ((Below.refl w.heap.size w).alloc (Nat.le_refl _) (.cells #[.int .u8 1, .int .u8 2, .bool false, .int .u64 7, .int .u8 1, .int .u8 1, .int .u64 1, .int .u8 0, .int .u8 0, .int .u16 0, .int .u32 0, .int .i64 0, .int .u8 0, .int .u32 0, .int .i64 0, .int .i64 0] 38))
  have heq : ∀ W, (binOp .eql 38 (.agg #[.int .u8 2, .int .u8 1, .bool true, .int .u64 7, .int .u8 0, .int .u8 0, .int .u64 0, .int .u8 0, .int .u8 0, .int .u16 0, .int .u32 0, .int .i64 0, .int .u8 0, .int .u32 0, .int .i64 0, .int .i64 0]) (.agg #[.int .u8 2, .int .u8 1, .bool true, .int .u64 7, .int .u8 0, .int .u8 0, .int .u64 0, .int .u8 0, .int .u8 0, .int .u16 0, .int .u32 0, .int .i64 0, .int .u8 0, .int .u32 0, .int .i64 0, .int .i64 0])).run Tryz.prog W = .ok (.bool true) W := fun W => by
    have h := eql_pk exQ exQ W
    rw [decide_eq_true rfl] at h
    exact h
  clear he hB
  go_enter Tryz.func18, Tryz.ntmps18
  go_wp2_with fail
  refine (HT.out _ HB0.out).mono ?_
  rintro e w1 ⟨rfl, hb1⟩
  have HB1 := Lib.hid (HB0.out.trans (hb1.mono HB0.out.size))
  clear hb1
  go_wp2_with fail
  refine (HP.out _ HB1.out).mono ?_
  rintro e w2 ⟨rfl, hb2⟩
  have HB2 := Lib.hid (HB1.out.trans (hb2.mono HB1.out.size))
  clear hb2
  go_wp2
  go_ret
  exact ⟨rfl, HB2.out.alloc HB2.out.size _⟩
end Go.Proofs.YtjkdhdficaacaaaGreatDoor
