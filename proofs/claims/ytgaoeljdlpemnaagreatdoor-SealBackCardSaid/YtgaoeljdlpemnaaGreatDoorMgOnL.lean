/- A guarded load of a whole struct; Text, Wrap and Packet told cell by cell. -/
import Derived.Test.YtgaoeljdlpemnaaGreatDoorMgShelf
import Derived.Test.YtgaoeljdlpemnaaGreatDoorWrapBkQ
import Derived.Test.YtgaoeljdlpemnaaGreatDoorMgMb
/- A packet that is told is read as it was; two packets of one text are one (no walk). -/
namespace Go.Proofs.YtgaoeljdlpemnaaGreatDoor
open Go.RowKit Go.Edi Go.Wrap

theorem mwrap_ok {p : Pk} (h : (mwrapL p).2 = 0) : p.from_ < 8 ∧ p.to_ < 8 ∧ (toldL p).2 = 0 ∧ mwrapL p = (⟨p.from_, p.to_, p.num, (toldL p).1⟩, 0) := by
  unfold mwrapL at *
  split at h
  · cases h
  · rename_i h1
    split at h
    · rename_i h2
      rw [if_neg h1, if_pos h2]
      exact ⟨by omega, by omega, h2, rfl⟩
    · rename_i h2; exact absurd h h2
theorem mwrap_bad {p : Pk} (h : ¬ (mwrapL p).2 = 0) : (mwrapL p).1 = Wr.nil := by
  unfold mwrapL at *
  split
  · rfl
  · rename_i h1
    split
    · rename_i h2; rw [if_neg h1, if_pos h2] at h; exact absurd rfl h
    · rfl
theorem pack_told {p : Pk} (hp : p.Ty) (h : (mwrapL p).2 = 0) : packL (mwrapL p).1 = (p, 0) := by
  obtain ⟨h1, h2, h3, h4⟩ := mwrap_ok h
  rw [h4]
  obtain ⟨f, t, n, k, m⟩ := p
  simp only at h1 h2 h3 ⊢
  unfold packL
  rw [if_neg (by simp only; omega)]
  cases k with
  | true =>
    unfold toldL at h3 ⊢
    simp only [if_true] at h3 ⊢
    split at h3
    · rename_i hz
      rw [if_pos hz, hz]
      rfl
    · cases h3
  | false =>
    have e : toldL ⟨f, t, n, false, m⟩ = toldMs m := rfl
    rw [e] at h3 ⊢
    obtain ⟨s, r, hl, htg, hrd⟩ := read_told (m := m) (l := (toldMs m).1) hp.m (Prod.ext rfl h3)
    rw [hl]
    simp only
    rw [if_neg (by rw [htg]; decide), hrd]
theorem mtext_parse {p : Pk} (hp : p.Ty) (h : (mtextL p).2 = 0) : mparseL (mtextL p).1 = (p, 0) := by
  unfold mtextL at h ⊢
  split at h
  · rename_i h0
    rw [if_pos h0]
    have hr : (mwrapL p).1.ref < 18446744073709551616 := by rw [(mwrap_ok h0).2.2.2]; exact hp.num
    unfold mparseL
    rw [wback h hr]
    exact pack_told hp h0
  · rename_i h0; exact absurd h h0
theorem mtext_one {p q : Pk} (hp : p.Ty) (hq : q.Ty) (h1 : (mtextL p).2 = 0) (h2 : (mtextL q).2 = 0) (h : (mtextL p).1 = (mtextL q).1) : p = q := by
  have e1 := mtext_parse hp h1
  rw [h, mtext_parse hq h2] at e1
  exact (Prod.mk.inj e1).1.symm
theorem mtext_bad {p : Pk} (h : ¬ (mwrapL p).2 = 0) : mtextL p = ([], (mwrapL p).2) := by unfold mtextL; rw [if_neg h]
end Go.Proofs.YtgaoeljdlpemnaaGreatDoor
/- Contract: the example that every statement tells and reads. -/
namespace Go.Proofs.YtgaoeljdlpemnaaGreatDoor
open Go.RowKit Go.Edi Go.Wrap Go.Lib

def exP : Pk := ⟨1, 2, 7, false, ⟨1, 1, 1, 0, 0, 0, 0, 0, 0, 0, 0, 0⟩⟩
def exQ : Pk := ⟨2, 1, 7, true, .zero⟩
def exA : Tx := [85, 78, 66, 43, 49, 43, 50, 43, 55, 39, 77, 83, 71, 43, 49, 39, 75, 69, 89, 43, 48, 48, 49, 48, 48, 48, 48, 48, 48, 48, 48, 48, 49, 53, 43, 48, 39, 85, 78, 90, 43, 50, 43, 55, 39]
def exB : Tx := [85, 78, 66, 43, 50, 43, 49, 43, 55, 39, 65, 67, 75, 39, 85, 78, 90, 43, 49, 43, 55, 39]
theorem sd0 : sdig 0 = [48] := by show Lib.itoa 0 = _; unfold Lib.itoa; rw [if_neg (by decide)]; exact digs_small (by omega)
theorem sd1 : sdig 1 = [49] := by show Lib.itoa 1 = _; unfold Lib.itoa; rw [if_neg (by decide)]; exact digs_small (by omega)
theorem nt11 : Number.textL 1 1 = ([48, 48, 49, 48, 48, 48, 48, 48, 48, 48, 48, 48, 49, 53], 0) := by kernel_rfl
theorem ex_ty : exP.Ty := ⟨by decide, by decide, by decide, ⟨by decide, by decide, by decide, by decide, by decide, by decide, by decide, by decide, by decide, by decide, by decide, by decide⟩⟩
theorem ex_wrap : mwrapL exP = (⟨1, 2, 7, [sgL kindT [[49]], sgL keyT [[48, 48, 49, 48, 48, 48, 48, 48, 48, 48, 48, 48, 49, 53], [48]]]⟩, 0) := by
  have e : toldL exP = ([sgL kindT [[49]], sgL keyT [[48, 48, 49, 48, 48, 48, 48, 48, 48, 48, 48, 48, 49, 53], [48]]], 0) := by
    show toldMs ⟨1, 1, 1, 0, 0, 0, 0, 0, 0, 0, 0, 0⟩ = _
    unfold toldMs
    show (if (Number.textL 1 1).2 = 0 then (if mayL ⟨1, 1, 1, 0, 0, 0, 0, 0, 0, 0, 0, 0⟩ [] then (sgL kindT [sdig 1] :: sgL keyT [(Number.textL 1 1).1, sdig 0] :: [], 0) else ([], 101)) else ([], (Number.textL 1 1).2)) = _
    rw [nt11, sd0, sd1, if_pos rfl, if_pos (by decide)]
  unfold mwrapL
  rw [if_neg (by decide), e, if_pos rfl]
  rfl
theorem ex_text : mtextL exP = (exA, 0) := by
  unfold mtextL
  rw [ex_wrap, if_pos rfl]
  have h1 : digs 1 = [49] := digs_small (by omega)
  have h2 : digs 2 = [50] := digs_small (by omega)
  have h7 : digs 7 = [55] := digs_small (by omega)
  unfold wprintL
  rw [if_neg (by decide), if_neg (by decide)]
  show printL (Sg.mk [85, 78, 66] [[digs 1], [digs 2], [digs 7]] :: ([sgL kindT [[49]], sgL keyT [[48, 48, 49, 48, 48, 48, 48, 48, 48, 48, 48, 48, 49, 53], [48]]] ++ [Sg.mk [85, 78, 90] [[digs 2], [digs 7]]])) = _
  rw [h1, h2, h7]
  kernel_rfl
theorem ex_parse : mparseL exB = (exQ, 0) := by
  have e : wparseL exB = (⟨2, 1, 7, [⟨[65, 67, 75], []⟩]⟩, 0) := by kernel_rfl
  unfold mparseL
  rw [e, if_pos rfl]
  rfl
end Go.Proofs.YtgaoeljdlpemnaaGreatDoor
namespace Go.Proofs.YtgaoeljdlpemnaaGreatDoor
open Go.RowKit Go.Edi Go.Wrap Go.Lib

/-- a guarded load of a whole struct, its guard on -/
theorem wpList_load_rowG {P : Program} {ops : Array Oper} {rest : List Oper} {o : Oper} {a : Act} {w : World} {Q : Exit → Act → World → Prop} (hgd : Region.wanted o (yielded ops a.tmps) = true) (ty : TypeId) (x : Operand) (ho : o.op = .load ty x)
    (g : Nat) (hx : a.eval x = .pointer (some ⟨g, 0, none⟩)) (t : TypeId) (cs : Array Value) (fr : Nat × Nat) (d : TypeDesc) (hg : w.heap[g]? = some (.cells cs t fr))
    (hu : P.underlying ty = some d) (hd : (match d with | .struct _ | .array _ _ => true | _ => false) = true) (hi : (P.info? ty).map (·.size) = some cs.size)
    (h : wpList P ops Q rest (a.put o.dst (.agg cs)) w) : wpList P ops Q (o :: rest) a w :=
  wpList_step fun _ hK => by
    rw [if_pos hgd]
    exact wp_load_row ty x ho g hx t cs fr d hg hu hd hi (hK _ _ h)
theorem once_text (p : Pk) (B : Nat) (w : World) (hp : p.Ty) (he : Env B w) (hB : B ≤ w.heap.size) : Calls Tryz.prog 11 #[.agg (pkV p)] w (fun e w' => e = .returned (.tuple #[str (mtextL p).1, .int .i64 (((mtextL p).2 : Nat) : Int)]) ∧ Below w.heap.size w w') := mtext_any p B w hp he hB
/-- what Wrap answers, told cell by cell -/
def WrQ (f t r : Nat) (l : List Sg) (E : Int) (w : World) (e : Ending) (w' : World) : Prop :=
  ∃ pv nv cv, e = .returned (.tuple #[.agg #[.int .u8 (f : Int), .int .u8 (t : Int), .int .u64 (r : Int), .slice pv nv cv], .int .i64 E]) ∧ Below w.heap.size w w' ∧ SegsF w' (· < w'.heap.size) (.slice pv nv cv) l
theorem once_wrap (p : Pk) (B : Nat) (w : World) (hp : p.Ty) (he : Env B w) (hB : B ≤ w.heap.size) : Calls Tryz.prog 18 #[.agg (pkV p)] w (WrQ (mwrapL p).1.from_ (mwrapL p).1.to_ (mwrapL p).1.ref (mwrapL p).1.segs (((mwrapL p).2 : Nat) : Int) w) := by
  refine (mwrap_any p B w hp he hB).mono ?_
  rintro e w' ⟨h1, v, rfl, h3⟩
  obtain ⟨pv, cv, rfl⟩ := segs_slice h3
  exact ⟨pv, _, cv, rfl, h1, h3.kept (fun b hb => ⟨hb.2, rfl⟩)⟩
theorem once_pack (p : Pk) (B : Nat) (W : World) (hp : p.Ty) (h0 : (mwrapL p).2 = 0) (v : Value) (hv : SegsF W (· < W.heap.size) v (mwrapL p).1.segs) (he : Env B W) (hB : B ≤ W.heap.size) :
    Calls Tryz.prog 26 #[.agg (wrV (mwrapL p).1.from_ (mwrapL p).1.to_ (mwrapL p).1.ref v)] W (fun e w' => e = .returned (.tuple #[.agg (pkV p), .int .i64 0]) ∧ Below W.heap.size W w') := by
  obtain ⟨h1, h2, h3, h4⟩ := mwrap_ok h0
  have ht : tiny (mwrapL p).1.segs := by rw [h4]; exact tiny_toldL hp.m
  have h := packet_any (mwrapL p).1 v B W (by rw [h4]; exact hp.from_) (by rw [h4]; exact hp.to_) hv (by have := ht.1; omega) ht.el ht.sz he hB
  rw [pack_told hp h0] at h
  exact h
end Go.Proofs.YtgaoeljdlpemnaaGreatDoor
