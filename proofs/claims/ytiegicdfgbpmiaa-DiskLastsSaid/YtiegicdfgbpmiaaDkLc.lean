/- What the walks of DiskLast, DiskFuse and DiskLasts share: an act's cells, whatever was laid above; plain disks; pieces of bytes. -/
import Derived.Test.YtiegicdfgbpmiaaDkAc
import Derived.Test.YtiegicdfgbpmiaaDkSy
namespace Go.Proofs.Ytiegicdfgbpmiaa.Dk
open Go.ChangeShapes Go.WideShapes Go.ChangeAt Go.RowKit Go.ChangeMaps Go.Deep Go.Dk

/-- an operation that is not wanted -/
theorem skH {P : Program} {S : World → Prop} {ops : Array Oper} {o : Oper} {a : Act} (hw : Region.wanted o (yielded ops a.tmps) = false) : YieldsIf P ops S o undef a := .inr ⟨hw, rfl⟩
/-- an act's cells in a world -/
structure ActC (W w3 : World) (b o : Nat) (x : Ac) (pb : Option Addr) (cb : Nat) (pf : Option Addr) (cf : Nat) : Prop where
  c0 : w3.cell? ⟨b, o, none⟩ = some (.int .u8 (x.do_ : Int))
  c1 : w3.cell? ⟨b, o + 1, none⟩ = some (.int .i64 x.at_)
  c3 : w3.cell? ⟨b, o + 3, none⟩ = some (.slice pb x.b.length cb)
  c4 : w3.cell? ⟨b, o + 4, none⟩ = some (.slice pf x.fs.length cf)
  bs : BysF w3 (· < W.heap.size) (.slice pb x.b.length cb) x.b
  fs : FtsF w3 (· < W.heap.size) (.slice pf x.fs.length cf) x.fs
theorem below_row {W w3 : World} {v : Value} {n : Nat} {xs : List Value} (h : RowF W (· < W.heap.size) v n xs) (hb : Below W.heap.size W w3) : RowF w3 (· < W.heap.size) v n xs :=
  h.kept (fun b hx => ⟨hx, hb.block b hx⟩)
theorem ActsF.get {W : World} {p : Option Addr} {L : List Ac} {k : Nat} {x : Ac} (h : ActsF W p L) (hk : L[k]? = some x) :
    ∃ b o pb cb pf cf, p = some ⟨b, o, none⟩ ∧ (Lit.int .i64 x.at_).wf = true ∧ x.do_ < 256 ∧ ∀ w3, Below W.heap.size W w3 → ActC W w3 b (o + k * 5) x pb cb pf cf := by
  have hlt := (List.getElem?_eq_some_iff.1 hk).1
  obtain ⟨b, o, rfl, hb, hc⟩ := h.at_ (by omega)
  have hok := h.ok x (List.mem_of_getElem? hk)
  obtain ⟨pb, cb, e1, h1⟩ := hok.b
  obtain ⟨pf, cf, e2, h2⟩ := hok.f
  refine ⟨b, o, pb, cb, pf, cf, rfl, hok.w, hok.d, fun w3 h3 => ?_⟩
  have hg : ∀ i u, (acC x)[i]? = some u → w3.cell? ⟨b, o + k * 5 + i, none⟩ = some u := fun i u hu => (h3.cell (p := ⟨b, o + k * 5 + i, none⟩) hb).trans (hc k x hk i u hu)
  exact ⟨hg 0 _ rfl, hg 1 _ rfl, (hg 3 _ rfl).trans (by rw [e1]), (hg 4 _ rfl).trans (by rw [e2]), below_row (by rw [← e1]; exact h1) h3, below_row (by rw [← e2]; exact h2) h3⟩
theorem great_get {L : List Ac} {k : Nat} {x : Ac} (h : greatB L = false) (hk : L[k]? = some x) : x.b.length ≤ 1000 ∧ x.fs.length ≤ 60 := by
  unfold greatB at h
  rw [Bool.or_eq_false_iff] at h
  have := List.any_eq_false.1 h.2 x (List.mem_of_getElem? hk)
  simp only [bigA, Bool.not_eq_true, Bool.or_eq_false_iff, decide_eq_false_iff_not] at this
  omega
theorem great_len {L : List Ac} (h : greatB L = false) : L.length ≤ 60 := by
  unfold greatB at h
  rw [Bool.or_eq_false_iff] at h
  have := of_decide_eq_false h.1
  omega
/-- a disk with power, with no fuse, on which nothing lasts but zeros -/
def dn (n : Nat) (wt : Nat → Option By) : Dk := { Dk.new n with wt := wt }
theorem dn_new (n : Nat) : Dk.new n = dn n (fun _ => none) := rfl
theorem burn_dn (n : Nat) (wt : Nat → Option By) : (dn n wt).burn = dn n wt := by
  unfold Dk.burn
  rw [if_neg (show ¬ ((dn n wt).fuse = 0) by show ¬ ((-1 : Int) = 0); omega), if_neg (show ¬ (0 < (dn n wt).fuse) by show ¬ ((0 : Int) < -1); omega)]
/-- a Write may be, or not -/
theorem wr_part (d : Dk) (a : Int) (b : By) : (b.length % 64 ≠ 0 ∨ d.has a ((b.length / 64 : Nat) : Int) = false) ∨ ∃ a' m : Nat, a = (a' : Int) ∧ b.length = 64 * m ∧ a' + m ≤ d.n := by
  by_cases h1 : b.length % 64 ≠ 0
  · exact .inl (.inl h1)
  · cases h2 : d.has a ((b.length / 64 : Nat) : Int) with
    | false => exact .inl (.inr rfl)
    | true =>
      simp only [Dk.has, Bool.and_eq_true, decide_eq_true_eq] at h2
      exact .inr ⟨a.toNat, b.length / 64, by omega, by omega, by omega⟩
theorem has_nat (d : Dk) {a m : Nat} (h : a + m ≤ d.n) : d.has (a : Int) ((64 * m / 64 : Nat) : Int) = true := by
  simp only [Dk.has, Bool.and_eq_true, decide_eq_true_eq]
  omega
theorem wr_bad {d : Dk} (hd : d.dead = false) {a : Int} {b : By} (h : b.length % 64 ≠ 0 ∨ d.has a ((b.length / 64 : Nat) : Int) = false) : Dk.wr d a b = (1, d) := by
  unfold Dk.wr
  rw [if_neg (by rw [hd]; simp), if_pos h]
theorem wr_good {d : Dk} (hd : d.dead = false) (hf : d.fuse ≠ 0) {a m : Nat} {b : By} (hb : b.length = 64 * m) (h : a + m ≤ d.n) : Dk.wr d (a : Int) b = (0, d.burn.wrote a b) := by
  unfold Dk.wr
  rw [if_neg (by rw [hd]; simp), if_neg (by rw [hb, has_nat d h]; simp), if_neg hf]
  rfl
theorem wr_dn_good {n : Nat} {wt : Nat → Option By} {a m : Nat} {b : By} (hb : b.length = 64 * m) (h : a + m ≤ n) : Dk.wr (dn n wt) (a : Int) b = (0, dn n (wtW wt a b m)) := by
  rw [wr_good rfl (show (-1 : Int) ≠ 0 by omega) hb h, burn_dn]
  unfold Dk.wrote
  rw [hb, show 64 * m / 64 = m by omega]
  rfl
theorem wtW_one (wt : Nat → Option By) (a : Nat) {s : By} (hs : s.length = 64) : wtW wt a s 1 = upd wt a (some s) := by
  rw [← wtW_succ, wtW_zero]
  congr 2
  unfold chunk
  rw [Nat.mul_zero, List.drop_zero, List.take_of_length_le (by omega)]
/-- a row of rows -/
theorem par_bytes : (Try.prog.info? 29).map (fun i => (i.zero, i.size, i.bytes)) = some (some (.slice none 0 0), 1, 24) := by kernel_rfl
def nilsA (n : Nat) : Array Value := madeCells #[Value.slice none 0 0] n
theorem nils_size (n : Nat) : (nilsA n).size = n := size_madeCells _ _
theorem nils_get {n j : Nat} (h : j < n) : (nilsA n)[j]? = some (.slice none 0 0) := by
  simp [nilsA, madeCells, h, Nat.mod_one]
theorem mk_rows (n : Nat) (hn : n ≤ 1000000) (w : World) : (Instr.makeSlice 45 (.int .i64 (n : Int)) (.int .i64 (n : Int))).run Try.prog w = .ok (.slice (some ⟨w.heap.size, 0, none⟩) n n) (w.alloc (.cells (nilsA n) 29)) := by
  obtain ⟨i, hi, h0, h1, h2⟩ := info_parts par_bytes
  have := run_make (P := Try.prog) w 45 29 i (.slice none 0 0) Try.underlying45 hi h0 .i64 .i64 (n : Int) (n : Int) (by omega) (by omega) (by rw [h2]; omega) (by omega)
  rw [h1, show ((n : Nat) : Int).toNat = n from rfl, Nat.mul_one] at this
  exact this
/-- a piece of a row of bytes -/
theorem elemBytes : Try.prog.elem 29 = 5 := by kernel_rfl
theorem undBytes : Try.prog.underlying 29 = some (.slice (Try.prog.elem 29)) := by rw [elemBytes]; exact Try.underlying29
theorem run_size1 (w : World) : (sizeOf 5).run Try.prog w = .ok 1 w := by
  obtain ⟨i0, hi0, _, hz1, _⟩ := info_parts par_u8
  simp [sizeOf, typeInfo, hi0, hz1]
theorem run_cut (w : World) (b o N cap k : Nat) (l h : Int) (hl : l = ((64 * k : Nat) : Int)) (hh : h = ((64 * k + 64 : Nat) : Int)) (h1 : 64 * k + 64 ≤ cap) :
    (Instr.sliceAt 29 (.slice (some ⟨b, o, none⟩) N cap) (some (.int .i64 l)) (some (.int .i64 h)) none).run Try.prog w = .ok (.slice (some ⟨b, o + 64 * k, none⟩) 64 (cap - 64 * k)) w := by
  subst hl; subst hh
  rw [run_sliceAt_slice _ _ _ _ _ _ undBytes, run_slice_lh _ _ _ _ _ undBytes _ _ _ _ (by omega) (by omega) (by omega), elemBytes, run_size1, Result.andThen_ok]
  unfold sliced
  rw [Int.toNat_natCast, Int.toNat_natCast, show 64 * k + 64 - 64 * k = 64 by omega, if_neg (by omega), Option.map_some, Nat.mul_one, Addr.add_mid]
theorem cutY {a : Act} {w : World} {x y z : Operand} {dst : Option Tmp} {typ : TypeId} {pos : String} {after : Array Edge} {g : Option (Nat × Bool)} (b o N cap k : Nat) (l h : Int) (hx : a.eval x = .slice (some ⟨b, o, none⟩) N cap) (hy : a.eval y = .int .i64 l) (hz : a.eval z = .int .i64 h) (hl : l = ((64 * k : Nat) : Int)) (hh : h = ((64 * k + 64 : Nat) : Int)) (h1 : 64 * k + 64 ≤ cap) :
    (execOp a.eval ⟨dst, .slice 29 x (some y) (some z) none, typ, pos, after, g⟩).run Try.prog w = .ok (.value (.slice (some ⟨b, o + 64 * k, none⟩) 64 (cap - 64 * k))) w := by
  unfold execOp
  simp only [hx, hy, hz, Option.map_some, Option.map_none, Sem.run_bind, run_cut w b o N cap k l h hl hh h1, Result.andThen_ok, Sem.run_pure]
/-- the piece that lies there -/
theorem row_cut {w : World} {F : Nat → Prop} {b o cap k : Nat} {l : By} (h : BysF w F (.slice (some ⟨b, o, none⟩) l.length cap) l) (hk : 64 * k + 64 ≤ l.length) : 64 * k + 64 ≤ cap ∧ F b ∧ BysF w F (.slice (some ⟨b, o + 64 * k, none⟩) 64 (cap - 64 * k)) (chunk l k) := by
  obtain ⟨p, c, e, hc, hp⟩ := h
  obtain ⟨b', o', e2, hF, hcell⟩ := hp (by omega)
  cases e; cases e2
  have hcl := chunk_len (b := l) (k := k) (by omega)
  refine ⟨by omega, hF, _, _, by rw [hcl], by rw [hcl]; omega, fun _ => ⟨b, o + 64 * k, rfl, hF, fun j u hu => ?_⟩⟩
  have hj : j < 64 := by have := (List.getElem?_eq_some_iff.1 hu).1; rw [byl_len, hcl] at this; exact this
  unfold chunk at hu
  rw [← byl_take, ← byl_drop, List.getElem?_take, if_pos hj, List.getElem?_drop] at hu
  rw [Nat.add_assoc]
  exact hcell _ _ hu
theorem row_at {w : World} {F : Nat → Prop} {p : Option Addr} {cap : Nat} {l : By} (h : BysF w F (.slice p l.length cap) l) (h0 : 0 < l.length) : ∃ b o, p = some ⟨b, o, none⟩ := by
  obtain ⟨p', c, e, _, hp⟩ := h
  obtain ⟨b, o, e2, _⟩ := hp h0
  cases e
  exact ⟨b, o, e2⟩
end Go.Proofs.Ytiegicdfgbpmiaa.Dk
