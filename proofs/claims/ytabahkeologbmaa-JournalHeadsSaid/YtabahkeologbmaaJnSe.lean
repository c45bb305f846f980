/- A journal on a disk without a fuse: Open and Add; the known journal. -/
import Derived.Test.YtabahkeologbmaaJnOp
import Derived.Test.YtabahkeologbmaaJnAd
import Derived.Test.YtabahkeologbmaaJnHc
import Derived.Lib.SlBytesConst
namespace Go.Proofs.Ytabahkeologbmaa.Jn
open Go.RowKit Go.Shelf Go.Dk Go.Jn Go.Sha Go.Proofs.Ytabahkeologbmaa.Dk

/-- a disk without a fuse on which nothing waits -/
def mkD (n : Nat) (la : Nat → By) : Dk := ⟨n, la, fun _ => none, false, -1⟩
theorem mkD_new (n : Nat) : Dk.new n = mkD n (fun _ => zero64) := rfl
theorem mkD_rst {n : Nat} {la : Nat → By} (fs : List Int) : (mkD n la).rst fs = mkD n la := by
  have : rstL fs la (fun _ => none) = la := by funext i; rfl
  unfold mkD Dk.rst
  dsimp only
  rw [this]
def OpG (D : Nat) (rs : List By) (w : World) (e : Ending) (w' : World) : Prop := ∃ J v, e = .returned (.tuple #[pJ J, .int .i64 0]) ∧ JnAt w' J D w.heap.size v rs rs.length false ∧ w.heap.size ≤ J ∧ Below w.heap.size w w'
theorem open_hold {D L M : Nat} {d : Dk} {w : World} {rs : List By} (h : DkAt w D L M d) (hd : d.dead = false) (hh : Hold d rs) : Calls Try.prog 10 #[pD D] w (OpG D rs w) := by
  refine (open_any h hd hh.n4 _ (hold_top hh) rs [] stuck_nil (fun s hs => by obtain rfl := Option.some.inj hs; rw [len_top hh]; exact hold_data hh)).mono ?_
  rintro e w' ⟨hq, hb⟩
  dsimp only at hq
  rw [if_pos rfl] at hq
  obtain ⟨J, v, rfl, hj, hJ⟩ := hq
  rw [num_top hh] at hj
  exact ⟨J, v, rfl, hj, hJ, hb⟩
theorem cmt_mk {n : Nat} {la : Nat → By} {rs : List By} (h : Hold (mkD n la) rs) (b : By) (hfit : (dat (rs ++ [b])).length ≤ 64 * (n - 2)) :
    cmt (mkD n la) (2 + (((dat rs).length / 64 : Nat) : Int)) (padS ((dat (rs ++ [b])).drop (64 * ((dat rs).length / 64)))) (((rs.length + 1) % 2 : Nat) : Int) (headB (rs.length + 1) (dat (rs ++ [b])).length) = (0, mkD n (laH la rs b)) := by
  rw [cmt_fuse h rfl b hfit]
  unfold mkD
  dsimp only
  rw [if_neg (by decide), if_neg (by decide), if_neg (by decide), if_neg (by decide), if_neg (by decide)]
theorem hold_mk {n : Nat} {la : Nat → By} {rs : List By} (h : Hold (mkD n la) rs) (b : By) (hfit : (dat (rs ++ [b])).length ≤ 64 * (n - 2)) : Hold (mkD n (laH la rs b)) (rs ++ [b]) := hold_next h b hfit
def AdM (D L M J base : Nat) (v : Value) (n : Nat) (la : Nat → By) (rs : List By) (b : By) (w : World) (e : Ending) (w' : World) : Prop :=
  e = .returned (.int .i64 0) ∧ DkAt w' D L M (mkD n (laH la rs b)) ∧ Frq (AdG D L M J v) w w' ∧ ∃ v', JnAt w' J D base v' (rs ++ [b]) (rs ++ [b]).length false ∧ (v'.ownBlock = v.ownBlock ∨ ∃ g, v'.ownBlock = some g ∧ w.heap.size ≤ g)
theorem add_mk {w : World} {J D L M base : Nat} {v u : Value} {rs : List By} {n : Nat} {la : Nat → By} (hj : JnAt w J D base v rs rs.length false) (h : DkAt w D L M (mkD n la)) (hh : Hold (mkD n la) rs) (hbase : base ≤ w.heap.size)
    (b : By) (F : Nat → Prop) (hu : BysF w F u b) (hF : ∀ x, F x → x < w.heap.size ∧ some x ≠ v.ownBlock) (hn : b.length ≤ 65536) (hf : (dat rs).length + 4 + b.length ≤ 64 * (n - 2)) :
    Calls Try.prog 15 #[pJ J, u] w (AdM D L M J base v n la rs b w) := by
  have hnum := hh.num
  refine (add_go hj h hh.n4 (by omega) hbase b F hu hF hn hf _ (cmt_mk hh b (by rw [dat_snoc_len]; exact hf))).mono ?_
  rintro e w' ⟨rfl, hd, hfr, hq⟩
  rw [if_pos rfl] at hq
  obtain ⟨v', hj', hv'⟩ := hq
  refine ⟨rfl, hd, hfr, v', ?_, hv'⟩
  rw [List.length_append, List.length_singleton]
  exact hj'
/-- of new blocks alone nothing below is changed -/
theorem adG_below {D L M J base B : Nat} {v : Value} {rs : List By} {num : Nat} {dead : Bool} {w w' : World} (h : Frq (AdG D L M J v) w w') (hj : JnAt w J D base v rs num dead) (hB : B ≤ w.heap.size) (hD : B ≤ D ∧ B ≤ L ∧ B ≤ M) (hJ : B ≤ J) (hb : B ≤ base) : Below B w w' :=
  h.below hB (fun k e => by
    rcases e with e | e | e
    · omega
    · omega
    · have := (own_lt hj.row e.symm).1; omega)
theorem abc_cells : Lib.byteCells [97, 98, 99] = [.int .u8 97, .int .u8 98, .int .u8 99] := by kernel_rfl
set_option maxRecDepth 100000 in
set_option maxHeartbeats 1600000 in
theorem keeps_any (w : World) : Calls Try.prog 19 #[] w fun e w' => e = .returned (.bool true) ∧ Below w.heap.size w w' := by
  go_enter Try.func19, Try.ntmps19
  go_wp2_with fail
  refine (new_any 4 (by omega) (by omega) w).mono ?_
  rintro e w1 ⟨D, L, M, rfl, hd1, hb1, h1, h2, h3⟩
  have HB1 := Lib.hid hb1
  have HD1 := Lib.hid hd1
  have hH0 := hold_new (n := 4) (by omega) (by omega)
  have HO := Lib.hid (open_hold hd1 rfl hH0)
  clear hb1 hd1
  go_wp2_with fail
  refine (HO.out).mono ?_
  rintro e w2 ⟨J, v, rfl, hj2, hJ2, hb2⟩
  have HB2 := Lib.hid (HB1.out.trans (hb2.mono HB1.out.size))
  have hd2 := HD1.out.below hb2 HD1.out.ltD HD1.out.ltL HD1.out.ltM
  have HD2 := Lib.hid hd2
  have HJ2 := Lib.hid hj2
  have HR2 := Lib.hid (room_any hj2 hd2 (by show 4 ≤ 4; omega) (by show 0 ≤ _; omega))
  have hs2 := hb2.size
  clear hj2 hb2 hd2
  have r0 : ((roomL (Dk.new 4) [] : Nat) : Int) = 124 := by decide
  rw [r0] at HR2
  go_wp2_with fail
  refine (HR2.out).mono ?_
  rintro e w3 ⟨rfl, rfl⟩
  have hcv : (convert 40 40 (.slice (some ⟨w2.heap.size, 0, none⟩) 3 3)).run Try.prog (w2.alloc (.cells #[.int .u8 97, .int .u8 98, .int .u8 99] 5)).drew = .ok (.slice (some ⟨w2.heap.size, 0, none⟩) 3 3) (w2.alloc (.cells #[.int .u8 97, .int .u8 98, .int .u8 99] 5 (3, 4))).drew := Lib.run_convert_bytes_const w2.drew 40 5 #[.int .u8 97, .int .u8 98, .int .u8 99] 3 3 Try.underlying40 Try.underlying5
  have hb3 : Below w2.heap.size w2 (w2.alloc (.cells #[.int .u8 97, .int .u8 98, .int .u8 99] 5 (3, 4))).drew := (show Below w2.heap.size w2 w2.drew from ⟨rfl, rfl, rfl, Nat.le_refl _, fun _ _ => rfl⟩).alloc (Nat.le_refl _) (.cells #[.int .u8 97, .int .u8 98, .int .u8 99] 5 (3, 4))
  have hj3 : JnAt ((w2.alloc (.cells #[.int .u8 97, .int .u8 98, .int .u8 99] 5 (3, 4))).drew) J D w1.heap.size v [] 0 false := ⟨(hb3.block _ (lt_of_heap HJ2.out.hj)).trans HJ2.out.hj, own_keep HJ2.out.row (fun g cs _ hg => (hb3.block _ (lt_of_heap hg)).trans hg)⟩
  have HJ3 := Lib.hid hj3
  have hd3 := HD2.out.below hb3 HD2.out.ltD HD2.out.ltL HD2.out.ltM
  have HAD := Lib.hid (add_mk (n := 4) (la := fun _ => zero64) hj3 hd3 hH0 (by simp; omega) [97, 98, 99] (· = w2.heap.size) (u := .slice (some ⟨w2.heap.size, 0, none⟩) 3 3)
    ⟨_, _, rfl, Nat.le_refl _, fun _ => ⟨w2.heap.size, 0, rfl, rfl, fun j u hu => by rw [Nat.zero_add]; exact (cell_of_row _ w2.heap.size j _ _ _ (heap_last w2.drew _ _ rfl)).trans (by rw [abc_cells] at hu; simpa using hu)⟩⟩ (fun x hx => by
      subst hx
      refine ⟨by simp, fun e => ?_⟩
      have := (own_lt HJ2.out.row e.symm).2
      omega) (by decide) (by decide))
  have HB3 := Lib.hid (HB2.out.trans (hb3.mono HB2.out.size))
  have HS3 := Lib.hid (show w2.heap.size ≤ ((w2.alloc (.cells #[.int .u8 97, .int .u8 98, .int .u8 99] 5 (3, 4))).drew).heap.size from by simp)
  clear hj3 hd3 hb3
  go_wp2_with fail
  clear hcv
  refine (HAD.out).mono ?_
  rintro e w4 ⟨rfl, hd4, hf4, v4, hj4, hv4⟩
  have HD4 := Lib.hid hd4
  have hs1 := HB1.out.size
  have HB4 := Lib.hid (HB3.out.trans (adG_below hf4 HJ3.out (B := w.heap.size) (Nat.le_trans HB2.out.size HS3.out) ⟨h1, h2, h3⟩ (Nat.le_trans HB1.out.size hJ2) HB1.out.size))
  have hH4 := hold_mk hH0 [97, 98, 99] (by decide)
  clear hf4 hj4 hv4
  go_wp2_with fail
  refine (restart_any hd4 [] _ (fun _ => False) (by decide) ⟨none, 0, rfl, Nat.le_refl _, fun h => by simp at h⟩ (fun x hx => hx.elim)).mono ?_
  rintro e w5 ⟨rfl, hd5, hf5⟩
  rw [mkD_rst] at hd5
  have HD5 := Lib.hid hd5
  have HB5 := Lib.hid (HB4.out.trans (hf5.below (B := w.heap.size) HB4.out.size (fun k h => by omega)))
  have HO5 := Lib.hid (open_hold hd5 rfl hH4)
  clear hd4 hd5 hf5
  go_wp2_with fail
  refine (HO5.out).mono ?_
  rintro e w6 ⟨J6, v6, rfl, hj6, hJ6, hb6⟩
  have HB6 := Lib.hid (HB5.out.trans (hb6.mono HB5.out.size))
  have hd6 := HD5.out.below hb6 HD5.out.ltD HD5.out.ltL HD5.out.ltM
  have HD6 := Lib.hid hd6
  have HJ6 := Lib.hid hj6
  have HR6 := Lib.hid (records_any hj6 (by decide))
  clear hj6 hb6 hd6
  go_wp2_with fail
  refine (HR6.out).mono ?_
  rintro e w7 ⟨l, rfl, hl7, hb7⟩
  obtain ⟨ys, hy1, hy2⟩ := hl7
  obtain ⟨y, hy0, hoy⟩ := hy2 0 [97, 98, 99] rfl
  obtain ⟨lp, lc, rfl⟩ := own_slice hy1
  obtain ⟨yp, yc, rfl⟩ := own_slice hoy
  obtain ⟨lg, rfl, hlc⟩ : ∃ g, lp = some ⟨g, 0, none⟩ ∧ w7.cell? ⟨g, 0, none⟩ = some (.slice yp ([97, 98, 99] : By).length yc) := by
    obtain ⟨p', c', e, _, hp⟩ := row_own (F := fun _ => True) hy1 (fun _ _ => trivial)
    simp only [Value.slice.injEq] at e
    obtain ⟨rfl, -, rfl⟩ := e
    obtain ⟨g, he⟩ : ∃ g, lp = some ⟨g, 0, none⟩ := by
      obtain ⟨_, ⟨e, e2⟩ | ⟨g, cap', cur, e, _⟩⟩ := hy1
      · cases e2
      · simp only [Value.slice.injEq] at e; exact ⟨g, e.1⟩
    subst he
    refine ⟨g, rfl, ?_⟩
    have := hy1.cells (g := g) rfl 0 _ hy0
    simpa [Addr.add] using this
  have hstr : (convert 40 9 (.slice yp 3 yc)).run Try.prog w7 = .ok (str [97, 98, 99]) w7 := bys_str (row_own (F := fun _ => True) hoy (fun _ _ => trivial))
  have hlc : w7.cell? ⟨lg, 0, none⟩ = some (.slice yp 3 yc) := hlc
  have ht : (tx [97, 98, 99]).toList = [97, 98, 99] := by kernel_rfl
  have hd7 := HD6.out.below hb7 HD6.out.ltD HD6.out.ltL HD6.out.ltM
  have hj7 : JnAt w7 J6 D w5.heap.size v6 [[97, 98, 99]] 1 false := ⟨(hb7.block _ (lt_of_heap HJ6.out.hj)).trans HJ6.out.hj, own_keep HJ6.out.row (fun g cs _ hg => (hb7.block _ (lt_of_heap hg)).trans hg)⟩
  have HR7 := Lib.hid (room_any hj7 hd7 (by show 4 ≤ 4; omega) (by decide))
  have r1 : ((roomL (mkD 4 (laH (fun _ => zero64) [] [97, 98, 99])) [[97, 98, 99]] : Nat) : Int) = 117 := by decide
  have HB7 := Lib.hid (HB6.out.trans (hb7.mono HB6.out.size))
  clear hy1 hy2 hy0 hoy hd7 hj7 hb7
  rw [r1] at HR7
  go_wp2_with (go_at_call 14; refine (HR7.out).mono ?_; rintro e w8 ⟨rfl, rfl⟩)
  go_ret
  exact ⟨rfl, ⟨HB7.out.os, HB7.out.tape, HB7.out.output, HB7.out.size, HB7.out.block⟩⟩
end Go.Proofs.Ytabahkeologbmaa.Jn
