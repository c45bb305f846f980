/- PROVED: for every two packets tarmaclaw10.MsgOnce returns true and leaves both as they read (two packets that are told as one text are one; a packet's interchange is read as the packet that it was made of); conditions: the listed tables and errors of the library start as the program's text lays them (tied by the given card), and nothing else. -/
import Derived.Test.YtjlifjgljejabaaGreatDoorEdiW6
import Derived.Test.YtjlifjgljejabaaGreatDoorWrapP
import Derived.Test.YtjlifjgljejabaaGreatDoorWrapPure3
import Derived.Test.YtjlifjgljejabaaGreatDoorWrapR
import Derived.Test.YtjlifjgljejabaaGreatDoorEdiSn
import Derived.Test.YtjlifjgljejabaaGreatDoorMgMb
import Derived.IntWalk
import Derived.Lib.ItoaLen
import Derived.Test.YtjlifjgljejabaaGreatDoorMgTk
import Derived.Test.YtjlifjgljejabaaGreatDoorRows
import Derived.Test.YtjlifjgljejabaaGreatDoorCards
import Derived.Test.YtjlifjgljejabaaGreatDoorTie
import Derived.ProofKit
import Derived.OpenShut
import Derived.LaidMore
import Derived.Stop.Joined
import Derived.Stop.LaidErr
import Derived.Lib.LaidTab
import Derived.SevenTiedAt
import Derived.JoinedOf
import Derived.ChangeMaps5
/- Contract of the document's Same, of two lists of the same segments. -/
namespace Go.Proofs.YtjlifjgljejabaaGreatDoor
open Go.RowKit Go.Edi

set_option maxRecDepth 100000 in
set_option maxHeartbeats 6400000 in
theorem same_any (l : List Sg) (va vb : Value) (w : World) (ha : SegsF w (· < w.heap.size) va l) (hb : SegsF w (· < w.heap.size) vb l) (hfit : sane l) :
    Calls Tryz.prog 29 #[va, vb] w fun e w' => e = .returned (.bool true) ∧ Below w.heap.size w w' := by
  have HF := Lib.hid hfit
  obtain ⟨xa, ⟨pa, capa, rfl, hna, hpa⟩, hxa⟩ := ha
  obtain ⟨xb, ⟨pb, capb, rfl, hnb, hpb⟩, hxb⟩ := hb
  have HPA := Lib.hid hpa
  have HXA := Lib.hid hxa
  have HPB := Lib.hid hpb
  have HXB := Lib.hid hxb
  have hbz : (l.length : Int) ≤ 1000000000000 := by have := hfit.1; omega
  clear hpa hxa hpb hxb hfit
  go_enter Tryz.func29, Tryz.ntmps29
  go_wp2
  go_loopw [5] (fun i wr => ∃ k : Nat, i = .int .i64 k ∧ k ≤ l.length ∧ Below w.heap.size w wr) (fun i _ => l.length - (intOf i).toNat)
  case atStart => exact ⟨0, rfl, Nat.zero_le _, Below.refl _ _⟩
  case round =>
    obtain ⟨k, rfl, hk, hbl⟩ := hrel
    have HB := Lib.hid hbl
    by_cases hlt : (k : Int) < (l.length : Int)
    · have hkl : k < l.length := by omega
      have hk0 : (0 : Int) ≤ (k : Int) := Int.natCast_nonneg _
      obtain ⟨ba, oa, rfl, hFa, hca⟩ := HPA.out (by omega)
      obtain ⟨bb, ob, rfl, hFb, hcb⟩ := HPB.out (by omega)
      have HCA := Lib.hid hca
      have HCB := Lib.hid hcb
      obtain ⟨a1, pea, capea, ysa, a2, _, rowa, ela⟩ := seg_cells (wr := wr) hca HXA.out (hbl.block ba hFa) hkl
      obtain ⟨b1, peb, capeb, ysb, b2, _, rowb, elb⟩ := seg_cells (wr := wr) hcb HXB.out (hbl.block bb hFb) hkl
      have h3 := (HF.out.2 _ (List.getElem_mem hkl))
      have A2 : ∀ wz : World, Below w.heap.size w wz → wz.cell? ⟨ba, oa + k * 2 + 1, none⟩ = some (.slice pea (l[k]'hkl).els.length capea) := fun wz hz =>
        (World.cell?_of_block (a := ⟨ba, oa + k * 2 + 1, none⟩) ((hz.block ba hFa).trans (hbl.block ba hFa).symm)).trans a2
      have B2 : ∀ wz : World, Below w.heap.size w wz → wz.cell? ⟨bb, ob + k * 2 + 1, none⟩ = some (.slice peb (l[k]'hkl).els.length capeb) := fun wz hz =>
        (World.cell?_of_block (a := ⟨bb, ob + k * 2 + 1, none⟩) ((hz.block bb hFb).trans (hbl.block bb hFb).symm)).trans b2
      generalize l[k]'hkl = y at *
      have HA2 := Lib.hid A2
      have HB2 := Lib.hid B2
      have HRA := Lib.hid rowa
      have HRB := Lib.hid rowb
      have HEA := Lib.hid ela
      have HEB := Lib.hid elb
      have H3 := Lib.hid h3
      have hbe : (y.els.length : Int) ≤ 1000000000000 := by have := h3.1; omega
      clear hbl hca hcb rowa rowb ela elb h3 A2 B2
      go_wp2
      go_region
      go_wp2
      go_loopw [6] (fun i wr => ∃ j : Nat, i = .int .i64 j ∧ j ≤ y.els.length ∧ Below w.heap.size w wr) (fun i _ => y.els.length - (intOf i).toNat)
      case atStart => exact ⟨0, rfl, Nat.zero_le _, HB.out.drew⟩
      case round =>
        obtain ⟨j, rfl, hj, hbl⟩ := hrel
        have HBJ := Lib.hid hbl
        have a2 := HA2.out _ hbl
        have b2 := HB2.out _ hbl
        by_cases hlt2 : (j : Int) < (y.els.length : Int)
        · have hjl : j < y.els.length := by omega
          have hj0 : (0 : Int) ≤ (j : Int) := Int.natCast_nonneg _
          obtain ⟨pr, capr, hre, _, hpr⟩ := HRA.out
          simp only [Value.slice.injEq, true_and] at hre
          obtain ⟨rfl, rfl⟩ := hre
          obtain ⟨b2a, o2a, rfl, hF2a, hc3a⟩ := hpr (by omega)
          obtain ⟨pr, capr, hre, _, hpr⟩ := HRB.out
          simp only [Value.slice.injEq, true_and] at hre
          obtain ⟨rfl, rfl⟩ := hre
          obtain ⟨b2b, o2b, rfl, hF2b, hc3b⟩ := hpr (by omega)
          obtain ⟨pja, capja, hcja, _, hsta⟩ := el_cell hc3a HEA.out (hbl.block b2a hF2a) hjl
          obtain ⟨pjb, capjb, hcjb, _, hstb⟩ := el_cell hc3b HEB.out (hbl.block b2b hF2b) hjl
          have g3 := H3.out.2 _ (List.getElem_mem hjl)
          generalize y.els[j]'hjl = z at *
          have hbz2 : (z.length : Int) ≤ 1000000000000 := by have := g3.1; omega
          have HSTA := Lib.hid hsta
          have HSTB := Lib.hid hstb
          clear hbl hc3a hc3b hsta hstb g3
          go_wp2
          go_loopw [9] (fun i wr => ∃ m : Nat, i = .int .i64 m ∧ m ≤ z.length ∧ Below w.heap.size w wr) (fun i _ => z.length - (intOf i).toNat)
          case atStart => exact ⟨0, rfl, Nat.zero_le _, HBJ.out⟩
          case round =>
            obtain ⟨m, rfl, hm, hbl⟩ := hrel
            have HBM := Lib.hid hbl
            by_cases hlt3 : (m : Int) < (z.length : Int)
            · have hml : m < z.length := by omega
              have hm0 : (0 : Int) ≤ (m : Int) := Int.natCast_nonneg _
              obtain ⟨pq, capq, hqe, _, hpq⟩ := HSTA.out
              simp only [Value.slice.injEq, true_and] at hqe
              obtain ⟨rfl, rfl⟩ := hqe
              obtain ⟨b3a, o3a, rfl, hF3a, hc4a⟩ := hpq (by omega)
              obtain ⟨pq, capq, hqe, _, hpq⟩ := HSTB.out
              simp only [Value.slice.injEq, true_and] at hqe
              obtain ⟨rfl, rfl⟩ := hqe
              obtain ⟨b3b, o3b, rfl, hF3b, hc4b⟩ := hpq (by omega)
              have hcka : wr.cell? ⟨b3a, o3a + m, none⟩ = some (str (z[m]'hml)) := (World.cell?_of_block (a := ⟨b3a, o3a + m, none⟩) (hbl.block b3a hF3a)).trans (hc4a m _ (by rw [List.getElem?_map, List.getElem?_eq_getElem hml]; rfl))
              have hckb : wr.cell? ⟨b3b, o3b + m, none⟩ = some (str (z[m]'hml)) := (World.cell?_of_block (a := ⟨b3b, o3b + m, none⟩) (hbl.block b3b hF3b)).trans (hc4b m _ (by rw [List.getElem?_map, List.getElem?_eq_getElem hml]; rfl))
              generalize z[m]'hml = t at *
              clear hbl hc4a hc4b
              go_wp2
              go_region
              go_wp2
              go_roundw
              case rel => exact ⟨m + 1, by go_num, by omega, HBM.out.drew⟩
              case measure => simp [intOf]; omega
            · clear hbl
              go_wp2
              go_roundw
              case rel => exact ⟨j + 1, by go_num, by omega, HBM.out⟩
              case measure => simp [intOf]; omega
        · clear hbl
          go_wp2
          go_roundw
          case rel => exact ⟨k + 1, by go_num, by omega, HBJ.out⟩
          case measure => simp [intOf]; omega
    · go_wp2
      go_ret
      exact ⟨rfl, HB.out⟩
end Go.Proofs.YtjlifjgljejabaaGreatDoor
/- Two like interchanges are the same. -/
namespace Go.Proofs.YtjlifjgljejabaaGreatDoor
open Go.RowKit Go.Edi Go.Wrap

set_option maxRecDepth 100000 in
set_option maxHeartbeats 1600000 in
theorem wsame_any (f t r : Int) (l : List Sg) (va vb : Value) (w : World) (ha : SegsF w (· < w.heap.size) va l) (hb : SegsF w (· < w.heap.size) vb l) (hfit : sane l) :
    Calls Tryz.prog 12 #[.agg #[.int .u8 f, .int .u8 t, .int .u64 r, va], .agg #[.int .u8 f, .int .u8 t, .int .u64 r, vb]] w fun e w' => e = .returned (.bool true) ∧ Below w.heap.size w w' := by
  obtain ⟨pa, ca, rfl⟩ := segs_slice ha
  obtain ⟨pb, cb, rfl⟩ := segs_slice hb
  have hw : Below w.heap.size w ((w.alloc (.cells #[.int .u8 f, .int .u8 t, .int .u64 r, .slice pa l.length ca] 41)).alloc (.cells #[.int .u8 f, .int .u8 t, .int .u64 r, .slice pb l.length cb] 41)) := ((Below.refl _ _).alloc (Nat.le_refl _) _).alloc (by rw [size_a]; omega) _
  have HQ := Lib.hid (same_any l (.slice pa l.length ca) (.slice pb l.length cb) _ (ha.kept (F' := (· < _)) (fun b hb => ⟨Nat.lt_of_lt_of_le hb hw.size, hw.block b hb⟩)) (hb.kept (F' := (· < _)) (fun b hb => ⟨Nat.lt_of_lt_of_le hb hw.size, hw.block b hb⟩)) hfit)
  have HW := Lib.hid hw
  clear hw ha hb hfit
  go_enter Tryz.func12, Tryz.ntmps12
  go_wp2_with (go_at_call 29; refine (HQ.out).mono ?_)
  first | rintro e w2 rfl hb | rintro e w2 ⟨rfl, hb⟩
  have HB := Lib.hid (HW.out.trans (hb.mono HW.out.size))
  clear hb
  go_wp2
  go_ret
  exact ⟨rfl, HB.out⟩
end Go.Proofs.YtjlifjgljejabaaGreatDoor
/- Interchanges and their texts are each other's (no walk, nothing of the statements' own functions). -/
namespace Go.Proofs.YtjlifjgljejabaaGreatDoor
open Go.RowKit Go.Edi Go.Wrap

theorem wprint_bad {x : Wr} (h : ¬ (wprintL x).2 = 0) : (wprintL x).1 = [] := by
  unfold wprintL at *
  split
  · rfl
  · split
    · rfl
    · rename_i h1 h2
      rw [if_neg h1, if_neg h2] at h
      exact printL_bad _ h
theorem wprint_ok {x : Wr} (h : (wprintL x).2 = 0) : x.from_ ≤ 7 ∧ x.to_ ≤ 7 ∧ x.segs.length ≤ 62 ∧ wprintL x = printL (closeL x.from_ x.to_ x.ref x.segs) ∧ printL (closeL x.from_ x.to_ x.ref x.segs) = ((wprintL x).1, 0) := by
  unfold wprintL at *
  split at h
  · cases h
  · rename_i h1
    split at h
    · cases h
    · rename_i h2
      rw [if_neg h1, if_neg h2]
      exact ⟨by omega, by omega, by omega, rfl, Prod.ext rfl h⟩
theorem wback {x : Wr} (h : (wprintL x).2 = 0) (hr : x.ref < 18446744073709551616) : wparseL (wprintL x).1 = (x, 0) := by
  obtain ⟨h1, h2, h3, _, h5⟩ := wprint_ok h
  have hb := back _ _ h5
  rw [wparse_ok (by rw [hb]), hb]
  exact open_close h1 h2 hr (by omega)
theorem wparse_nil {t : Tx} (h : ¬ (wparseL t).2 = 0) : (wparseL t).1 = Wr.nil := by
  by_cases h0 : (parseL t).2.2 = 0
  · rw [wparse_ok h0] at h ⊢
    generalize (parseL t).1 = l at *
    by_cases h2 : 2 ≤ l.length
    · cases hh : headV (l.getD 0 ⟨[], []⟩) with
      | none => rw [openL_head hh]
      | some v =>
        obtain ⟨f, t, r⟩ := v
        cases ht : tailV (l.getD (l.length - 1) ⟨[], []⟩) with
        | none => rw [openL_tail ht]
        | some v =>
          obtain ⟨c, a⟩ := v
          by_cases hc : c = l.length - 2
          · by_cases ha : a = r
            · rw [openL_ok h2 hh ht hc ha] at h; exact absurd rfl h
            · rw [openL_ref h2 hh ht hc ha]
          · rw [openL_count h2 hh ht hc]
    · rw [openL_short h2]
  · rw [wparse_bad h0]
theorem open_ok {t : Tx} (h : (wparseL t).2 = 0) : (wparseL t).1.from_ ≤ 7 ∧ (wparseL t).1.to_ ≤ 7 ∧ (wparseL t).1.ref < 18446744073709551616 ∧ sane (wparseL t).1.segs ∧ (wparseL t).1.segs.length ≤ 62 ∧ (parseL t).2.2 = 0 ∧ (parseL t).1 = closeL (wparseL t).1.from_ (wparseL t).1.to_ (wparseL t).1.ref (wparseL t).1.segs := by
  by_cases h0 : (parseL t).2.2 = 0
  · rw [wparse_ok h0] at h ⊢
    obtain ⟨e1, e2, e3, e4, e5⟩ := open_inv (l := (parseL t).1) (x := (openL (parseL t).1).1) (Prod.ext rfl h)
    have hsn := sane_parse t
    have hl : (parseL t).1.length ≤ 64 := by
      obtain ⟨_, h2, _⟩ := parse_ok h0
      have hi := run_inv t s0 0 good_s0 (by rw [h2])
      rw [h2] at hi
      exact hi.1.2.1
    refine ⟨e2, e3, e4, ⟨by omega, fun s hs => hsn.2 s (by rw [e1]; exact List.mem_cons_of_mem _ (List.mem_append_left _ hs))⟩, by omega, h0, e1⟩
  · rw [wparse_bad h0] at h; exact absurd h h0
theorem wback2 {t : Tx} (h : (wparseL t).2 = 0) : wprintL (wparseL t).1 = (flt t, 0) := by
  obtain ⟨h1, h2, h3, _, h5, h6, h7⟩ := open_ok h
  unfold wprintL
  rw [if_neg (by omega), if_neg (by omega), ← h7]
  exact back2 h6
theorem segs_nil0 (w : World) (F : Nat → Prop) (p : Option Addr) (c : Nat) : SegsF w F (.slice p 0 c) [] := ⟨[], ⟨p, c, rfl, Nat.zero_le _, fun h => absurd h (by simp)⟩, True.intro⟩
end Go.Proofs.YtjlifjgljejabaaGreatDoor
/- Contract: the segments of a message. -/
namespace Go.Proofs.YtjlifjgljejabaaGreatDoor
open Go.RowKit Go.Edi Go.Wrap Go.Lib

def ToldP (o : List Sg × Nat) (w : World) (e : Ending) (w' : World) : Prop :=
  Below w.heap.size w w' ∧ ∃ v, e = .returned (.tuple #[v, .int .i64 ((o.2 : Nat) : Int)]) ∧ SegsF w' (Fr w w') v o.1
theorem told_nil (w w' : World) (E : Nat) (hb : Below w.heap.size w w') : ToldP ([], E) w (.returned (.tuple #[.slice none 0 0, .int .i64 (E : Int)])) w' :=
  ⟨hb, _, rfl, [], RowF.no none 0, True.intro⟩
structure TmI (w : World) (F : Nat → Prop) (segs : List Sg) (v : Value) (wr : World) : Prop where
  sg : ∃ xs, wr.ownsRow w.heap.size 59 2 v segs.length xs ∧ SgC wr F segs xs
  fz : ∀ b, F b → w.heap.size ≤ b ∧ b < wr.heap.size ∧ v.ownBlock ≠ some b
  bl : Below w.heap.size w wr
theorem TmI.segs {w wr : World} {F : Nat → Prop} {segs : List Sg} {v : Value} (h : TmI w F segs v wr) : SegsF wr (Fr w wr) v segs := by
  obtain ⟨xs, h1, h2⟩ := h.sg
  exact ⟨xs, row_own h1 (fun b e => (h1.lt b e)), h2.kept (fun b hb => ⟨⟨(h.fz b hb).1, (h.fz b hb).2.1⟩, rfl⟩)⟩
theorem par_segm : (Tryz.prog.info? 59).map (fun i => (i.zero, i.size, i.bytes)) = some (some (.agg #[.string ⟨#[]⟩, .slice none 0 0]), 2, 40) := by kernel_rfl
theorem told_shape {m : Ms} : toldMs m = (match fdsL m.kind with
  | none => ([], 100)
  | some fds => if (Number.textL m.car m.ser).2 = 0 then (if mayL m fds then (sgL kindT [sdig m.kind] :: sgL keyT [(Number.textL m.car m.ser).1, sdig m.at_] :: fds.map (fldS m), 0) else ([], 101)) else ([], (Number.textL m.car m.ser).2)) := rfl
theorem kind_lt {k : Nat} {fds : List Fd} (h : fdsL k = some fds) : k ≤ 8 := by have := fds_kind h; omega
/-- a segment's element is put behind the others -/
theorem TmI.snoc {w wr w1 w4 : World} {F F1 : Nat → Prop} {segs : List Sg} {v v4 ve : Value} {s : Sg} {xs : List Value} (h : TmI w F segs v wr) (hx : SgC wr F segs xs) (hb1 : Below wr.heap.size wr w1) (hve : ElsF w1 F1 ve s.els) (hF1 : ∀ b, F1 b → wr.heap.size ≤ b ∧ b < w1.heap.size)
    (ho : w4.ownsRow w.heap.size 59 2 v4 (segs.length + 1) (xs ++ [str s.tag, ve])) (hg : (w1.alloc (.cells #[str s.tag, ve] 59)).grownBy w4 v.ownBlock) (hk : v4.ownBlock = v.ownBlock ∨ v4.ownBlock = some (w1.alloc (.cells #[str s.tag, ve] 59)).heap.size) (hvb : ∀ b, v.ownBlock = some b → w.heap.size ≤ b ∧ b < wr.heap.size) :
    TmI w (fun b => F b ∨ F1 b) (segs ++ [s]) v4 w4 := by
  have hs1 := hb1.size
  have hs4 : w1.heap.size + 1 ≤ w4.heap.size := by have := hg.size; simpa only [size_a] using this
  have hbw := h.bl.size
  have kF : ∀ b, F b → w4.heap[b]? = wr.heap[b]? := fun b hb => by
    have h1 := h.fz b hb
    exact (hg.block b (by simp only [size_a]; omega) (fun e => h1.2.2 e.symm)).trans ((Below.heap_alloc _ _ _ (by omega)).trans (hb1.block b h1.2.1))
  have kF1 : ∀ b, F1 b → w4.heap[b]? = w1.heap[b]? := fun b hb => by
    have h1 := hF1 b hb
    exact (hg.block b (by simp only [size_a]; omega) (fun e => by have := hvb b e.symm; omega)).trans (Below.heap_alloc _ _ _ h1.2)
  refine ⟨⟨xs ++ [str s.tag, ve], by rw [List.length_append]; exact ho, SgC.snoc (hve.kept (fun b hb => ⟨Or.inr hb, kF1 b hb⟩)) (hx.kept (fun b hb => ⟨Or.inl hb, kF b hb⟩))⟩, ?_, ?_⟩
  · rintro b (hb | hb)
    · have h1 := h.fz b hb
      refine ⟨h1.1, by omega, ?_⟩
      rcases hk with e | e
      · rw [e]; exact h1.2.2
      · rw [e]; simp only [size_a]; intro h2; have := Option.some.inj h2; omega
    · have h1 := hF1 b hb
      refine ⟨by omega, by omega, ?_⟩
      rcases hk with e | e
      · rw [e]; intro h2; have := hvb b h2; omega
      · rw [e]; simp only [size_a]; intro h2; have := Option.some.inj h2; omega
  · exact ((h.bl.trans (hb1.mono hbw)).alloc (by omega) _).grown hg (by simp only [size_a]; omega) (fun k e => (hvb k e).1)
set_option maxRecDepth 100000 in
set_option maxHeartbeats 6400000 in
theorem toldMs_any (m : Ms) (B : Nat) (w : World) (hm : m.Ty) (he : Env B w) (hB : B ≤ w.heap.size) :
    Calls Tryz.prog 37 #[.agg (msV m).toArray] w (ToldP (toldMs m) w) := by
  obtain ⟨R, hR⟩ : ∃ R, R = toldMs m := ⟨_, rfl⟩
  rw [← hR]
  rw [told_shape] at hR
  have HMT := Lib.hid hm
  have HE := Lib.hid he
  have HBB := Lib.hid hB
  have hk0 : (0 : Int) ≤ (m.kind : Int) := Int.natCast_nonneg _
  have hk1 : (m.kind : Int) ≤ 255 := by have := hm.kind; omega
  have ha0 : (0 : Int) ≤ (m.at_ : Int) := Int.natCast_nonneg _
  have ha1 : (m.at_ : Int) ≤ 255 := by have := hm.at_; omega
  have hk256 : m.kind < 256 := hm.kind
  obtain ⟨w0, hw0⟩ : ∃ w0, w0 = w.alloc (.cells (msV m).toArray 36) := ⟨_, rfl⟩
  have hb0 : Below w.heap.size w w0 := by rw [hw0]; exact (Below.refl _ _).alloc (Nat.le_refl _) _
  have hm0 : w0.heap[w.heap.size]? = some (.cells #[.int .u8 (m.kind : Int), .int .u8 (m.car : Int), .int .u64 (m.ser : Int), .int .u8 (m.at_ : Int), .int .u8 (m.lc : Int), .int .u16 (m.lf : Int), .int .u32 (m.lw : Int), .int .i64 m.val, .int .u8 (m.st : Int), .int .u32 (m.non : Int), .int .i64 m.am, .int .i64 m.code] 36 (0, 0)) := by rw [hw0]; exact at_last _ _
  have HKD := Lib.hid (fun W => kinds_any W)
  have HB0 := Lib.hid hb0
  have HM0 := Lib.hid hm0
  have HW0 := Lib.hid (show w.alloc (.cells #[.int .u8 (m.kind : Int), .int .u8 (m.car : Int), .int .u64 (m.ser : Int), .int .u8 (m.at_ : Int), .int .u8 (m.lc : Int), .int .u16 (m.lf : Int), .int .u32 (m.lw : Int), .int .i64 m.val, .int .u8 (m.st : Int), .int .u32 (m.non : Int), .int .i64 m.am, .int .i64 m.code] 36) = w0 from hw0.symm)
  clear hm he hB hb0 hm0 hw0
  simp only [msV]
  go_enter Tryz.func37, Tryz.ntmps37
  go_upto_region 1 with fail
  rw [HW0.out]
  refine wp_region_held (S := fun w' => w'.heap[w.heap.size]? = some (.cells #[.int .u8 (m.kind : Int), .int .u8 (m.car : Int), .int .u64 (m.ser : Int), .int .u8 (m.at_ : Int), .int .u8 (m.lc : Int), .int .u16 (m.lf : Int), .int .u32 (m.lw : Int), .int .i64 m.val, .int .u8 (m.st : Int), .int .u32 (m.non : Int), .int .i64 m.am, .int .i64 m.code] 36 (0, 0))) (by kernel_rfl) ?_
  change wpAnyH _ _ _ _ _ _ _ _ (World.drew _)
  have HS0 := Lib.hid (show w0.drew.heap[w.heap.size]? = some (.cells #[.int .u8 (m.kind : Int), .int .u8 (m.car : Int), .int .u64 (m.ser : Int), .int .u8 (m.at_ : Int), .int .u8 (m.lc : Int), .int .u16 (m.lf : Int), .int .u32 (m.lw : Int), .int .i64 m.val, .int .u8 (m.st : Int), .int .u32 (m.non : Int), .int .i64 m.am, .int .i64 m.code] 36 (0, 0)) from HM0.out)
  refine wpAnyH_take (i := 1) (oi := ⟨some 13, .fieldAddr 36 (.tmp 1) 0, _, _, _, none⟩) (v := .pointer (some ⟨w.heap.size, 0, none⟩)) rfl (by kernel_rfl) (by kernel_rfl) (by kernel_rfl) (fun _ _ _ h => h) (Or.inl ⟨by rfl, fun w' hS => by go_simp⟩) HS0.out ?_
  simp only [Act.put, List.setIfInBounds_toArray, List.set_cons_zero, List.set_cons_succ]
  refine wpAnyH_take (i := 2) (oi := ⟨some 14, .load 5 (.tmp 13), _, _, _, none⟩) (v := .int .u8 (m.kind : Int)) rfl (by kernel_rfl) (by kernel_rfl) (by kernel_rfl) (fun _ _ _ h => h) (Or.inl ⟨by rfl, fun w' hS => by have c := cell_of_arr hS 0; go_simp⟩) HS0.out ?_
  simp only [Act.put, List.setIfInBounds_toArray, List.set_cons_zero, List.set_cons_succ]
  refine wpAnyH_ready (rs := [0]) (by kernel_rfl) (by simp) (AllReadyH.cons (o := ⟨some 12, .call ⟨.value (.func 48), #[], _⟩, _, _, _, none⟩) rfl (fun K hK => ?_) AllReadyH.nil)
  go_simp
  refine (HKD.out _).mono ?_
  rintro e w1 ⟨Bm, D, rfl, hown, hBm, hbel, hyes, hno⟩
  have HB1 := Lib.hid (show Below w.heap.size w w1 from HB0.out.trans ((show Below w0.heap.size w0 w1 from (Below.refl _ _).drew.trans hbel).mono HB0.out.size))
  have HOW := Lib.hid hown
  have HYE := Lib.hid hyes
  have HNO := Lib.hid hno
  have HS1 := Lib.hid (show w1.heap[w.heap.size]? = some (.cells #[.int .u8 (m.kind : Int), .int .u8 (m.car : Int), .int .u64 (m.ser : Int), .int .u8 (m.at_ : Int), .int .u8 (m.lc : Int), .int .u16 (m.lf : Int), .int .u32 (m.lw : Int), .int .i64 m.val, .int .u8 (m.st : Int), .int .u32 (m.non : Int), .int .i64 m.am, .int .i64 m.code] 36 (0, 0)) from (hbel.block w.heap.size (show w.heap.size < w0.drew.heap.size from lt_of_heap HM0.out)).trans HS0.out)
  clear hown hBm hbel hyes hno
  refine hK.out _ _ HS1.out (fun _ => ?_)
  clear hK K
  obtain ⟨V, ps, hrun, hV⟩ := HOW.out.look_ok KU8 Tryz.underlying106 (zero_fields _) (zd := .held (.slice none 0 0)) (zp := []) rfl (key8 m.kind hk256)
  cases hf : fdsL m.kind with
  | none =>
    obtain ⟨h1, h2⟩ := HNO.out m.kind hf
    rw [h2] at hrun
    rw [hf] at hR
    have HR := Lib.hid hR
    clear hV h1 h2 hf HYE HNO hR
    refine wpAnyH_ready (rs := [3]) (by kernel_rfl) (by simp) (AllReadyH.cons (o := ⟨some 15, .lookup 106 (.tmp 12) (.tmp 14) true, _, _, _, none⟩) rfl (fun K hK => ?_) AllReadyH.nil)
    go_simp
    have HS2 := Lib.hid (HS1.out)
    refine hK.out _ _ HS2.out (fun _ => ?_)
    clear hK K
    refine wpAnyH_take (i := 4) (oi := ⟨some 11, .move (.tmp 15), _, _, _, none⟩) (v := .tuple #[V, .bool false]) rfl (by kernel_rfl) (by kernel_rfl) (by kernel_rfl) (fun _ _ _ h => h) (Or.inl ⟨by rfl, fun w' hS => by go_simp⟩) HS2.out ?_
    simp only [Act.put, List.setIfInBounds_toArray, List.set_cons_zero, List.set_cons_succ]
    refine wpAnyH_take (i := 5) (oi := ⟨some 16, .extract (.tmp 11) 0, _, _, _, none⟩) (v := V) rfl (by kernel_rfl) (by kernel_rfl) (by kernel_rfl) (fun _ _ _ h => h) (Or.inl ⟨by rfl, fun w' hS => by go_simp⟩) HS2.out ?_
    simp only [Act.put, List.setIfInBounds_toArray, List.set_cons_zero, List.set_cons_succ]
    refine wpAnyH_take (i := 6) (oi := ⟨some 17, .extract (.tmp 11) 1, _, _, _, none⟩) (v := .bool false) rfl (by kernel_rfl) (by kernel_rfl) (by kernel_rfl) (fun _ _ _ h => h) (Or.inl ⟨by rfl, fun w' hS => by go_simp⟩) HS2.out ?_
    simp only [Act.put, List.setIfInBounds_toArray, List.set_cons_zero, List.set_cons_succ]
    refine wpAnyH_take (i := 7) (oi := ⟨some 4, .assign (.tmp 16), _, _, _, none⟩) (v := V) rfl (by kernel_rfl) (by kernel_rfl) (by kernel_rfl) (fun _ _ _ h => h) (Or.inl ⟨by rfl, fun w' hS => by go_simp⟩) HS2.out ?_
    simp only [Act.put, List.setIfInBounds_toArray, List.set_cons_zero, List.set_cons_succ]
    refine wpAnyH_take (i := 8) (oi := ⟨some 5, .assign (.tmp 17), _, _, _, none⟩) (v := .bool false) rfl (by kernel_rfl) (by kernel_rfl) (by kernel_rfl) (fun _ _ _ h => h) (Or.inl ⟨by rfl, fun w' hS => by go_simp⟩) HS2.out ?_
    simp only [Act.put, List.setIfInBounds_toArray, List.set_cons_zero, List.set_cons_succ]
    refine wpAnyH_done (by kernel_rfl) ?_ _
    clear hrun
    go_wp2
    go_ret2
    rw [HR.out]
    exact told_nil _ _ _ HB1.out
  | some fds =>
    obtain ⟨v, h1, h2, h3⟩ := HYE.out m.kind fds hf
    rw [h1] at hV
    rw [h2] at hrun
    have hVe : V = v := DataW.held.inj (Prod.mk.inj (Option.some.inj hV)).1
    subst hVe
    rw [hf] at hR
    simp only at hR
    have HR := Lib.hid hR
    have H3 := Lib.hid h3
    have HFC := Lib.hid (fds_cases hf)
    clear hV h1 h2 h3 hf HYE HNO hR
    refine wpAnyH_ready (rs := [3]) (by kernel_rfl) (by simp) (AllReadyH.cons (o := ⟨some 15, .lookup 106 (.tmp 12) (.tmp 14) true, _, _, _, none⟩) rfl (fun K hK => ?_) AllReadyH.nil)
    go_simp
    have HS2 := Lib.hid (HS1.out)
    refine hK.out _ _ HS2.out (fun _ => ?_)
    clear hK K
    refine wpAnyH_take (i := 4) (oi := ⟨some 11, .move (.tmp 15), _, _, _, none⟩) (v := .tuple #[V, .bool true]) rfl (by kernel_rfl) (by kernel_rfl) (by kernel_rfl) (fun _ _ _ h => h) (Or.inl ⟨by rfl, fun w' hS => by go_simp⟩) HS2.out ?_
    simp only [Act.put, List.setIfInBounds_toArray, List.set_cons_zero, List.set_cons_succ]
    refine wpAnyH_take (i := 5) (oi := ⟨some 16, .extract (.tmp 11) 0, _, _, _, none⟩) (v := V) rfl (by kernel_rfl) (by kernel_rfl) (by kernel_rfl) (fun _ _ _ h => h) (Or.inl ⟨by rfl, fun w' hS => by go_simp⟩) HS2.out ?_
    simp only [Act.put, List.setIfInBounds_toArray, List.set_cons_zero, List.set_cons_succ]
    refine wpAnyH_take (i := 6) (oi := ⟨some 17, .extract (.tmp 11) 1, _, _, _, none⟩) (v := .bool true) rfl (by kernel_rfl) (by kernel_rfl) (by kernel_rfl) (fun _ _ _ h => h) (Or.inl ⟨by rfl, fun w' hS => by go_simp⟩) HS2.out ?_
    simp only [Act.put, List.setIfInBounds_toArray, List.set_cons_zero, List.set_cons_succ]
    refine wpAnyH_take (i := 7) (oi := ⟨some 4, .assign (.tmp 16), _, _, _, none⟩) (v := V) rfl (by kernel_rfl) (by kernel_rfl) (by kernel_rfl) (fun _ _ _ h => h) (Or.inl ⟨by rfl, fun w' hS => by go_simp⟩) HS2.out ?_
    simp only [Act.put, List.setIfInBounds_toArray, List.set_cons_zero, List.set_cons_succ]
    refine wpAnyH_take (i := 8) (oi := ⟨some 5, .assign (.tmp 17), _, _, _, none⟩) (v := .bool true) rfl (by kernel_rfl) (by kernel_rfl) (by kernel_rfl) (fun _ _ _ h => h) (Or.inl ⟨by rfl, fun w' hS => by go_simp⟩) HS2.out ?_
    simp only [Act.put, List.setIfInBounds_toArray, List.set_cons_zero, List.set_cons_succ]
    refine wpAnyH_done (by kernel_rfl) ?_ _
    clear hrun
    have hty := HMT.out
    obtain ⟨TX, TE, hte⟩ : ∃ TX TE, Number.textL m.car m.ser = (TX, TE) := ⟨_, _, rfl⟩
    have htx := fun W (h : Below w.heap.size w W) => Nu.text_any m.car m.ser hty.car B W ((HE.out.on (h.mono HBB.out)).tab) (Nat.le_trans HBB.out h.size)
    rw [hte] at htx
    have HTX := Lib.hid htx
    have HR1 := Lib.hid (HR.out.trans (by rw [hte]))
    have HTE := Lib.hid hte
    have HN1 := Lib.hid HS1.out
    clear hty hte htx
    simp only at HR1
    have t1 : w1.cell? ⟨w.heap.size, 1, none⟩ = some (.int .u8 (m.car : Int)) := cell_of_arr HS1.out 1
    have t2 : w1.cell? ⟨w.heap.size, 2, none⟩ = some (.int .u64 (m.ser : Int)) := cell_of_arr HS1.out 2
    obtain ⟨EI, hEI⟩ : ∃ EI : Int, EI = (TE : Int) := ⟨_, rfl⟩
    have HTX2 := Lib.hid (fun W (h : Below w.heap.size w W) => (HTX.out W h).mono (R' := fun e w' => e = .returned (.tuple #[str TX, .int .i64 EI]) ∧ Below W.heap.size W w') (fun e w' ⟨h1, h2⟩ => ⟨by rw [h1, hEI]; rfl, h2⟩))
    have HEI := Lib.hid hEI
    clear HTX hEI
    by_cases hTE : TE = 0
    · obtain rfl : EI = 0 := by rw [HEI.out, hTE]; rfl
      have HR2 := Lib.hid (HR1.out.trans (if_pos hTE))
      clear hTE
      have HMB := Lib.hid (fun W (h : Below w1.heap.size w1 W) => mayBe_any m fds V W HMT.out (H3.out.kept (fun j hj => ⟨Nat.lt_of_lt_of_le hj.2 h.size, h.block j hj.2⟩)) (by rcases HFC.out with h | h | h | h | h <;> rw [h] <;> decide))
      have HR0 := Lib.hid (Below.refl w1.heap.size w1)
      cases hmay : mayL m fds with
      | false =>
        have HR3 := Lib.hid (HR2.out.trans (if_neg (by rw [hmay]; decide)))
        rw [hmay] at HMB
        clear hmay
        go_wp2_with (first
          | (go_at_call 49; refine (HTX2.out _ HB1.out).mono ?_; rintro e w2 ⟨rfl, hb2⟩
             have HB2 := Lib.hid (HB1.out.trans (hb2.mono HB1.out.size))
             have HX2 := Lib.hid (HR0.out.trans hb2)
             have HN2 := Lib.hid ((hb2.block w.heap.size (lt_of_heap HN1.out)).trans HN1.out)
             clear hb2)
          | (refine wpList_load_row rfl 36 _ rfl w.heap.size rfl 36 #[.int .u8 (m.kind : Int), .int .u8 (m.car : Int), .int .u64 (m.ser : Int), .int .u8 (m.at_ : Int), .int .u8 (m.lc : Int), .int .u16 (m.lf : Int), .int .u32 (m.lw : Int), .int .i64 m.val, .int .u8 (m.st : Int), .int .u32 (m.non : Int), .int .i64 m.am, .int .i64 m.code] (0, 0) _ HN2.out Tryz.underlying36 rfl sizeMs ?_)
          | (go_at_call 50; refine (HMB.out _ HX2.out).mono ?_; rintro e w3 ⟨rfl, hb3⟩
             have HB3 := Lib.hid (HB2.out.trans (hb3.mono HB2.out.size))
             clear hb3))
        go_ret2
        rw [HR3.out]
        exact told_nil _ _ _ HB3.out
      | true =>
        have HR3 := Lib.hid (HR2.out.trans (if_pos hmay))
        rw [hmay] at HMB
        clear hmay
        go_upto_region 9 with (first
          | (go_at_call 49; refine (HTX2.out _ HB1.out).mono ?_; rintro e w2 ⟨rfl, hb2⟩
             have HB2 := Lib.hid (HB1.out.trans (hb2.mono HB1.out.size))
             have HX2 := Lib.hid (HR0.out.trans hb2)
             have HN2 := Lib.hid ((hb2.block w.heap.size (lt_of_heap HN1.out)).trans HN1.out)
             clear hb2)
          | (refine wpList_load_row rfl 36 _ rfl w.heap.size rfl 36 #[.int .u8 (m.kind : Int), .int .u8 (m.car : Int), .int .u64 (m.ser : Int), .int .u8 (m.at_ : Int), .int .u8 (m.lc : Int), .int .u16 (m.lf : Int), .int .u32 (m.lw : Int), .int .i64 m.val, .int .u8 (m.st : Int), .int .u32 (m.non : Int), .int .i64 m.am, .int .i64 m.code] (0, 0) _ HN2.out Tryz.underlying36 rfl sizeMs ?_)
          | (go_at_call 50; refine (HMB.out _ HX2.out).mono ?_; rintro e w3 ⟨rfl, hb3⟩
             have HB3 := Lib.hid (HB2.out.trans (hb3.mono HB2.out.size))
             have HX3 := Lib.hid (HX2.out.trans (hb3.mono HX2.out.size))
             have HN3 := Lib.hid ((hb3.block w.heap.size (lt_of_heap HN2.out)).trans HN2.out)
             clear hb3))
        have HTT := Lib.hid (fun n (hn : i64B n) W (h : Below w.heap.size w W) => mgtext_any n hn B W (HE.out.on (h.mono HBB.out)))
        have hik : i64B (m.kind : Int) := by unfold i64B; omega
        have hia : i64B (m.at_ : Int) := by unfold i64B; omega
        have HIK := Lib.hid (And.intro hik hia)
        clear hik hia t1 t2
        refine wp_region_held (S := fun w' => w'.heap[w.heap.size]? = some (.cells #[.int .u8 (m.kind : Int), .int .u8 (m.car : Int), .int .u64 (m.ser : Int), .int .u8 (m.at_ : Int), .int .u8 (m.lc : Int), .int .u16 (m.lf : Int), .int .u32 (m.lw : Int), .int .i64 m.val, .int .u8 (m.st : Int), .int .u32 (m.non : Int), .int .i64 m.am, .int .i64 m.code] 36 (0, 0))) (by kernel_rfl) ?_
        change wpAnyH _ _ _ _ _ _ _ _ (World.drew _)
        have HS3 := Lib.hid (show w3.drew.heap[w.heap.size]? = some (.cells #[.int .u8 (m.kind : Int), .int .u8 (m.car : Int), .int .u64 (m.ser : Int), .int .u8 (m.at_ : Int), .int .u8 (m.lc : Int), .int .u16 (m.lf : Int), .int .u32 (m.lw : Int), .int .i64 m.val, .int .u8 (m.st : Int), .int .u32 (m.non : Int), .int .i64 m.am, .int .i64 m.code] 36 (0, 0)) from HN3.out)
        have HB3d := Lib.hid (show Below w.heap.size w w3.drew from HB3.out.drew)
        have HX3d := Lib.hid (show Below w1.heap.size w1 w3.drew from HX3.out.drew)
        refine wpAnyH_take (i := 0) (oi := ⟨some 36, .fieldAddr 36 (.tmp 1) 0, _, _, _, none⟩) (v := .pointer (some ⟨w.heap.size, 0, none⟩)) rfl (by kernel_rfl) (by kernel_rfl) (by kernel_rfl) (fun _ _ _ h => h) (Or.inl ⟨by rfl, fun w' hS => by go_simp⟩) HS3.out ?_
        simp only [Act.put, List.setIfInBounds_toArray, List.set_cons_zero, List.set_cons_succ]
        refine wpAnyH_take (i := 1) (oi := ⟨some 37, .load 5 (.tmp 36), _, _, _, none⟩) (v := .int .u8 (m.kind : Int)) rfl (by kernel_rfl) (by kernel_rfl) (by kernel_rfl) (fun _ _ _ h => h) (Or.inl ⟨by rfl, fun w' hS => by have c := cell_of_arr hS 0; go_simp⟩) HS3.out ?_
        simp only [Act.put, List.setIfInBounds_toArray, List.set_cons_zero, List.set_cons_succ]
        refine wpAnyH_take (i := 2) (oi := ⟨some 38, .convert 5 2 (.tmp 37), _, _, _, none⟩) (v := .int .i64 (m.kind : Int)) rfl (by kernel_rfl) (by kernel_rfl) (by kernel_rfl) (fun _ _ _ h => h) (Or.inl ⟨by rfl, fun w' hS => by go_simp; exact IntWalk.i64_in _ (by omega)⟩) HS3.out ?_
        simp only [Act.put, List.setIfInBounds_toArray, List.set_cons_zero, List.set_cons_succ]
        refine wpAnyH_take (i := 6) (oi := ⟨some 42, .move (.tmp 6), _, _, _, none⟩) (v := str TX) rfl (by kernel_rfl) (by kernel_rfl) (by kernel_rfl) (fun _ _ _ h => h) (Or.inl ⟨by rfl, fun w' hS => by go_simp⟩) HS3.out ?_
        simp only [Act.put, List.setIfInBounds_toArray, List.set_cons_zero, List.set_cons_succ]
        refine wpAnyH_take (i := 7) (oi := ⟨some 43, .fieldAddr 36 (.tmp 1) 1, _, _, _, none⟩) (v := .pointer (some ⟨w.heap.size, 1, none⟩)) rfl (by kernel_rfl) (by kernel_rfl) (by kernel_rfl) (fun _ _ _ h => h) (Or.inl ⟨by rfl, fun w' hS => by go_simp⟩) HS3.out ?_
        simp only [Act.put, List.setIfInBounds_toArray, List.set_cons_zero, List.set_cons_succ]
        refine wpAnyH_take (i := 8) (oi := ⟨some 44, .fieldAddr 26 (.tmp 43) 1, _, _, _, none⟩) (v := .pointer (some ⟨w.heap.size, 3, none⟩)) rfl (by kernel_rfl) (by kernel_rfl) (by kernel_rfl) (fun _ _ _ h => h) (Or.inl ⟨by rfl, fun w' hS => by go_simp⟩) HS3.out ?_
        simp only [Act.put, List.setIfInBounds_toArray, List.set_cons_zero, List.set_cons_succ]
        refine wpAnyH_take (i := 9) (oi := ⟨some 45, .load 5 (.tmp 44), _, _, _, none⟩) (v := .int .u8 (m.at_ : Int)) rfl (by kernel_rfl) (by kernel_rfl) (by kernel_rfl) (fun _ _ _ h => h) (Or.inl ⟨by rfl, fun w' hS => by have c := cell_of_arr hS 3; go_simp⟩) HS3.out ?_
        simp only [Act.put, List.setIfInBounds_toArray, List.set_cons_zero, List.set_cons_succ]
        refine wpAnyH_take (i := 10) (oi := ⟨some 46, .convert 5 2 (.tmp 45), _, _, _, none⟩) (v := .int .i64 (m.at_ : Int)) rfl (by kernel_rfl) (by kernel_rfl) (by kernel_rfl) (fun _ _ _ h => h) (Or.inl ⟨by rfl, fun w' hS => by go_simp; exact IntWalk.i64_in _ (by omega)⟩) HS3.out ?_
        simp only [Act.put, List.setIfInBounds_toArray, List.set_cons_zero, List.set_cons_succ]
        refine wpAnyH_ready (rs := [3]) (by kernel_rfl) (by simp) (AllReadyH.cons (o := ⟨some 39, .call ⟨.value (.func 51), #[.tmp 38], _⟩, _, _, _, none⟩) rfl (fun K hK => ?_) AllReadyH.nil)
        go_simp
        refine (HTT.out _ HIK.out.1 _ HB3d.out).mono ?_
        rintro e w4 ⟨rfl, hb4⟩
        have HB4 := Lib.hid (HB3d.out.trans (hb4.mono HB3d.out.size))
        have HX4 := Lib.hid (HX3d.out.trans (hb4.mono HX3d.out.size))
        have HS4 := Lib.hid (show w4.heap[w.heap.size]? = some (.cells #[.int .u8 (m.kind : Int), .int .u8 (m.car : Int), .int .u64 (m.ser : Int), .int .u8 (m.at_ : Int), .int .u8 (m.lc : Int), .int .u16 (m.lf : Int), .int .u32 (m.lw : Int), .int .i64 m.val, .int .u8 (m.st : Int), .int .u32 (m.non : Int), .int .i64 m.am, .int .i64 m.code] 36 (0, 0)) from (hb4.block w.heap.size (lt_of_heap HS3.out)).trans HS3.out)
        clear hb4
        refine hK.out _ _ HS4.out (fun _ => ?_)
        clear hK K
        refine wpAnyH_ready (rs := [4]) (by kernel_rfl) (by simp) (AllReadyH.cons (o := ⟨some 40, .buildSlice 62 1 #[(0, .tmp 39)], _, _, _, none⟩) rfl (fun K hK => ?_) AllReadyH.nil)
        go_simp
        have HS5 := Lib.hid (show (w4.alloc (.cells #[str (sdig (m.kind : Int))] 9)).heap[w.heap.size]? = some (.cells #[.int .u8 (m.kind : Int), .int .u8 (m.car : Int), .int .u64 (m.ser : Int), .int .u8 (m.at_ : Int), .int .u8 (m.lc : Int), .int .u16 (m.lf : Int), .int .u32 (m.lw : Int), .int .i64 m.val, .int .u8 (m.st : Int), .int .u32 (m.non : Int), .int .i64 m.am, .int .i64 m.code] 36 (0, 0)) from (Below.heap_alloc _ _ _ (lt_of_heap HS4.out)).trans HS4.out)
        refine hK.out _ _ HS5.out (fun _ => ?_)
        clear hK K
        refine wpAnyH_ready (rs := [5]) (by kernel_rfl) (by simp) (AllReadyH.cons (o := ⟨some 41, .call ⟨.value (.func 38), #[.const (.string ⟨#[77, 83, 71]⟩), .tmp 40], _⟩, _, _, _, none⟩) rfl (fun K hK => ?_) AllReadyH.nil)
        go_simp
        refine (sgmt_any [77, 83, 71] [sdig (m.kind : Int)] _ (· = w4.heap.size) (w4.alloc (.cells #[str (sdig (m.kind : Int))] 9)) (blk_strs ⟨at_last _ _⟩) (fun b e => by subst e; simp only [size_a]; omega) (by simp)).mono ?_
        rintro e w6 ⟨ve1, F1, rfl, he1, hf1, hb6⟩
        have HB6 := Lib.hid (show Below w.heap.size w w6 from (HB4.out.alloc HB4.out.size _).trans (hb6.mono (by have := HB4.out.size; simp only [size_a]; omega)))
        have HX6 := Lib.hid (show Below w1.heap.size w1 w6 from (HX4.out.alloc HX4.out.size _).trans (hb6.mono (by have := HX4.out.size; simp only [size_a]; omega)))
        have HE1 := Lib.hid he1
        have HF1 := Lib.hid (show ∀ b, F1 b → w.heap.size ≤ b ∧ b < w6.heap.size from fun b hb => ⟨by have := (hf1 b hb).1; have := HB4.out.size; simp only [size_a] at *; omega, (hf1 b hb).2⟩)
        have HS6 := Lib.hid (show w6.heap[w.heap.size]? = some (.cells #[.int .u8 (m.kind : Int), .int .u8 (m.car : Int), .int .u64 (m.ser : Int), .int .u8 (m.at_ : Int), .int .u8 (m.lc : Int), .int .u16 (m.lf : Int), .int .u32 (m.lw : Int), .int .i64 m.val, .int .u8 (m.st : Int), .int .u32 (m.non : Int), .int .i64 m.am, .int .i64 m.code] 36 (0, 0)) from (hb6.block w.heap.size (lt_of_heap HS5.out)).trans HS5.out)
        clear he1 hf1 hb6
        refine hK.out _ _ HS6.out (fun _ => ?_)
        clear hK K
        refine wpAnyH_ready (rs := [11]) (by kernel_rfl) (by simp) (AllReadyH.cons (o := ⟨some 47, .call ⟨.value (.func 51), #[.tmp 46], _⟩, _, _, _, none⟩) rfl (fun K hK => ?_) AllReadyH.nil)
        go_simp
        refine (HTT.out _ HIK.out.2 _ HB6.out).mono ?_
        rintro e w7 ⟨rfl, hb7⟩
        have HB7 := Lib.hid (HB6.out.trans (hb7.mono HB6.out.size))
        have HX7 := Lib.hid (HX6.out.trans (hb7.mono HX6.out.size))
        have HE17 := Lib.hid (HE1.out.kept (F' := F1) (fun b hb => ⟨hb, hb7.block b (HF1.out b hb).2⟩))
        have HZ7 := Lib.hid hb7.size
        have HS7 := Lib.hid (show w7.heap[w.heap.size]? = some (.cells #[.int .u8 (m.kind : Int), .int .u8 (m.car : Int), .int .u64 (m.ser : Int), .int .u8 (m.at_ : Int), .int .u8 (m.lc : Int), .int .u16 (m.lf : Int), .int .u32 (m.lw : Int), .int .i64 m.val, .int .u8 (m.st : Int), .int .u32 (m.non : Int), .int .i64 m.am, .int .i64 m.code] 36 (0, 0)) from (hb7.block w.heap.size (lt_of_heap HS6.out)).trans HS6.out)
        clear hb7
        refine hK.out _ _ HS7.out (fun _ => ?_)
        clear hK K
        refine wpAnyH_ready (rs := [12]) (by kernel_rfl) (by simp) (AllReadyH.cons (o := ⟨some 48, .buildSlice 62 2 #[(0, .tmp 42), (1, .tmp 47)], _, _, _, none⟩) rfl (fun K hK => ?_) AllReadyH.nil)
        go_simp
        have HS8 := Lib.hid (show (w7.alloc (.cells #[str TX, str (sdig (m.at_ : Int))] 9)).heap[w.heap.size]? = some (.cells #[.int .u8 (m.kind : Int), .int .u8 (m.car : Int), .int .u64 (m.ser : Int), .int .u8 (m.at_ : Int), .int .u8 (m.lc : Int), .int .u16 (m.lf : Int), .int .u32 (m.lw : Int), .int .i64 m.val, .int .u8 (m.st : Int), .int .u32 (m.non : Int), .int .i64 m.am, .int .i64 m.code] 36 (0, 0)) from (Below.heap_alloc _ _ _ (lt_of_heap HS7.out)).trans HS7.out)
        refine hK.out _ _ HS8.out (fun _ => ?_)
        clear hK K
        refine wpAnyH_ready (rs := [13]) (by kernel_rfl) (by simp) (AllReadyH.cons (o := ⟨some 49, .call ⟨.value (.func 38), #[.const (.string ⟨#[75, 69, 89]⟩), .tmp 48], _⟩, _, _, _, none⟩) rfl (fun K hK => ?_) AllReadyH.nil)
        go_simp
        refine (sgmt_any [75, 69, 89] [TX, sdig (m.at_ : Int)] _ (· = w7.heap.size) (w7.alloc (.cells #[str TX, str (sdig (m.at_ : Int))] 9)) (blk_strs ⟨at_last _ _⟩) (fun b e => by subst e; simp only [size_a]; omega) (by simp)).mono ?_
        rintro e w9 ⟨ve2, F2, rfl, he2, hf2, hb9⟩
        have hx9 : Below w7.heap.size w7 w9 := ((Below.refl _ _).alloc (Nat.le_refl _) _).trans (hb9.mono (by simp only [size_a]; omega))
        have HB9 := Lib.hid (show Below w.heap.size w w9 from HB7.out.trans (hx9.mono HB7.out.size))
        have HX9 := Lib.hid (show Below w1.heap.size w1 w9 from HX7.out.trans (hx9.mono HX7.out.size))
        have HE2 := Lib.hid he2
        have HF2 := Lib.hid (show ∀ b, F2 b → w.heap.size ≤ b ∧ b < w9.heap.size from fun b hb => ⟨by have := (hf2 b hb).1; have := HB7.out.size; simp only [size_a] at *; omega, (hf2 b hb).2⟩)
        have HE19 := Lib.hid (HE17.out.kept (F' := F1) (fun b hb => ⟨hb, hx9.block b (Nat.lt_of_lt_of_le (HF1.out b hb).2 HZ7.out)⟩))
        have HZ9 := Lib.hid (Nat.le_trans HZ7.out hx9.size)
        have HS9 := Lib.hid (show w9.heap[w.heap.size]? = some (.cells #[.int .u8 (m.kind : Int), .int .u8 (m.car : Int), .int .u64 (m.ser : Int), .int .u8 (m.at_ : Int), .int .u8 (m.lc : Int), .int .u16 (m.lf : Int), .int .u32 (m.lw : Int), .int .i64 m.val, .int .u8 (m.st : Int), .int .u32 (m.non : Int), .int .i64 m.am, .int .i64 m.code] 36 (0, 0)) from (hb9.block w.heap.size (lt_of_heap HS8.out)).trans HS8.out)
        clear he2 hf2 hb9 hx9
        refine hK.out _ _ HS9.out (fun _ => ?_)
        clear hK K
        refine wpAnyH_ready (rs := [14]) (by kernel_rfl) (by simp) (AllReadyH.cons (o := ⟨some 50, .buildSlice 39 2 #[(0, .tmp 41), (1, .tmp 49)], _, _, _, none⟩) rfl (fun K hK => ?_) AllReadyH.nil)
        go_simp
        have HS10 := Lib.hid (show (w9.alloc (.cells #[str [77, 83, 71], ve1, str [75, 69, 89], ve2] 59)).heap[w.heap.size]? = some (.cells #[.int .u8 (m.kind : Int), .int .u8 (m.car : Int), .int .u64 (m.ser : Int), .int .u8 (m.at_ : Int), .int .u8 (m.lc : Int), .int .u16 (m.lf : Int), .int .u32 (m.lw : Int), .int .i64 m.val, .int .u8 (m.st : Int), .int .u32 (m.non : Int), .int .i64 m.am, .int .i64 m.code] 36 (0, 0)) from (Below.heap_alloc _ _ _ (lt_of_heap HS9.out)).trans HS9.out)
        refine hK.out _ _ HS10.out (fun _ => ?_)
        clear hK K
        refine wpAnyH_take (i := 15) (oi := ⟨some 8, .assign (.tmp 50), _, _, _, none⟩) (v := .slice (some ⟨w9.heap.size, 0, none⟩) 2 2) rfl (by kernel_rfl) (by kernel_rfl) (by kernel_rfl) (fun _ _ _ h => h) (Or.inl ⟨by rfl, fun w' hS => by go_simp⟩) HS10.out ?_
        simp only [Act.put, List.setIfInBounds_toArray, List.set_cons_zero, List.set_cons_succ]
        refine wpAnyH_done (by kernel_rfl) ?_ _
        obtain ⟨seg0, hseg0⟩ : ∃ seg0, seg0 = [sgL kindT [sdig (m.kind : Int)], sgL keyT [TX, sdig (m.at_ : Int)]] := ⟨_, rfl⟩
        have HSG0 := Lib.hid hseg0
        have hR4 : R = (seg0 ++ fds.map (fldS m), 0) := by rw [HR3.out, hseg0]; rfl
        have HR4 := Lib.hid hR4
        have hTm : TmI w (fun b => F1 b ∨ F2 b) seg0 (.slice (some ⟨w9.heap.size, 0, none⟩) 2 2) (w9.alloc (.cells #[str [77, 83, 71], ve1, str [75, 69, 89], ve2] 59)) := by
          have hz := HB9.out.size
          have kp : ∀ (F : Nat → Prop), (∀ b, F b → b < w9.heap.size) → ∀ b, F b → (w9.alloc (.cells #[str [77, 83, 71], ve1, str [75, 69, 89], ve2] 59)).heap[b]? = w9.heap[b]? := fun F hF b hb => Below.heap_alloc _ _ _ (hF b hb)
          have hF1 : ∀ b, F1 b → w.heap.size ≤ b ∧ b < w9.heap.size := fun b hb => ⟨(HF1.out b hb).1, Nat.lt_of_lt_of_le (HF1.out b hb).2 HZ9.out⟩
          refine ⟨⟨[str [77, 83, 71], ve1, str [75, 69, 89], ve2], ?_, ?_⟩, ?_, HB9.out.alloc hz _⟩
          · rw [hseg0]
            exact World.ownsRow_lit (base := w.heap.size) (e := 59) (size := 2) w9 #[str [77, 83, 71], ve1, str [75, 69, 89], ve2] 2 hz (by unfold maxLen; omega) rfl
          · rw [hseg0]
            exact ⟨rfl, HE19.out.kept (fun b hb => ⟨Or.inl hb, kp F1 (fun b hb => (hF1 b hb).2) b hb⟩), rfl, HE2.out.kept (fun b hb => ⟨Or.inr hb, kp F2 (fun b hb => (HF2.out b hb).2) b hb⟩), True.intro⟩
          · rintro b (hb | hb)
            · have := hF1 b hb
              refine ⟨this.1, by rw [size_a]; omega, ?_⟩
              simp only [Value.ownBlock]; intro e; have := Option.some.inj e; omega
            · have := HF2.out b hb
              refine ⟨this.1, by rw [size_a]; omega, ?_⟩
              simp only [Value.ownBlock]; intro e; have := Option.some.inj e; omega
        have HTM := Lib.hid hTm
        have HSL := Lib.hid (show seg0.length = 2 by rw [hseg0]; rfl)
        have HM9 := Lib.hid HS9.out
        have HB9b := Lib.hid (Below.refl w9.heap.size w9)
        have hpf := H3.out
        obtain ⟨pf, cf, rfl, hcf, hpf⟩ := hpf
        have HPF := Lib.hid hpf
        have lF : (fds.length : Int) ≤ 10 := by rcases HFC.out with h | h | h | h | h <;> rw [h] <;> decide
        have HWB := Lib.hid (show w.heap.size < w9.heap.size from lt_of_heap HS9.out)
        clear hTm hseg0 hR4 hpf hcf
        go_wp2
        go_loopw [8, 10, 53] (fun v _ i wr => ∃ (k : Nat) (F : Nat → Prop) (pv : Option Addr) (cv : Nat), v = .slice pv (k + 2) cv ∧ i = .int .i64 k ∧ k ≤ fds.length ∧ Hid (TmI w F (seg0 ++ (fds.take k).map (fldS m)) (.slice pv (k + 2) cv) wr) ∧ Hid (Below w9.heap.size w9 wr) ∧ Hid (∀ b, (Value.slice pv (k + 2) cv).ownBlock = some b → w9.heap.size ≤ b)) (fun _ _ i _ => fds.length - (intOf i).toNat)
        case atStart => exact ⟨0, _, _, _, rfl, rfl, Nat.zero_le _, (show TmI w _ (seg0 ++ (fds.take 0).map (fldS m)) _ _ by simpa using HTM.out), (Below.refl _ _).alloc (Nat.le_refl _) _, fun b e => by simp only [Value.ownBlock] at e; have := Option.some.inj e; omega⟩
        case round =>
          obtain ⟨k, F, pv, cv, rfl, rfl, hk, htm, hxb, hob⟩ := hrel
          have HTK := Lib.hid htm.out
          have HXB := Lib.hid hxb.out
          have HOB := Lib.hid hob.out
          clear htm hxb hob
          by_cases hlt : (k : Int) < (fds.length : Int)
          · have hkl : k < fds.length := by omega
            have hk0' : (0 : Int) ≤ (k : Int) := Int.natCast_nonneg _
            obtain ⟨fb, fo, rfl, hFb, hfc⟩ := HPF.out (by omega)
            have hfb9 : fb < w9.heap.size := Nat.lt_of_lt_of_le hFb.2 HX9.out.size
            have FC : ∀ i u, (fdV fds[k])[i]? = some u → wr.cell? ⟨fb, fo + k * 3 + i, none⟩ = some u := fun i u hu => by
              have h := hfc (k * 3 + i) u (fdv_at hkl hu)
              rw [← Nat.add_assoc] at h
              exact (World.cell?_of_block (a := ⟨fb, fo + k * 3 + i, none⟩) ((HXB.out.block fb hfb9).trans (HX9.out.block fb hFb.2))).trans h
            have HTS := Lib.hid (show (fds.take (k + 1)).map (fldS m) = (fds.take k).map (fldS m) ++ [fldS m fds[k]] by rw [← List.take_append_getElem hkl, List.map_append]; rfl)
            obtain ⟨fd, hfd⟩ : ∃ fd, fd = fds[k] := ⟨_, rfl⟩
            rw [← hfd] at FC HTS
            have f0 := FC 0 _ (fdv_0 fd)
            have f1 := FC 1 _ (fdv_1 fd)
            have f2 := FC 2 _ (fdv_2 fd)
            rw [Nat.add_zero] at f0
            have hent2 := tell_enter fd
            have HTL := Lib.hid (fun W => tell_any m fd W HMT.out)
            have HTB := Lib.hid (tell_b HMT.out fd)
            have HTN := Lib.hid (show (tellL m fd).length ≤ 1000 by cases fd <;> simp [tellL])
            have hmr := (HXB.out.block w.heap.size HWB.out).trans HM9.out
            have HSEG := Lib.hid (show fldS m fd = ⟨tagL fd, ((tellL m fd).map sdig).map fun x => [x]⟩ from rfl)
            obtain ⟨xs, hxs, hsg⟩ := HTK.out.sg
            have hsl : (seg0 ++ (fds.take k).map (fldS m)).length = k + 2 := by
              rw [List.length_append, HSL.out, List.length_map, List.length_take]; omega
            rw [hsl] at hxs
            have HXS := Lib.hid hxs
            have HSGC := Lib.hid hsg
            have HSLN := Lib.hid hsl
            clear hfc FC hFb hfb9 hfd hkl hxs hsg hsl
            generalize takeFn fd = FT at *
            generalize tellFn fd = FG at *
            obtain ⟨tg, htg⟩ : ∃ tg, tg = tagL fd := ⟨_, rfl⟩
            rw [← htg] at f0 HSEG
            clear htg
            go_upto_region 13 with fail
            obtain ⟨w11, hw11⟩ : ∃ w11, w11 = wr.alloc (.cells #[str tg, .func (.func FG) #[] #[], .func (.func FT) #[] #[]] 112) := ⟨_, rfl⟩
            rw [← hw11]
            have hb11 : Below wr.heap.size wr w11 := by rw [hw11]; exact (Below.refl _ _).alloc (Nat.le_refl _) _
            have hfr : w11.heap[wr.heap.size]? = some (.cells #[str tg, .func (.func FG) #[] #[], .func (.func FT) #[] #[]] 112 (0, 0)) := by rw [hw11]; exact at_last _ _
            have HFR := Lib.hid hfr
            have HMR := Lib.hid ((hb11.block w.heap.size (lt_of_heap hmr)).trans hmr)
            have HB11 := Lib.hid (show Below wr.heap.size wr w11.drew from hb11.drew)
            have HBWR := Lib.hid (show Below w.heap.size w wr from HTK.out.bl)
            have HLT := Lib.hid hlt
            clear hw11 hb11 hfr hmr f0 f1 f2
            refine wp_region_held (S := fun w' => w'.heap[wr.heap.size]? = some (.cells #[str tg, .func (.func FG) #[] #[], .func (.func FT) #[] #[]] 112 (0, 0)) ∧ w'.heap[w.heap.size]? = some (.cells #[.int .u8 (m.kind : Int), .int .u8 (m.car : Int), .int .u64 (m.ser : Int), .int .u8 (m.at_ : Int), .int .u8 (m.lc : Int), .int .u16 (m.lf : Int), .int .u32 (m.lw : Int), .int .i64 m.val, .int .u8 (m.st : Int), .int .u32 (m.non : Int), .int .i64 m.am, .int .i64 m.code] 36 (0, 0))) (by kernel_rfl) ?_
            change wpAnyH _ _ _ _ _ _ _ _ (World.drew _)
            have HS11 := Lib.hid (show w11.drew.heap[wr.heap.size]? = some (.cells #[str tg, .func (.func FG) #[] #[], .func (.func FT) #[] #[]] 112 (0, 0)) ∧ w11.drew.heap[w.heap.size]? = some (.cells #[.int .u8 (m.kind : Int), .int .u8 (m.car : Int), .int .u64 (m.ser : Int), .int .u8 (m.at_ : Int), .int .u8 (m.lc : Int), .int .u16 (m.lf : Int), .int .u32 (m.lw : Int), .int .i64 m.val, .int .u8 (m.st : Int), .int .u32 (m.non : Int), .int .i64 m.am, .int .i64 m.code] 36 (0, 0)) from ⟨HFR.out, HMR.out⟩)
            refine wpAnyH_take (i := 0) (oi := ⟨some 57, .move (.tmp 8), _, _, _, none⟩) (v := .slice pv (k + 2) cv) rfl (by kernel_rfl) (by kernel_rfl) (by kernel_rfl) (fun _ _ _ h => h) (Or.inl ⟨by rfl, fun w' hS => by go_simp⟩) HS11.out ?_
            simp only [Act.put, List.setIfInBounds_toArray, List.set_cons_zero, List.set_cons_succ]
            refine wpAnyH_take (i := 1) (oi := ⟨some 58, .fieldAddr 112 (.tmp 10) 0, _, _, _, none⟩) (v := .pointer (some ⟨wr.heap.size, 0, none⟩)) rfl (by kernel_rfl) (by kernel_rfl) (by kernel_rfl) (fun _ _ _ h => h) (Or.inl ⟨by rfl, fun w' hS => by go_simp⟩) HS11.out ?_
            simp only [Act.put, List.setIfInBounds_toArray, List.set_cons_zero, List.set_cons_succ]
            refine wpAnyH_take (i := 2) (oi := ⟨some 59, .load 9 (.tmp 58), _, _, _, none⟩) (v := str tg) rfl (by kernel_rfl) (by kernel_rfl) (by kernel_rfl) (fun _ _ _ h => h) (Or.inl ⟨by rfl, fun w' hS => by have c := cell_of_arr hS.1 0; go_simp⟩) HS11.out ?_
            simp only [Act.put, List.setIfInBounds_toArray, List.set_cons_zero, List.set_cons_succ]
            refine wpAnyH_take (i := 3) (oi := ⟨some 60, .fieldAddr 112 (.tmp 10) 1, _, _, _, none⟩) (v := .pointer (some ⟨wr.heap.size, 1, none⟩)) rfl (by kernel_rfl) (by kernel_rfl) (by kernel_rfl) (fun _ _ _ h => h) (Or.inl ⟨by rfl, fun w' hS => by go_simp⟩) HS11.out ?_
            simp only [Act.put, List.setIfInBounds_toArray, List.set_cons_zero, List.set_cons_succ]
            refine wpAnyH_take (i := 4) (oi := ⟨some 61, .load 109 (.tmp 60), _, _, _, none⟩) (v := .func (.func FG) #[] #[]) rfl (by kernel_rfl) (by kernel_rfl) (by kernel_rfl) (fun _ _ _ h => h) (Or.inl ⟨by rfl, fun w' hS => by have c := cell_of_arr hS.1 1; go_simp⟩) HS11.out ?_
            simp only [Act.put, List.setIfInBounds_toArray, List.set_cons_zero, List.set_cons_succ]
            refine wpAnyH_take (i := 5) (oi := ⟨some 62, .load 36 (.tmp 1), _, _, _, none⟩) (v := .agg #[.int .u8 (m.kind : Int), .int .u8 (m.car : Int), .int .u64 (m.ser : Int), .int .u8 (m.at_ : Int), .int .u8 (m.lc : Int), .int .u16 (m.lf : Int), .int .u32 (m.lw : Int), .int .i64 m.val, .int .u8 (m.st : Int), .int .u32 (m.non : Int), .int .i64 m.am, .int .i64 m.code]) rfl (by kernel_rfl) (by kernel_rfl) (by kernel_rfl) (fun _ _ _ h => h) (Or.inl ⟨by rfl, fun w' hS => by have c0 := cell_of_arr hS.2 0; have c1 := cell_of_arr hS.2 1; have c2 := cell_of_arr hS.2 2; have c3 := cell_of_arr hS.2 3; have c4 := cell_of_arr hS.2 4; have c5 := cell_of_arr hS.2 5; have c6 := cell_of_arr hS.2 6; have c7 := cell_of_arr hS.2 7; have c8 := cell_of_arr hS.2 8; have c9 := cell_of_arr hS.2 9; have c10 := cell_of_arr hS.2 10; have c11 := cell_of_arr hS.2 11; simp only [List.getElem?_toArray, List.getElem?_cons_zero, List.getElem?_cons_succ] at c0 c1 c2 c3 c4 c5 c6 c7 c8 c9 c10 c11; go_simp⟩) HS11.out ?_
            simp only [Act.put, List.setIfInBounds_toArray, List.set_cons_zero, List.set_cons_succ]
            refine wpAnyH_ready (rs := [6]) (by kernel_rfl) (by simp) (AllReadyH.cons (o := ⟨some 63, .call ⟨.value (.tmp 61), #[.tmp 62], _⟩, _, _, _, none⟩) rfl (fun K hK => ?_) AllReadyH.nil)
            go_simp
            refine (HTL.out _).mono ?_
            rintro e w12 ⟨v12, F12, rfl, hr12, hf12, hb12⟩
            have HR12 := Lib.hid hr12
            have HF12 := Lib.hid hf12
            have HB12 := Lib.hid (HB11.out.trans (hb12.mono HB11.out.size))
            have HS12 := Lib.hid (show w12.heap[wr.heap.size]? = some (.cells #[str tg, .func (.func FG) #[] #[], .func (.func FT) #[] #[]] 112 (0, 0)) ∧ w12.heap[w.heap.size]? = some (.cells #[.int .u8 (m.kind : Int), .int .u8 (m.car : Int), .int .u64 (m.ser : Int), .int .u8 (m.at_ : Int), .int .u8 (m.lc : Int), .int .u16 (m.lf : Int), .int .u32 (m.lw : Int), .int .i64 m.val, .int .u8 (m.st : Int), .int .u32 (m.non : Int), .int .i64 m.am, .int .i64 m.code] 36 (0, 0)) from ⟨(hb12.block _ (lt_of_heap HS11.out.1)).trans HS11.out.1, (hb12.block _ (lt_of_heap HS11.out.2)).trans HS11.out.2⟩)
            clear hr12 hf12 hb12
            refine hK.out _ _ HS12.out (fun _ => ?_)
            clear hK K
            refine wpAnyH_ready (rs := [7]) (by kernel_rfl) (by simp) (AllReadyH.cons (o := ⟨some 64, .call ⟨.value (.func 52), #[.tmp 63], _⟩, _, _, _, none⟩) rfl (fun K hK => ?_) AllReadyH.nil)
            go_simp
            refine (texts_any (tellL m fd) F12 v12 B _ HR12.out (fun b hb => (HF12.out b hb).2) HTB.out HTN.out (HE.out.on ((HBWR.out.trans (HB12.out.mono HBWR.out.size)).mono HBB.out)) (Nat.le_trans HBB.out (Nat.le_trans HBWR.out.size HB12.out.size))).mono ?_
            rintro e w13 ⟨v13, F13, rfl, hr13, hf13, hb13⟩
            have HR13 := Lib.hid hr13
            have HF13 := Lib.hid hf13
            have HB13 := Lib.hid (HB12.out.trans (hb13.mono HB12.out.size))
            have HS13 := Lib.hid (show w13.heap[wr.heap.size]? = some (.cells #[str tg, .func (.func FG) #[] #[], .func (.func FT) #[] #[]] 112 (0, 0)) ∧ w13.heap[w.heap.size]? = some (.cells #[.int .u8 (m.kind : Int), .int .u8 (m.car : Int), .int .u64 (m.ser : Int), .int .u8 (m.at_ : Int), .int .u8 (m.lc : Int), .int .u16 (m.lf : Int), .int .u32 (m.lw : Int), .int .i64 m.val, .int .u8 (m.st : Int), .int .u32 (m.non : Int), .int .i64 m.am, .int .i64 m.code] 36 (0, 0)) from ⟨(hb13.block _ (lt_of_heap HS12.out.1)).trans HS12.out.1, (hb13.block _ (lt_of_heap HS12.out.2)).trans HS12.out.2⟩)
            clear hr13 hf13 hb13
            refine hK.out _ _ HS13.out (fun _ => ?_)
            clear hK K
            refine wpAnyH_ready (rs := [8]) (by kernel_rfl) (by simp) (AllReadyH.cons (o := ⟨some 65, .call ⟨.value (.func 38), #[.tmp 59, .tmp 64], _⟩, _, _, _, none⟩) rfl (fun K hK => ?_) AllReadyH.nil)
            go_simp
            refine (sgmt_any tg ((tellL m fd).map sdig) v13 F13 _ HR13.out (fun b hb => (HF13.out b hb).2) (by rw [List.length_map]; exact HTN.out)).mono ?_
            rintro e w14 ⟨ve, F14, rfl, he14, hf14, hb14⟩
            have HVE := Lib.hid (show ∃ pe n ce, ve = .slice pe n ce by obtain ⟨ys, ⟨pe, ce, h, _, _⟩, _⟩ := he14; exact ⟨pe, _, ce, h⟩)
            have HE14 := Lib.hid he14
            have HF14 := Lib.hid (show ∀ b, F14 b → wr.heap.size ≤ b ∧ b < w14.heap.size from fun b hb => ⟨Nat.le_trans HB13.out.size (hf14 b hb).1, (hf14 b hb).2⟩)
            have HB14 := Lib.hid (HB13.out.trans (hb14.mono HB13.out.size))
            have HS14 := Lib.hid (show w14.heap[wr.heap.size]? = some (.cells #[str tg, .func (.func FG) #[] #[], .func (.func FT) #[] #[]] 112 (0, 0)) ∧ w14.heap[w.heap.size]? = some (.cells #[.int .u8 (m.kind : Int), .int .u8 (m.car : Int), .int .u64 (m.ser : Int), .int .u8 (m.at_ : Int), .int .u8 (m.lc : Int), .int .u16 (m.lf : Int), .int .u32 (m.lw : Int), .int .i64 m.val, .int .u8 (m.st : Int), .int .u32 (m.non : Int), .int .i64 m.am, .int .i64 m.code] 36 (0, 0)) from ⟨(hb14.block _ (lt_of_heap HS13.out.1)).trans HS13.out.1, (hb14.block _ (lt_of_heap HS13.out.2)).trans HS13.out.2⟩)
            clear he14 hf14 hb14
            refine hK.out _ _ HS14.out (fun _ => ?_)
            clear hK K
            refine wpAnyH_ready (rs := [9]) (by kernel_rfl) (by simp) (AllReadyH.cons (o := ⟨some 66, .buildSlice 39 1 #[(0, .tmp 65)], _, _, _, none⟩) rfl (fun K hK => ?_) AllReadyH.nil)
            go_simp
            have HS15 := Lib.hid (show (w14.alloc (.cells #[str tg, ve] 59)).heap[wr.heap.size]? = some (.cells #[str tg, .func (.func FG) #[] #[], .func (.func FT) #[] #[]] 112 (0, 0)) ∧ (w14.alloc (.cells #[str tg, ve] 59)).heap[w.heap.size]? = some (.cells #[.int .u8 (m.kind : Int), .int .u8 (m.car : Int), .int .u64 (m.ser : Int), .int .u8 (m.at_ : Int), .int .u8 (m.lc : Int), .int .u16 (m.lf : Int), .int .u32 (m.lw : Int), .int .i64 m.val, .int .u8 (m.st : Int), .int .u32 (m.non : Int), .int .i64 m.am, .int .i64 m.code] 36 (0, 0)) from ⟨(Below.heap_alloc _ _ _ (lt_of_heap HS14.out.1)).trans HS14.out.1, (Below.heap_alloc _ _ _ (lt_of_heap HS14.out.2)).trans HS14.out.2⟩)
            refine hK.out _ _ HS15.out (fun _ => ?_)
            clear hK K
            refine wpAnyH_ready (rs := [10]) (by kernel_rfl) (by simp) (AllReadyH.cons (o := ⟨some 67, .call ⟨.builtin .append, #[.tmp 57, .tmp 66], _⟩, _, _, _, none⟩) rfl (fun K hK => ?_) AllReadyH.nil)
            rw [if_pos (by rfl)]
            refine st_app1 39 59 (.agg #[.string ⟨#[]⟩, .slice none 0 0]) 2 40 par_segm Tryz.underlying39 rfl (by decide) (by decide) w.heap.size (.slice pv (k + 2) cv) (k + 2) xs rfl ((own_keep HXS.out (fun b e => HB14.out.block b (HXS.out.lt b e).2)).alloc _) w14.heap.size 1 [str tg, ve] 59 (0, 0) rfl rfl (at_last _ _) (by intro u hu; simp only [List.mem_cons, List.not_mem_nil, or_false] at hu; rcases hu with rfl | rfl; rfl; obtain ⟨pe, nn, ce, h⟩ := HVE.out; rw [h]; rfl) (by have := HLT.out; omega) (by have := HBWR.out.size; have := HB14.out.size; simp only [size_a]; omega) ?_
            intro v16 w16 ho hg hk16
            obtain ⟨p16, c16, rfl⟩ := own_slice ho
            have hlt := fun b e => HXS.out.lt b e
            have HSN := Lib.hid (TmI.snoc (s := fldS m fd) HTK.out HSGC.out HB14.out (ve := ve) (by rw [HSEG.out]; exact HE14.out) HF14.out (by rw [HSEG.out, HSLN.out]; exact ho) (by rw [HSEG.out]; exact hg) (by rw [HSEG.out]; exact hk16) hlt)
            have HS16 := Lib.hid (show w16.heap[wr.heap.size]? = some (.cells #[str tg, .func (.func FG) #[] #[], .func (.func FT) #[] #[]] 112 (0, 0)) ∧ w16.heap[w.heap.size]? = some (.cells #[.int .u8 (m.kind : Int), .int .u8 (m.car : Int), .int .u64 (m.ser : Int), .int .u8 (m.at_ : Int), .int .u8 (m.lc : Int), .int .u16 (m.lf : Int), .int .u32 (m.lw : Int), .int .i64 m.val, .int .u8 (m.st : Int), .int .u32 (m.non : Int), .int .i64 m.am, .int .i64 m.code] 36 (0, 0)) from ⟨(hg.block _ (lt_of_heap HS15.out.1) (fun e => by have := hlt _ e.symm; omega)).trans HS15.out.1, (hg.block _ (lt_of_heap HS15.out.2) (fun e => by have := HOB.out _ e.symm; have := HWB.out; omega)).trans HS15.out.2⟩)
            have HXB16 := Lib.hid (show Below w9.heap.size w9 w16 from ((HXB.out.trans (HB14.out.mono HXB.out.size)).alloc (by have := HXB.out.size; have := HB14.out.size; omega) _).grown hg (by have := HXB.out.size; have := HB14.out.size; simp only [size_a]; omega) (fun b e => HOB.out b e))
            have HOB16 := Lib.hid (show ∀ b, (Value.slice p16 (k + 1 + 2) c16).ownBlock = some b → w9.heap.size ≤ b from fun b e => hk16.elim (fun h => HOB.out b (h ▸ e)) (fun h => by have h2 : (Value.slice p16 (k + 2 + 1) c16).ownBlock = some b := e; rw [h2] at h; have := Option.some.inj h; have := HXB.out.size; have := HB14.out.size; simp only [size_a] at *; omega))
            refine hK.out _ _ HS16.out (fun _ => ?_)
            clear hK K ho hg hk16 hlt
            refine wpAnyH_take (i := 11) (oi := ⟨some 8, .assign (.tmp 67), _, _, _, none⟩) (v := .slice p16 (k + 2 + 1) c16) rfl (by kernel_rfl) (by kernel_rfl) (by kernel_rfl) (fun _ _ _ h => h) (Or.inl ⟨by rfl, fun w' hS => by go_simp⟩) HS16.out ?_
            simp only [Act.put, List.setIfInBounds_toArray, List.set_cons_zero, List.set_cons_succ]
            refine wpAnyH_done (by kernel_rfl) ?_ _
            go_wp2
            go_roundw
            case rel => exact ⟨k + 1, _, p16, c16, rfl, by go_num, by have := HLT.out; omega, (show TmI w _ _ _ _ by rw [HTS.out, ← List.append_assoc]; exact HSN.out), HXB16.out, HOB16.out⟩
            case measure => simp [intOf]; have := HLT.out; omega
          · obtain rfl : k = fds.length := by omega
            have hT := HTK.out.segs
            rw [List.take_length] at hT
            have HT := Lib.hid hT
            have HBL := Lib.hid HTK.out.bl
            clear hT
            go_wp2
            go_ret2
            rw [HR4.out]
            exact ⟨HBL.out, _, rfl, HT.out⟩
    · have hE0 : ¬ EI = 0 := by rw [HEI.out]; omega
      have HR2 := Lib.hid (HR1.out.trans (if_neg hTE))
      clear hTE
      go_wp2_with (go_at_call 49; refine (HTX2.out _ HB1.out).mono ?_; rintro e w2 ⟨rfl, hb2⟩
                   have HB2 := Lib.hid (HB1.out.trans (hb2.mono HB1.out.size))
                   clear hb2)
      go_ret2
      rw [HR2.out]
      have := told_nil w w2 TE HB2.out
      rw [← HEI.out] at this
      exact this
end Go.Proofs.YtjlifjgljejabaaGreatDoor
/- Contracts: what a packet says as segments, as an interchange, as a text. -/
namespace Go.Proofs.YtjlifjgljejabaaGreatDoor
open Go.RowKit Go.Edi Go.Wrap Go.Lib

/-- small segments -/
def tiny (l : List Sg) : Prop := l.length ≤ 64 ∧ ∀ s ∈ l, s.els.length ≤ 16 ∧ ∀ e ∈ s.els, e.length ≤ 8 ∧ ∀ t ∈ e, t.length ≤ 256
theorem tiny.sane {l : List Sg} (h : tiny l) : sane l := ⟨by have := h.1; omega, fun s hs => ⟨by have := (h.2 s hs).1; omega, fun e he => ⟨by have := ((h.2 s hs).2 e he).1; omega, fun t ht => by have := ((h.2 s hs).2 e he).2 t ht; omega⟩⟩⟩
theorem tiny.sz {l : List Sg} (h : tiny l) : ∀ s ∈ l, ∀ e ∈ s.els, ∀ t ∈ e, t.length ≤ 281474976710656 := fun s hs e he t ht => by have := ((h.2 s hs).2 e he).2 t ht; omega
theorem tiny.el {l : List Sg} (h : tiny l) : ∀ s ∈ l, s.els.length ≤ 1000 := fun s hs => by have := (h.2 s hs).1; omega
theorem tiny_sg {tag : Tx} {ts : List Tx} (h1 : ts.length ≤ 16) (h2 : ∀ t ∈ ts, t.length ≤ 256) : (sgL tag ts).els.length ≤ 16 ∧ ∀ e ∈ (sgL tag ts).els, e.length ≤ 8 ∧ ∀ t ∈ e, t.length ≤ 256 := by
  refine ⟨by simpa [sgL] using h1, fun e he => ?_⟩
  obtain ⟨t, ht, rfl⟩ := List.mem_map.1 he
  exact ⟨by simp, fun u hu => by rw [List.mem_singleton.1 hu]; exact h2 t ht⟩
theorem sdig_len {n : Int} (h : i64B n) : (sdig n).length ≤ 21 := Lib.itoa_length_le n h.1 h.2
theorem text_len (c s : Nat) : (Number.textL c s).1.length ≤ 14 := by
  unfold Number.textL
  split
  · rw [Number.full_len]; omega
  · simp
theorem tiny_told {m : Ms} (h : m.Ty) : tiny (toldMs m).1 := by
  rw [told_shape]
  split
  · exact ⟨by simp, fun s hs => by cases hs⟩
  · rename_i fds hf
    split
    · split
      · refine ⟨?_, fun s hs => ?_⟩
        · rcases fds_cases hf with rfl | rfl | rfl | rfl | rfl <;> simp
        · simp only [List.mem_cons, List.mem_map] at hs
          have hk : i64B (m.kind : Int) := by have := h.kind; unfold i64B; omega
          have ha : i64B (m.at_ : Int) := by have := h.at_; unfold i64B; omega
          rcases hs with rfl | rfl | ⟨f, _, rfl⟩
          · exact tiny_sg (by simp) (fun t ht => by rw [List.mem_singleton.1 ht]; have := sdig_len hk; omega)
          · refine tiny_sg (by simp) (fun t ht => ?_)
            simp only [List.mem_cons, List.not_mem_nil, or_false] at ht
            rcases ht with rfl | rfl
            · have := text_len m.car m.ser; omega
            · have := sdig_len ha; omega
          · refine tiny_sg (by cases f <;> simp [tellL]) (fun t ht => ?_)
            obtain ⟨n, hn, rfl⟩ := List.mem_map.1 ht
            have := sdig_len (tell_b h f n hn)
            omega
      · exact ⟨by simp, fun s hs => by cases hs⟩
    · exact ⟨by simp, fun s hs => by cases hs⟩
theorem tiny_toldL {p : Pk} (h : p.m.Ty) : tiny (toldL p).1 := by
  unfold toldL
  split
  · split
    · exact ⟨by simp, fun s hs => by rw [List.mem_singleton.1 hs]; exact tiny_sg (by simp) (fun t ht => by cases ht)⟩
    · exact ⟨by simp, fun s hs => by cases hs⟩
  · exact tiny_told h
theorem seg1 {w : World} {F : Nat → Prop} {s : Sg} {ve : Value} (hve : ElsF w F ve s.els) (hF : ∀ b, F b → b < w.heap.size) : SegsF (w.alloc (.cells #[str s.tag, ve] 59)) (fun b => F b ∨ b = w.heap.size) (.slice (some ⟨w.heap.size, 0, none⟩) 1 1) [s] :=
  ⟨[str s.tag, ve], ⟨_, _, rfl, Nat.le_refl _, fun _ => ⟨w.heap.size, 0, rfl, Or.inr rfl, fun j u hu => by rw [Nat.zero_add, cell_of_arr (at_last _ _) j]; simpa using hu⟩⟩, rfl, hve.kept (fun b hb => ⟨Or.inl hb, Below.heap_alloc _ _ _ (hF b hb)⟩), True.intro⟩
set_option maxRecDepth 100000 in
set_option maxHeartbeats 3200000 in
theorem told_any' (p : Pk) (B : Nat) (w : World) (hp : p.Ty) (he : Env B w) (hB : B ≤ w.heap.size) : Calls Tryz.prog 24 #[.agg (pkV p)] w (ToldP (toldL p) w) := by
  obtain ⟨f, t, n, a, m⟩ := p
  have hm := hp.m
  simp only at hm
  cases a with
  | false =>
    have hR : toldL ⟨f, t, n, false, m⟩ = toldMs m := rfl
    rw [hR]
    have hb0 : Below w.heap.size w (w.alloc (.cells (pkV ⟨f, t, n, false, m⟩) 38)) := (Below.refl _ _).alloc (Nat.le_refl _) _
    have h := toldMs_any m B _ hm (he.on (hb0.mono hB)) (Nat.le_trans hB hb0.size)
    simp only [msV] at h
    have HB0 := Lib.hid hb0
    have HT := Lib.hid h
    simp only [pkV, msV, preV, List.cons_append, List.nil_append] at *
    clear hp he hB hm hR hb0 h
    go_enter Tryz.func24, Tryz.ntmps24
    go_wp2_with fail
    refine (HT.out).mono ?_
    rintro e w1 ⟨hb1, v, rfl, hv⟩
    have HB1 := Lib.hid (HB0.out.trans (hb1.mono HB0.out.size))
    have HV := Lib.hid hv
    have HZ := Lib.hid HB0.out.size
    clear hb1 hv
    go_wp2
    go_ret2
    exact ⟨HB1.out, v, rfl, HV.out.kept (fun b hb => ⟨⟨Nat.le_trans HZ.out hb.1, hb.2⟩, rfl⟩)⟩
  | true =>
    have hb0 : Below w.heap.size w (w.alloc (.cells (pkV ⟨f, t, n, true, m⟩) 38)) := (Below.refl _ _).alloc (Nat.le_refl _) _
    have HB0 := Lib.hid hb0
    by_cases hz : m = .zero
    · have hR : toldL ⟨f, t, n, true, m⟩ = ([sgL ackT []], 0) := by unfold toldL; simp [hz]
      rw [hR]
      have hneq : ∀ W, (binOp .neq 36 (.agg #[.int .u8 (m.kind : Int), .int .u8 (m.car : Int), .int .u64 (m.ser : Int), .int .u8 (m.at_ : Int), .int .u8 (m.lc : Int), .int .u16 (m.lf : Int), .int .u32 (m.lw : Int), .int .i64 m.val, .int .u8 (m.st : Int), .int .u32 (m.non : Int), .int .i64 m.am, .int .i64 m.code]) (.agg #[.int .u8 0, .int .u8 0, .int .u64 0, .int .u8 0, .int .u8 0, .int .u16 0, .int .u32 0, .int .i64 0, .int .u8 0, .int .u32 0, .int .i64 0, .int .i64 0])).run Tryz.prog W = .ok (.bool false) W := fun W => by
        have h := neq_ms m .zero W
        rw [decide_eq_true hz] at h
        exact h
      have HS := Lib.hid (fun W => sgmt_any [65, 67, 75] [] (.slice none 0 0) (fun _ => False) W (RowF.no none 0) (fun b h => h.elim) (by decide))
      simp only [pkV, msV, preV, List.cons_append, List.nil_append] at HB0 ⊢
      clear hp he hB hm hR hb0 hz
      go_enter Tryz.func24, Tryz.ntmps24
      go_wp2_with fail
      refine (HS.out _).mono ?_
      rintro e w1 ⟨ve, F, rfl, hve, hF, hb1⟩
      have HB1 := Lib.hid (HB0.out.trans (hb1.mono HB0.out.size))
      have HV := Lib.hid (seg1 (s := sgL ackT []) hve (fun b hb => (hF b hb).2))
      have HF := Lib.hid (show ∀ b, F b → w.heap.size ≤ b ∧ b < w1.heap.size from fun b hb => ⟨Nat.le_trans HB0.out.size (hF b hb).1, (hF b hb).2⟩)
      clear hb1 hve hF
      go_wp2
      go_ret2
      refine ⟨HB1.out.alloc HB1.out.size _, _, rfl, HV.out.kept (fun b hb => ⟨?_, rfl⟩)⟩
      rcases hb with hb | rfl
      · have := HF.out b hb
        exact ⟨this.1, by rw [size_a]; omega⟩
      · exact ⟨HB1.out.size, by rw [size_a]; omega⟩
    · have hR : toldL ⟨f, t, n, true, m⟩ = ([], 101) := by unfold toldL; simp [hz]
      rw [hR]
      have hneq : ∀ W, (binOp .neq 36 (.agg #[.int .u8 (m.kind : Int), .int .u8 (m.car : Int), .int .u64 (m.ser : Int), .int .u8 (m.at_ : Int), .int .u8 (m.lc : Int), .int .u16 (m.lf : Int), .int .u32 (m.lw : Int), .int .i64 m.val, .int .u8 (m.st : Int), .int .u32 (m.non : Int), .int .i64 m.am, .int .i64 m.code]) (.agg #[.int .u8 0, .int .u8 0, .int .u64 0, .int .u8 0, .int .u8 0, .int .u16 0, .int .u32 0, .int .i64 0, .int .u8 0, .int .u32 0, .int .i64 0, .int .i64 0])).run Tryz.prog W = .ok (.bool true) W := fun W => by
        have h := neq_ms m .zero W
        rw [decide_eq_false hz] at h
        exact h
      simp only [pkV, msV, preV, List.cons_append, List.nil_append] at HB0 ⊢
      clear hp he hB hm hR hb0 hz
      go_enter Tryz.func24, Tryz.ntmps24
      go_wp2
      go_ret2
      exact told_nil _ _ _ HB0.out
theorem sizeWr : (Tryz.prog.info? 41).map (·.size) = some 4 := by kernel_rfl
abbrev wr0 : Array Value := #[.int .u8 0, .int .u8 0, .int .u64 0, .slice none 0 0]
theorem wrv_one (f t r : Nat) (p : Option Addr) (n c : Nat) : (wrV f t r (.slice p n c)).all (·.oneCell') = true := by simp [Value.oneCell']
theorem wr0_one : wr0.all (·.oneCell') = true := by decide +kernel
def MwP (o : Wr × Nat) (w : World) (e : Ending) (w' : World) : Prop :=
  Below w.heap.size w w' ∧ ∃ v, e = .returned (.tuple #[.agg (wrV o.1.from_ o.1.to_ o.1.ref v), .int .i64 ((o.2 : Nat) : Int)]) ∧ SegsF w' (Fr w w') v o.1.segs
theorem carr_b (f t : Nat) : (decide (f < 8) && decide (t < 8)) = !decide (8 ≤ f ∨ 8 ≤ t) := by
  by_cases h1 : f < 8
  · by_cases h2 : t < 8
    · simp [h1, h2]
    · have : 8 ≤ t := by omega
      simp [h2, this]
  · have : 8 ≤ f := by omega
    simp [h1, this]
set_option maxRecDepth 100000 in
set_option maxHeartbeats 3200000 in
theorem mwrap_any (p : Pk) (B : Nat) (w : World) (hp : p.Ty) (he : Env B w) (hB : B ≤ w.heap.size) : Calls Tryz.prog 10 #[.agg (pkV p)] w (MwP (mwrapL p) w) := by
  obtain ⟨R, hR⟩ : ∃ R, R = mwrapL p := ⟨_, rfl⟩
  rw [← hR]
  have HA := Lib.hid (fun W => areC_any p.from_ p.to_ hp.from_ hp.to_ W)
  rw [carr_b] at HA
  have hd : ((w.alloc (.cells (pkV p) 38)).alloc (.cells wr0 41)).heap[w.heap.size + 1]? = some (.cells wr0 41 (0, 0)) := heap_new _ _ _ (by simp only [size_a])
  have hpk : ((w.alloc (.cells (pkV p) 38)).alloc (.cells wr0 41)).heap[w.heap.size]? = some (.cells (pkV p) 38 (0, 0)) := heap_past _ _ _ (by simp only [size_a]; omega) (heap_new _ _ _ rfl)
  have hb0 : Below w.heap.size w ((w.alloc (.cells (pkV p) 38)).alloc (.cells wr0 41)) := ((Below.refl _ _).alloc (Nat.le_refl _) _).alloc (by simp only [size_a]; omega) _
  have HTD := Lib.hid (told_any' p B _ hp (he.on (hb0.mono hB)) (Nat.le_trans hB hb0.size))
  have HD := Lib.hid hd
  have HPK := Lib.hid hpk
  have HB0 := Lib.hid hb0
  obtain ⟨f, t, n, a, m⟩ := p
  simp only at HA
  unfold mwrapL at hR
  simp only at hR
  by_cases h8 : 8 ≤ f ∨ 8 ≤ t
  · rw [if_pos h8] at hR
    rw [decide_eq_true h8] at HA
    have HR := Lib.hid hR
    simp only [pkV, msV, preV, List.cons_append, List.nil_append, Bool.not_true] at *
    clear hp he hB hd hpk hb0 hR h8 HTD
    go_enter Tryz.func10, Tryz.ntmps10
    go_wp2_with (first
      | (go_at_call 23; refine (HA.out _).mono ?_; rintro e w2 ⟨rfl, rfl⟩)
      | (refine wpList_store_row rfl 41 _ _ rfl (w.heap.size + 1) wr0 rfl rfl 41 wr0 HD.out sizeWr rfl (by decide) ?_))
    refine bodyPost_ret (results_cell_tmp_row rfl _ _ (w.heap.size + 1) 41 wr0 (0, 0) _ rfl HD.out Tryz.underlying41 rfl sizeWr) rfl ?_
    exact ⟨HB0.out, .slice none 0 0, by rw [HR.out]; rfl, by rw [HR.out]; exact ⟨[], RowF.no none 0, True.intro⟩⟩
  · rw [if_neg h8] at hR
    rw [decide_eq_false h8] at HA
    have HR := Lib.hid hR
    obtain ⟨E, hE⟩ : ∃ E : Int, E = ((toldL ⟨f, t, n, a, m⟩).2 : Int) := ⟨_, rfl⟩
    have HTE := Lib.hid (HTD.out.mono (R' := fun e w' => ∃ v, e = .returned (.tuple #[v, .int .i64 E]) ∧ Below ((w.alloc (.cells (pkV ⟨f, t, n, a, m⟩) 38)).alloc (.cells wr0 41)).heap.size ((w.alloc (.cells (pkV ⟨f, t, n, a, m⟩) 38)).alloc (.cells wr0 41)) w' ∧ SegsF w' (Fr ((w.alloc (.cells (pkV ⟨f, t, n, a, m⟩) 38)).alloc (.cells wr0 41)) w') v (toldL ⟨f, t, n, a, m⟩).1) (fun e w' ⟨h1, v, h2, h3⟩ => ⟨v, by rw [h2, hE], h1, h3⟩))
    have HE := Lib.hid hE
    have HZ := Lib.hid (size_a w (.cells (pkV ⟨f, t, n, a, m⟩) 38))
    simp only [pkV, msV, preV, List.cons_append, List.nil_append, Bool.not_false] at *
    clear hp he hB hd hpk hb0 h8 HTD hE hR
    by_cases hE0 : E = 0
    · subst hE0
      have HR2 := Lib.hid (show R = (⟨f, t, n, (toldL ⟨f, t, n, a, m⟩).1⟩, 0) by rw [HR.out, if_pos (by have := HE.out; omega)])
      go_enter Tryz.func10, Tryz.ntmps10
      go_wp2_with (first
        | (go_at_call 23; refine (HA.out _).mono ?_; rintro e w2 ⟨rfl, rfl⟩)
        | (go_at_call 24; refine (HTE.out).mono ?_; rintro e w5 ⟨v, rfl, hb5, hv5⟩
           have HD5 := Lib.hid ((hb5.block _ (lt_of_heap HD.out)).trans HD.out)
           have HP5 := (hb5.block _ (lt_of_heap HPK.out)).trans HPK.out
           have q0 := cell_of_arr HP5 0
           have q1 := cell_of_arr HP5 1
           have q3 := cell_of_arr HP5 3
           simp only [List.getElem?_toArray, List.getElem?_cons_zero, List.getElem?_cons_succ] at q0 q1 q3
           have HB5 := Lib.hid (HB0.out.trans (hb5.mono HB0.out.size))
           obtain ⟨xs, ⟨pv, cv, rfl, hpvc⟩, hsgc⟩ := hv5
           have HV5 := Lib.hid (show SegsF w5 (Fr ((w.alloc (.cells (pkV ⟨f, t, n, a, m⟩) 38)).alloc (.cells wr0 41)) w5) (.slice pv (toldL ⟨f, t, n, a, m⟩).1.length cv) (toldL ⟨f, t, n, a, m⟩).1 from ⟨xs, ⟨pv, cv, rfl, hpvc⟩, hsgc⟩)
           clear hb5 HP5 hpvc hsgc)
        | (refine wpList_store_row rfl 41 _ _ rfl (w.heap.size + 1) (wrV f t n (.slice pv (toldL ⟨f, t, n, a, m⟩).1.length cv)) rfl rfl 41 wr0 HD5.out sizeWr rfl (wrv_one _ _ _ _ _ _) ?_))
      refine bodyPost_ret (results_cell_tmp_row rfl _ _ (w.heap.size + 1) 41 (wrV f t n (.slice pv (toldL ⟨f, t, n, a, m⟩).1.length cv)) (0, 0) _ rfl (setRow_heap _ _ _ _ _ _ HD5.out) Tryz.underlying41 rfl sizeWr) rfl ?_
      refine ⟨below_setR HB5.out (by omega) _, _, by rw [HR2.out]; rfl, ?_⟩
      rw [HR2.out]
      refine HV5.out.kept (fun b hb => ⟨⟨?_, by rw [size_setRow]; exact hb.2⟩, ?_⟩)
      · have h1 := hb.1
        simp only [size_a] at h1
        omega
      · have h1 := hb.1
        simp only [size_a] at h1
        show (w5.heap.modify (w.heap.size + 1) _)[b]? = _
        rw [Array.getElem?_modify, if_neg (by omega)]
    · have HR2 := Lib.hid (show R = (.nil, (toldL ⟨f, t, n, a, m⟩).2) by rw [HR.out, if_neg (by have := HE.out; omega)])
      go_enter Tryz.func10, Tryz.ntmps10
      go_wp2_with (first
        | (go_at_call 23; refine (HA.out _).mono ?_; rintro e w2 ⟨rfl, rfl⟩)
        | (go_at_call 24; refine (HTE.out).mono ?_; rintro e w5 ⟨v, rfl, hb5, hv5⟩
           have HD5 := Lib.hid ((hb5.block _ (lt_of_heap HD.out)).trans HD.out)
           have HP5 := (hb5.block _ (lt_of_heap HPK.out)).trans HPK.out
           have q0 := cell_of_arr HP5 0
           have q1 := cell_of_arr HP5 1
           have q3 := cell_of_arr HP5 3
           simp only [List.getElem?_toArray, List.getElem?_cons_zero, List.getElem?_cons_succ] at q0 q1 q3
           have HB5 := Lib.hid (HB0.out.trans (hb5.mono HB0.out.size))
           obtain ⟨xs, ⟨pv, cv, rfl, hpvc⟩, hsgc⟩ := hv5
           have HV5 := Lib.hid (show SegsF w5 (Fr ((w.alloc (.cells (pkV ⟨f, t, n, a, m⟩) 38)).alloc (.cells wr0 41)) w5) (.slice pv (toldL ⟨f, t, n, a, m⟩).1.length cv) (toldL ⟨f, t, n, a, m⟩).1 from ⟨xs, ⟨pv, cv, rfl, hpvc⟩, hsgc⟩)
           clear hb5 HP5 hpvc hsgc)
        | (refine wpList_store_row rfl 41 _ _ rfl (w.heap.size + 1) (wr0) rfl rfl 41 wr0 HD5.out sizeWr rfl wr0_one ?_))
      refine bodyPost_ret (results_cell_tmp_row rfl _ _ (w.heap.size + 1) 41 (wr0) (0, 0) _ rfl (setRow_heap _ _ _ _ _ _ HD5.out) Tryz.underlying41 rfl sizeWr) rfl ?_
      refine ⟨below_setR HB5.out (by omega) _, .slice none 0 0, ?_, by rw [HR2.out]; exact ⟨[], RowF.no none 0, True.intro⟩⟩
      rw [HR2.out]
      show _ = Ending.returned (.tuple #[.agg wr0, .int .i64 ((toldL ⟨f, t, n, a, m⟩).2 : Int)])
      rw [← HE.out]
      rfl
end Go.Proofs.YtjlifjgljejabaaGreatDoor
/- Contracts: the text of a packet, the packet of a text. -/
namespace Go.Proofs.YtjlifjgljejabaaGreatDoor
open Go.RowKit Go.Edi Go.Wrap Go.Lib

def TextP (o : Tx × Nat) (w : World) (e : Ending) (w' : World) : Prop := e = .returned (.tuple #[str o.1, .int .i64 ((o.2 : Nat) : Int)]) ∧ Below w.heap.size w w'
set_option maxRecDepth 100000 in
set_option maxHeartbeats 1600000 in
theorem mtext_any (p : Pk) (B : Nat) (w : World) (hp : p.Ty) (he : Env B w) (hB : B ≤ w.heap.size) : Calls Tryz.prog 18 #[.agg (pkV p)] w (TextP (mtextL p) w) := by
  obtain ⟨R, hR⟩ : ∃ R, R = mtextL p := ⟨_, rfl⟩
  rw [← hR]
  unfold mtextL at hR
  have hb0 : Below w.heap.size w (w.alloc (.cells (pkV p) 38)) := (Below.refl _ _).alloc (Nat.le_refl _) _
  obtain ⟨E, hE⟩ : ∃ E : Int, E = ((mwrapL p).2 : Int) := ⟨_, rfl⟩
  have HW := Lib.hid ((mwrap_any p B _ hp (he.on (hb0.mono hB)) (Nat.le_trans hB hb0.size)).mono (R' := fun e w' => ∃ pv nv cv, e = .returned (.tuple #[.agg #[.int .u8 ((mwrapL p).1.from_ : Int), .int .u8 ((mwrapL p).1.to_ : Int), .int .u64 ((mwrapL p).1.ref : Int), .slice pv nv cv], .int .i64 E]) ∧ Below (w.alloc (.cells (pkV p) 38)).heap.size (w.alloc (.cells (pkV p) 38)) w' ∧ SegsF w' (Fr (w.alloc (.cells (pkV p) 38)) w') (.slice pv nv cv) (mwrapL p).1.segs) (fun e w' ⟨h1, v, h2, h3⟩ => by
    obtain ⟨pv, cv, rfl⟩ := segs_slice h3
    exact ⟨pv, _, cv, by rw [h2, hE], h1, h3⟩))
  have HE := Lib.hid he
  have HBB := Lib.hid hB
  have HB0 := Lib.hid hb0
  have HPB := Lib.hid (show (w.alloc (.cells (pkV p) 38)).heap[w.heap.size]? = some (.cells (pkV p) 38 (0, 0)) from at_last _ _)
  have HEE := Lib.hid hE
  by_cases h0 : (mwrapL p).2 = 0
  · rw [if_pos h0] at hR
    obtain rfl : E = 0 := by rw [hE, h0]; rfl
    have HR := Lib.hid hR
    have hsane : sane (mwrapL p).1.segs ∧ (mwrapL p).1.from_ < 256 ∧ (mwrapL p).1.to_ < 256 ∧ (mwrapL p).1.ref < 18446744073709551616 := by
      unfold mwrapL
      split
      · exact ⟨⟨by simp [Wr.nil], fun s hs => by cases hs⟩, by simp [Wr.nil], by simp [Wr.nil], by simp [Wr.nil]⟩
      · split
        · exact ⟨(tiny_toldL hp.m).sane, hp.from_, hp.to_, hp.num⟩
        · exact ⟨⟨by simp [Wr.nil], fun s hs => by cases hs⟩, by simp [Wr.nil], by simp [Wr.nil], by simp [Wr.nil]⟩
    have HS := Lib.hid hsane
    have HPR := Lib.hid (fun (v : Value) W (h : Below w.heap.size w W) (hv : SegsF W (· < W.heap.size) v (mwrapL p).1.segs) => wprint_any (mwrapL p).1 v B W hv hsane.1 hsane.2.1 hsane.2.2.1 hsane.2.2.2 (he.on (h.mono hB)).tab (Nat.le_trans hB h.size))
    clear hp he hB hb0 hE h0 hR hsane
    generalize mwrapL p = x at *
    go_enter Tryz.func18, Tryz.ntmps18
    go_wp2_with (refine wpList_load_row rfl 38 _ rfl w.heap.size rfl 38 (pkV p) (0, 0) _ HPB.out Tryz.underlying38 rfl sizePk ?_)
    refine (HW.out).mono ?_
    rintro e w1 ⟨pv, nv, cv, rfl, hb1, hv1⟩
    have HB1 := Lib.hid (HB0.out.trans (hb1.mono HB0.out.size))
    have hx2 : Below w.heap.size w (w1.alloc (.cells (wrV x.1.from_ x.1.to_ x.1.ref (.slice pv nv cv)) 41)) := HB1.out.alloc HB1.out.size _
    have HPP := Lib.hid (HPR.out _ _ hx2 (hv1.kept (fun b hb => ⟨by rw [size_a]; have := hb.2; omega, Below.heap_alloc _ _ _ hb.2⟩)))
    have HX2 := Lib.hid hx2
    clear hb1 hv1 hx2
    go_wp2_with fail
    refine (HPP.out).mono ?_
    rintro e w2 ⟨rfl, hb2⟩
    have HB2 := Lib.hid (HX2.out.trans (hb2.mono HX2.out.size))
    clear hb2
    go_wp2
    go_ret2
    exact ⟨by rw [HR.out]; rfl, HB2.out⟩
  · rw [if_neg h0] at hR
    have hE0 : ¬ E = 0 := by rw [hE]; omega
    have HR := Lib.hid hR
    clear hp he hB hb0 hE h0 hR
    generalize mwrapL p = x at *
    go_enter Tryz.func18, Tryz.ntmps18
    go_wp2_with (refine wpList_load_row rfl 38 _ rfl w.heap.size rfl 38 (pkV p) (0, 0) _ HPB.out Tryz.underlying38 rfl sizePk ?_)
    refine (HW.out).mono ?_
    rintro e w1 ⟨pv, nv, cv, rfl, hb1, _⟩
    have HB1 := Lib.hid (HB0.out.trans (hb1.mono HB0.out.size))
    clear hb1
    go_wp2
    go_ret2
    exact ⟨by rw [HR.out, HEE.out]; rfl, HB1.out.alloc HB1.out.size _⟩
theorem tiny_parse (t : Tx) : tiny (parseL t).1 := by
  by_cases h : (parseL t).2.2 = 0
  · obtain ⟨_, h2, _⟩ := parse_ok h
    have hi := run_inv t s0 0 good_s0 (by rw [h2])
    rw [h2] at hi
    refine ⟨hi.1.2.1, fun s hs => ?_⟩
    have := (hi.1.1 s hs).2.2
    simp only [shortS, shortE, Bool.and_eq_true, decide_eq_true_eq, List.all_eq_true] at this
    exact this
  · rw [parse_bad h]; exact ⟨by simp, fun s hs => by simp at hs⟩
theorem tiny_wparse (t : Tx) : tiny (wparseL t).1.segs ∧ (wparseL t).1.from_ < 256 ∧ (wparseL t).1.to_ < 256 := by
  have h0 : tiny (Wr.nil).segs ∧ (Wr.nil).from_ < 256 ∧ (Wr.nil).to_ < 256 := ⟨⟨by simp [Wr.nil], fun s hs => by cases hs⟩, by simp [Wr.nil], by simp [Wr.nil]⟩
  by_cases h : (parseL t).2.2 = 0
  · rw [wparse_ok h]
    have ht := tiny_parse t
    rcases hq : openL (parseL t).1 with ⟨x, e⟩
    by_cases he : e = 0
    · subst he
      obtain ⟨h1, h2, h3, _, _⟩ := open_inv hq
      refine ⟨?_, by show x.from_ < 256; omega, by show x.to_ < 256; omega⟩
      show tiny x.segs
      rw [h1] at ht
      have hm : ∀ s ∈ x.segs, s ∈ closeL x.from_ x.to_ x.ref x.segs := fun s hs => by simp [closeL, hs]
      exact ⟨by have := ht.1; rw [close_len] at this; omega, fun s hs => ht.2 s (hm s hs)⟩
    · have : x = Wr.nil := by
        unfold openL at hq
        repeat' split at hq
        all_goals first | (cases hq; rfl) | (cases hq; exact absurd rfl he)
      rw [this]; exact h0
  · rw [wparse_bad h]; exact h0
set_option maxRecDepth 100000 in
set_option maxHeartbeats 1600000 in
theorem mparse_any (t : Tx) (B : Nat) (w : World) (he : Env B w) (hB : B ≤ w.heap.size) : Calls Tryz.prog 20 #[str t] w (PackP (mparseL t) w) := by
  obtain ⟨R, hR⟩ : ∃ R, R = mparseL t := ⟨_, rfl⟩
  rw [← hR]
  unfold mparseL at hR
  obtain ⟨ht1, ht2, ht3⟩ := tiny_wparse t
  have hb0 : Below w.heap.size w (w.alloc (.cells pk0 38)) := (Below.refl _ _).alloc (Nat.le_refl _) _
  have hd0 : (w.alloc (.cells pk0 38)).heap[w.heap.size]? = some (.cells pk0 38 (0, 0)) := at_last _ _
  obtain ⟨E, hE⟩ : ∃ E : Int, E = ((wparseL t).2 : Int) := ⟨_, rfl⟩
  have HW := Lib.hid ((wparse_any t (w.alloc (.cells pk0 38))).mono (R' := fun e w' => ∃ pv nv cv F, e = .returned (.tuple #[.agg #[.int .u8 ((wparseL t).1.from_ : Int), .int .u8 ((wparseL t).1.to_ : Int), .int .u64 ((wparseL t).1.ref : Int), .slice pv nv cv], .int .i64 E]) ∧ Below (w.alloc (.cells pk0 38)).heap.size (w.alloc (.cells pk0 38)) w' ∧ SegsF w' F (.slice pv nv cv) (wparseL t).1.segs ∧ ∀ b, F b → b < w'.heap.size) (fun e w' ⟨v, F, h1, h2, h3, h4⟩ => by
    obtain ⟨pv, cv, rfl⟩ := segs_slice h2
    exact ⟨pv, _, cv, F, by rw [h1, hE], h4, h2, fun b hb => (h3 b hb).2⟩))
  have HE := Lib.hid he
  have HBB := Lib.hid hB
  have HB0 := Lib.hid hb0
  have HD0 := Lib.hid hd0
  have HEE := Lib.hid hE
  by_cases h0 : (wparseL t).2 = 0
  · rw [if_pos h0] at hR
    obtain rfl : E = 0 := by rw [hE, h0]; rfl
    have HR := Lib.hid hR
    have HPK := Lib.hid (fun (v : Value) W (h : Below w.heap.size w W) (hv : SegsF W (· < W.heap.size) v (wparseL t).1.segs) => packet_any (wparseL t).1 v B W ht2 ht3 hv (by have := ht1.1; omega) ht1.el ht1.sz (he.on (h.mono hB)) (Nat.le_trans hB h.size))
    clear he hB hb0 hd0 hE h0 hR ht1 ht2 ht3
    generalize wparseL t = x at *
    go_enter Tryz.func20, Tryz.ntmps20
    go_wp2_with fail
    refine (HW.out).mono ?_
    rintro e w1 ⟨pv, nv, cv, F, rfl, hb1, hv1, hF1⟩
    have HB1 := Lib.hid (HB0.out.trans (hb1.mono HB0.out.size))
    have hx2 : Below w.heap.size w (w1.alloc (.cells (wrV x.1.from_ x.1.to_ x.1.ref (.slice pv nv cv)) 41)) := HB1.out.alloc HB1.out.size _
    have hd1 := (hb1.block _ (lt_of_heap HD0.out)).trans HD0.out
    have HD1 := Lib.hid ((Below.heap_alloc w1 (.cells (wrV x.1.from_ x.1.to_ x.1.ref (.slice pv nv cv)) 41) _ (lt_of_heap hd1)).trans hd1)
    have HPP := Lib.hid (HPK.out _ _ hx2 (hv1.kept (fun b hb => ⟨by rw [size_a]; have := hF1 b hb; omega, Below.heap_alloc _ _ _ (hF1 b hb)⟩)))
    have HX2 := Lib.hid hx2
    clear hb1 hv1 hx2 hF1 hd1
    go_wp2_with fail
    refine (HPP.out).mono ?_
    rintro e w2 ⟨rfl, hb2⟩
    have HB2 := Lib.hid (HX2.out.trans (hb2.mono HX2.out.size))
    have HD2 := Lib.hid ((hb2.block _ (lt_of_heap HD1.out)).trans HD1.out)
    clear hb2
    go_wp2_with (refine wpList_store_row rfl 38 _ _ rfl w.heap.size (pkV (packL x.1).1) rfl rfl 38 pk0 HD2.out sizePk rfl (pkv_one _) ?_)
    refine bodyPost_ret (results_cell_tmp_row rfl _ _ w.heap.size 38 (pkV (packL x.1).1) (0, 0) _ rfl (setRow_heap _ _ _ _ _ _ HD2.out) Tryz.underlying38 rfl sizePk) rfl ?_
    exact ⟨by rw [HR.out]; rfl, below_setR HB2.out (by omega) _⟩
  · rw [if_neg h0] at hR
    have hE0 : ¬ E = 0 := by rw [hE]; omega
    have HR := Lib.hid hR
    clear he hB hb0 hd0 hE h0 hR ht1 ht2 ht3
    generalize wparseL t = x at *
    go_enter Tryz.func20, Tryz.ntmps20
    go_wp2_with fail
    refine (HW.out).mono ?_
    rintro e w1 ⟨pv, nv, cv, F, rfl, hb1, _, _⟩
    have HB1 := Lib.hid (HB0.out.trans (hb1.mono HB0.out.size))
    have hx2 : Below w.heap.size w (w1.alloc (.cells (wrV x.1.from_ x.1.to_ x.1.ref (.slice pv nv cv)) 41)) := HB1.out.alloc HB1.out.size _
    have hd1 := (hb1.block _ (lt_of_heap HD0.out)).trans HD0.out
    have HD1 := Lib.hid ((Below.heap_alloc w1 (.cells (wrV x.1.from_ x.1.to_ x.1.ref (.slice pv nv cv)) 41) _ (lt_of_heap hd1)).trans hd1)
    have HX2 := Lib.hid hx2
    clear hb1 hx2 hd1
    go_wp2_with (refine wpList_store_row rfl 38 _ _ rfl w.heap.size pk0 rfl rfl 38 pk0 HD1.out sizePk rfl pk0_one ?_)
    refine bodyPost_ret (results_cell_tmp_row rfl _ _ w.heap.size 38 pk0 (0, 0) _ rfl (setRow_heap _ _ _ _ _ _ HD1.out) Tryz.underlying38 rfl sizePk) rfl ?_
    exact ⟨by rw [HR.out]; show _ = Ending.returned (.tuple #[.agg pk0, .int .i64 ((x.2 : Nat) : Int)]); rw [← HEE.out]; rfl, below_setR HX2.out (by omega) _⟩
end Go.Proofs.YtjlifjgljejabaaGreatDoor
/- A packet that is told is read as it was; two packets of one text are one (no walk). -/
namespace Go.Proofs.YtjlifjgljejabaaGreatDoor
open Go.RowKit Go.Edi Go.Wrap

theorem mwrap_ok {p : Pk} (h : (mwrapL p).2 = 0) : p.from_ < 8 ∧ p.to_ < 8 ∧ (toldL p).2 = 0 ∧ mwrapL p = (⟨p.from_, p.to_, p.num, (toldL p).1⟩, 0) := by
  unfold mwrapL at *
  split at h
  · cases h
  · rename_i h1
    split at h
    · rename_i h2
      rw [if_neg h1, if_pos h2]
      exact ⟨by omega, by omega, h2, rfl⟩
    · rename_i h2; exact absurd h h2
theorem mwrap_bad {p : Pk} (h : ¬ (mwrapL p).2 = 0) : (mwrapL p).1 = Wr.nil := by
  unfold mwrapL at *
  split
  · rfl
  · rename_i h1
    split
    · rename_i h2; rw [if_neg h1, if_pos h2] at h; exact absurd rfl h
    · rfl
theorem pack_told {p : Pk} (hp : p.Ty) (h : (mwrapL p).2 = 0) : packL (mwrapL p).1 = (p, 0) := by
  obtain ⟨h1, h2, h3, h4⟩ := mwrap_ok h
  rw [h4]
  obtain ⟨f, t, n, k, m⟩ := p
  simp only at h1 h2 h3 ⊢
  unfold packL
  rw [if_neg (by simp only; omega)]
  cases k with
  | true =>
    unfold toldL at h3 ⊢
    simp only [if_true] at h3 ⊢
    split at h3
    · rename_i hz
      rw [if_pos hz, hz]
      rfl
    · cases h3
  | false =>
    have e : toldL ⟨f, t, n, false, m⟩ = toldMs m := rfl
    rw [e] at h3 ⊢
    obtain ⟨s, r, hl, htg, hrd⟩ := read_told (m := m) (l := (toldMs m).1) hp.m (Prod.ext rfl h3)
    rw [hl]
    simp only
    rw [if_neg (by rw [htg]; decide), hrd]
theorem mtext_parse {p : Pk} (hp : p.Ty) (h : (mtextL p).2 = 0) : mparseL (mtextL p).1 = (p, 0) := by
  unfold mtextL at h ⊢
  split at h
  · rename_i h0
    rw [if_pos h0]
    have hr : (mwrapL p).1.ref < 18446744073709551616 := by rw [(mwrap_ok h0).2.2.2]; exact hp.num
    unfold mparseL
    rw [wback h hr]
    exact pack_told hp h0
  · rename_i h0; exact absurd h h0
theorem mtext_one {p q : Pk} (hp : p.Ty) (hq : q.Ty) (h1 : (mtextL p).2 = 0) (h2 : (mtextL q).2 = 0) (h : (mtextL p).1 = (mtextL q).1) : p = q := by
  have e1 := mtext_parse hp h1
  rw [h, mtext_parse hq h2] at e1
  exact (Prod.mk.inj e1).1.symm
theorem mtext_bad {p : Pk} (h : ¬ (mwrapL p).2 = 0) : mtextL p = ([], (mwrapL p).2) := by unfold mtextL; rw [if_neg h]
end Go.Proofs.YtjlifjgljejabaaGreatDoor
/- Contract: the example that every statement tells and reads. -/
namespace Go.Proofs.YtjlifjgljejabaaGreatDoor
open Go.RowKit Go.Edi Go.Wrap Go.Lib

def exP : Pk := ⟨1, 2, 7, false, ⟨1, 1, 1, 0, 0, 0, 0, 0, 0, 0, 0, 0⟩⟩
def exQ : Pk := ⟨2, 1, 7, true, .zero⟩
def exA : Tx := [85, 78, 66, 43, 49, 43, 50, 43, 55, 39, 77, 83, 71, 43, 49, 39, 75, 69, 89, 43, 48, 48, 49, 48, 48, 48, 48, 48, 48, 48, 48, 48, 49, 53, 43, 48, 39, 85, 78, 90, 43, 50, 43, 55, 39]
def exB : Tx := [85, 78, 66, 43, 50, 43, 49, 43, 55, 39, 65, 67, 75, 39, 85, 78, 90, 43, 49, 43, 55, 39]
theorem sd0 : sdig 0 = [48] := by show Lib.itoa 0 = _; unfold Lib.itoa; rw [if_neg (by decide)]; exact digs_small (by omega)
theorem sd1 : sdig 1 = [49] := by show Lib.itoa 1 = _; unfold Lib.itoa; rw [if_neg (by decide)]; exact digs_small (by omega)
theorem nt11 : Number.textL 1 1 = ([48, 48, 49, 48, 48, 48, 48, 48, 48, 48, 48, 48, 49, 53], 0) := by kernel_rfl
theorem ex_ty : exP.Ty := ⟨by decide, by decide, by decide, ⟨by decide, by decide, by decide, by decide, by decide, by decide, by decide, by decide, by decide, by decide, by decide, by decide⟩⟩
theorem ex_wrap : mwrapL exP = (⟨1, 2, 7, [sgL kindT [[49]], sgL keyT [[48, 48, 49, 48, 48, 48, 48, 48, 48, 48, 48, 48, 49, 53], [48]]]⟩, 0) := by
  have e : toldL exP = ([sgL kindT [[49]], sgL keyT [[48, 48, 49, 48, 48, 48, 48, 48, 48, 48, 48, 48, 49, 53], [48]]], 0) := by
    show toldMs ⟨1, 1, 1, 0, 0, 0, 0, 0, 0, 0, 0, 0⟩ = _
    unfold toldMs
    show (if (Number.textL 1 1).2 = 0 then (if mayL ⟨1, 1, 1, 0, 0, 0, 0, 0, 0, 0, 0, 0⟩ [] then (sgL kindT [sdig 1] :: sgL keyT [(Number.textL 1 1).1, sdig 0] :: [], 0) else ([], 101)) else ([], (Number.textL 1 1).2)) = _
    rw [nt11, sd0, sd1, if_pos rfl, if_pos (by decide)]
  unfold mwrapL
  rw [if_neg (by decide), e, if_pos rfl]
  rfl
theorem ex_text : mtextL exP = (exA, 0) := by
  unfold mtextL
  rw [ex_wrap, if_pos rfl]
  have h1 : digs 1 = [49] := digs_small (by omega)
  have h2 : digs 2 = [50] := digs_small (by omega)
  have h7 : digs 7 = [55] := digs_small (by omega)
  unfold wprintL
  rw [if_neg (by decide), if_neg (by decide)]
  show printL (Sg.mk [85, 78, 66] [[digs 1], [digs 2], [digs 7]] :: ([sgL kindT [[49]], sgL keyT [[48, 48, 49, 48, 48, 48, 48, 48, 48, 48, 48, 48, 49, 53], [48]]] ++ [Sg.mk [85, 78, 90] [[digs 2], [digs 7]]])) = _
  rw [h1, h2, h7]
  kernel_rfl
theorem ex_parse : mparseL exB = (exQ, 0) := by
  have e : wparseL exB = (⟨2, 1, 7, [⟨[65, 67, 75], []⟩]⟩, 0) := by kernel_rfl
  unfold mparseL
  rw [e, if_pos rfl]
  rfl
end Go.Proofs.YtjlifjgljejabaaGreatDoor
/- Contract: the example that every statement tells and reads. -/
namespace Go.Proofs.YtjlifjgljejabaaGreatDoor
open Go.RowKit Go.Edi Go.Wrap Go.Lib

theorem ex_text_any (B : Nat) (w : World) (he : Env B w) (hB : B ≤ w.heap.size) : Calls Tryz.prog 18 #[.agg (pkV exP)] w (TextP (exA, 0) w) := by
  have h := mtext_any exP B w ex_ty he hB
  rw [ex_text] at h
  exact h
theorem ex_parse_any (B : Nat) (w : World) (he : Env B w) (hB : B ≤ w.heap.size) : Calls Tryz.prog 20 #[str exB] w (PackP (exQ, 0) w) := by
  have h := mparse_any exB B w he hB
  rw [ex_parse] at h
  exact h
set_option maxRecDepth 100000 in
set_option maxHeartbeats 3200000 in
theorem tells_any (B : Nat) (w : World) (he : Env B w) (hB : B ≤ w.heap.size) : Calls Tryz.prog 13 #[] w fun e w' => e = .returned (.bool true) ∧ Below w.heap.size w w' := by
  have HT := Lib.hid (show ∀ W, Below w.heap.size w W → Calls Tryz.prog 18 #[.agg #[.int .u8 1, .int .u8 2, .bool false, .int .u64 7, .int .u8 1, .int .u8 1, .int .u64 1, .int .u8 0, .int .u8 0, .int .u16 0, .int .u32 0, .int .i64 0, .int .u8 0, .int .u32 0, .int .i64 0, .int .i64 0]] W (fun e w' => e = .returned (.tuple #[.string { data := #[85, 78, 66, 43, 49, 43, 50, 43, 55, 39, 77, 83, 71, 43, 49, 39, 75, 69, 89, 43, 48, 48, 49, 48, 48, 48, 48, 48, 48, 48, 48, 48, 49, 53, 43, 48, 39, 85, 78, 90, 43, 50, 43, 55, 39] }, .int .i64 0]) ∧ Below W.heap.size W w') from fun W h => ex_text_any B W (he.on (h.mono hB)) (Nat.le_trans hB h.size))
  have HP := Lib.hid (show ∀ W, Below w.heap.size w W → Calls Tryz.prog 20 #[.string { data := #[85, 78, 66, 43, 50, 43, 49, 43, 55, 39, 65, 67, 75, 39, 85, 78, 90, 43, 49, 43, 55, 39] }] W (fun e w' => e = .returned (.tuple #[.agg #[.int .u8 2, .int .u8 1, .bool true, .int .u64 7, .int .u8 0, .int .u8 0, .int .u64 0, .int .u8 0, .int .u8 0, .int .u16 0, .int .u32 0, .int .i64 0, .int .u8 0, .int .u32 0, .int .i64 0, .int .i64 0], .int .i64 0]) ∧ Below W.heap.size W w') from fun W h => ex_parse_any B W (he.on (h.mono hB)) (Nat.le_trans hB h.size))
  have HB0 := Lib.hid ((Below.refl w.heap.size w).alloc (Nat.le_refl _) (.cells #[.int .u8 1, .int .u8 2, .bool false, .int .u64 7, .int .u8 1, .int .u8 1, .int .u64 1, .int .u8 0, .int .u8 0, .int .u16 0, .int .u32 0, .int .i64 0, .int .u8 0, .int .u32 0, .int .i64 0, .int .i64 0] 38))
  have heq : ∀ W, (binOp .eql 38 (.agg #[.int .u8 2, .int .u8 1, .bool true, .int .u64 7, .int .u8 0, .int .u8 0, .int .u64 0, .int .u8 0, .int .u8 0, .int .u16 0, .int .u32 0, .int .i64 0, .int .u8 0, .int .u32 0, .int .i64 0, .int .i64 0]) (.agg #[.int .u8 2, .int .u8 1, .bool true, .int .u64 7, .int .u8 0, .int .u8 0, .int .u64 0, .int .u8 0, .int .u8 0, .int .u16 0, .int .u32 0, .int .i64 0, .int .u8 0, .int .u32 0, .int .i64 0, .int .i64 0])).run Tryz.prog W = .ok (.bool true) W := fun W => by
    have h := eql_pk exQ exQ W
    rw [decide_eq_true rfl] at h
    exact h
  clear he hB
  go_enter Tryz.func13, Tryz.ntmps13
  go_wp2_with fail
  refine (HT.out _ HB0.out).mono ?_
  rintro e w1 ⟨rfl, hb1⟩
  have HB1 := Lib.hid (HB0.out.trans (hb1.mono HB0.out.size))
  clear hb1
  go_wp2_with fail
  refine (HP.out _ HB1.out).mono ?_
  rintro e w2 ⟨rfl, hb2⟩
  have HB2 := Lib.hid (HB1.out.trans (hb2.mono HB1.out.size))
  clear hb2
  go_wp2
  go_ret
  exact ⟨rfl, HB2.out.alloc HB2.out.size _⟩
end Go.Proofs.YtjlifjgljejabaaGreatDoor
/- The walk of MsgOnce: packets that are told as one text are one; a packet's interchange is read as the packet. -/
namespace Go.Proofs.YtjlifjgljejabaaGreatDoor
open Go.RowKit Go.Edi Go.Wrap Go.Lib

theorem once_text (p : Pk) (B : Nat) (w : World) (hp : p.Ty) (he : Env B w) (hB : B ≤ w.heap.size) : Calls Tryz.prog 18 #[.agg (pkV p)] w (fun e w' => e = .returned (.tuple #[str (mtextL p).1, .int .i64 (((mtextL p).2 : Nat) : Int)]) ∧ Below w.heap.size w w') := mtext_any p B w hp he hB
/-- what Wrap answers, told cell by cell -/
def WrQ (f t r : Nat) (l : List Sg) (E : Int) (w : World) (e : Ending) (w' : World) : Prop :=
  ∃ pv nv cv, e = .returned (.tuple #[.agg #[.int .u8 (f : Int), .int .u8 (t : Int), .int .u64 (r : Int), .slice pv nv cv], .int .i64 E]) ∧ Below w.heap.size w w' ∧ SegsF w' (· < w'.heap.size) (.slice pv nv cv) l
theorem once_wrap (p : Pk) (B : Nat) (w : World) (hp : p.Ty) (he : Env B w) (hB : B ≤ w.heap.size) : Calls Tryz.prog 10 #[.agg (pkV p)] w (WrQ (mwrapL p).1.from_ (mwrapL p).1.to_ (mwrapL p).1.ref (mwrapL p).1.segs (((mwrapL p).2 : Nat) : Int) w) := by
  refine (mwrap_any p B w hp he hB).mono ?_
  rintro e w' ⟨h1, v, rfl, h3⟩
  obtain ⟨pv, cv, rfl⟩ := segs_slice h3
  exact ⟨pv, _, cv, rfl, h1, h3.kept (fun b hb => ⟨hb.2, rfl⟩)⟩
theorem once_pack (p : Pk) (B : Nat) (W : World) (hp : p.Ty) (h0 : (mwrapL p).2 = 0) (v : Value) (hv : SegsF W (· < W.heap.size) v (mwrapL p).1.segs) (he : Env B W) (hB : B ≤ W.heap.size) :
    Calls Tryz.prog 16 #[.agg (wrV (mwrapL p).1.from_ (mwrapL p).1.to_ (mwrapL p).1.ref v)] W (fun e w' => e = .returned (.tuple #[.agg (pkV p), .int .i64 0]) ∧ Below W.heap.size W w') := by
  obtain ⟨h1, h2, h3, h4⟩ := mwrap_ok h0
  have ht : tiny (mwrapL p).1.segs := by rw [h4]; exact tiny_toldL hp.m
  have h := packet_any (mwrapL p).1 v B W (by rw [h4]; exact hp.from_) (by rw [h4]; exact hp.to_) hv (by have := ht.1; omega) ht.el ht.sz he hB
  rw [pack_told hp h0] at h
  exact h
/-- a guarded load of a whole struct, its guard on -/
theorem wpList_load_rowG {P : Program} {ops : Array Oper} {rest : List Oper} {o : Oper} {a : Act} {w : World} {Q : Exit → Act → World → Prop} (hgd : Region.wanted o (yielded ops a.tmps) = true) (ty : TypeId) (x : Operand) (ho : o.op = .load ty x)
    (g : Nat) (hx : a.eval x = .pointer (some ⟨g, 0, none⟩)) (t : TypeId) (cs : Array Value) (fr : Nat × Nat) (d : TypeDesc) (hg : w.heap[g]? = some (.cells cs t fr))
    (hu : P.underlying ty = some d) (hd : (match d with | .struct _ | .array _ _ => true | _ => false) = true) (hi : (P.info? ty).map (·.size) = some cs.size)
    (h : wpList P ops Q rest (a.put o.dst (.agg cs)) w) : wpList P ops Q (o :: rest) a w :=
  wpList_step fun _ hK => by
    rw [if_pos hgd]
    exact wp_load_row ty x ho g hx t cs fr d hg hu hd hi (hK _ _ h)
set_option maxRecDepth 100000 in
set_option maxHeartbeats 12800000 in
theorem once_walk (p q : Pk) (B : Nat) (w : World) (hp : p.Ty) (hq : q.Ty) (he : Env B w) (hB : B ≤ w.heap.size) :
    Calls Tryz.prog 6 #[.agg (pkV p), .agg (pkV q)] w fun e w' => e = .returned (.bool true) ∧ Below w.heap.size w w' := by
  obtain ⟨wb, hwb⟩ : ∃ wb, wb = (w.alloc (.cells (pkV p) 38)).alloc (.cells (pkV q) 38) := ⟨_, rfl⟩
  have hbw : Below w.heap.size w wb := by rw [hwb]; exact ((Below.refl _ _).alloc (Nat.le_refl _) _).alloc (by rw [size_a]; omega) _
  have hws : wb.heap.size = w.heap.size + 2 := by rw [hwb]; simp only [size_a]
  have hp0 : wb.heap[w.heap.size]? = some (.cells (pkV p) 38 (0, 0)) := by rw [hwb]; exact heap_past _ _ _ (by simp only [size_a]; omega) (heap_new _ _ _ rfl)
  have hq0 : wb.heap[w.heap.size + 1]? = some (.cells (pkV q) 38 (0, 0)) := by rw [hwb]; exact heap_new _ _ _ (by simp only [size_a])
  have HCP := Lib.hid (show ∀ wz : World, Below wb.heap.size wb wz → wz.heap[w.heap.size]? = some (.cells (pkV p) 38 (0, 0)) from fun wz hz => (hz.block _ (by omega)).trans hp0)
  have HCQ := Lib.hid (show ∀ wz : World, Below wb.heap.size wb wz → wz.heap[w.heap.size + 1]? = some (.cells (pkV q) 38 (0, 0)) from fun wz hz => (hz.block _ (by omega)).trans hq0)
  have HEN := Lib.hid (show ∀ wz : World, Below wb.heap.size wb wz → Env B wz ∧ B ≤ wz.heap.size from fun wz hz => ⟨he.on ((hbw.mono hB).trans (hz.mono (Nat.le_trans hB hbw.size))), Nat.le_trans hB (Nat.le_trans hbw.size hz.size)⟩)
  have HFIN := Lib.hid (show ∀ wz : World, Below wb.heap.size wb wz → Below w.heap.size w wz from fun wz hz => hbw.trans (hz.mono hbw.size))
  have HSZ := Lib.hid hws
  have HTP := Lib.hid (show ∀ W, Below wb.heap.size wb W → _ from fun W hW => once_text p B W hp (HEN.out W hW).1 (HEN.out W hW).2)
  have HTQ := Lib.hid (show ∀ W, Below wb.heap.size wb W → _ from fun W hW => once_text q B W hq (HEN.out W hW).1 (HEN.out W hW).2)
  have HTE := Lib.hid (show ∀ W, Below wb.heap.size wb W → _ from fun W hW => tells_any B W (HEN.out W hW).1 (HEN.out W hW).2)
  have HWR := Lib.hid (show ∀ W, Below wb.heap.size wb W → Calls Tryz.prog 10 #[.agg (pkV p)] W (WrQ (mwrapL p).1.from_ (mwrapL p).1.to_ (mwrapL p).1.ref (mwrapL p).1.segs (((mwrapL p).2 : Nat) : Int) W) from fun W hW => once_wrap p B W hp (HEN.out W hW).1 (HEN.out W hW).2)
  have HPK := Lib.hid (show ∀ (v : Value) W, (mwrapL p).2 = 0 → Below wb.heap.size wb W → SegsF W (· < W.heap.size) v (mwrapL p).1.segs → _ from fun v W h0 hW hv => once_pack p B W hp h0 v hv (HEN.out W hW).1 (HEN.out W hW).2)
  have hone : (mtextL p).2 = 0 → (mtextL q).2 = 0 → decide (p = q) = ((tx (mtextL p).1).toList == (tx (mtextL q).1).toList) := fun h1 h2 => by
    rw [txl, txl]
    by_cases h : p = q
    · subst h; simp
    · rw [decide_eq_false h]
      symm
      simp only [beq_eq_false_iff_ne, ne_eq]
      exact fun e => h (mtext_one hp hq h1 h2 e)
  have HONE := Lib.hid hone
  have HBAD := Lib.hid (show ¬ (mwrapL p).2 = 0 → (mwrapL p).1 = Wr.nil ∧ mtextL p = ([], (mwrapL p).2) from fun h => ⟨mwrap_bad h, mtext_bad h⟩)
  have HTX0 := Lib.hid (show ¬ (mwrapL p).2 = 0 → ¬ (mtextL p).2 = 0 from fun h => by rw [mtext_bad h]; exact h)
  have heqpq : ∀ W, (binOp .eql 38 (.agg (pkV p)) (.agg (pkV q))).run Tryz.prog W = .ok (.bool (decide (p = q))) W := eql_pk p q
  have heqpp : ∀ W, (binOp .eql 38 (.agg (pkV p)) (.agg (pkV p))).run Tryz.prog W = .ok (.bool true) W := fun W => by
    have h := eql_pk p p W
    rw [decide_eq_true rfl] at h
    exact h
  clear hone he hB hp hq hp0 hq0 hws hbw
  suffices hmain : Calls Tryz.prog 6 #[.agg (pkV p), .agg (pkV q)] w fun e w' => e = .returned (.bool true) ∧ Below wb.heap.size wb w' from
    hmain.mono fun e w' h => ⟨h.1, HFIN.out _ h.2⟩
  go_enter Tryz.func6, Tryz.ntmps6
  go_wp2_with (refine wpList_load_row rfl 38 _ rfl w.heap.size rfl 38 (pkV p) (0, 0) _ (by rw [← hwb]; exact HCP.out _ (Below.refl _ _)) Tryz.underlying38 rfl sizePk ?_)
  rw [← hwb]
  refine (HTP.out _ (Below.refl _ _)).mono ?_
  rintro e w1 ⟨rfl, hb1⟩
  have HB1 := Lib.hid hb1
  clear hb1 hwb
  go_wp2_with (refine wpList_load_row rfl 38 _ rfl (w.heap.size + 1) rfl 38 (pkV q) (0, 0) _ (HCQ.out _ HB1.out) Tryz.underlying38 rfl sizePk ?_)
  refine (HTQ.out _ HB1.out).mono ?_
  rintro e w2 ⟨rfl, hb2⟩
  have HB2 := Lib.hid (HB1.out.trans (hb2.mono HB1.out.size))
  clear hb2
  by_cases h0 : (mwrapL p).2 = 0
  · have HZ := Lib.hid (show (((mwrapL p).2 : Nat) : Int) = 0 by rw [h0]; rfl)
    by_cases h1 : (((mtextL p).2 : Nat) : Int) = 0
    · by_cases h2 : (((mtextL q).2 : Nat) : Int) = 0
      · have hon := HONE.out (by omega) (by omega)
        generalize hd : decide (p = q) = d at *
        have hst := hon.symm
        have hnn : (d != d) = false := by simp
        rw [h1, h2]
        clear hon h1 h2
        as_aux_lemma =>
          go_wp2_with (first | (refine wpList_load_row rfl 38 _ rfl w.heap.size rfl 38 (pkV p) (0, 0) _ (HCP.out _ HB2.out) Tryz.underlying38 rfl sizePk ?_) | (refine wpList_load_rowG (by rfl) 38 _ rfl w.heap.size rfl 38 (pkV p) (0, 0) _ (HCP.out _ HB2.out) Tryz.underlying38 rfl sizePk ?_) | (refine wpList_load_rowG (by rfl) 38 _ rfl (w.heap.size + 1) rfl 38 (pkV q) (0, 0) _ (HCQ.out _ HB2.out) Tryz.underlying38 rfl sizePk ?_))
          refine (HWR.out _ HB2.out).mono ?_
          rintro e w3 ⟨pv, nv, cv, rfl, hb3, hv3⟩
          have hb3' := HB2.out.trans (hb3.mono HB2.out.size)
          have HB3 := Lib.hid hb3'
          have hb4 := hb3'.alloc hb3'.size (.cells (wrV (mwrapL p).1.from_ (mwrapL p).1.to_ (mwrapL p).1.ref (.slice pv nv cv)) 41)
          have HB4 := Lib.hid hb4
          have HPP := Lib.hid (HPK.out _ _ h0 hb4 (hv3.kept (fun b hb => ⟨by rw [size_a]; exact Nat.lt_succ_of_lt hb, Below.heap_alloc _ _ _ hb⟩)))
          clear hb3 hv3 hb3' hb4
          rw [HZ.out]
          go_wp2_with fail
          refine (HPP.out).mono ?_
          rintro e w5 ⟨rfl, hb5⟩
          have hb5' := HB4.out.trans (hb5.mono HB4.out.size)
          have hb6 := hb5'.alloc hb5'.size (.cells pk0 38)
          have hb7 : Below wb.heap.size wb ((w5.alloc (.cells pk0 38)).setRow w5.heap.size (pkV p)) := below_setR hb6 hb5'.size _
          have HD5 := Lib.hid (show (w5.alloc (.cells pk0 38)).heap[w5.heap.size]? = some (.cells pk0 38 (0, 0)) from at_last _ _)
          have HD7 := Lib.hid (setRow_heap _ _ pk0 (pkV p) _ _ HD5.out)
          have HB7 := Lib.hid hb7
          clear hb5 hb5' hb6 hb7
          go_wp2_with (first | (refine wpList_store_row rfl 38 _ _ rfl w5.heap.size (pkV p) rfl rfl 38 pk0 HD5.out sizePk rfl (pkv_one _) ?_) | (refine wpList_load_rowG (by rfl) 38 _ rfl w5.heap.size rfl 38 (pkV p) (0, 0) _ HD7.out Tryz.underlying38 rfl sizePk ?_) | (refine wpList_load_rowG (by rfl) 38 _ rfl w.heap.size rfl 38 (pkV p) (0, 0) _ (HCP.out _ HB7.out) Tryz.underlying38 rfl sizePk ?_))
          refine (HTE.out _ HB7.out).mono ?_
          rintro e w8 ⟨rfl, hb8⟩
          have HB8 := Lib.hid (HB7.out.trans (hb8.mono HB7.out.size))
          clear hb8
          go_wp2
          go_ret
          exact ⟨rfl, HB8.out⟩
      · rw [h1]
        clear h1
        as_aux_lemma =>
          go_wp2_with (refine wpList_load_row rfl 38 _ rfl w.heap.size rfl 38 (pkV p) (0, 0) _ (HCP.out _ HB2.out) Tryz.underlying38 rfl sizePk ?_)
          refine (HWR.out _ HB2.out).mono ?_
          rintro e w3 ⟨pv, nv, cv, rfl, hb3, hv3⟩
          have hb3' := HB2.out.trans (hb3.mono HB2.out.size)
          have HB3 := Lib.hid hb3'
          have hb4 := hb3'.alloc hb3'.size (.cells (wrV (mwrapL p).1.from_ (mwrapL p).1.to_ (mwrapL p).1.ref (.slice pv nv cv)) 41)
          have HB4 := Lib.hid hb4
          have HPP := Lib.hid (HPK.out _ _ h0 hb4 (hv3.kept (fun b hb => ⟨by rw [size_a]; exact Nat.lt_succ_of_lt hb, Below.heap_alloc _ _ _ hb⟩)))
          clear hb3 hv3 hb3' hb4
          rw [HZ.out]
          go_wp2_with fail
          refine (HPP.out).mono ?_
          rintro e w5 ⟨rfl, hb5⟩
          have hb5' := HB4.out.trans (hb5.mono HB4.out.size)
          have hb6 := hb5'.alloc hb5'.size (.cells pk0 38)
          have hb7 : Below wb.heap.size wb ((w5.alloc (.cells pk0 38)).setRow w5.heap.size (pkV p)) := below_setR hb6 hb5'.size _
          have HD5 := Lib.hid (show (w5.alloc (.cells pk0 38)).heap[w5.heap.size]? = some (.cells pk0 38 (0, 0)) from at_last _ _)
          have HD7 := Lib.hid (setRow_heap _ _ pk0 (pkV p) _ _ HD5.out)
          have HB7 := Lib.hid hb7
          clear hb5 hb5' hb6 hb7
          go_wp2_with (first | (refine wpList_store_row rfl 38 _ _ rfl w5.heap.size (pkV p) rfl rfl 38 pk0 HD5.out sizePk rfl (pkv_one _) ?_) | (refine wpList_load_rowG (by rfl) 38 _ rfl w5.heap.size rfl 38 (pkV p) (0, 0) _ HD7.out Tryz.underlying38 rfl sizePk ?_) | (refine wpList_load_rowG (by rfl) 38 _ rfl w.heap.size rfl 38 (pkV p) (0, 0) _ (HCP.out _ HB7.out) Tryz.underlying38 rfl sizePk ?_))
          refine (HTE.out _ HB7.out).mono ?_
          rintro e w8 ⟨rfl, hb8⟩
          have HB8 := Lib.hid (HB7.out.trans (hb8.mono HB7.out.size))
          clear hb8
          go_wp2
          go_ret
          exact ⟨rfl, HB8.out⟩
    · as_aux_lemma =>
        go_wp2_with (refine wpList_load_row rfl 38 _ rfl w.heap.size rfl 38 (pkV p) (0, 0) _ (HCP.out _ HB2.out) Tryz.underlying38 rfl sizePk ?_)
        refine (HWR.out _ HB2.out).mono ?_
        rintro e w3 ⟨pv, nv, cv, rfl, hb3, hv3⟩
        have hb3' := HB2.out.trans (hb3.mono HB2.out.size)
        have HB3 := Lib.hid hb3'
        have hb4 := hb3'.alloc hb3'.size (.cells (wrV (mwrapL p).1.from_ (mwrapL p).1.to_ (mwrapL p).1.ref (.slice pv nv cv)) 41)
        have HB4 := Lib.hid hb4
        have HPP := Lib.hid (HPK.out _ _ h0 hb4 (hv3.kept (fun b hb => ⟨by rw [size_a]; exact Nat.lt_succ_of_lt hb, Below.heap_alloc _ _ _ hb⟩)))
        clear hb3 hv3 hb3' hb4
        rw [HZ.out]
        go_wp2_with fail
        refine (HPP.out).mono ?_
        rintro e w5 ⟨rfl, hb5⟩
        have hb5' := HB4.out.trans (hb5.mono HB4.out.size)
        have hb6 := hb5'.alloc hb5'.size (.cells pk0 38)
        have hb7 : Below wb.heap.size wb ((w5.alloc (.cells pk0 38)).setRow w5.heap.size (pkV p)) := below_setR hb6 hb5'.size _
        have HD5 := Lib.hid (show (w5.alloc (.cells pk0 38)).heap[w5.heap.size]? = some (.cells pk0 38 (0, 0)) from at_last _ _)
        have HD7 := Lib.hid (setRow_heap _ _ pk0 (pkV p) _ _ HD5.out)
        have HB7 := Lib.hid hb7
        clear hb5 hb5' hb6 hb7
        go_wp2_with (first | (refine wpList_store_row rfl 38 _ _ rfl w5.heap.size (pkV p) rfl rfl 38 pk0 HD5.out sizePk rfl (pkv_one _) ?_) | (refine wpList_load_rowG (by rfl) 38 _ rfl w5.heap.size rfl 38 (pkV p) (0, 0) _ HD7.out Tryz.underlying38 rfl sizePk ?_) | (refine wpList_load_rowG (by rfl) 38 _ rfl w.heap.size rfl 38 (pkV p) (0, 0) _ (HCP.out _ HB7.out) Tryz.underlying38 rfl sizePk ?_))
        refine (HTE.out _ HB7.out).mono ?_
        rintro e w8 ⟨rfl, hb8⟩
        have HB8 := Lib.hid (HB7.out.trans (hb8.mono HB7.out.size))
        clear hb8
        go_wp2
        go_ret
        exact ⟨rfl, HB8.out⟩
  · have h1 : ¬ (((mtextL p).2 : Nat) : Int) = 0 := by have := HTX0.out h0; omega
    have h3 : ¬ (((mwrapL p).2 : Nat) : Int) = 0 := by omega
    have he1 : (((mwrapL p).2 : Nat) : Int) = (((mtextL p).2 : Nat) : Int) := by rw [(HBAD.out h0).2]
    as_aux_lemma =>
      go_wp2_with (refine wpList_load_row rfl 38 _ rfl w.heap.size rfl 38 (pkV p) (0, 0) _ (HCP.out _ HB2.out) Tryz.underlying38 rfl sizePk ?_)
      refine (HWR.out _ HB2.out).mono ?_
      rintro e w3 ⟨pv, nv, cv, rfl, hb3, hv3⟩
      rw [(HBAD.out h0).1] at hv3 ⊢
      obtain ⟨_, _, hsl⟩ := segs_slice hv3
      cases hsl
      have hb3' := HB2.out.trans (hb3.mono HB2.out.size)
      have HB3 := Lib.hid hb3'
      have hb4 := hb3'.alloc hb3'.size (.cells (wrV 0 0 0 (.slice pv 0 cv)) 41)
      have HB4 := Lib.hid hb4
      have HSM := Lib.hid (wsame_any 0 0 0 [] (.slice pv 0 cv) (.slice none 0 0) (w3.alloc (.cells (wrV 0 0 0 (.slice pv 0 cv)) 41)) (segs_nil0 _ _ _ _) (segs_nil0 _ _ _ _) ⟨by simp, fun s hs => by simp at hs⟩)
      clear hb3 hv3 hb3' hb4
      simp only [Wr.nil]
      go_wp2_with fail
      refine (HSM.out).mono ?_
      rintro e w5 ⟨rfl, hb5⟩
      have HB5 := Lib.hid (HB4.out.trans (hb5.mono HB4.out.size))
      clear hb5
      go_wp2_with fail
      refine (HTE.out _ HB5.out).mono ?_
      rintro e w7 ⟨rfl, hb7⟩
      have HB7 := Lib.hid (HB5.out.trans (hb7.mono HB5.out.size))
      clear hb7
      go_wp2
      go_ret
      exact ⟨rfl, HB7.out⟩
end Go.Proofs.YtjlifjgljejabaaGreatDoor
/- A packet that came in, opened; what the rows' condition on the laid tables and sentinels gives; a start that meets it. -/
namespace Go.Proofs.YtjlifjgljejabaaGreatDoor
open Go.ChangeShapes Go.WideShapes Go.ChangeAt Go.RowKit Go.Edi Go.Wrap

theorem own : ownKnob Tryz.prog.godebug = none := by kernel_rfl
theorem laidOut : laidOutB Tryz.prog = true := by kernel_rfl
theorem str_of (s : ByteArray) : str s.data.toList = .string s := by simp [tx]
theorem gP : Tryz.prog.globalNamed "internal/strconv.uint64pow10" = some 0 := by kernel_rfl
theorem tP : (Tryz.prog.globals[0]?).map (·.type) = some 206 := by kernel_rfl
theorem gSy : Tryz.prog.globalNamed "strconv.ErrSyntax" = some 1 := by kernel_rfl
theorem tSy : (Tryz.prog.globals[1]?).map (·.type) = some 174 := by kernel_rfl
theorem gRa : Tryz.prog.globalNamed "strconv.ErrRange" = some 2 := by kernel_rfl
theorem tRa : (Tryz.prog.globals[2]?).map (·.type) = some 174 := by kernel_rfl
theorem cellsA20 : Tryz.prog.cellsOf 206 = 20 := by kernel_rfl
theorem cEs : Tryz.prog.cellsOf 231 = 1 := by kernel_rfl
theorem cStr : Tryz.prog.cellsOf 9 = 1 := by kernel_rfl
theorem starEs : "*" ++ "errors.errorString" = "*errors.errorString" := by decide
theorem rowEs (u : TypeId) (h : Tryz.prog.typeName? 3 u = some "*errors.errorString") : u = 229 :=
  typeName_ptr_named (nm := "errors.errorString") (by rw [starEs]; kernel_rfl) (by kernel_rfl) (by decide) u (by rw [starEs]; exact h)
theorem cellsU8 : Tryz.prog.cellsOf 5 = 1 := by kernel_rfl
theorem cU16 : Tryz.prog.cellsOf 27 = 1 := by kernel_rfl
theorem cU32 : Tryz.prog.cellsOf 28 = 1 := by kernel_rfl
theorem cellsU64 : Tryz.prog.cellsOf 22 = 1 := by kernel_rfl
theorem cI64 : Tryz.prog.cellsOf 2 = 1 := by kernel_rfl
theorem cSt : Tryz.prog.cellsOf 31 = 1 := by kernel_rfl
theorem cEr : Tryz.prog.cellsOf 34 = 1 := by kernel_rfl
theorem cBo : Tryz.prog.cellsOf 4 = 1 := by kernel_rfl
theorem cTk : Tryz.prog.cellsOf 24 = 2 := by kernel_rfl
theorem cKe : Tryz.prog.cellsOf 26 = 3 := by kernel_rfl
theorem cLg : Tryz.prog.cellsOf 30 = 3 := by kernel_rfl
theorem cCp : Tryz.prog.cellsOf 33 = 6 := by kernel_rfl
theorem cMs : Tryz.prog.cellsOf 36 = 12 := by kernel_rfl
theorem cPk : Tryz.prog.cellsOf 38 = 16 := by kernel_rfl
abbrev laid5 : List (String × DataW Unit) := [("math/bits.deBruijn32tab", Rows.laid_math_bits_deBruijn32tab), ("math/bits.deBruijn64tab", Rows.laid_math_bits_deBruijn64tab), ("internal/strconv.uint64pow10", Rows.laid_internal_strconv_uint64pow10), ("strconv.ErrRange", Rows.laid_strconv_ErrRange), ("strconv.ErrSyntax", Rows.laid_strconv_ErrSyntax)]
theorem dP : (Rows.laid_internal_strconv_uint64pow10 : DataW Unit) = Lib.tabData .u64 Lib.pow10Tab := by kernel_rfl
theorem var_below {W w' : World} {n : String} {x : Array Value} (h : W.var? Tryz.prog n = some x) (hb : Below W.heap.size W w') : w'.var? Tryz.prog n = some x := by
  unfold World.var? at h ⊢
  cases hg : Tryz.prog.globalNamed n with
  | none => rw [hg] at h; cases h
  | some g =>
    rw [hg] at h
    simp only [Option.bind_some] at h ⊢
    have hlt : g < W.heap.size := by
      rcases Nat.lt_or_ge g W.heap.size with h' | h'
      · exact h'
      · rw [Array.getElem?_eq_none h'] at h; cases h
    rw [hb.block g hlt]
    exact h
theorem env_of_laid {W : World} (h : laidMetH Tryz.prog laid5 W) : Env W.heap.size W := by
  rw [MakeChecks.laidMetH_plain _ _ _ (by kernel_rfl)] at h
  have hP : laidMet Tryz.prog (("internal/strconv.uint64pow10", Lib.tabData .u64 Lib.pow10Tab) :: [("strconv.ErrRange", Rows.laid_strconv_ErrRange), ("strconv.ErrSyntax", Rows.laid_strconv_ErrSyntax)]) W := by rw [← dP]; exact h.tail.tail
  have hR := h.tail.tail.tail
  have hS := hR.tail
  obtain ⟨a1, s1, hv1, _⟩ := laid_sentinel hR gRa tRa Tryz.underlying174 rowEs Tryz.underlying229 Tryz.underlying231 rfl rfl Tryz.underlying9 cEs cStr
  obtain ⟨a2, s2, hv2, _⟩ := laid_sentinel hS gSy tSy Tryz.underlying174 rowEs Tryz.underlying229 Tryz.underlying231 rfl rfl Tryz.underlying9 cEs cStr
  exact ⟨Lib.tabBelow_of_tabIs (Lib.tabIs_of_head gP tP Tryz.underlying206 Tryz.underlying22 cellsU64 cellsA20 hP), fun w' hb => ⟨_, _, var_below hv2 hb⟩, fun w' hb => ⟨_, _, var_below hv1 hb⟩⟩
theorem door_met (os : Os) (args : Array Value) : laidMetH Tryz.prog laid5 ((World.doorLaid Tryz.prog 400 os).forCall (fun _ _ => 0) ⟨#[], args, []⟩).memory :=
  laidMetH_of_parts3 (fuel := 8) (laidMet_of_run' 8 (by kernel_rfl) (by kernel_rfl)) (by kernel_rfl) (by kernel_rfl)
def Wf (k : IntKind) (n : Int) : Prop := (Lit.int k n).wf = true
theorem wf_u8 {n : Int} (h : Wf .u8 n) : 0 ≤ n ∧ n < 256 := by simp [Wf, Lit.wf, IntKind.min, IntKind.max, IntKind.signed, IntKind.bits] at h; omega
theorem wf_u16 {n : Int} (h : Wf .u16 n) : 0 ≤ n ∧ n < 65536 := by simp [Wf, Lit.wf, IntKind.min, IntKind.max, IntKind.signed, IntKind.bits] at h; omega
theorem wf_u32 {n : Int} (h : Wf .u32 n) : 0 ≤ n ∧ n < 4294967296 := by simp [Wf, Lit.wf, IntKind.min, IntKind.max, IntKind.signed, IntKind.bits] at h; omega
theorem wf_u64 {n : Int} (h : Wf .u64 n) : 0 ≤ n ∧ n < 18446744073709551616 := by simp [Wf, Lit.wf, IntKind.min, IntKind.max, IntKind.signed, IntKind.bits] at h; omega
theorem wf_i64 {n : Int} (h : Wf .i64 n) : -9223372036854775808 ≤ n ∧ n ≤ 9223372036854775807 := by simp [Wf, Lit.wf, IntKind.min, IntKind.max, IntKind.signed, IntKind.bits] at h; omega
section
variable {H : Type} {enc : TypeId × Value → H} {W : World} {base : Nat} {sp : Nat → Bool} {held : Bool}
theorem intc_of {t : TypeId} {k : IntKind} (ht : Tryz.prog.underlying t = some (.int k)) {n : Nat} {v : Value} {y : DataW H × List MemPlace} (h : DataW.trod enc Tryz.prog W base sp held n t [v] = some y) : ∃ c : Int, v = .int k c ∧ Wf k c := by
  obtain ⟨a, g, _, w0⟩ := DataW.trod_int ht h
  simp only [List.cons.injEq, and_true] at g
  exact ⟨a, g, w0⟩
theorem boolc_of {t : TypeId} (ht : Tryz.prog.underlying t = some .bool) {n : Nat} {v : Value} {y : DataW H × List MemPlace} (h : DataW.trod enc Tryz.prog W base sp held n t [v] = some y) : ∃ c : Bool, v = .bool c := by
  obtain ⟨a, g, _⟩ := DataW.trod_bool ht h
  simp only [List.cons.injEq, and_true] at g
  exact ⟨a, g⟩
theorem tkU : ∃ f0 f1 : Field, Tryz.prog.underlying 24 = some (.struct #[f0, f1]) ∧ (f0.offset = 0 ∧ f1.offset = 1) ∧ (f0.type = 5 ∧ f1.type = 22) :=
  ⟨_, _, Tryz.underlying24, ⟨rfl, rfl⟩, ⟨rfl, rfl⟩⟩
set_option maxRecDepth 100000 in
theorem tk_of {n : Nat} {cs : List Value} {y : DataW H × List MemPlace} (h : DataW.trod enc Tryz.prog W base sp held n 24 cs = some y) (hl : cs.length = 2) : ∃ (x0 : Int), ∃ (x1 : Int), cs = [.int .u8 x0, .int .u64 x1] ∧ Wf .u8 x0 ∧ Wf .u64 x1 := by
  obtain ⟨f0, f1, hu, ⟨o0, o1⟩, t0, t1⟩ := tkU
  obtain ⟨xs, m, _, _, _, hn, hel⟩ := DataW.trod_struct hu h
  match cs, hl with
  | [a0, a1], _ =>
    have e0 := hel 0 f0 rfl
    rw [t0, o0, cellsU8, List.getElem?_eq_getElem (by rw [hn]; show _ < 2; omega)] at e0
    have e1 := hel 1 f1 rfl
    rw [t1, o1, cellsU64, List.getElem?_eq_getElem (by rw [hn]; show _ < 2; omega)] at e1
    obtain ⟨x0, rfl, w0⟩ := intc_of Tryz.underlying5 e0
    obtain ⟨x1, rfl, w1⟩ := intc_of Tryz.underlying22 e1
    exact ⟨x0, x1, rfl, w0, w1⟩
theorem keU : ∃ f0 f1 : Field, Tryz.prog.underlying 26 = some (.struct #[f0, f1]) ∧ (f0.offset = 0 ∧ f1.offset = 2) ∧ (f0.type = 24 ∧ f1.type = 5) :=
  ⟨_, _, Tryz.underlying26, ⟨rfl, rfl⟩, ⟨rfl, rfl⟩⟩
set_option maxRecDepth 100000 in
theorem ke_of {n : Nat} {cs : List Value} {y : DataW H × List MemPlace} (h : DataW.trod enc Tryz.prog W base sp held n 26 cs = some y) (hl : cs.length = 3) : ∃ (x0 : Int), ∃ (x1 : Int), ∃ (x2 : Int), cs = [.int .u8 x0, .int .u64 x1, .int .u8 x2] ∧ Wf .u8 x0 ∧ Wf .u64 x1 ∧ Wf .u8 x2 := by
  obtain ⟨f0, f1, hu, ⟨o0, o1⟩, t0, t1⟩ := keU
  obtain ⟨xs, m, _, _, _, hn, hel⟩ := DataW.trod_struct hu h
  match cs, hl with
  | [a0, a1, a2], _ =>
    have e0 := hel 0 f0 rfl
    rw [t0, o0, cTk, List.getElem?_eq_getElem (by rw [hn]; show _ < 2; omega)] at e0
    have e1 := hel 1 f1 rfl
    rw [t1, o1, cellsU8, List.getElem?_eq_getElem (by rw [hn]; show _ < 2; omega)] at e1
    obtain ⟨x0, x1, h0, w0, w1⟩ := tk_of e0 rfl
    simp only [List.drop_zero, List.take_succ_cons, List.take_zero, List.cons.injEq, and_true] at h0
    obtain ⟨rfl, rfl⟩ := h0
    obtain ⟨x2, rfl, w2⟩ := intc_of Tryz.underlying5 e1
    exact ⟨x0, x1, x2, rfl, w0, w1, w2⟩
theorem lgU : ∃ f0 f1 f2 : Field, Tryz.prog.underlying 30 = some (.struct #[f0, f1, f2]) ∧ (f0.offset = 0 ∧ f1.offset = 1 ∧ f2.offset = 2) ∧ (f0.type = 5 ∧ f1.type = 27 ∧ f2.type = 28) :=
  ⟨_, _, _, Tryz.underlying30, ⟨rfl, rfl, rfl⟩, ⟨rfl, rfl, rfl⟩⟩
set_option maxRecDepth 100000 in
theorem lg_of {n : Nat} {cs : List Value} {y : DataW H × List MemPlace} (h : DataW.trod enc Tryz.prog W base sp held n 30 cs = some y) (hl : cs.length = 3) : ∃ (x0 : Int), ∃ (x1 : Int), ∃ (x2 : Int), cs = [.int .u8 x0, .int .u16 x1, .int .u32 x2] ∧ Wf .u8 x0 ∧ Wf .u16 x1 ∧ Wf .u32 x2 := by
  obtain ⟨f0, f1, f2, hu, ⟨o0, o1, o2⟩, t0, t1, t2⟩ := lgU
  obtain ⟨xs, m, _, _, _, hn, hel⟩ := DataW.trod_struct hu h
  match cs, hl with
  | [a0, a1, a2], _ =>
    have e0 := hel 0 f0 rfl
    rw [t0, o0, cellsU8, List.getElem?_eq_getElem (by rw [hn]; show _ < 3; omega)] at e0
    have e1 := hel 1 f1 rfl
    rw [t1, o1, cU16, List.getElem?_eq_getElem (by rw [hn]; show _ < 3; omega)] at e1
    have e2 := hel 2 f2 rfl
    rw [t2, o2, cU32, List.getElem?_eq_getElem (by rw [hn]; show _ < 3; omega)] at e2
    obtain ⟨x0, rfl, w0⟩ := intc_of Tryz.underlying5 e0
    obtain ⟨x1, rfl, w1⟩ := intc_of Tryz.underlying27 e1
    obtain ⟨x2, rfl, w2⟩ := intc_of Tryz.underlying28 e2
    exact ⟨x0, x1, x2, rfl, w0, w1, w2⟩
theorem cpU : ∃ f0 f1 f2 f3 : Field, Tryz.prog.underlying 33 = some (.struct #[f0, f1, f2, f3]) ∧ (f0.offset = 0 ∧ f1.offset = 3 ∧ f2.offset = 4 ∧ f3.offset = 5) ∧ (f0.type = 30 ∧ f1.type = 2 ∧ f2.type = 31 ∧ f3.type = 28) :=
  ⟨_, _, _, _, Tryz.underlying33, ⟨rfl, rfl, rfl, rfl⟩, ⟨rfl, rfl, rfl, rfl⟩⟩
set_option maxRecDepth 100000 in
theorem cp_of {n : Nat} {cs : List Value} {y : DataW H × List MemPlace} (h : DataW.trod enc Tryz.prog W base sp held n 33 cs = some y) (hl : cs.length = 6) : ∃ (x0 : Int), ∃ (x1 : Int), ∃ (x2 : Int), ∃ (x3 : Int), ∃ (x4 : Int), ∃ (x5 : Int), cs = [.int .u8 x0, .int .u16 x1, .int .u32 x2, .int .i64 x3, .int .u8 x4, .int .u32 x5] ∧ Wf .u8 x0 ∧ Wf .u16 x1 ∧ Wf .u32 x2 ∧ Wf .i64 x3 ∧ Wf .u8 x4 ∧ Wf .u32 x5 := by
  obtain ⟨f0, f1, f2, f3, hu, ⟨o0, o1, o2, o3⟩, t0, t1, t2, t3⟩ := cpU
  obtain ⟨xs, m, _, _, _, hn, hel⟩ := DataW.trod_struct hu h
  match cs, hl with
  | [a0, a1, a2, a3, a4, a5], _ =>
    have e0 := hel 0 f0 rfl
    rw [t0, o0, cLg, List.getElem?_eq_getElem (by rw [hn]; show _ < 4; omega)] at e0
    have e1 := hel 1 f1 rfl
    rw [t1, o1, cI64, List.getElem?_eq_getElem (by rw [hn]; show _ < 4; omega)] at e1
    have e2 := hel 2 f2 rfl
    rw [t2, o2, cSt, List.getElem?_eq_getElem (by rw [hn]; show _ < 4; omega)] at e2
    have e3 := hel 3 f3 rfl
    rw [t3, o3, cU32, List.getElem?_eq_getElem (by rw [hn]; show _ < 4; omega)] at e3
    obtain ⟨x0, x1, x2, h0, w0, w1, w2⟩ := lg_of e0 rfl
    simp only [List.drop_zero, List.take_succ_cons, List.take_zero, List.cons.injEq, and_true] at h0
    obtain ⟨rfl, rfl, rfl⟩ := h0
    obtain ⟨x3, rfl, w3⟩ := intc_of Tryz.underlying2 e1
    obtain ⟨x4, rfl, w4⟩ := intc_of Tryz.underlying31 e2
    obtain ⟨x5, rfl, w5⟩ := intc_of Tryz.underlying28 e3
    exact ⟨x0, x1, x2, x3, x4, x5, rfl, w0, w1, w2, w3, w4, w5⟩
theorem msU : ∃ f0 f1 f2 f3 f4 : Field, Tryz.prog.underlying 36 = some (.struct #[f0, f1, f2, f3, f4]) ∧ (f0.offset = 0 ∧ f1.offset = 1 ∧ f2.offset = 4 ∧ f3.offset = 10 ∧ f4.offset = 11) ∧ (f0.type = 5 ∧ f1.type = 26 ∧ f2.type = 33 ∧ f3.type = 2 ∧ f4.type = 34) :=
  ⟨_, _, _, _, _, Tryz.underlying36, ⟨rfl, rfl, rfl, rfl, rfl⟩, ⟨rfl, rfl, rfl, rfl, rfl⟩⟩
set_option maxRecDepth 100000 in
theorem ms_of {n : Nat} {cs : List Value} {y : DataW H × List MemPlace} (h : DataW.trod enc Tryz.prog W base sp held n 36 cs = some y) (hl : cs.length = 12) : ∃ (x0 : Int), ∃ (x1 : Int), ∃ (x2 : Int), ∃ (x3 : Int), ∃ (x4 : Int), ∃ (x5 : Int), ∃ (x6 : Int), ∃ (x7 : Int), ∃ (x8 : Int), ∃ (x9 : Int), ∃ (x10 : Int), ∃ (x11 : Int), cs = [.int .u8 x0, .int .u8 x1, .int .u64 x2, .int .u8 x3, .int .u8 x4, .int .u16 x5, .int .u32 x6, .int .i64 x7, .int .u8 x8, .int .u32 x9, .int .i64 x10, .int .i64 x11] ∧ Wf .u8 x0 ∧ Wf .u8 x1 ∧ Wf .u64 x2 ∧ Wf .u8 x3 ∧ Wf .u8 x4 ∧ Wf .u16 x5 ∧ Wf .u32 x6 ∧ Wf .i64 x7 ∧ Wf .u8 x8 ∧ Wf .u32 x9 ∧ Wf .i64 x10 ∧ Wf .i64 x11 := by
  obtain ⟨f0, f1, f2, f3, f4, hu, ⟨o0, o1, o2, o3, o4⟩, t0, t1, t2, t3, t4⟩ := msU
  obtain ⟨xs, m, _, _, _, hn, hel⟩ := DataW.trod_struct hu h
  match cs, hl with
  | [a0, a1, a2, a3, a4, a5, a6, a7, a8, a9, a10, a11], _ =>
    have e0 := hel 0 f0 rfl
    rw [t0, o0, cellsU8, List.getElem?_eq_getElem (by rw [hn]; show _ < 5; omega)] at e0
    have e1 := hel 1 f1 rfl
    rw [t1, o1, cKe, List.getElem?_eq_getElem (by rw [hn]; show _ < 5; omega)] at e1
    have e2 := hel 2 f2 rfl
    rw [t2, o2, cCp, List.getElem?_eq_getElem (by rw [hn]; show _ < 5; omega)] at e2
    have e3 := hel 3 f3 rfl
    rw [t3, o3, cI64, List.getElem?_eq_getElem (by rw [hn]; show _ < 5; omega)] at e3
    have e4 := hel 4 f4 rfl
    rw [t4, o4, cEr, List.getElem?_eq_getElem (by rw [hn]; show _ < 5; omega)] at e4
    obtain ⟨x0, rfl, w0⟩ := intc_of Tryz.underlying5 e0
    obtain ⟨x1, x2, x3, h1, w1, w2, w3⟩ := ke_of e1 rfl
    simp only [List.drop_succ_cons, List.drop_zero, List.take_succ_cons, List.take_zero, List.cons.injEq, and_true] at h1
    obtain ⟨rfl, rfl, rfl⟩ := h1
    obtain ⟨x4, x5, x6, x7, x8, x9, h2, w4, w5, w6, w7, w8, w9⟩ := cp_of e2 rfl
    simp only [List.drop_succ_cons, List.drop_zero, List.take_succ_cons, List.take_zero, List.cons.injEq, and_true] at h2
    obtain ⟨rfl, rfl, rfl, rfl, rfl, rfl⟩ := h2
    obtain ⟨x10, rfl, w10⟩ := intc_of Tryz.underlying2 e3
    obtain ⟨x11, rfl, w11⟩ := intc_of Tryz.underlying34 e4
    exact ⟨x0, x1, x2, x3, x4, x5, x6, x7, x8, x9, x10, x11, rfl, w0, w1, w2, w3, w4, w5, w6, w7, w8, w9, w10, w11⟩
theorem pkU : ∃ f0 f1 f2 f3 f4 : Field, Tryz.prog.underlying 38 = some (.struct #[f0, f1, f2, f3, f4]) ∧ (f0.offset = 0 ∧ f1.offset = 1 ∧ f2.offset = 2 ∧ f3.offset = 3 ∧ f4.offset = 4) ∧ (f0.type = 5 ∧ f1.type = 5 ∧ f2.type = 4 ∧ f3.type = 22 ∧ f4.type = 36) :=
  ⟨_, _, _, _, _, Tryz.underlying38, ⟨rfl, rfl, rfl, rfl, rfl⟩, ⟨rfl, rfl, rfl, rfl, rfl⟩⟩
set_option maxRecDepth 100000 in
theorem pk_of {n : Nat} {cs : List Value} {y : DataW H × List MemPlace} (h : DataW.trod enc Tryz.prog W base sp held n 38 cs = some y) (hl : cs.length = 16) : ∃ (x0 : Int), ∃ (x1 : Int), ∃ (x2 : Bool), ∃ (x3 : Int), ∃ (x4 : Int), ∃ (x5 : Int), ∃ (x6 : Int), ∃ (x7 : Int), ∃ (x8 : Int), ∃ (x9 : Int), ∃ (x10 : Int), ∃ (x11 : Int), ∃ (x12 : Int), ∃ (x13 : Int), ∃ (x14 : Int), ∃ (x15 : Int), cs = [.int .u8 x0, .int .u8 x1, .bool x2, .int .u64 x3, .int .u8 x4, .int .u8 x5, .int .u64 x6, .int .u8 x7, .int .u8 x8, .int .u16 x9, .int .u32 x10, .int .i64 x11, .int .u8 x12, .int .u32 x13, .int .i64 x14, .int .i64 x15] ∧ Wf .u8 x0 ∧ Wf .u8 x1 ∧ Wf .u64 x3 ∧ Wf .u8 x4 ∧ Wf .u8 x5 ∧ Wf .u64 x6 ∧ Wf .u8 x7 ∧ Wf .u8 x8 ∧ Wf .u16 x9 ∧ Wf .u32 x10 ∧ Wf .i64 x11 ∧ Wf .u8 x12 ∧ Wf .u32 x13 ∧ Wf .i64 x14 ∧ Wf .i64 x15 := by
  obtain ⟨f0, f1, f2, f3, f4, hu, ⟨o0, o1, o2, o3, o4⟩, t0, t1, t2, t3, t4⟩ := pkU
  obtain ⟨xs, m, _, _, _, hn, hel⟩ := DataW.trod_struct hu h
  match cs, hl with
  | [a0, a1, a2, a3, a4, a5, a6, a7, a8, a9, a10, a11, a12, a13, a14, a15], _ =>
    have e0 := hel 0 f0 rfl
    rw [t0, o0, cellsU8, List.getElem?_eq_getElem (by rw [hn]; show _ < 5; omega)] at e0
    have e1 := hel 1 f1 rfl
    rw [t1, o1, cellsU8, List.getElem?_eq_getElem (by rw [hn]; show _ < 5; omega)] at e1
    have e2 := hel 2 f2 rfl
    rw [t2, o2, cBo, List.getElem?_eq_getElem (by rw [hn]; show _ < 5; omega)] at e2
    have e3 := hel 3 f3 rfl
    rw [t3, o3, cellsU64, List.getElem?_eq_getElem (by rw [hn]; show _ < 5; omega)] at e3
    have e4 := hel 4 f4 rfl
    rw [t4, o4, cMs, List.getElem?_eq_getElem (by rw [hn]; show _ < 5; omega)] at e4
    obtain ⟨x0, rfl, w0⟩ := intc_of Tryz.underlying5 e0
    obtain ⟨x1, rfl, w1⟩ := intc_of Tryz.underlying5 e1
    obtain ⟨x2, rfl⟩ := boolc_of Tryz.underlying4 e2
    obtain ⟨x3, rfl, w3⟩ := intc_of Tryz.underlying22 e3
    obtain ⟨x4, x5, x6, x7, x8, x9, x10, x11, x12, x13, x14, x15, h4, w4, w5, w6, w7, w8, w9, w10, w11, w12, w13, w14, w15⟩ := ms_of e4 rfl
    simp only [List.drop_succ_cons, List.drop_zero, List.take_succ_cons, List.take_zero, List.cons.injEq, and_true] at h4
    obtain ⟨rfl, rfl, rfl, rfl, rfl, rfl, rfl, rfl, rfl, rfl, rfl, rfl⟩ := h4
    exact ⟨x0, x1, x2, x3, x4, x5, x6, x7, x8, x9, x10, x11, x12, x13, x14, x15, rfl, w0, w1, w3, w4, w5, w6, w7, w8, w9, w10, w11, w12, w13, w14, w15⟩
set_option maxRecDepth 100000 in
theorem open_packet {r : Reach} {b0 : Nat} {v : Value} {d : DataW H} {p : List MemPlace} (hv : Value.okWide Tryz.prog W r b0 38 v) (h : DataW.Trod enc Tryz.prog W base sp held 38 v d p) :
    ∃ x : Pk, v = .agg (pkV x) ∧ x.Ty := by
  obtain ⟨f0, f1, f2, f3, f4, hu, _⟩ := pkU
  simp only [Value.okWide, hu] at hv
  obtain ⟨cs, rfl, hsz, _⟩ := hv
  rw [cPk] at hsz
  obtain ⟨fuel, hf0⟩ := h
  obtain ⟨y, hf⟩ : ∃ y, DataW.trod enc Tryz.prog W base sp held fuel 38 cs.toList = some y := ⟨_, hf0⟩
  obtain ⟨x0, x1, x2, x3, x4, x5, x6, x7, x8, x9, x10, x11, x12, x13, x14, x15, hs, w0, w1, w3, w4, w5, w6, w7, w8, w9, w10, w11, w12, w13, w14, w15⟩ := pk_of hf (by simpa using hsz)
  have q0 := wf_u8 w0
  have q1 := wf_u8 w1
  have q3 := wf_u64 w3
  have q4 := wf_u8 w4
  have q5 := wf_u8 w5
  have q6 := wf_u64 w6
  have q7 := wf_u8 w7
  have q8 := wf_u8 w8
  have q9 := wf_u16 w9
  have q10 := wf_u32 w10
  have q11 := wf_i64 w11
  have q12 := wf_u8 w12
  have q13 := wf_u32 w13
  have q14 := wf_i64 w14
  have q15 := wf_i64 w15
  clear w0 w1 w3 w4 w5 w6 w7 w8 w9 w10 w11 w12 w13 w14 w15 hf
  refine ⟨⟨x0.toNat, x1.toNat, x3.toNat, x2, ⟨x4.toNat, x5.toNat, x6.toNat, x7.toNat, x8.toNat, x9.toNat, x10.toNat, x11, x12.toNat, x13.toNat, x14, x15⟩⟩, ?_, ⟨by show x0.toNat < 256; omega, by show x1.toNat < 256; omega, by show x3.toNat < 18446744073709551616; omega, ⟨by show x4.toNat < 256; omega, by show x5.toNat < 256; omega, by show x6.toNat < 18446744073709551616; omega, by show x7.toNat < 256; omega, by show x8.toNat < 256; omega, by show x9.toNat < 65536; omega, by show x10.toNat < 4294967296; omega, q11, by show x12.toNat < 256; omega, by show x13.toNat < 4294967296; omega, q14, q15⟩⟩⟩
  have e : ∀ z : Int, 0 ≤ z → ((z.toNat : Nat) : Int) = z := fun z hz => by omega
  congr 1
  apply Array.toList_inj.1
  rw [hs]
  show _ = [Value.int .u8 ((x0.toNat : Nat) : Int), .int .u8 ((x1.toNat : Nat) : Int), .bool x2, .int .u64 ((x3.toNat : Nat) : Int), .int .u8 ((x4.toNat : Nat) : Int), .int .u8 ((x5.toNat : Nat) : Int), .int .u64 ((x6.toNat : Nat) : Int), .int .u8 ((x7.toNat : Nat) : Int), .int .u8 ((x8.toNat : Nat) : Int), .int .u16 ((x9.toNat : Nat) : Int), .int .u32 ((x10.toNat : Nat) : Int), .int .i64 x11, .int .u8 ((x12.toNat : Nat) : Int), .int .u32 ((x13.toNat : Nat) : Int), .int .i64 x14, .int .i64 x15]
  rw [e x0 q0.1, e x1 q1.1, e x3 q3.1, e x4 q4.1, e x5 q5.1, e x6 q6.1, e x7 q7.1, e x8 q8.1, e x9 q9.1, e x10 q10.1, e x12 q12.1, e x13 q13.1]
end
end Go.Proofs.YtjlifjgljejabaaGreatDoor
namespace Go.Proofs.YtjlifjgljejabaaGreatDoor
open Go.ChangeShapes Go.WideShapes Go.ChangeAt Go.RowKit Go.Edi Go.Wrap Go.ChangeMaps

set_option maxRecDepth 100000 in
theorem mgonce_lifted (os : Os) (started : os.Started) (H : Type) (enc : TypeId × Value → H) :
    ReturnsInHanded {} Tryz.checked os 6 .any (fun w args => (Rows.msgOnceSpec.pre enc Tryz.prog Tryz.f6 [] false w args ∧ laidMetH Tryz.prog laid5 w) ∧ sizedMet enc Tryz.prog Tryz.f6 (OpenSpec.ofChange Rows.msgOnceSpec) false w args)
      (Rows.msgOnceSpec.post enc Tryz.prog Tryz.f6 false true false false) := by
  refine returnsInHanded_of_change_and (C := Tryz.checked) (X := fun w _ => laidMetH Tryz.prog laid5 w) (fun _ _ _ hh h => h.of_heap hh) own started (by kernel_rfl) Tryz.func6
    (ChangeSpec.witness_shaped (enc := enc) (C := Tryz.checked) (os := os) (X := fun w _ => laidMetH Tryz.prog laid5 w) false (World.doorLaid Tryz.prog 400 os) #[.agg pk0, .agg pk0] 8 rfl (World.shaped_of_RefB (by kernel_rfl) (by kernel_rfl)) (by kernel_rfl) (by kernel_rfl) (by kernel_rfl) (door_met os _)) ?_
  intro W base args ds gs before hval0 hW _ _ hL _
  have hval : ∀ (j : Nat) t v, Tryz.f6.params[j]? = some t → args[j]? = some v → Value.okWide Tryz.prog W .any base t v := hval0
  have hW' := hW
  obtain ⟨p, q, hA0, hV, rfl, _, _⟩ := hW
  have hA : DataW.TrodAll enc Tryz.prog W 0 (fun _ => true) true Tryz.f6.params.toList args.toList ds p := hA0
  rw [Tryz.params6] at hA hval
  obtain ⟨v0, v1, d0, d1, p0, p1, rfl, rfl, rfl, h0, h1⟩ := trodAll_two hA
  obtain ⟨rfl, rfl⟩ := trodVars_none hV
  clear hA0 hval0
  simp only [List.append_nil] at hW'
  have hlt : ∀ x ∈ p0 ++ p1, x.block < W.heap.size := fun x hx => by simpa using hW'.lt x hx
  have hT := env_of_laid hL
  have hc : Calls Tryz.prog 6 #[v0, v1] W fun e w' => e = .returned (.bool true) ∧ Below W.heap.size W w' := by
    obtain ⟨a, e0, ha⟩ := open_packet (hval 0 38 v0 rfl rfl) h0
    obtain ⟨b, e1, hb⟩ := open_packet (hval 1 38 v1 rfl rfl) h1
    rw [e0, e1]
    exact once_walk a b W.heap.size W ha hb hT (Nat.le_refl _)
  refine hc.mono ?_
  rintro e W' ⟨rfl, hb⟩
  refine ⟨_, rfl, [d0, d1], [], p0 ++ p1, [], p0 ++ p1, [], hW', ?_, ?_, rfl, hb.frame _, fun h => by cases h⟩
  · exact trodAll_mk1 (shut_bool Tryz.underlying4 true)
  · exact trodAll_mk2 (Below.trod laidOut (by kernel_rfl) (of_decide_eq_true (by kernel_rfl)) h0 hb (fun x hx => hlt x (by simp [hx]))) (Below.trod laidOut (by kernel_rfl) (of_decide_eq_true (by kernel_rfl)) h1 hb (fun x hx => hlt x (by simp [hx])))

theorem mgonce_holds : Rows.MsgOnceSaid :=
  OpenClaim.holds_of_wide 6 Tryz.f6 rfl rfl rfl rfl rfl rfl rfl ⟨rfl, rfl, rfl, rfl, rfl⟩ rfl rfl rfl rfl rfl (by kernel_rfl) Tryz.func6 (by kernel_rfl)
    (of_decide_eq_true (by kernel_rfl)) (by unfold Func.isWrapper; first | (rw [if_pos (by decide +kernel)]; kernel_rfl) | (rw [if_neg (by decide +kernel)]; exact ⟨rfl, rfl⟩))
    (fun os started H enc _ => mgonce_lifted os started H enc)

theorem mgonce_card : Rows.MsgOnceCardSaid :=
  Claim7.holds_tied_plain_at .later [] [.data, .data, .data, .sentinel, .sentinel] true Rows.msgOnceCard.stood.harness true
    mgonce_holds (fun _ h => by cases h) (by kernel_rfl) (fun _ h => by cases h) msgOnce_row_tie rfl ⟨rfl, rfl⟩ (by kernel_rfl) rfl
    (fun f fn hf hfn => by
      obtain rfl : f = 6 := Option.some.inj ((show Tryz.prog.funcNamed Rows.msgOnceRow.func = some 6 by kernel_rfl).symm.trans hf) |>.symm
      obtain rfl : fn = Tryz.f6 := (Option.some.inj (Tryz.func6.symm.trans hfn)).symm
      exact ⟨by kernel_rfl, fun j t ht => by
        rw [Tryz.params6] at ht
        have h3 : t = 38 := by
          rcases j with _ | _ | j
          · simpa using ht.symm
          · simpa using ht.symm
          · simp at ht
        subst h3
        exact (show Tryz.prog.wantsStandIn 38 = false by kernel_rfl)⟩)
    (by kernel_rfl)
#print axioms mgonce_card
end Go.Proofs.YtjlifjgljejabaaGreatDoor
