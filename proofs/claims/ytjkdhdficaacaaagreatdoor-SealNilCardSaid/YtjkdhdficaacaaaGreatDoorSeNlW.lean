/- SealNil's walk. -/
import Derived.Test.YtjkdhdficaacaaaGreatDoorMgOpen
import Derived.Test.YtjkdhdficaacaaaGreatDoorSeF
import Derived.OpenShut
import Derived.JoinedOf
import Derived.ChangeMaps5
import Derived.Test.YtjkdhdficaacaaaGreatDoorSeT
/- Bytes that came in, opened; what the rows' condition on the laid tables, sentinels and sha's two variables gives; a start that meets it. -/
namespace Go.Proofs.YtjkdhdficaacaaaGreatDoor
open Go.ChangeShapes Go.WideShapes Go.ChangeAt Go.RowKit Go.Edi Go.Wrap Go.ChangeMaps
open Go.Sha (BEG KON wv)
open Go.Proofs.YtjkdhdficaacaaaGreatDoor.Hs (Gl Byt)

theorem seGB : Tryz.prog.globalNamed "tarmac/sha.beginning" = some 0 := by kernel_rfl
theorem seGC : Tryz.prog.globalNamed "tarmac/sha.constants" = some 1 := by kernel_rfl
theorem seTB : (Tryz.prog.globals[0]?).map (·.type) = some 201 := by kernel_rfl
theorem seTC : (Tryz.prog.globals[1]?).map (·.type) = some 196 := by kernel_rfl
theorem seC36 : Tryz.prog.cellsOf 28 = 1 := by kernel_rfl
theorem seC42 : Tryz.prog.cellsOf 201 = 8 := by kernel_rfl
theorem seC49 : Tryz.prog.cellsOf 196 = 64 := by kernel_rfl
abbrev laid7 : List (String × DataW Unit) := [("math/bits.deBruijn32tab", Rows.laid_math_bits_deBruijn32tab), ("math/bits.deBruijn64tab", Rows.laid_math_bits_deBruijn64tab), ("internal/strconv.uint64pow10", Rows.laid_internal_strconv_uint64pow10), ("strconv.ErrRange", Rows.laid_strconv_ErrRange), ("strconv.ErrSyntax", Rows.laid_strconv_ErrSyntax), ("tarmac/sha.beginning", Rows.laid_tarmac_sha_beginning), ("tarmac/sha.constants", Rows.laid_tarmac_sha_constants)]
def seNums (l : List Nat) : List Int := l.map fun (n : Nat) => (n : Int)
theorem seNums_wv (l : List Nat) : ((seNums l).map fun z => Value.int .u32 z).toArray = wv l := by unfold seNums wv; simp [Function.comp_def]
theorem seDB : (Rows.laid_tarmac_sha_beginning : DataW Unit) = Lib.tabData .u32 (seNums BEG) := by kernel_rfl
theorem seDC : (Rows.laid_tarmac_sha_constants : DataW Unit) = Lib.tabData .u32 (seNums KON) := by kernel_rfl
theorem se_heap {W : World} {name : String} {g : Nat} {cs : Array Value} (hg : Tryz.prog.globalNamed name = some g) (h : W.var? Tryz.prog name = some cs) : ∃ t f, W.heap[g]? = some (.cells cs t f) := by
  unfold World.var? at h
  rw [hg] at h
  simp only [Option.bind_some] at h
  split at h
  · rename_i cs' t f hh
    cases h
    exact ⟨t, f, hh⟩
  · cases h
theorem ev_of_laid {W : World} (h : laidMetH Tryz.prog laid7 W) : Ev W.heap.size W := by
  rw [MakeChecks.laidMetH_plain _ _ _ (by kernel_rfl)] at h
  have hP : laidMet Tryz.prog (("internal/strconv.uint64pow10", Lib.tabData .u64 Lib.pow10Tab) :: [("strconv.ErrRange", Rows.laid_strconv_ErrRange), ("strconv.ErrSyntax", Rows.laid_strconv_ErrSyntax), ("tarmac/sha.beginning", Rows.laid_tarmac_sha_beginning), ("tarmac/sha.constants", Rows.laid_tarmac_sha_constants)]) W := by rw [← dP]; exact h.tail.tail
  have hR := h.tail.tail.tail
  have hS := hR.tail
  obtain ⟨a1, s1, hv1, _⟩ := laid_sentinel hR gRa tRa Tryz.underlying249 rowEs Tryz.underlying298 Tryz.underlying300 rfl rfl Tryz.underlying9 cEs cStr
  obtain ⟨a2, s2, hv2, _⟩ := laid_sentinel hS gSy tSy Tryz.underlying249 rowEs Tryz.underlying298 Tryz.underlying300 rfl rfl Tryz.underlying9 cEs cStr
  have hB : laidMet Tryz.prog [("tarmac/sha.beginning", Lib.tabData .u32 (seNums BEG)), ("tarmac/sha.constants", Lib.tabData .u32 (seNums KON))] W := by rw [← seDB, ← seDC]; exact hS.tail
  have h1 := Lib.tabIs_of_head seGB seTB Tryz.underlying201 Tryz.underlying28 seC36 seC42 hB
  have h2 := Lib.tabIs_of_head seGC seTC Tryz.underlying196 Tryz.underlying28 seC36 seC49 hB.tail
  unfold Lib.TabIs at h1 h2
  rw [seNums_wv] at h1 h2
  have k1 := se_heap seGB h1
  have k2 := se_heap seGC h2
  exact ⟨⟨Lib.tabBelow_of_tabIs (Lib.tabIs_of_head gP tP Tryz.underlying277 Tryz.underlying22 cellsU64 cellsA20 hP), fun w' hb => ⟨_, _, var_below hv2 hb⟩, fun w' hb => ⟨_, _, var_below hv1 hb⟩⟩, ⟨k1, k2⟩, by obtain ⟨_, _, e⟩ := k1; exact lt_of_heap e, by obtain ⟨_, _, e⟩ := k2; exact lt_of_heap e⟩
theorem door_met7 (os : Os) (args : Array Value) : laidMetH Tryz.prog laid7 ((World.doorLaid Tryz.prog 400 os).forCall (fun _ _ => 0) ⟨#[], args, []⟩).memory :=
  laidMetH_of_parts3 (fuel := 8) (laidMet_of_run' 8 (by kernel_rfl) (by kernel_rfl)) (by kernel_rfl) (by kernel_rfl)
theorem seC8 : Tryz.prog.cellsOf 5 = 1 := by kernel_rfl
set_option maxRecDepth 100000 in
theorem open_bytes {H : Type} {enc : TypeId × Value → H} {W : World} {r : Reach} {b0 base : Nat} {held : Bool} {v : Value} {d : DataW H} {p : List MemPlace}
    (hv : Value.okWide Tryz.prog W r b0 54 v) (h : DataW.Trod enc Tryz.prog W base (fun _ => true) held 54 v d p) :
    ∃ (pc : Option Addr) (l : Tx) (cap : Nat), v = .slice pc l.length cap ∧ cap ≤ maxLen ∧ BysF W (· < W.heap.size) (.slice pc l.length cap) l := by
  obtain ⟨a0, len, cap, rfl⟩ := okWide_slice Tryz.underlying54 hv
  obtain ⟨fuel, hf⟩ := h
  rcases open_ints Tryz.underlying54 Tryz.underlying5 seC8 hf with ⟨hcs, _⟩ | ⟨a, len', cap', zs, hcs, _, hl, hm, hz, _, hcell, hwz⟩
  · simp [Value.cells] at hcs
    obtain ⟨rfl, rfl, rfl⟩ := hcs
    exact ⟨none, [], 0, rfl, by unfold maxLen; omega, RowF.no none 0⟩
  · simp [Value.cells] at hcs
    obtain ⟨rfl, rfl, rfl⟩ := hcs
    simp only [if_true] at hz
    have e8 : ∀ x ∈ zs, ((UInt8.ofNat x.toNat).toNat : Int) = x := fun x hx => by
      have := wf_u8 (hwz x hx)
      rw [UInt8.toNat_ofNat']
      omega
    have hlen : ((zs.take len).map fun x => UInt8.ofNat x.toNat).length = len := by rw [List.length_map, List.length_take]; omega
    refine ⟨some a, (zs.take len).map fun x => UInt8.ofNat x.toNat, cap, by rw [hlen], hm, ?_⟩
    refine ⟨some a, cap, rfl, by rw [hlen]; omega, fun hp => ?_⟩
    have hp' : 0 < len := by rw [hlen] at hp; exact hp
    obtain ⟨blk, o, spot⟩ := a
    have c0 := hcell 0 (by omega)
    have hspot : spot = none := by simpa [Addr.add] using World.cell?_spot c0
    subst hspot
    refine ⟨blk, o, rfl, ?_, fun j u hu => ?_⟩
    · have := block_lt_of_cell c0
      simpa [Addr.add_mid] using this
    · have hj : j < len := by have := (List.getElem?_eq_some_iff.1 hu).1; rw [Lib.byteCells_length, hlen] at this; exact this
      have hc := hcell j (by omega)
      rw [Addr.add_mid] at hc
      rw [hc, ← hu]
      have hjz : j < zs.length := by omega
      simp only [Lib.byteCells, List.map_map, List.getElem?_map, List.getElem?_take, if_pos hj, List.getElem?_eq_getElem hjz, List.getD_eq_getElem?_getD, Option.map_some, Option.getD_some, Function.comp]
      rw [e8 _ (List.getElem_mem hjz)]
end Go.Proofs.YtjkdhdficaacaaaGreatDoor
namespace Go.Proofs.YtjkdhdficaacaaaGreatDoor
open Go.RowKit Go.Edi Go.Wrap Go.Lib
open Go.Sha (bv zl)

set_option maxRecDepth 100000 in
set_option maxHeartbeats 3200000 in
theorem senil_walk (p : Pk) (t : Nat) (v : Value) (B : Nat) (w : World) (he : Ev B w) (hB : B ≤ w.heap.size) :
    Calls Tryz.prog 11 #[.agg (pkV p), .int .u8 (t : Int), v] w fun e w' => e = .returned (.bool true) ∧ Below w.heap.size w w' := by
  have hb0 : Below w.heap.size w (w.alloc (.cells (pkV p) 38)) := (Below.refl _ _).alloc (Nat.le_refl _) _
  have HB0 := Lib.hid hb0
  have HP0 := Lib.hid (show (w.alloc (.cells (pkV p) 38)).heap[w.heap.size]? = some (.cells (pkV p) 38 (0, 0)) from at_last _ _)
  have HWK := Lib.hid (show ∀ wz, Below w.heap.size w wz → Calls Tryz.prog 29 #[] wz fun e w' => e = .returned (.bool true) ∧ Below wz.heap.size wz w' from fun wz hz => sewakes_any B wz (he.on (hz.mono hB)) (Nat.le_trans hB hz.size))
  have heq : ∀ W, (binOp .eql 38 (.agg pk0) (.agg pk0)).run Tryz.prog W = .ok (.bool true) W := fun W => by
    have h := eql_pk .zero .zero W
    rw [decide_eq_true rfl] at h
    exact h
  clear hb0 he hB
  go_enter Tryz.func11, Tryz.ntmps11
  go_wp2_with (first
    | (refine wpList_load_row rfl 38 _ rfl w.heap.size rfl 38 (pkV p) (0, 0) _ HP0.out Tryz.underlying38 rfl sizePk ?_))
  go_at_call 34
  refine (seal_nil (pkV p) _).mono ?_
  rintro e w1 ⟨rfl, hb1⟩
  have HB1 := Lib.hid (HB0.out.trans (hb1.mono HB0.out.size))
  clear hb1
  go_wp2_with fail
  go_at_call 38
  refine (open_nil t v w1).mono ?_
  rintro e w2 ⟨rfl, hb2⟩
  have HB2 := Lib.hid (HB1.out.trans (hb2.mono HB1.out.size))
  have hd2 : (w2.alloc (.cells pk0 38)).heap[w2.heap.size]? = some (.cells pk0 38 (0, 0)) := at_last _ _
  have HD2 := Lib.hid hd2
  obtain ⟨w3, hw3⟩ : ∃ w3, w3 = (w2.alloc (.cells pk0 38)).setRow w2.heap.size pk0 := ⟨_, rfl⟩
  have hb3 : Below w2.heap.size w2 w3 := by rw [hw3]; exact below_setR ((Below.refl _ _).alloc (Nat.le_refl _) _) (Nat.le_refl _) _
  have HW3 := Lib.hid hw3
  have HP3 := Lib.hid (show w3.heap[w2.heap.size]? = some (.cells pk0 38 (0, 0)) by rw [hw3]; exact setRow_heap _ _ _ _ _ _ hd2)
  have HB3 := Lib.hid (HB2.out.trans (hb3.mono HB2.out.size))
  clear hd2 hw3 hb3 hb2
  go_wp2_with (first
    | (refine wpList_store_row rfl 38 _ _ rfl w2.heap.size pk0 rfl rfl 38 pk0 HD2.out sizePk rfl pk0_one ?_; rw [← HW3.out])
    | (go_at_call 33; refine (carriers_nil w3).mono ?_; rintro e w' ⟨rfl, hq⟩; subst hq)
    | (refine wpList_load_rowG (by rfl) 38 _ rfl w2.heap.size rfl 38 pk0 (0, 0) _ HP3.out Tryz.underlying38 rfl sizePk ?_)
    | (go_at_call 29; refine (HWK.out _ HB3.out).mono ?_; rintro e w4 ⟨rfl, hb4⟩; have HB4 := Lib.hid (HB3.out.trans (hb4.mono HB3.out.size)); clear hb4))
  go_ret
  exact ⟨rfl, HB4.out⟩
end Go.Proofs.YtjkdhdficaacaaaGreatDoor
