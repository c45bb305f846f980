/- Bytes that came in; what the rows' condition gives. -/
import Derived.Test.YtgaoeljdlpemnaaGreatDoorMgOpen
import Derived.Test.YtgaoeljdlpemnaaGreatDoorSeF
import Derived.JoinedOf
import Derived.ChangeMaps5
namespace Go.Proofs.YtgaoeljdlpemnaaGreatDoor
open Go.ChangeShapes Go.WideShapes Go.ChangeAt Go.RowKit Go.Edi Go.Wrap Go.ChangeMaps
open Go.Sha (BEG KON wv)
open Go.Proofs.YtgaoeljdlpemnaaGreatDoor.Hs (Gl Byt)

theorem seGB : Tryz.prog.globalNamed "tarmac/sha.beginning" = some 0 := by kernel_rfl
theorem seGC : Tryz.prog.globalNamed "tarmac/sha.constants" = some 1 := by kernel_rfl
theorem seTB : (Tryz.prog.globals[0]?).map (·.type) = some 121 := by kernel_rfl
theorem seTC : (Tryz.prog.globals[1]?).map (·.type) = some 163 := by kernel_rfl
theorem seC36 : Tryz.prog.cellsOf 28 = 1 := by kernel_rfl
theorem seC42 : Tryz.prog.cellsOf 121 = 8 := by kernel_rfl
theorem seC49 : Tryz.prog.cellsOf 163 = 64 := by kernel_rfl
abbrev laid7 : List (String × DataW Unit) := [("math/bits.deBruijn32tab", Rows.laid_math_bits_deBruijn32tab), ("math/bits.deBruijn64tab", Rows.laid_math_bits_deBruijn64tab), ("internal/strconv.uint64pow10", Rows.laid_internal_strconv_uint64pow10), ("strconv.ErrRange", Rows.laid_strconv_ErrRange), ("strconv.ErrSyntax", Rows.laid_strconv_ErrSyntax), ("tarmac/sha.beginning", Rows.laid_tarmac_sha_beginning), ("tarmac/sha.constants", Rows.laid_tarmac_sha_constants)]
def seNums (l : List Nat) : List Int := l.map fun (n : Nat) => (n : Int)
theorem seNums_wv (l : List Nat) : ((seNums l).map fun z => Value.int .u32 z).toArray = wv l := by unfold seNums wv; simp [Function.comp_def]
theorem seDB : (Rows.laid_tarmac_sha_beginning : DataW Unit) = Lib.tabData .u32 (seNums BEG) := by kernel_rfl
theorem seDC : (Rows.laid_tarmac_sha_constants : DataW Unit) = Lib.tabData .u32 (seNums KON) := by kernel_rfl
theorem se_heap {W : World} {name : String} {g : Nat} {cs : Array Value} (hg : Tryz.prog.globalNamed name = some g) (h : W.var? Tryz.prog name = some cs) : ∃ t f, W.heap[g]? = some (.cells cs t f) := by
  unfold World.var? at h
  rw [hg] at h
  simp only [Option.bind_some] at h
  split at h <;> cases h
  rename_i t f hh
  exact ⟨t, f, hh⟩
theorem ev_of_laid {W : World} (h : laidMetH Tryz.prog laid7 W) : Ev W.heap.size W := by
  rw [MakeChecks.laidMetH_plain _ _ _ (by kernel_rfl)] at h
  have hP : laidMet Tryz.prog (("internal/strconv.uint64pow10", Lib.tabData .u64 Lib.pow10Tab) :: [("strconv.ErrRange", Rows.laid_strconv_ErrRange), ("strconv.ErrSyntax", Rows.laid_strconv_ErrSyntax), ("tarmac/sha.beginning", Rows.laid_tarmac_sha_beginning), ("tarmac/sha.constants", Rows.laid_tarmac_sha_constants)]) W := by rw [← dP]; exact h.tail.tail
  have hR := h.tail.tail.tail
  have hS := hR.tail
  obtain ⟨a1, s1, hv1, _⟩ := laid_sentinel hR gRa tRa Tryz.underlying187 rowEs Tryz.underlying258 Tryz.underlying260 rfl rfl Tryz.underlying9 cEs cStr
  obtain ⟨a2, s2, hv2, _⟩ := laid_sentinel hS gSy tSy Tryz.underlying187 rowEs Tryz.underlying258 Tryz.underlying260 rfl rfl Tryz.underlying9 cEs cStr
  have hB : laidMet Tryz.prog [("tarmac/sha.beginning", Lib.tabData .u32 (seNums BEG)), ("tarmac/sha.constants", Lib.tabData .u32 (seNums KON))] W := by rw [← seDB, ← seDC]; exact hS.tail
  have h1 := Lib.tabIs_of_head seGB seTB Tryz.underlying121 Tryz.underlying28 seC36 seC42 hB
  have h2 := Lib.tabIs_of_head seGC seTC Tryz.underlying163 Tryz.underlying28 seC36 seC49 hB.tail
  unfold Lib.TabIs at h1 h2
  rw [seNums_wv] at h1 h2
  have k1 := se_heap seGB h1
  have k2 := se_heap seGC h2
  exact ⟨⟨Lib.tabBelow_of_tabIs (Lib.tabIs_of_head gP tP Tryz.underlying235 Tryz.underlying22 cellsU64 cellsA20 hP), fun w' hb => ⟨_, _, var_below hv2 hb⟩, fun w' hb => ⟨_, _, var_below hv1 hb⟩⟩, ⟨k1, k2⟩, by obtain ⟨_, _, e⟩ := k1; exact lt_of_heap e, by obtain ⟨_, _, e⟩ := k2; exact lt_of_heap e⟩
theorem door_met7 (os : Os) (args : Array Value) : laidMetH Tryz.prog laid7 ((World.doorLaid Tryz.prog 400 os).forCall (fun _ _ => 0) ⟨#[], args, []⟩).memory :=
  laidMetH_of_parts3 (fuel := 8) (laidMet_of_run' 8 (by kernel_rfl) (by kernel_rfl)) (by kernel_rfl) (by kernel_rfl)
set_option maxRecDepth 100000 in
theorem open_bytes {H : Type} {enc : TypeId × Value → H} {W : World} {r : Reach} {b0 base : Nat} {held : Bool} {v : Value} {d : DataW H} {p : List MemPlace}
    (hv : Value.okWide Tryz.prog W r b0 39 v) (h : DataW.Trod enc Tryz.prog W base (fun _ => true) held 39 v d p) :
    ∃ (pc : Option Addr) (l : Tx) (cap : Nat), v = .slice pc l.length cap ∧ cap ≤ maxLen ∧ BysF W (· < W.heap.size) (.slice pc l.length cap) l := by
  obtain ⟨a0, len, cap, rfl⟩ := okWide_slice Tryz.underlying39 hv
  obtain ⟨fuel, hf⟩ := h
  rcases open_ints Tryz.underlying39 Tryz.underlying5 cellsU8 hf with ⟨hcs, _⟩ | ⟨a, len', cap', zs, hcs, _, hl, hm, hz, _, hcell, hwz⟩
  · simp [Value.cells] at hcs
    obtain ⟨rfl, rfl, rfl⟩ := hcs
    exact ⟨none, [], 0, rfl, by unfold maxLen; omega, RowF.no none 0⟩
  · simp [Value.cells] at hcs
    obtain ⟨rfl, rfl, rfl⟩ := hcs
    simp only [if_true] at hz
    have e8 : ∀ x ∈ zs, ((UInt8.ofNat x.toNat).toNat : Int) = x := fun x hx => by
      have := wf_u8 (hwz x hx)
      rw [UInt8.toNat_ofNat']
      omega
    have hlen : ((zs.take len).map fun x => UInt8.ofNat x.toNat).length = len := by rw [List.length_map, List.length_take]; omega
    refine ⟨some a, (zs.take len).map fun x => UInt8.ofNat x.toNat, cap, by rw [hlen], hm, ?_⟩
    refine ⟨some a, cap, rfl, by rw [hlen]; omega, fun hp => ?_⟩
    have hp' : 0 < len := by rw [hlen] at hp; exact hp
    obtain ⟨blk, o, spot⟩ := a
    have c0 := hcell 0 (by omega)
    have hspot : spot = none := by simpa [Addr.add] using World.cell?_spot c0
    subst hspot
    refine ⟨blk, o, rfl, ?_, fun j u hu => ?_⟩
    · have := block_lt_of_cell c0
      simpa [Addr.add_mid] using this
    · have hj : j < len := by have := (List.getElem?_eq_some_iff.1 hu).1; rw [Lib.byteCells_length, hlen] at this; exact this
      have hc := hcell j (by omega)
      rw [Addr.add_mid] at hc
      rw [hc, ← hu]
      have hjz : j < zs.length := by omega
      simp only [Lib.byteCells, List.map_map, List.getElem?_map, List.getElem?_take, if_pos hj, List.getElem?_eq_getElem hjz, List.getD_eq_getElem?_getD, Option.map_some, Option.getD_some, Function.comp]
      rw [e8 _ (List.getElem_mem hjz)]
end Go.Proofs.YtgaoeljdlpemnaaGreatDoor
