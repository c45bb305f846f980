/- strings.Builder's methods at this program, and what edi makes with one: a component marked, parts joined. -/
import Derived.Test.YtjlifjgljejabaaGreatDoorEdiM
import Derived.Lib.Builder
import Derived.Lib.AppendStr
import Derived.Laws.IdiomStrings
namespace Go.Proofs.YtjlifjgljejabaaGreatDoor
open Go.RowKit Go.Edi

theorem sizeBld : (Tryz.prog.info? 181).map (·.size) = some 2 := by kernel_rfl
theorem liesBld : liesAt Tryz.prog Tryz.prog.depth 181 (2 / Tryz.prog.cellsOf 181) 0 181 1 = true := by kernel_rfl
abbrev Bu (B b : Nat) (l : Tx) (w : World) : Prop := Lib.IsBuilder 181 5 B b (Lib.byteCells l) w
abbrev BuU (B b : Nat) (l : Tx) (w : World) : Prop := Lib.BuilderAt 181 5 B b (.pointer (some ⟨b, 0, none⟩)) (Lib.byteCells l) w
set_option maxRecDepth 100000 in
set_option maxHeartbeats 800000 in
theorem check_any (B b : Nat) (l : Tx) (w : World) (h : Bu B b l w) :
    Calls Tryz.prog 134 #[.pointer (some ⟨b, 0, none⟩)] w fun e w' => e = .returned (.tuple #[]) ∧ BuU B b l w' ∧ Below B w w' := by
  obtain ⟨j, hj, hjs⟩ := Option.map_eq_some_iff.1 sizeBld
  have HJ := Lib.hid hj
  rcases h with h | h
  · have c0 := h.cell0
    have f0 := h.frozen0
    have HS := Lib.hid h.shape
    have H := Lib.hid h
    clear h hj
    go_enter Tryz.func134, Tryz.ntmps134
    go_wp2
    rw [Lib.run_to_unsafe w ⟨b, 0, none⟩ Tryz.underlying179 Tryz.underlying217 HJ.out (by rw [hjs]; decide) HS.out (Nat.zero_lt_succ 1)]
    simp only [Result.andThen]
    rw [Oper.upon_value]
    go_wp2
    rw [run_callFunc_extern Tryz.func153 (by kernel_rfl) (by kernel_rfl) (by kernel_rfl) (e := Extern.AbiNoEscape.same) (by kernel_rfl), Lib.run_noEscape]
    simp only [Result.andThen]
    rw [Oper.upon_value]
    go_wp2
    rw [Lib.run_from_unsafe w ⟨b, 0, none⟩ Tryz.underlying217 Tryz.underlying179 HJ.out HS.out liesBld]
    simp only [Result.andThen]
    rw [Oper.upon_value]
    go_wp2
    have hq := fun w' : World => Lib.run_neq_ptr_same (P := Tryz.prog) w' ⟨b, 0, none⟩ Tryz.underlying179 HJ.out
    go_wp2
    go_end0
    exact ⟨rfl, H.out.used _, (Below.refl B w).setCell (p := ⟨b, 0, none⟩) H.out.1 _⟩
  · have c0 := h.cell0
    have H := Lib.hid h
    have hq := fun w' : World => Lib.run_neq_ptr_same (P := Tryz.prog) w' ⟨b, 0, none⟩ Tryz.underlying179 hj
    clear h hj
    go_enter Tryz.func134, Tryz.ntmps134
    go_wp2
    go_end0
    exact ⟨rfl, H.out, Below.refl _ _⟩
set_option maxRecDepth 100000 in
set_option maxHeartbeats 800000 in
theorem writeByte_any (B b : Nat) (l : Tx) (c : UInt8) (w : World) (h : Bu B b l w) (hlen : l.length ≤ 1000000) (hBw : B ≤ w.heap.size) :
    Calls Tryz.prog 152 #[.pointer (some ⟨b, 0, none⟩), by8 c] w fun e w' => e = .returned .nilIface ∧ Bu B b (l ++ [c]) w' ∧ Below B w w' := by
  have HC := Lib.hid (check_any B b l w h)
  have HL := Lib.hid hlen
  have HBw := Lib.hid hBw
  clear h hlen hBw
  go_enter Tryz.func152, Tryz.ntmps152
  go_wp2_with (go_at_call 134; refine (HC.out).mono ?_)
  first | rintro e w1 rfl h1 hb1 | rintro e w1 ⟨rfl, h1, hb1⟩
  obtain ⟨hB, v, hbk, hown, hne⟩ := h1
  obtain ⟨p, cap, rfl⟩ := own_slice hown
  rw [Lib.byteCells_length] at hown hbk hne
  have c1 : w1.cell? ⟨b, 1, none⟩ = some (.slice p l.length cap) := by rw [Lib.cell_of_heap hbk]; rfl
  have HK := Lib.hid hbk
  have HO := Lib.hid hown
  have HN := Lib.hid hne
  have HB1 := Lib.hid hb1
  clear hbk hown hne hb1
  go_wp2_with (at_builtin; refine wl_app1 54 5 (.int .u8 0) 1 1 par_u8 Tryz.underlying54 rfl (by decide) (by decide) B (.slice p l.length cap) l.length (Lib.byteCells l) rfl (HO.out.alloc _) w1.heap.size 1 [by8 c] 5 (0, 0) rfl rfl (by show (w1.heap.push _)[w1.heap.size]? = _; simp) (by intro u hu; simp at hu; subst hu; rfl) (by have := HL.out; omega) (by have := HBw.out; have := HB1.out.size; simp; omega) ?_)
  intro v' w2 ho hgr _
  obtain ⟨p', cap', rfl⟩ := own_slice ho
  have hlt := lt_of_heap HK.out
  have hb2 : w2.heap[b]? = some (.cells #[.pointer (some ⟨b, 0, none⟩), .slice p l.length cap] 181 (0, 0)) := by
    rw [hgr.block b (by simp; omega) (fun e => HN.out e.symm), Below.heap_alloc _ _ _ hlt]; exact HK.out
  have d1 : w2.cell? ⟨b, 1, none⟩ = some (.slice p l.length cap) := by rw [Lib.cell_of_heap hb2]; rfl
  have f1 : w2.frozen? ⟨b, 1, none⟩ = false := Lib.frozen_of_heap hb2 1
  have H2 := Lib.hid hb2
  have HOO := Lib.hid ho
  have HG := Lib.hid hgr
  clear hb2 ho hgr hlt
  go_wp2
  go_ret
  refine ⟨rfl, Or.inr (Lib.BuilderAt.put (bs' := Lib.byteCells (l ++ [c])) hB H2.out ?_ (by decide)), ?_⟩
  · rw [Lib.byteCells_length, show Lib.byteCells (l ++ [c]) = Lib.byteCells l ++ [by8 c] by simp [Lib.byteCells], List.length_append]; exact HOO.out
  · exact ((HB1.out.alloc (by have := HB1.out.size; have := HBw.out; omega) _).grown HG.out (by have := HB1.out.size; have := HBw.out; simp; omega) (fun k hk => (HO.out.lt k hk).1)).setCell (p := ⟨b, 1, none⟩) hB _
set_option maxRecDepth 100000 in
set_option maxHeartbeats 800000 in
theorem writeString_any (B b : Nat) (l s : Tx) (w : World) (h : Bu B b l w) (hlen : l.length + s.length ≤ 1000000000) (hBw : B ≤ w.heap.size) :
    Calls Tryz.prog 117 #[.pointer (some ⟨b, 0, none⟩), str s] w fun e w' => e = .returned (.tuple #[.int .i64 (s.length : Nat), .nilIface]) ∧ Bu B b (l ++ s) w' ∧ Below B w w' := by
  have hsz : (tx s).size = s.length := by simp [tx, ByteArray.size]
  have HC := Lib.hid (check_any B b l w h)
  have HL := Lib.hid hlen
  have HBw := Lib.hid hBw
  obtain ⟨i0, hi, hz0, hz1, hz2⟩ := info_parts par_u8
  have HI := Lib.hid hi
  have HZ0 := Lib.hid hz0
  have HZ1 := Lib.hid hz1
  have HZ2 := Lib.hid hz2
  have HSZ := Lib.hid hsz
  clear h hlen hBw hi hz0 hz1 hz2
  go_enter Tryz.func117, Tryz.ntmps117
  go_wp2_with (go_at_call 134; refine (HC.out).mono ?_)
  first | rintro e w1 rfl h1 hb1 | rintro e w1 ⟨rfl, h1, hb1⟩
  obtain ⟨hB, v, hbk, hown, hne⟩ := h1
  obtain ⟨p, cap, rfl⟩ := own_slice hown
  rw [Lib.byteCells_length] at hown hbk hne
  have c1 : w1.cell? ⟨b, 1, none⟩ = some (.slice p l.length cap) := by rw [Lib.cell_of_heap hbk]; rfl
  have HK := Lib.hid hbk
  have HO := Lib.hid hown
  have HN := Lib.hid hne
  have HB1 := Lib.hid hb1
  clear hbk hown hne hb1
  go_wp2_with (at_builtin; refine Lib.wpList_append_own_string _ rfl _ _ 54 9 rfl B 5 i0 Tryz.underlying54 Tryz.underlying9 HI.out HZ0.out HZ1.out HZ2.out _ _ _ rfl HO.out (tx s) rfl (by have := HL.out; have := HSZ.out; unfold maxLen; omega) (by have := HL.out; have := HSZ.out; omega) (by have := HBw.out; have := HB1.out.size; omega) ?_)
  intro v' w2 ho hgr _
  obtain ⟨p', cap', rfl⟩ := own_slice ho
  have hlt := lt_of_heap HK.out
  have hb2 : w2.heap[b]? = some (.cells #[.pointer (some ⟨b, 0, none⟩), .slice p l.length cap] 181 (0, 0)) := by
    rw [hgr.block b hlt (fun e => HN.out e.symm)]; exact HK.out
  have d1 : w2.cell? ⟨b, 1, none⟩ = some (.slice p l.length cap) := by rw [Lib.cell_of_heap hb2]; rfl
  have f1 : w2.frozen? ⟨b, 1, none⟩ = false := Lib.frozen_of_heap hb2 1
  have H2 := Lib.hid hb2
  have HOO := Lib.hid ho
  have HG := Lib.hid hgr
  clear hb2 ho hgr hlt
  go_wp2
  go_ret2
  refine ⟨rfl, Or.inr (Lib.BuilderAt.put (bs' := Lib.byteCells (l ++ s)) hB H2.out ?_ (by decide)), ?_⟩
  · have e : Lib.byteCells (l ++ s) = Lib.byteCells l ++ Lib.strCells (tx s) := by simp [Lib.byteCells, Lib.strCells, tx]
    rw [e, List.length_append, Lib.byteCells_length, Lib.strCells_length]; exact HOO.out
  · exact (HB1.out.grown HG.out (by have := HB1.out.size; have := HBw.out; omega) (fun k hk => (HO.out.lt k hk).1)).setCell (p := ⟨b, 1, none⟩) hB _
theorem string_any (B b : Nat) (l : Tx) (w : World) (h : Bu B b l w) (hBw : B ≤ w.heap.size) :
    Calls Tryz.prog 118 #[.pointer (some ⟨b, 0, none⟩)] w fun e w' => e = .returned (str l) ∧ Below B w w' := Tryz.Builder_String_any B b l w h hBw
theorem bu_new (w : World) : Bu w.heap.size w.heap.size [] (w.alloc (.cells #[.pointer none, .slice none 0 0] 181)) :=
  Or.inl ⟨Nat.le_refl _, .slice none 0 0, by show (w.heap.push _)[w.heap.size]? = _; simp, World.ownsRow_nil _ _ _ _, by simp [Value.ownBlock]⟩
end Go.Proofs.YtjlifjgljejabaaGreatDoor
