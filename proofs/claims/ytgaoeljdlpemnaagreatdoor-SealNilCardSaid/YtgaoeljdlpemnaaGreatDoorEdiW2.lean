/- Contracts of edi.marked and edi.joined. -/
import Derived.Test.YtgaoeljdlpemnaaGreatDoorEdiPure2
import Derived.Test.YtgaoeljdlpemnaaGreatDoorEdiM
import Derived.Lib.ItoaMem
import Derived.Lib.AppendIntMem
import Derived.Lib.Walk
import Derived.BigCall
import Derived.BigGuard
import Derived.Lib.Builder
import Derived.Lib.AppendStr
import Derived.Laws.IdiomStrings
/- strconv.FormatUint at base 10: the number's decimal digits. -/
namespace Go.Proofs.YtgaoeljdlpemnaaGreatDoor
open Go.RowKit Go.Edi Go.Sort Go.Lib

abbrev Tab (B : Nat) (w : World) : Prop := Lib.TabBelow Tryz.prog B w "internal/strconv.uint64pow10" .u64 Lib.pow10Tab
theorem below_fin (w : World) (o : Obj) (dk : Array UInt8) (k : Nat) : Below w.heap.size w ((putRow (fun (b : UInt8) => Value.int .u8 (b.toNat : Int)) (w.alloc o) w.heap.size 0 dk).drewN k) := by
  rw [alloc_eq_grow]
  obtain ⟨os', _, e⟩ := putRow_grow_new (fun (b : UInt8) => Value.int .u8 (b.toNat : Int)) w #[o] w.heap.size 0 dk (Nat.le_refl _)
  rw [e]
  refine ⟨rfl, rfl, rfl, ?_, fun i hi => ?_⟩
  · show w.heap.size ≤ (w.heap ++ os').size
    simp
  · show (w.heap ++ os')[i]? = w.heap[i]?
    simp [Array.getElem?_append, hi]
set_option maxRecDepth 100000 in
set_option maxHeartbeats 3200000 in
theorem iformat_any (u : Nat) (hu64 : u < 18446744073709551616) (B : Nat) (w : World) (htab : Tab B w) (hB : B ≤ w.heap.size) :
    Calls Tryz.prog 103 #[.int .u64 (u : Int), .int .i64 10] w fun e w' => e = .returned (str (Lib.decDigits u)) ∧ Below w.heap.size w w' := by
  by_cases hs : (u : Int) < 100
  · have hi : u < 100 := by omega
    have h0 : (0 : Int) ≤ (u : Int) := Int.natCast_nonneg _
    have hsm := Tryz.internal_strconv_small u hi
    go_enter Tryz.func103, Tryz.ntmps103
    go_wp2_with (go_at_call 127; refine (hsm _).mono ?_; rintro e w' ⟨rfl, rfl⟩)
    go_ret
    exact ⟨rfl, Below.refl _ _⟩
  · have hu1 : 1 ≤ u := by omega
    have hnd20 : Lib.nDigits u ≤ 20 := by have := Lib.numDigits_eq u hu1 hu64; split at this <;> omega
    have hb3 : Lib.nDigits u ≤ 24 := by omega
    have hal : Tryz.prog.arrayLen 219 = 24 := by simp [Program.arrayLen, Tryz.underlying219]
    have hsl1 : ∀ W, (Instr.sliceAt 219 (.pointer (some ⟨w.heap.size, 0, none⟩)) none (some (.int .i64 (Lib.nDigits u : Int))) none).run Tryz.prog W = .ok (.slice (some ⟨w.heap.size, 0, none⟩) (Lib.nDigits u) 24) W := fun W => by
      rw [run_sliceAt_array_h W 219 ⟨w.heap.size, 0, none⟩ (by simp [Program.arrayLen, Program.elem, Tryz.underlying219]) .i64 (Lib.nDigits u : Int) (by omega) (by rw [hal]; omega)]
      go_simp
    have hH0 := Lib.holds_zero0 w 219 (Lib.nDigits u) (by omega)
    have hfmt := Tryz.internal_strconv_formatBase10 w.heap.size 0 24 u (Array.replicate (Lib.nDigits u) 0) (w.alloc (.cells Lib.zeros24 219)) hH0 (by rw [Array.size_replicate]; exact Lib.lt_pow_nDigits u) hu64 (by rw [Array.size_replicate]; omega)
    rw [Array.size_replicate] at hfmt
    have hdig := Tryz.internal_strconv_numDigits u hu1 hu64 (w.alloc (.cells Lib.zeros24 219)) (htab _ ((Below.refl _ _).alloc hB _))
    have HH0 := Lib.hid hH0
    have HF := Lib.hid hfmt
    have HD := Lib.hid hdig
    have HT := Lib.hid htab
    clear hH0 hal htab hfmt hdig
    go_enter Tryz.func103, Tryz.ntmps103
    go_wp2_with (go_at_call 128; refine (HD.out).mono ?_; rintro e w' ⟨rfl, rfl⟩)
    go_at_call 129
    refine (HF.out).mono ?_
    rintro e w' ⟨rfl, k, v', dk, rfl, hF⟩
    have hcv : (convert 39 9 (.slice (some ⟨w.heap.size, 0, none⟩) (Lib.nDigits u) 24)).run Tryz.prog ((putRow (fun (b : UInt8) => Value.int .u8 (b.toNat : Int)) (w.alloc (.cells Lib.zeros24 219)) w.heap.size 0 dk).drewN k) = .ok (.string ⟨(Lib.decDigits u).toArray⟩) ((putRow (fun (b : UInt8) => Value.int .u8 (b.toNat : Int)) (w.alloc (.cells Lib.zeros24 219)) w.heap.size 0 dk).drewN k) := by
      have h := run_convert_bytes_back (P := Tryz.prog) ((putRow (fun (b : UInt8) => Value.int .u8 (b.toNat : Int)) (w.alloc (.cells Lib.zeros24 219)) w.heap.size 0 dk).drewN k) 39 9 5 ⟨w.heap.size, 0, none⟩ 24 (Lib.decDigits u) Tryz.underlying39 Tryz.underlying5 Tryz.underlying9 (fun j hj => by
        rw [Lib.row_is_numeral hF j hj, Lib.add_plain, World.cell?_drewN]
        exact cell?_putRow (fun (b : UInt8) => Value.int .u8 (b.toNat : Int)) _ w.heap.size 0 _ dk HH0.out (by rw [hF.size, Array.size_replicate]) j (by rw [hF.size]; rw [Lib.decDigits_length] at hj; exact hj))
      rw [Lib.decDigits_length] at h
      exact h
    have hbb := Lib.hid (below_fin w (.cells Lib.zeros24 219) dk k)
    go_wp2
    go_ret
    exact ⟨rfl, hbb.out⟩
set_option maxRecDepth 100000 in
theorem format_any (u : Nat) (hu64 : u < 18446744073709551616) (B : Nat) (w : World) (htab : Tab B w) (hB : B ≤ w.heap.size) :
    Calls Tryz.prog 77 #[.int .u64 (u : Int), .int .i64 10] w fun e w' => e = .returned (str (Lib.decDigits u)) ∧ Below w.heap.size w w' := by
  have HQ := Lib.hid (iformat_any u hu64 B w htab hB)
  clear htab hB
  go_enter Tryz.func77, Tryz.ntmps77
  go_wp2_with (go_at_call 103; refine (HQ.out).mono ?_; rintro e w' ⟨rfl, hb⟩; have HB := Lib.hid hb; clear hb)
  go_ret
  exact ⟨rfl, HB.out⟩
end Go.Proofs.YtgaoeljdlpemnaaGreatDoor
/- strings.Builder's methods at this program, and what edi makes with one: a component marked, parts joined. -/
namespace Go.Proofs.YtgaoeljdlpemnaaGreatDoor
open Go.RowKit Go.Edi

theorem sizeBld : (Tryz.prog.info? 185).map (·.size) = some 2 := by kernel_rfl
theorem liesBld : liesAt Tryz.prog Tryz.prog.depth 185 (2 / Tryz.prog.cellsOf 185) 0 185 1 = true := by kernel_rfl
abbrev Bu (B b : Nat) (l : Tx) (w : World) : Prop := Lib.IsBuilder 185 5 B b (Lib.byteCells l) w
abbrev BuU (B b : Nat) (l : Tx) (w : World) : Prop := Lib.BuilderAt 185 5 B b (.pointer (some ⟨b, 0, none⟩)) (Lib.byteCells l) w
set_option maxRecDepth 100000 in
set_option maxHeartbeats 800000 in
theorem check_any (B b : Nat) (l : Tx) (w : World) (h : Bu B b l w) :
    Calls Tryz.prog 126 #[.pointer (some ⟨b, 0, none⟩)] w fun e w' => e = .returned (.tuple #[]) ∧ BuU B b l w' ∧ Below B w w' := by
  obtain ⟨j, hj, hjs⟩ := Option.map_eq_some_iff.1 sizeBld
  have HJ := Lib.hid hj
  rcases h with h | h
  · have c0 := h.cell0
    have f0 := h.frozen0
    have HS := Lib.hid h.shape
    have H := Lib.hid h
    clear h hj
    go_enter Tryz.func126, Tryz.ntmps126
    go_wp2
    rw [Lib.run_to_unsafe w ⟨b, 0, none⟩ Tryz.underlying183 Tryz.underlying231 HJ.out (by rw [hjs]; decide) HS.out (Nat.zero_lt_succ 1)]
    simp only [Result.andThen]
    rw [Oper.upon_value]
    go_wp2
    rw [run_callFunc_extern Tryz.func144 (by kernel_rfl) (by kernel_rfl) (by kernel_rfl) (e := Extern.AbiNoEscape.same) (by kernel_rfl), Lib.run_noEscape]
    simp only [Result.andThen]
    rw [Oper.upon_value]
    go_wp2
    rw [Lib.run_from_unsafe w ⟨b, 0, none⟩ Tryz.underlying231 Tryz.underlying183 HJ.out HS.out liesBld]
    simp only [Result.andThen]
    rw [Oper.upon_value]
    go_wp2
    have hq := fun w' : World => Lib.run_neq_ptr_same (P := Tryz.prog) w' ⟨b, 0, none⟩ Tryz.underlying183 HJ.out
    go_wp2
    go_end0
    exact ⟨rfl, H.out.used _, (Below.refl B w).setCell (p := ⟨b, 0, none⟩) H.out.1 _⟩
  · have c0 := h.cell0
    have H := Lib.hid h
    have hq := fun w' : World => Lib.run_neq_ptr_same (P := Tryz.prog) w' ⟨b, 0, none⟩ Tryz.underlying183 hj
    clear h hj
    go_enter Tryz.func126, Tryz.ntmps126
    go_wp2
    go_end0
    exact ⟨rfl, H.out, Below.refl _ _⟩
set_option maxRecDepth 100000 in
set_option maxHeartbeats 800000 in
theorem writeByte_any (B b : Nat) (l : Tx) (c : UInt8) (w : World) (h : Bu B b l w) (hlen : l.length ≤ 1000000) (hBw : B ≤ w.heap.size) :
    Calls Tryz.prog 143 #[.pointer (some ⟨b, 0, none⟩), by8 c] w fun e w' => e = .returned .nilIface ∧ Bu B b (l ++ [c]) w' ∧ Below B w w' := by
  have HC := Lib.hid (check_any B b l w h)
  have HL := Lib.hid hlen
  have HBw := Lib.hid hBw
  clear h hlen hBw
  go_enter Tryz.func143, Tryz.ntmps143
  go_wp2_with (go_at_call 126; refine (HC.out).mono ?_)
  first | rintro e w1 rfl h1 hb1 | rintro e w1 ⟨rfl, h1, hb1⟩
  obtain ⟨hB, v, hbk, hown, hne⟩ := h1
  obtain ⟨p, cap, rfl⟩ := own_slice hown
  rw [Lib.byteCells_length] at hown hbk hne
  have c1 : w1.cell? ⟨b, 1, none⟩ = some (.slice p l.length cap) := by rw [Lib.cell_of_heap hbk]; rfl
  have HK := Lib.hid hbk
  have HO := Lib.hid hown
  have HN := Lib.hid hne
  have HB1 := Lib.hid hb1
  clear hbk hown hne hb1
  go_wp2_with (at_builtin; refine wl_app1 39 5 (.int .u8 0) 1 1 par_u8 Tryz.underlying39 rfl (by decide) (by decide) B (.slice p l.length cap) l.length (Lib.byteCells l) rfl (HO.out.alloc _) w1.heap.size 1 [by8 c] 5 (0, 0) rfl rfl (by show (w1.heap.push _)[w1.heap.size]? = _; simp) (by intro u hu; simp at hu; subst hu; rfl) (by have := HL.out; omega) (by have := HBw.out; have := HB1.out.size; simp; omega) ?_)
  intro v' w2 ho hgr _
  obtain ⟨p', cap', rfl⟩ := own_slice ho
  have hlt := lt_of_heap HK.out
  have hb2 : w2.heap[b]? = some (.cells #[.pointer (some ⟨b, 0, none⟩), .slice p l.length cap] 185 (0, 0)) := by
    rw [hgr.block b (by simp; omega) (fun e => HN.out e.symm), Below.heap_alloc _ _ _ hlt]; exact HK.out
  have d1 : w2.cell? ⟨b, 1, none⟩ = some (.slice p l.length cap) := by rw [Lib.cell_of_heap hb2]; rfl
  have f1 : w2.frozen? ⟨b, 1, none⟩ = false := Lib.frozen_of_heap hb2 1
  have H2 := Lib.hid hb2
  have HOO := Lib.hid ho
  have HG := Lib.hid hgr
  clear hb2 ho hgr hlt
  go_wp2
  go_ret
  refine ⟨rfl, Or.inr (Lib.BuilderAt.put (bs' := Lib.byteCells (l ++ [c])) hB H2.out ?_ (by decide)), ?_⟩
  · rw [Lib.byteCells_length, show Lib.byteCells (l ++ [c]) = Lib.byteCells l ++ [by8 c] by simp [Lib.byteCells], List.length_append]; exact HOO.out
  · exact ((HB1.out.alloc (by have := HB1.out.size; have := HBw.out; omega) _).grown HG.out (by have := HB1.out.size; have := HBw.out; simp; omega) (fun k hk => (HO.out.lt k hk).1)).setCell (p := ⟨b, 1, none⟩) hB _
set_option maxRecDepth 100000 in
set_option maxHeartbeats 800000 in
theorem writeString_any (B b : Nat) (l s : Tx) (w : World) (h : Bu B b l w) (hlen : l.length + s.length ≤ 1000000000) (hBw : B ≤ w.heap.size) :
    Calls Tryz.prog 101 #[.pointer (some ⟨b, 0, none⟩), str s] w fun e w' => e = .returned (.tuple #[.int .i64 (s.length : Nat), .nilIface]) ∧ Bu B b (l ++ s) w' ∧ Below B w w' := by
  have hsz : (tx s).size = s.length := by simp [tx, ByteArray.size]
  have HC := Lib.hid (check_any B b l w h)
  have HL := Lib.hid hlen
  have HBw := Lib.hid hBw
  obtain ⟨i0, hi, hz0, hz1, hz2⟩ := info_parts par_u8
  have HI := Lib.hid hi
  have HZ0 := Lib.hid hz0
  have HZ1 := Lib.hid hz1
  have HZ2 := Lib.hid hz2
  have HSZ := Lib.hid hsz
  clear h hlen hBw hi hz0 hz1 hz2
  go_enter Tryz.func101, Tryz.ntmps101
  go_wp2_with (go_at_call 126; refine (HC.out).mono ?_)
  first | rintro e w1 rfl h1 hb1 | rintro e w1 ⟨rfl, h1, hb1⟩
  obtain ⟨hB, v, hbk, hown, hne⟩ := h1
  obtain ⟨p, cap, rfl⟩ := own_slice hown
  rw [Lib.byteCells_length] at hown hbk hne
  have c1 : w1.cell? ⟨b, 1, none⟩ = some (.slice p l.length cap) := by rw [Lib.cell_of_heap hbk]; rfl
  have HK := Lib.hid hbk
  have HO := Lib.hid hown
  have HN := Lib.hid hne
  have HB1 := Lib.hid hb1
  clear hbk hown hne hb1
  go_wp2_with (at_builtin; refine Lib.wpList_append_own_string _ rfl _ _ 39 9 rfl B 5 i0 Tryz.underlying39 Tryz.underlying9 HI.out HZ0.out HZ1.out HZ2.out _ _ _ rfl HO.out (tx s) rfl (by have := HL.out; have := HSZ.out; unfold maxLen; omega) (by have := HL.out; have := HSZ.out; omega) (by have := HBw.out; have := HB1.out.size; omega) ?_)
  intro v' w2 ho hgr _
  obtain ⟨p', cap', rfl⟩ := own_slice ho
  have hlt := lt_of_heap HK.out
  have hb2 : w2.heap[b]? = some (.cells #[.pointer (some ⟨b, 0, none⟩), .slice p l.length cap] 185 (0, 0)) := by
    rw [hgr.block b hlt (fun e => HN.out e.symm)]; exact HK.out
  have d1 : w2.cell? ⟨b, 1, none⟩ = some (.slice p l.length cap) := by rw [Lib.cell_of_heap hb2]; rfl
  have f1 : w2.frozen? ⟨b, 1, none⟩ = false := Lib.frozen_of_heap hb2 1
  have H2 := Lib.hid hb2
  have HOO := Lib.hid ho
  have HG := Lib.hid hgr
  clear hb2 ho hgr hlt
  go_wp2
  go_ret2
  refine ⟨rfl, Or.inr (Lib.BuilderAt.put (bs' := Lib.byteCells (l ++ s)) hB H2.out ?_ (by decide)), ?_⟩
  · have e : Lib.byteCells (l ++ s) = Lib.byteCells l ++ Lib.strCells (tx s) := by simp [Lib.byteCells, Lib.strCells, tx]
    rw [e, List.length_append, Lib.byteCells_length, Lib.strCells_length]; exact HOO.out
  · exact (HB1.out.grown HG.out (by have := HB1.out.size; have := HBw.out; omega) (fun k hk => (HO.out.lt k hk).1)).setCell (p := ⟨b, 1, none⟩) hB _
theorem string_any (B b : Nat) (l : Tx) (w : World) (h : Bu B b l w) (hBw : B ≤ w.heap.size) :
    Calls Tryz.prog 102 #[.pointer (some ⟨b, 0, none⟩)] w fun e w' => e = .returned (str l) ∧ Below B w w' := Tryz.Builder_String_any B b l w h hBw
theorem bu_new (w : World) : Bu w.heap.size w.heap.size [] (w.alloc (.cells #[.pointer none, .slice none 0 0] 185)) :=
  Or.inl ⟨Nat.le_refl _, .slice none 0 0, by show (w.heap.push _)[w.heap.size]? = _; simp, World.ownsRow_nil _ _ _ _, by simp [Value.ownBlock]⟩
end Go.Proofs.YtgaoeljdlpemnaaGreatDoor
namespace Go.Proofs.YtgaoeljdlpemnaaGreatDoor
open Go.RowKit Go.Edi

theorem mkd_len (t : Tx) : (mkd t).length ≤ 2 * t.length := by
  induction t with
  | nil => simp [mkd]
  | cons c t ih => simp only [mkd]; split <;> simp <;> omega
theorem mkd_app' (x y : Tx) : mkd (x ++ y) = mkd x ++ mkd y := mkd_app x y
theorem take_at (t : Tx) (k : Nat) (h : k < t.length) : t.take (k + 1) = t.take k ++ [t[k]] := by rw [List.take_append_getElem h]
set_option maxRecDepth 100000 in
set_option maxHeartbeats 1600000 in
theorem marked_any (t : Tx) (w : World) (hl : t.length ≤ 100000) : Calls Tryz.prog 125 #[str t] w fun e w' => e = .returned (str (mkd t)) ∧ Below w.heap.size w w' := by
  have hsz : (tx t).size = t.length := by simp [tx, ByteArray.size]
  have HL := Lib.hid hl
  have hbz : (t.length : Int) ≤ 100000 := by omega
  clear hl
  go_enter Tryz.func125, Tryz.ntmps125
  go_wp2
  go_loopw [7] (fun i wr => ∃ k : Nat, i = .int .i64 k ∧ k ≤ t.length ∧ Bu w.heap.size w.heap.size (mkd (t.take k)) wr ∧ Below w.heap.size w wr) (fun i _ => t.length - (intOf i).toNat)
  case atStart => exact ⟨0, rfl, Nat.zero_le _, bu_new w, (Below.refl _ _).alloc (Nat.le_refl _) _⟩
  case round =>
    obtain ⟨k, rfl, hk, hbu, hb⟩ := hrel
    by_cases hlt : (k : Int) < (t.length : Int)
    · have hk0 : (0 : Int) ≤ (k : Int) := Int.natCast_nonneg _
      have hlen : (mkd (t.take k)).length ≤ 500000 := by have := mkd_len (t.take k); have := HL.out; have : (t.take k).length ≤ t.length := List.length_take_le' _ _; omega
      by_cases hs : sgn t[k] = true
      · have hq := isSign_any t[k]
        rw [hs] at hq
        have HN := Lib.hid (show mkd (t.take (k + 1)) = mkd (t.take k) ++ [63] ++ [t[k]] by rw [take_at t k (by omega), mkd_app]; simp [mkd, hs])
        have H1 := Lib.hid (writeByte_any w.heap.size w.heap.size _ 63 wr hbu (by omega) hb.size)
        have HLEN := Lib.hid hlen
        have HB := Lib.hid hb
        clear hbu hb hlen
        go_wp2_with (first
          | (go_at_call 142; refine (hq _).mono ?_; rintro e w' ⟨rfl, rfl⟩)
          | (go_at_call 143; refine (H1.out).mono ?_))
        first | rintro e w1 rfl hbu hb1 | rintro e w1 ⟨rfl, hbu, hb1⟩
        have H2 := Lib.hid (writeByte_any w.heap.size w.heap.size _ t[k] w1 hbu (by have := HLEN.out; simp; omega) (HB.out.trans hb1).size)
        have HB1 := Lib.hid hb1
        clear hbu hb1
        go_wp2_with (go_at_call 143; refine (H2.out).mono ?_)
        first | rintro e w2 rfl hbu hb2 | rintro e w2 ⟨rfl, hbu, hb2⟩
        have HBU := Lib.hid hbu
        have HB2 := Lib.hid hb2
        clear hbu hb2
        go_wp2
        go_roundw
        case rel => exact ⟨k + 1, by go_num, by omega, by rw [HN.out]; exact HBU.out, HB.out.trans (HB1.out.trans HB2.out)⟩
        case measure => simp [intOf]; omega
      · have hq := isSign_any t[k]
        rw [show sgn t[k] = false by simpa using hs] at hq
        have HN := Lib.hid (show mkd (t.take (k + 1)) = mkd (t.take k) ++ [t[k]] by rw [take_at t k (by omega), mkd_app]; simp [mkd, hs])
        have H1 := Lib.hid (writeByte_any w.heap.size w.heap.size _ t[k] wr hbu (by omega) hb.size)
        have HB := Lib.hid hb
        clear hbu hb hlen
        go_wp2_with (first
          | (go_at_call 142; refine (hq _).mono ?_; rintro e w' ⟨rfl, rfl⟩)
          | (go_at_call 143; refine (H1.out).mono ?_))
        first | rintro e w1 rfl hbu hb1 | rintro e w1 ⟨rfl, hbu, hb1⟩
        have HBU := Lib.hid hbu
        have HB1 := Lib.hid hb1
        clear hbu hb1
        go_wp2
        go_roundw
        case rel => exact ⟨k + 1, by go_num, by omega, by rw [HN.out]; exact HBU.out, HB.out.trans HB1.out⟩
        case measure => simp [intOf]; omega
    · obtain rfl : k = t.length := by omega
      rw [List.take_length] at hbu
      have H1 := Lib.hid (string_any w.heap.size w.heap.size _ wr hbu hb.size)
      have HB := Lib.hid hb
      clear hbu hb
      go_wp2_with (go_at_call 102; refine (H1.out).mono ?_)
      first | rintro e w1 rfl hb1 | rintro e w1 ⟨rfl, hb1⟩
      have HB1 := Lib.hid hb1
      clear hb1
      go_wp2
      go_ret
      exact ⟨rfl, HB.out.trans HB1.out⟩
theorem jnT_app' (x : Tx) (a b : List Tx) : jnT x (a ++ b) = jnT x a ++ jnT x b := jnT_app x a b
theorem jn_take_zero (x : Tx) (l : List Tx) : jn x (l.take 0) = [] := rfl
theorem jn_snoc (x : Tx) (a : List Tx) (y : Tx) (h : 0 < a.length) : jn x (a ++ [y]) = jn x a ++ x ++ y := by
  match a, h with
  | z :: r, _ => simp [jn, jnT_app, jnT]
theorem jn_one (x : Tx) (l : List Tx) (h : 0 < l.length) : jn x (l.take (0 + 1)) = jn x (l.take 0) ++ l[0] := by
  match l, h with
  | y :: r, _ => simp [jn, jnT]
theorem jn_len_take (x : Tx) (l : List Tx) (k : Nat) : (jn x (l.take k)).length ≤ (jn x l).length := by
  match l, k with
  | [], _ => simp
  | y :: r, 0 => simp [jn]
  | y :: r, k + 1 =>
    have : jn x ((y :: r).take (k + 1) ++ (y :: r).drop (k + 1)) = jn x ((y :: r).take (k + 1)) ++ jnT x (r.drop k) := by
      simp only [List.take_succ_cons, List.drop_succ_cons, List.cons_append, jn, jnT_app, List.append_assoc]
    rw [List.take_append_drop] at this
    rw [this]; simp
/-- texts in memory, apart from what a call makes -/
theorem StrsF.below {w w' : World} {v : Value} {l : List Tx} (h : StrsF w (· < w.heap.size) v l) (hb : Below w.heap.size w w') : StrsF w' (· < w'.heap.size) v l :=
  h.kept (fun b hb2 => ⟨by have := hb.size; show b < _; omega, hb.block b hb2⟩)
set_option maxRecDepth 100000 in
set_option maxHeartbeats 1600000 in
theorem joined_any (x : Tx) (l : List Tx) (v : Value) (w : World) (hv : StrsF w (· < w.heap.size) v l) (hl : (jn x l).length ≤ 100000000) (hn : l.length ≤ 100000) : Calls Tryz.prog 76 #[str x, v] w fun e w' => e = .returned (str (jn x l)) ∧ Below w.heap.size w w' := by
  have HV := Lib.hid hv
  have HL := Lib.hid hl
  obtain ⟨p, cap, rfl, hnc, hp⟩ := hv
  have HP := Lib.hid hp
  have hbz : (l.length : Int) ≤ 100000 := by omega
  clear hl hp hn
  go_enter Tryz.func76, Tryz.ntmps76
  go_wp2
  go_loopw [10] (fun i wr => ∃ k : Nat, i = .int .i64 k ∧ k ≤ l.length ∧ Bu w.heap.size w.heap.size (jn x (l.take k)) wr ∧ Below w.heap.size w wr) (fun i _ => l.length - (intOf i).toNat)
  case atStart => exact ⟨0, rfl, Nat.zero_le _, bu_new w, (Below.refl _ _).alloc (Nat.le_refl _) _⟩
  case round =>
    obtain ⟨k, rfl, hk, hbu, hb⟩ := hrel
    by_cases hlt : (k : Int) < (l.length : Int)
    · have hk0 : (0 : Int) ≤ (k : Int) := Int.natCast_nonneg _
      obtain ⟨b, o, rfl, hF, hc⟩ := HP.out (by omega)
      have hlen := jn_len_take x l (k + 1)
      have hck : wr.cell? ⟨b, o + k, none⟩ = some (str l[k]) := (World.cell?_of_block (a := ⟨b, o + k, none⟩) (hb.block b hF)).trans (hc k _ (by rw [List.getElem?_map, List.getElem?_eq_getElem (by omega)]; rfl))
      by_cases hk1 : (0 : Int) < (k : Int)
      · have hN : jn x (l.take (k + 1)) = jn x (l.take k) ++ x ++ l[k] := by rw [← List.take_append_getElem (show k < l.length by omega), jn_snoc x _ _ (by rw [List.length_take]; omega)]
        have hlen2 := congrArg List.length hN
        simp only [List.length_append] at hlen2
        have HN := Lib.hid hN
        have H1 := Lib.hid (writeString_any w.heap.size w.heap.size _ x wr hbu (by have := HL.out; omega) hb.size)
        have HB := Lib.hid hb
        have HLEN := Lib.hid hlen2
        have HLN := Lib.hid hlen
        clear hbu hb hlen hlen2 hN hc
        go_wp2_with (go_at_call 101; refine (H1.out).mono ?_)
        first | rintro e w1 rfl hbu hb1 | rintro e w1 ⟨rfl, hbu, hb1⟩
        have H2 := Lib.hid (writeString_any w.heap.size w.heap.size _ l[k] w1 hbu (by have := HLEN.out; have := HLN.out; have := HL.out; simp; omega) (HB.out.trans hb1).size)
        have HB1 := Lib.hid hb1
        clear hbu hb1
        go_wp2_with (go_at_call 101; refine (H2.out).mono ?_)
        first | rintro e w2 rfl hbu hb2 | rintro e w2 ⟨rfl, hbu, hb2⟩
        have HBU := Lib.hid hbu
        have HB2 := Lib.hid hb2
        clear hbu hb2
        go_wp2
        go_roundw
        case rel => exact ⟨k + 1, by go_num, by omega, by rw [HN.out]; exact HBU.out, HB.out.trans (HB1.out.trans HB2.out)⟩
        case measure => simp [intOf]; omega
      · obtain rfl : k = 0 := by omega
        rw [Nat.add_zero] at hck
        have hN : jn x (l.take (0 + 1)) = jn x (l.take 0) ++ l[0] := jn_one x l (by omega)
        have hlen2 := congrArg List.length hN
        simp only [List.length_append] at hlen2
        have HN := Lib.hid hN
        have H1 := Lib.hid (writeString_any w.heap.size w.heap.size _ l[0] wr hbu (by have := HL.out; omega) hb.size)
        have HB := Lib.hid hb
        clear hbu hb hlen hlen2 hN hc
        go_wp2_with (go_at_call 101; refine (H1.out).mono ?_)
        first | rintro e w1 rfl hbu hb1 | rintro e w1 ⟨rfl, hbu, hb1⟩
        have HBU := Lib.hid hbu
        have HB1 := Lib.hid hb1
        clear hbu hb1
        go_wp2
        go_roundw
        case rel => exact ⟨1, by go_num, by omega, by rw [show (1 : Nat) = 0 + 1 from rfl, HN.out]; exact HBU.out, HB.out.trans HB1.out⟩
        case measure => simp [intOf]; omega
    · obtain rfl : k = l.length := by omega
      rw [List.take_length] at hbu
      have H1 := Lib.hid (string_any w.heap.size w.heap.size _ wr hbu hb.size)
      have HB := Lib.hid hb
      clear hbu hb
      go_wp2_with (go_at_call 102; refine (H1.out).mono ?_)
      first | rintro e w1 rfl hb1 | rintro e w1 ⟨rfl, hb1⟩
      have HB1 := Lib.hid hb1
      clear hb1
      go_wp2
      go_ret
      exact ⟨rfl, HB.out.trans HB1.out⟩
end Go.Proofs.YtgaoeljdlpemnaaGreatDoor
