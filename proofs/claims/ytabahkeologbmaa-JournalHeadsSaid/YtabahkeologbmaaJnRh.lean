/- Contract of readHead. -/
import Derived.Test.YtabahkeologbmaaJnWh
import Derived.Test.YtabahkeologbmaaJnS
import Derived.Test.YtabahkeologbmaaDkR
import Derived.Test.YtabahkeologbmaaDkL
import Derived.Test.YtabahkeologbmaaDkQ
import Derived.Laws.Cover3
import Derived.Laws.ResultCell
namespace Go.Proofs.Ytabahkeologbmaa.Jn
open Go.RowKit Go.Shelf Go.Dk Go.Jn Go.Sha Go.Proofs.Ytabahkeologbmaa.Dk
attribute [local go_sem] Oper.semAt_some
attribute [local go_sem high, local simp high] zero_head

/-- the head of those that have come -/
def stepB (room : Nat) (acc : Option By) (s : By) : Option By := if wholeB s room = true ∧ (acc = none ∨ numB (acc.getD []) < numB s) then some s else acc
def topP (room : Nat) (f : Nat → By) {m : Nat} (pre : List (Pc m)) : Option By := pre.foldl (fun a x => stepB room a (f x.1)) none
theorem topP_snoc (room : Nat) (f : Nat → By) {m : Nat} (pre : List (Pc m)) (x : Pc m) : topP room f (pre ++ [x]) = stepB room (topP room f pre) (f x.1) := by simp [topP, List.foldl_append]
theorem topP_two (room : Nat) (f : Nat → By) : topP room f (pcs 2 2) = topB (f 0) (f 1) room := by
  have e : pcs 2 2 = [⟨0, by omega⟩, ⟨1, by omega⟩] := by decide
  rw [e]
  unfold topP topB stepB
  simp only [List.foldl_cons, List.foldl_nil, true_or, and_true]
  by_cases h0 : wholeB (f 0) room = true
  · simp [h0]
  · simp [h0]
theorem topP_len (room : Nat) (f : Nat → By) (hf : ∀ i, (f i).length = 64) {m : Nat} (pre : List (Pc m)) : ∀ s, topP room f pre = some s → s.length = 64 := by
  refine snoc_ind (P := fun pre : List (Pc m) => ∀ s, topP room f pre = some s → s.length = 64) (fun s h => by cases h) (fun pre x ih s h => ?_) _ pre rfl
  rw [topP_snoc] at h
  unfold stepB at h
  split at h
  · obtain rfl := Option.some.inj h; exact hf _
  · exact ih s h
/-- the bytes of the top's box -/
def topC (t : Option By) : By := t.getD zero64
theorem topC_len {t : Option By} (h : ∀ s, t = some s → s.length = 64) : (topC t).length = 64 := by
  cases t with
  | none => exact zero64_len
  | some s => exact h s rfl
/-- between two rounds -/
structure RhI' (B D L M room : Nat) (d : Dk) (F : Nat → Prop) (v : Value) (data : By) (T : Nat) (t : Option By) (W : World) : Prop where
  bd : W.heap[B]? = some (.cells #[pD D] 24 (0, 0))
  br : W.heap[B + 1]? = some (.cells (bc zero64) 59 (0, 0))
  bt : W.heap[T]? = some (.cells (bc (topC t)) 59 (0, 0))
  bf : W.heap[T + 1]? = some (.cells #[.bool t.isSome] 4 (0, 0))
  row : BysF W F v data
  lt : ∀ b, F b → b < W.heap.size
  dk : DkAt W D L M d
def RhI (B D L M room : Nat) (d : Dk) (F : Nat → Prop) (v : Value) (data : By) (T : Nat) (w : World) (pre : List (Pc 2)) (W : World) : Prop :=
  RhI' B D L M room d F v data T (topP room d.rd pre) W ∧ Below w.heap.size w W
/-- where the blocks lie -/
structure RhB (B D L M : Nat) (F : Nat → Prop) (T : Nat) : Prop where
  d : D < B ∧ L < B ∧ M < B
  t : B + 2 ≤ T
  f : ∀ b, F b → b < T
theorem RhI'.to {B D L M room : Nat} {d : Dk} {F : Nat → Prop} {v : Value} {data : By} {T : Nat} {t : Option By} {W W' : World} (h : RhI' B D L M room d F v data T t W) (hb : Below W.heap.size W W') : RhI' B D L M room d F v data T t W' :=
  ⟨(hb.block _ (lt_of_heap h.bd)).trans h.bd, (hb.block _ (lt_of_heap h.br)).trans h.br, (hb.block _ (lt_of_heap h.bt)).trans h.bt, (hb.block _ (lt_of_heap h.bf)).trans h.bf, h.row.kept (fun b hx => ⟨hx, hb.block b (h.lt b hx)⟩), fun b hx => Nat.lt_of_lt_of_le (h.lt b hx) hb.size, h.dk.below hb h.dk.ltD h.dk.ltL h.dk.ltM⟩
theorem RhI'.set {B D L M room : Nat} {d : Dk} {F : Nat → Prop} {v : Value} {data : By} {T : Nat} {t : Option By} {W : World} (h : RhI' B D L M room d F v data T t W) (q : RhB B D L M F T) (s : By) : RhI' B D L M room d F v data T (some s) ((W.setRow T (bc s)).setCell ⟨T + 1, 0, none⟩ (.bool true)) := by
  have hd := q.d; have ht := q.t
  have same : ∀ b, b ≠ T → b ≠ T + 1 → ((W.setRow T (bc s)).setCell ⟨T + 1, 0, none⟩ (.bool true)).heap[b]? = W.heap[b]? := fun b h1 h2 => (Below.heap_setCell _ _ _ _ h2).trans (setRow_other W T b _ h1)
  refine ⟨(same _ (by omega) (by omega)).trans h.bd, (same _ (by omega) (by omega)).trans h.br, ?_, ?_, h.row.kept (fun b hx => ⟨hx, same b (by have := q.f b hx; omega) (by have := q.f b hx; omega)⟩), fun b hx => ?_, h.dk.kept (same _ (by omega) (by omega)) (same _ (by omega) (by omega)) (same _ (by omega) (by omega))⟩
  · exact (Below.heap_setCell _ _ _ _ (show T ≠ T + 1 by omega)).trans (setRow_heap _ _ _ _ _ _ h.bt)
  · have e : (W.setRow T (bc s)).heap[T + 1]? = some (.cells #[.bool t.isSome] 4 (0, 0)) := (setRow_other W T (T + 1) _ (by omega)).trans h.bf
    rw [set_heap e]; rfl
  · have := h.lt b hx; simpa using this
theorem rhI_own {B D L M room : Nat} {d : Dk} {F : Nat → Prop} {v : Value} {data : By} {T : Nat} {w : World} {B0 : Nat} (hM : M < B0) (hF : ∀ b, F b → b < B0) (hB : w.heap.size ≤ B0) : OwnFrom B0 (RhI B D L M room d F v data T w) :=
  OwnFrom.and (fun _ _ _ _ hs hg hr => ⟨cells_kept hs.bd hg hr, cells_kept hs.br hg hr, cells_kept hs.bt hg hr, cells_kept hs.bf hg hr, hs.row.kept (fun b hb => ⟨hb, hg.block b (hs.lt b hb) (fun e => by have := (hr _ e.symm).1; have := hF b hb; omega)⟩),
    fun b hb => Nat.lt_of_lt_of_le (hs.lt b hb) hg.size,
    ⟨hs.dk.ok, cells_kept hs.dk.hd hg hr, cells_kept hs.dk.hl hg hr, hs.dk.hm.heap (hg.block _ hs.dk.hm.lt (fun e => by have := (hr _ e.symm).1; omega)), hs.dk.ne⟩⟩) (ownFrom_below (Nat.le_refl _) hB)
theorem own_ptr {w : World} {base n cap : Nat} {p : Option Addr} {l : By} (h : w.ownsRow base 5 1 (.slice p n cap) n (Lib.byteCells l)) (h0 : 0 < n) : ∃ g, p = some ⟨g, 0, none⟩ ∧ base ≤ g ∧ ∃ cur, w.heap[g]? = some (.cells cur 5 (0, 0)) ∧ ∀ (j : Nat) u, (Lib.byteCells l)[j]? = some u → cur[j]? = some u := by
  obtain ⟨h1, ⟨e, e2⟩ | ⟨g, cap', cur, e, hb, hg, hn, hm, hs, ht⟩⟩ := h
  · omega
  · simp only [Value.slice.injEq, true_and] at e
    obtain ⟨rfl, rfl⟩ := e
    refine ⟨g, rfl, hb, cur, hg, fun j u hu => ?_⟩
    rw [← ht, List.getElem?_take] at hu
    split at hu
    · simpa using hu
    · cases hu
theorem build_head (w : World) : (Instr.build 59 #[]).run Try.prog w = .ok (.agg (bc zero64)) w := by
  have : (Instr.build 59 #[]).run Try.prog w = .ok (.agg (Lib.byteCells zero64).toArray) w := by kernel_rfl
  rw [this, ← bc_list]
attribute [local go_sem high, local simp high] build_head
theorem results_head {fn : Func} {p u : Tmp} {ty : TypeId} (h : fn.results = #[.cell p ty, .tmp u]) (tmps : Array Value) (w : World) (g : Nat) (t : TypeId) (cs : Array Value) (fr : Nat × Nat) (n : Nat) (el : TypeId)
    (hp : tmps.getD p undef = .pointer (some ⟨g, 0, none⟩)) (hg : w.heap[g]? = some (.cells cs t fr))
    (hu : Try.prog.underlying ty = some (.array n el)) (hi : (Try.prog.info? ty).map (·.size) = some cs.size) :
    (results fn tmps).run Try.prog w = .ok (.tuple #[.agg cs, tmps.getD u undef]) w := by
  rw [results_cell_tmp h, hp]
  simp only [asAddr, Sem.run_pure, Result.andThen_ok, run_loadVar_row w g t ty cs fr _ hg hu rfl hi]
def HeadP (t : Option By) (w : World) (e : Ending) (w' : World) : Prop := (match t with | some s => e = .returned (.tuple #[.agg (bc s), .int .i64 0]) | none => e = .returned (.tuple #[.agg (bc zero64), .int .i64 130])) ∧ Below w.heap.size w w'
set_option maxRecDepth 100000 in
set_option maxHeartbeats 2000000 in
theorem readHead_any {D L M : Nat} {d : Dk} {w : World} (h : DkAt w D L M d) (hd : d.dead = false) (hn : 4 ≤ d.n) : Calls Try.prog 28 #[pD D] w (HeadP (topB (d.rd 0) (d.rd 1) (64 * (d.n - 2))) w) := by
  have HD := Lib.hid h
  have HDE := Lib.hid hd
  have HN := Lib.hid hn
  obtain ⟨w1, hw1⟩ : ∃ w1, (w.alloc (.cells #[pD D] 24)).alloc (.cells (bc zero64) 59) = w1 := ⟨_, rfl⟩
  have hb1 : Below w.heap.size w w1 := by rw [← hw1]; exact ((Below.refl _ _).alloc (Nat.le_refl _) _).alloc (by simp) _
  have hs1 : w1.heap.size = w.heap.size + 2 := by rw [← hw1]; simp
  have hx0 : w1.heap[w.heap.size]? = some (.cells #[pD D] 24 (0, 0)) := by rw [← hw1]; exact (heap_prev _ _ _ (by simp)).trans (heap_last _ _ _ rfl)
  have hx1 : w1.heap[w.heap.size + 1]? = some (.cells (bc zero64) 59 (0, 0)) := by rw [← hw1]; exact heap_last _ _ _ (by simp)
  have hd1 := h.below hb1 h.ltD h.ltL h.ltM
  have HR := Lib.hid (read_any hd1 hd 0 2 (by omega))
  rw [hw1.symm] at HR
  have HX0 := Lib.hid hx0
  have HX1 := Lib.hid hx1
  have HB1 := Lib.hid hb1
  have HS1 := Lib.hid hs1
  have HD1 := Lib.hid hd1
  have HW1 := Lib.hid hw1
  clear h hd hn hw1 hb1 hs1 hx0 hx1 hd1
  refine (callsIn_wide (n := 5)).1 ?_
  refine callsIn_of_wp_marks Try.func28 rfl trivial ?_ rfl
  simp only [Try.ntmps28, List.size_toArray, List.length_cons, List.length_nil, Nat.reduceAdd, Nat.reduceSub, Array.replicate_succ, Array.replicate_zero, List.push_toArray, List.append_toArray, List.nil_append, List.cons_append]
  gi_wp2_with first
    | (refine ⟨trivial, ?_⟩; gi_at_call 21; refine (callsIn_wide.2 HR.out).mono ?_; rintro e w2 ⟨v, rfl, hrow, hb2⟩; obtain ⟨p, cap, rfl⟩ := own_slice hrow)
    | (refine ⟨trivial, ?_⟩; gi_at_call 43; refine (chunk_in Fence.wide _ trivial rfl _ _ _ _).mono ?_; rintro e w3 ⟨rfl, rfl⟩)
  have hlen : (rdsL d 0 2).length = 64 * 2 := rds_len HD1.out.ok 0 2
  rw [HW1.out] at hrow hb2
  obtain ⟨g, rfl, hg1, hcur⟩ := own_ptr hrow (by rw [hlen]; decide)
  have hg2 := lt_of_heap hcur.choose_spec.1
  have HROW := Lib.hid (show BysF w2 (· = g) (.slice (some ⟨g, 0, none⟩) (rdsL d 0 2).length cap) (rdsL d 0 2) from row_own hrow (fun b e => (Option.some.inj e).symm))
  obtain ⟨W3, hW3⟩ : ∃ W3, (w2.alloc (.cells (bc zero64) 59)).alloc (.cells #[.bool false] 4) = W3 := ⟨_, rfl⟩
  have hs3 : W3.heap.size = w2.heap.size + 2 := by rw [← hW3]; simp
  have hb3 : Below w2.heap.size w2 W3 := by rw [← hW3]; exact ((Below.refl _ _).alloc (Nat.le_refl _) _).alloc (by simp) _
  have hx2 : W3.heap[w2.heap.size]? = some (.cells (bc zero64) 59 (0, 0)) := by rw [← hW3]; exact (heap_prev _ _ _ (by simp)).trans (heap_last _ _ _ rfl)
  have hx3 : W3.heap[w2.heap.size + 1]? = some (.cells #[.bool false] 4 (0, 0)) := by rw [← hW3]; exact heap_last _ _ _ (by simp)
  rw [hW3]
  have hcap : 64 * 2 ≤ cap := by obtain ⟨_, _, e, hc, _⟩ := HROW.out; cases e; rw [← hlen]; exact hc
  have hcs := chW_size (.slice (some ⟨g, 0, none⟩) (rdsL d 0 2).length cap) W3
  have hcb := chW_below (.slice (some ⟨g, 0, none⟩) (rdsL d 0 2).length cap) W3
  have hw12 : w1.heap.size ≤ w2.heap.size := hb2.size
  have hB3 : Below w.heap.size w W3 := HB1.out.trans ((hb2.mono HB1.out.size).trans (hb3.mono (Nat.le_trans HB1.out.size hw12)))
  have hBc : Below w2.heap.size w2 (chW (.slice (some ⟨g, 0, none⟩) (rdsL d 0 2).length cap) W3) := hb3.trans (hcb.mono hb3.size)
  have hlD := HD.out.ltD
  have hlL := HD.out.ltL
  have hlM := HD.out.ltM
  have hs1 := HS1.out
  have HQ := Lib.hid (show RhB w.heap.size D L M (· = g) w2.heap.size from ⟨⟨hlD, hlL, hlM⟩, by omega, fun b e => by subst e; exact hg2⟩)
  have hI0 : RhI w.heap.size D L M (64 * (d.n - 2)) d (· = g) (.slice (some ⟨g, 0, none⟩) (rdsL d 0 2).length cap) (rdsL d 0 2) w2.heap.size w [] (chW (.slice (some ⟨g, 0, none⟩) (rdsL d 0 2).length cap) W3) := by
    have hbc1 : Below w1.heap.size w1 (chW (.slice (some ⟨g, 0, none⟩) (rdsL d 0 2).length cap) W3) := hb2.trans (hBc.mono hw12)
    exact ⟨⟨(hbc1.block _ (by omega)).trans HX0.out, (hbc1.block _ (by omega)).trans HX1.out, (hcb.block _ (by omega)).trans hx2, (hcb.block _ (by omega)).trans hx3, HROW.out.kept (fun b e => ⟨e, by subst e; exact hBc.block _ hg2⟩), fun b e => by subst e; rw [hcs]; omega, HD1.out.below hbc1 HD1.out.ltD HD1.out.ltL HD1.out.ltM⟩, hB3.trans (hcb.mono hB3.size)⟩
  have HI0 := Lib.hid hI0
  have HSR := Lib.hid (fun i => HD.out.ok.rd i)
  have HCS := Lib.hid hcs
  have HT := Lib.hid (topP_len (64 * (d.n - 2)) d.rd (fun i => HSR.out i) (m := 2))
  have h1n : 64 * (d.n - 2) ≤ 1000000 := by have := HD.out.ok.n2; omega
  rw [hlen] at *
  have HLEN := Lib.hid (rds_len HD1.out.ok 0 2)
  have hroom : (64 * (d.n - 2) : Nat) ≤ 1000000 := h1n
  generalize hrm : 64 * (d.n - 2) = room at *
  have HRM := Lib.hid hrm
  have hT2 : w2.heap.size + 1 + 1 = W3.heap.size := hs3.symm
  rw [hT2]
  have HS3 := Lib.hid hs3
  have HS1b := Lib.hid hs1
  clear hT2 hrow hb2 hcur hW3 hb3 hx2 hx3 hB3 hBc hI0 hlen hrm h1n HR hcb
  refine wpIn_rangeFunc_ownH rfl (by omega) (gf := 61) (lb := #[.pointer (some ⟨W3.heap.size, 0, none⟩), .pointer (some ⟨W3.heap.size + 1, 0, none⟩)]) rfl trivial (enters_of Try.func61 (by kernel_rfl) rfl)
    (chunk_stops Fence.wide _ trivial rfl (by omega) (wrX W3.heap.size (W3.heap.size + 1)) 0 W3.heap.size (W3.heap.size + 1) (some ⟨g, 0, none⟩) g 0 2 cap (fun _ => rfl) hcap (by omega) (by simp [wrX]) (chW (.slice (some ⟨g, 0, none⟩) (64 * 2) cap) W3) (chW_E _ _))
    kpX_t (kpX_b (by omega)) (Below.refl _ _) (fun _ => rfl)
    (RhI w.heap.size D L M room d (· = g) (.slice (some ⟨g, 0, none⟩) (64 * 2) cap) (rdsL d 0 2) w2.heap.size w) (fun _ _ _ => False) (rhI_own (by omega) (fun b e => by subst e; omega) (by omega)) (fun _ _ _ _ _ hs _ _ => hs) HI0.out
    (fun x a' _ => a' = { tmps := #[pD D, .pointer (some ⟨w.heap.size, 0, none⟩), .pointer (some ⟨w.heap.size + 1, 0, none⟩), .int .i64 0, .slice (some ⟨g, 0, none⟩) 128 cap, .int .i64 0, .pointer (some ⟨w2.heap.size, 0, none⟩), .pointer (some ⟨w2.heap.size + 1, 0, none⟩), .slice (some ⟨g, 64 * x.1, none⟩) 64 64, undef, .tuple #[.slice (some ⟨g, 0, none⟩) 128 cap, .int .i64 0], pD D, .tuple #[.slice (some ⟨g, 0, none⟩) 128 cap, .int .i64 0], .slice (some ⟨g, 0, none⟩) 128 cap, .int .i64 0, .int .i64 0, .bool false, undef, undef, .slice (some ⟨g, 0, none⟩) 128 cap, .func (.func 61) #[] #[.pointer (some ⟨W3.heap.size, 0, none⟩), .pointer (some ⟨W3.heap.size + 1, 0, none⟩)], .slice (some ⟨g, 64 * x.1, none⟩) 64 64, undef, undef, undef, undef, undef, undef, undef, undef, undef, undef, undef, undef, undef, undef, undef, undef, undef, undef, undef, undef, undef, undef, undef], defers := [] })
    (fun _ _ _ _ _ _ hs _ _ => hs) ?assign ?body ?done ?stop
  case assign =>
    intro l pre x W K hI hK
    clear hs3 hs1 hcs
    gi_wp2
    exact hK _ _ (KeepsFrom.refl _ _) (kpX_frq (Frq.refl _ _)) hI rfl
  case body =>
    rintro l pre x a' W hl hr ⟨hI, hB⟩ rfl hlen
    have HCSz := Lib.hid hcs
    clear hs3 hs1 hcs hl hlen
    have hs : (d.rd x.1).length = 64 := HSR.out x.1
    have hT0 := HT.out pre
    have HSN := Lib.hid (topP_snoc room d.rd pre x)
    have hx2 := x.2
    have hrange : W.rangeAt g (64 * x.1) (bc (d.rd x.1)).toList := fun j u hu => by
      obtain ⟨p', c', e, _, hp⟩ := hI.row
      simp only [Value.slice.injEq] at e
      obtain ⟨rfl, -, rfl⟩ := e
      obtain ⟨b, o, e2, hb, hcell⟩ := hp (by rw [HLEN.out]; decide)
      cases e2
      rw [bc_list] at hu
      have hj : j < 64 := by have := (List.getElem?_eq_some_iff.1 hu).1; rw [byl_len, hs] at this; exact this
      have := hcell (64 * x.1 + j) u (by
        unfold Lib.byteCells at hu ⊢
        rw [List.getElem?_map] at hu ⊢
        unfold rdsL
        rw [flat_get (fun j => HSR.out (0 + j)) hx2 hj, Nat.zero_add]
        exact hu)
      rw [Nat.zero_add] at this
      exact this
    have HRA := Lib.hid hrange
    have HI := Lib.hid hI
    have HB := Lib.hid hB
    have hbo := bc_one (d.rd x.1)
    clear hI hB hrange hx2
    generalize topP room d.rd pre = t at *
    generalize hsx : d.rd x.1 = s at *
    have HSX := Lib.hid hsx
    clear hsx
    have hTl := topC_len hT0
    have hat : ∀ w, (Instr.arrayAt 59 (.slice (some ⟨g, 64 * x.1, none⟩) 64 64)).run Try.prog w = .ok (.pointer (some ⟨g, 64 * x.1, none⟩)) w := fun w => run_arrayAt w 59 _ 64 _ 64 64 Try.underlying59 (Nat.le_refl _)
    gi_wp2_with first
      | ((with_reducible refine wlI_load (dst := 24) g (64 * x.1) (bc s) _ Try.underlying59 rfl ?_ ?_ ?_ ?_); (· rfl); (· exact HRA.out); (· rw [bc_size, hs]; exact info_head))
      | ((with_reducible refine wlI_storeL (ty := 59) W.heap.size (bc s) ?_ ?_ ?_ ?_ ?_ ?_ ?_); (· rfl); (· rfl); (· rfl); (· rw [bc_size, hs]; exact info_head); (· rw [bc_size, bc_size, hs, zero64_len]); (· exact hbo))
    obtain ⟨W5, hW5⟩ : ∃ W5, W.alloc (.cells (bc s) 59) = W5 := ⟨_, rfl⟩
    rw [hW5]
    have hbW : Below W.heap.size W W5 := by rw [← hW5]; exact (Below.refl _ _).alloc (Nat.le_refl _) _
    have HZ5 := Lib.hid (show W5.heap.size = W.heap.size + 1 from by rw [← hW5]; simp)
    have HH5 := Lib.hid (show W5.heap[W.heap.size]? = some (.cells (bc s) 59 (0, 0)) from by rw [← hW5]; exact heap_last _ _ _ rfl)
    have HI5 := Lib.hid (HI.out.to hbW)
    have HS5 := Lib.hid (show Below (W.heap.size + 1) W5 W5.drew from ⟨rfl, rfl, rfl, Nat.le_refl _, fun _ _ => rfl⟩)
    have HI6 := Lib.hid (show ∀ w3, Below (W.heap.size + 1) W5 w3 → RhI' w.heap.size D L M room d (· = g) (.slice (some ⟨g, 0, none⟩) 128 cap) (rdsL d 0 2) w2.heap.size t w3 from fun w3 h3 => HI5.out.to (by rw [HZ5.out]; exact h3))
    have HLB := Lib.hid (show w.heap.size < W.heap.size + 1 from by have := lt_of_heap HI.out.bd; omega)
    have HLT := Lib.hid (show w2.heap.size < W.heap.size + 1 from by have := lt_of_heap HI.out.bt; omega)
    have HLF := Lib.hid (show w2.heap.size + 1 < W.heap.size + 1 from by have := lt_of_heap HI.out.bf; omega)
    have HBW := Lib.hid hbW
    have HFF0 := Lib.hid (show ∀ w3, RhI' w.heap.size D L M room d (· = g) (.slice (some ⟨g, 0, none⟩) 128 cap) (rdsL d 0 2) w2.heap.size t w3 → Below (W.heap.size + 1) W5 w3 → stepB room t s = t →
        ∀ a3, ownPostG (chW (.slice (some ⟨g, 0, none⟩) 128 cap) W3).heap.size (KpX (wrX W3.heap.size (W3.heap.size + 1)) 0) (RhI w.heap.size D L M room d (· = g) (.slice (some ⟨g, 0, none⟩) 128 cap) (rdsL d 0 2) w2.heap.size w) (fun _ _ _ => False) (pre ++ [x]) W .normal a3 w3 from fun w3 h7 hb7 hst a3 => by
      have hb8 : Below W.heap.size W w3 := HBW.out.trans (hb7.mono (by omega))
      refine ⟨⟨hb8.size, fun k o _ ho _ => (hb8.block k (lt_of_heap ho)).trans ho⟩, kpX_of hb8.size (fun b _ hbl => hb8.block b hbl), ⟨?_, HB.out.trans (hb8.mono HB.out.size)⟩⟩
      rw [HSN.out, hst]; exact h7)
    have HFT0 := Lib.hid (show ∀ w3, RhI' w.heap.size D L M room d (· = g) (.slice (some ⟨g, 0, none⟩) 128 cap) (rdsL d 0 2) w2.heap.size t w3 → Below (W.heap.size + 1) W5 w3 → stepB room t s = some s →
        ∀ a3, ownPostG (chW (.slice (some ⟨g, 0, none⟩) 128 cap) W3).heap.size (KpX (wrX W3.heap.size (W3.heap.size + 1)) 0) (RhI w.heap.size D L M room d (· = g) (.slice (some ⟨g, 0, none⟩) 128 cap) (rdsL d 0 2) w2.heap.size w) (fun _ _ _ => False) (pre ++ [x]) W .normal a3 ((w3.setRow w2.heap.size (bc s)).setCell ⟨w2.heap.size + 1, 0, none⟩ (.bool true)) from fun w3 h7 hb7 hst a3 => by
      have hb8 : Below W.heap.size W w3 := HBW.out.trans (hb7.mono (by omega))
      have hT3 : w2.heap.size + 2 = W3.heap.size := HS3.out.symm
      have hf8 : Frq (fun k => k = w2.heap.size ∨ k = w2.heap.size + 1) W ((w3.setRow w2.heap.size (bc s)).setCell ⟨w2.heap.size + 1, 0, none⟩ (.bool true)) :=
        ((Frq.ofBelow hb8).setRow (.inl (.inl rfl)) _).setCell (p := ⟨w2.heap.size + 1, 0, none⟩) (.inl (.inr rfl)) _
      refine ⟨⟨hf8.size, fun k o hk ho hc => (hf8.block k (lt_of_heap ho) (fun e => ?_)).trans ho⟩, kpX_of hf8.size (fun b hb hbl => hf8.block b hbl (fun e => ?_)), ⟨?_, HB.out.trans (hf8.below HB.out.size (fun k e => ?_))⟩⟩
      · rw [HCSz.out] at hk; omega
      · unfold wrX at hb; rw [Classical.not_not] at hb; omega
      · rw [HSN.out, hst]; exact h7.set HQ.out s
      · have := HQ.out.t; omega)
    clear hW5 hbW
    cases hwh : wholeB s room with
    | false =>
      have HWH := Lib.hid hwh
      have HFF := Lib.hid (fun w3 a3 h7 hb7 => HFF0.out w3 h7 hb7 (by unfold stepB; rw [HWH.out, if_neg (by simp)]) a3)
      clear hwh
      refine region_round (S := Below (W.heap.size + 1) W5) (by kernel_rfl) (by kernel_rfl) (fun ⟨_, _, h⟩ => h) ?_
      change wpAnyH _ _ _ _ _ _ _ _ (World.drew _)
      refine tkH (i := 0) (oi := ⟨some 25, .load 59 (.tmp 9), _, _, _, none⟩) (.agg (bc s)) rfl (by kernel_rfl) (fun _ _ _ h => h) (yH rfl (fun w3 h3 => ldX s hs rfl ((h3.block _ (by omega)).trans HH5.out))) HS5.out ?_
      simp only [Act.put, s1, s2, s3]
      refine tkH (i := 1) (oi := ⟨some 26, .load 24 (.tmp 1), _, _, _, none⟩) (pD D) rfl (by kernel_rfl) (fun _ _ _ h => h) (yH rfl (fun w3 h3 => by have q : w3.cell? ⟨w.heap.size, 0, none⟩ = some (pD D) := cell_of_arr ((h3.block _ HLB.out).trans HI5.out.bd) 0; go_simp)) HS5.out ?_
      simp only [Act.put, s1, s2, s3]
      refine rdH (i := 2) (o := ⟨some 27, .call ⟨.value (.func 46), #[.tmp 26], _⟩, _, _, _, none⟩) (by kernel_rfl) rfl (fun K' hK => ?_)
      go_simp
      refine (roomOf_any (HI6.out W5.drew HS5.out).dk (by have := HN.out; omega)).mono ?_
      rintro e w6 ⟨rfl, rfl⟩
      rw [HRM.out]
      refine hK.out _ _ HS5.out (fun _ => ?_)
      clear hK K'
      try (simp only [Act.put, s1, s2, s3])
      refine rdH (i := 3) (o := ⟨some 28, .call ⟨.value (.func 45), #[.tmp 25, .tmp 27], _⟩, _, _, _, none⟩) (by kernel_rfl) rfl (fun K' hK => ?_)
      go_simp
      refine (whole_any s hs room hroom _).mono ?_
      rintro e w7 ⟨rfl, hb7⟩
      have HS7 := Lib.hid (show Below (W.heap.size + 1) W5 w7 from HS5.out.trans (hb7.mono (by have := HS5.out.size; have := HZ5.out; omega)))
      clear hb7
      refine hK.out _ _ HS7.out (fun _ => ?_)
      clear hK K'
      try (simp only [Act.put, s1, s2, s3])
      refine tkH (i := 4) (oi := ⟨some 29, .move (.tmp 28), _, _, _, none⟩) (.bool false) rfl (by kernel_rfl) (fun _ _ _ h => h) (yH rfl (fun w3 h3 => by have q := HWH.out; go_simp)) HS7.out ?_
      simp only [Act.put, s1, s2, s3]
      refine tkH (i := 5) (oi := ⟨some 30, .load 4 (.tmp 7), _, _, _, some (4, true)⟩) undef rfl (by kernel_rfl) (fun _ _ _ h => h) (skH rfl) HS7.out ?_
      simp only [Act.put, s1, s2, s3]
      refine tkH (i := 6) (oi := ⟨some 31, .unOp .not 4 (.tmp 30), _, _, _, some (4, true)⟩) undef rfl (by kernel_rfl) (fun _ _ _ h => h) (skH rfl) HS7.out ?_
      simp only [Act.put, s1, s2, s3]
      refine tkH (i := 7) (oi := ⟨some 32, .move (.tmp 31), _, _, _, some (4, true)⟩) undef rfl (by kernel_rfl) (fun _ _ _ h => h) (skH rfl) HS7.out ?_
      simp only [Act.put, s1, s2, s3]
      refine tkH (i := 8) (oi := ⟨some 33, .load 59 (.tmp 9), _, _, _, some (7, false)⟩) undef rfl (by kernel_rfl) (fun _ _ _ h => h) (skH rfl) HS7.out ?_
      simp only [Act.put, s1, s2, s3]
      refine tkH (i := 9) (oi := ⟨some 34, .call ⟨.value (.func 32), #[.tmp 33], _⟩, _, _, _, some (7, false)⟩) undef rfl (by kernel_rfl) (fun _ _ _ h => h) (skH rfl) HS7.out ?_
      simp only [Act.put, s1, s2, s3]
      refine tkH (i := 10) (oi := ⟨some 35, .load 59 (.tmp 6), _, _, _, some (7, false)⟩) undef rfl (by kernel_rfl) (fun _ _ _ h => h) (skH rfl) HS7.out ?_
      simp only [Act.put, s1, s2, s3]
      refine tkH (i := 11) (oi := ⟨some 36, .call ⟨.value (.func 32), #[.tmp 35], _⟩, _, _, _, some (7, false)⟩) undef rfl (by kernel_rfl) (fun _ _ _ h => h) (skH rfl) HS7.out ?_
      simp only [Act.put, s1, s2, s3]
      refine tkH (i := 12) (oi := ⟨some 37, .binOp .gtr 49 (.tmp 34) (.tmp 36) 49, _, _, _, some (7, false)⟩) undef rfl (by kernel_rfl) (fun _ _ _ h => h) (skH rfl) HS7.out ?_
      simp only [Act.put, s1, s2, s3]
      refine tkH (i := 13) (oi := ⟨some 38, .pick (.tmp 32) (.const (.bool true)) (.tmp 37), _, _, _, some (4, true)⟩) undef rfl (by kernel_rfl) (fun _ _ _ h => h) (skH rfl) HS7.out ?_
      simp only [Act.put, s1, s2, s3]
      refine tkH (i := 14) (oi := ⟨some 39, .pick (.tmp 29) (.tmp 38) (.const (.bool false)), _, _, _, none⟩) (.bool false) rfl (by kernel_rfl) (fun _ _ _ h => h) (yH rfl (fun w3 h3 => by go_simp)) HS7.out ?_
      simp only [Act.put, s1, s2, s3]
      refine wpAnyH_done (by kernel_rfl) ?_ _
      have HI7 := Lib.hid (HI6.out w7 HS7.out)
      gi_wp2
      exact HFF.out _ _ HI7.out HS7.out
    | true =>
      have HWH := Lib.hid hwh
      cases ht : t with
      | none =>
        subst ht
        have HFT := Lib.hid (fun w3 a3 h7 hb7 => HFT0.out w3 h7 hb7 (by unfold stepB; rw [HWH.out, if_pos ⟨rfl, .inl rfl⟩]) a3)
        clear hwh
        refine region_round (S := Below (W.heap.size + 1) W5) (by kernel_rfl) (by kernel_rfl) (fun ⟨_, _, h⟩ => h) ?_
        change wpAnyH _ _ _ _ _ _ _ _ (World.drew _)
        refine tkH (i := 0) (oi := ⟨some 25, .load 59 (.tmp 9), _, _, _, none⟩) (.agg (bc s)) rfl (by kernel_rfl) (fun _ _ _ h => h) (yH rfl (fun w3 h3 => ldX s hs rfl ((h3.block _ (by omega)).trans HH5.out))) HS5.out ?_
        simp only [Act.put, s1, s2, s3]
        refine tkH (i := 1) (oi := ⟨some 26, .load 24 (.tmp 1), _, _, _, none⟩) (pD D) rfl (by kernel_rfl) (fun _ _ _ h => h) (yH rfl (fun w3 h3 => by have q : w3.cell? ⟨w.heap.size, 0, none⟩ = some (pD D) := cell_of_arr ((h3.block _ HLB.out).trans HI5.out.bd) 0; go_simp)) HS5.out ?_
        simp only [Act.put, s1, s2, s3]
        refine rdH (i := 2) (o := ⟨some 27, .call ⟨.value (.func 46), #[.tmp 26], _⟩, _, _, _, none⟩) (by kernel_rfl) rfl (fun K' hK => ?_)
        go_simp
        refine (roomOf_any (HI6.out W5.drew HS5.out).dk (by have := HN.out; omega)).mono ?_
        rintro e w6 ⟨rfl, rfl⟩
        rw [HRM.out]
        refine hK.out _ _ HS5.out (fun _ => ?_)
        clear hK K'
        try (simp only [Act.put, s1, s2, s3])
        refine rdH (i := 3) (o := ⟨some 28, .call ⟨.value (.func 45), #[.tmp 25, .tmp 27], _⟩, _, _, _, none⟩) (by kernel_rfl) rfl (fun K' hK => ?_)
        go_simp
        refine (whole_any s hs room hroom _).mono ?_
        rintro e w7 ⟨rfl, hb7⟩
        have HS7 := Lib.hid (show Below (W.heap.size + 1) W5 w7 from HS5.out.trans (hb7.mono (by have := HS5.out.size; have := HZ5.out; omega)))
        clear hb7
        refine hK.out _ _ HS7.out (fun _ => ?_)
        clear hK K'
        try (simp only [Act.put, s1, s2, s3])
        refine tkH (i := 4) (oi := ⟨some 29, .move (.tmp 28), _, _, _, none⟩) (.bool true) rfl (by kernel_rfl) (fun _ _ _ h => h) (yH rfl (fun w3 h3 => by have q := HWH.out; go_simp)) HS7.out ?_
        simp only [Act.put, s1, s2, s3]
        refine tkH (i := 5) (oi := ⟨some 30, .load 4 (.tmp 7), _, _, _, some (4, true)⟩) (.bool false) rfl (by kernel_rfl) (fun _ _ _ h => h) (yH rfl (fun w3 h3 => by have q : w3.cell? ⟨w2.heap.size + 1, 0, none⟩ = some (.bool false) := cell_of_arr ((h3.block _ HLF.out).trans HI5.out.bf) 0; go_simp)) HS7.out ?_
        simp only [Act.put, s1, s2, s3]
        refine tkH (i := 6) (oi := ⟨some 31, .unOp .not 4 (.tmp 30), _, _, _, some (4, true)⟩) (.bool true) rfl (by kernel_rfl) (fun _ _ _ h => h) (yH rfl (fun w3 h3 => by go_simp)) HS7.out ?_
        simp only [Act.put, s1, s2, s3]
        refine tkH (i := 7) (oi := ⟨some 32, .move (.tmp 31), _, _, _, some (4, true)⟩) (.bool true) rfl (by kernel_rfl) (fun _ _ _ h => h) (yH rfl (fun w3 h3 => by go_simp)) HS7.out ?_
        simp only [Act.put, s1, s2, s3]
        refine tkH (i := 8) (oi := ⟨some 33, .load 59 (.tmp 9), _, _, _, some (7, false)⟩) undef rfl (by kernel_rfl) (fun _ _ _ h => h) (skH rfl) HS7.out ?_
        simp only [Act.put, s1, s2, s3]
        refine tkH (i := 9) (oi := ⟨some 34, .call ⟨.value (.func 32), #[.tmp 33], _⟩, _, _, _, some (7, false)⟩) undef rfl (by kernel_rfl) (fun _ _ _ h => h) (skH rfl) HS7.out ?_
        simp only [Act.put, s1, s2, s3]
        refine tkH (i := 10) (oi := ⟨some 35, .load 59 (.tmp 6), _, _, _, some (7, false)⟩) undef rfl (by kernel_rfl) (fun _ _ _ h => h) (skH rfl) HS7.out ?_
        simp only [Act.put, s1, s2, s3]
        refine tkH (i := 11) (oi := ⟨some 36, .call ⟨.value (.func 32), #[.tmp 35], _⟩, _, _, _, some (7, false)⟩) undef rfl (by kernel_rfl) (fun _ _ _ h => h) (skH rfl) HS7.out ?_
        simp only [Act.put, s1, s2, s3]
        refine tkH (i := 12) (oi := ⟨some 37, .binOp .gtr 49 (.tmp 34) (.tmp 36) 49, _, _, _, some (7, false)⟩) undef rfl (by kernel_rfl) (fun _ _ _ h => h) (skH rfl) HS7.out ?_
        simp only [Act.put, s1, s2, s3]
        refine tkH (i := 13) (oi := ⟨some 38, .pick (.tmp 32) (.const (.bool true)) (.tmp 37), _, _, _, some (4, true)⟩) (.bool true) rfl (by kernel_rfl) (fun _ _ _ h => h) (yH rfl (fun w3 h3 => by go_simp)) HS7.out ?_
        simp only [Act.put, s1, s2, s3]
        refine tkH (i := 14) (oi := ⟨some 39, .pick (.tmp 29) (.tmp 38) (.const (.bool false)), _, _, _, none⟩) (.bool true) rfl (by kernel_rfl) (fun _ _ _ h => h) (yH rfl (fun w3 h3 => by go_simp)) HS7.out ?_
        simp only [Act.put, s1, s2, s3]
        refine wpAnyH_done (by kernel_rfl) ?_ _
        have HI7 := Lib.hid (HI6.out w7 HS7.out)
        have hfb : (w7.setRow w2.heap.size (bc s)).heap[w2.heap.size + 1]? = some (.cells #[.bool false] 4 (0, 0)) := (setRow_other _ _ _ _ (by omega)).trans HI7.out.bf
        have hfc : (w7.setRow w2.heap.size (bc s)).cell? ⟨w2.heap.size + 1, 0, none⟩ = some (.bool false) := cell_of_arr hfb 0
        have hff : (w7.setRow w2.heap.size (bc s)).frozen? ⟨w2.heap.size + 1, 0, none⟩ = false := froz_of_arr hfb 0
        clear hfb
        gi_wp2_with first
          | ((with_reducible refine wlI_load (dst := 40) W.heap.size 0 (bc s) _ Try.underlying59 rfl ?_ ?_ ?_ ?_); (· rfl); (· exact rangeAt_arr ((HS7.out.block _ (by omega)).trans HH5.out) (fun j v hv => by rw [Nat.zero_add]; simpa using hv)); (· rw [bc_size, hs]; exact info_head))
          | ((with_reducible refine wlI_store (ty := 59) w2.heap.size 0 (bc s) (bc (topC (none))) (bc s) 59 ?_ ?_ ?_ ?_ ?_ ?_ ?_ ?_); (· rfl); (· rfl); (· exact HI7.out.bt); (· rw [bc_size, hs]; exact info_head); (· rw [bc_size, bc_size, hs, hTl]; omega); (· exact hbo); (· rw [List.take_zero, List.nil_append, Nat.zero_add, List.drop_of_length_le (by rw [Array.length_toList, bc_size, bc_size, hs, hTl]; omega), List.append_nil, Array.toArray_toList]))
        exact HFT.out _ _ HI7.out HS7.out
      | some u =>
        subst ht
        have hu : u.length = 64 := hT0 u rfl
        clear hwh
        by_cases hlt : numB u < numB s
        · have hi : decide ((numB u : Int) < (numB s : Int)) = true := decide_eq_true (by omega)
          have HFT := Lib.hid (fun w3 a3 h7 hb7 => HFT0.out w3 h7 hb7 (by unfold stepB; rw [HWH.out, if_pos ⟨rfl, .inr hlt⟩]) a3)
          refine region_round (S := Below (W.heap.size + 1) W5) (by kernel_rfl) (by kernel_rfl) (fun ⟨_, _, h⟩ => h) ?_
          change wpAnyH _ _ _ _ _ _ _ _ (World.drew _)
          refine tkH (i := 0) (oi := ⟨some 25, .load 59 (.tmp 9), _, _, _, none⟩) (.agg (bc s)) rfl (by kernel_rfl) (fun _ _ _ h => h) (yH rfl (fun w3 h3 => ldX s hs rfl ((h3.block _ (by omega)).trans HH5.out))) HS5.out ?_
          simp only [Act.put, s1, s2, s3]
          refine tkH (i := 1) (oi := ⟨some 26, .load 24 (.tmp 1), _, _, _, none⟩) (pD D) rfl (by kernel_rfl) (fun _ _ _ h => h) (yH rfl (fun w3 h3 => by have q : w3.cell? ⟨w.heap.size, 0, none⟩ = some (pD D) := cell_of_arr ((h3.block _ HLB.out).trans HI5.out.bd) 0; go_simp)) HS5.out ?_
          simp only [Act.put, s1, s2, s3]
          refine rdH (i := 2) (o := ⟨some 27, .call ⟨.value (.func 46), #[.tmp 26], _⟩, _, _, _, none⟩) (by kernel_rfl) rfl (fun K' hK => ?_)
          go_simp
          refine (roomOf_any (HI6.out W5.drew HS5.out).dk (by have := HN.out; omega)).mono ?_
          rintro e w6 ⟨rfl, rfl⟩
          rw [HRM.out]
          refine hK.out _ _ HS5.out (fun _ => ?_)
          clear hK K'
          try (simp only [Act.put, s1, s2, s3])
          refine rdH (i := 3) (o := ⟨some 28, .call ⟨.value (.func 45), #[.tmp 25, .tmp 27], _⟩, _, _, _, none⟩) (by kernel_rfl) rfl (fun K' hK => ?_)
          go_simp
          refine (whole_any s hs room hroom _).mono ?_
          rintro e w7 ⟨rfl, hb7⟩
          have HS7 := Lib.hid (show Below (W.heap.size + 1) W5 w7 from HS5.out.trans (hb7.mono (by have := HS5.out.size; have := HZ5.out; omega)))
          clear hb7
          refine hK.out _ _ HS7.out (fun _ => ?_)
          clear hK K'
          try (simp only [Act.put, s1, s2, s3])
          refine tkH (i := 4) (oi := ⟨some 29, .move (.tmp 28), _, _, _, none⟩) (.bool true) rfl (by kernel_rfl) (fun _ _ _ h => h) (yH rfl (fun w3 h3 => by have q := HWH.out; go_simp)) HS7.out ?_
          simp only [Act.put, s1, s2, s3]
          refine tkH (i := 5) (oi := ⟨some 30, .load 4 (.tmp 7), _, _, _, some (4, true)⟩) (.bool true) rfl (by kernel_rfl) (fun _ _ _ h => h) (yH rfl (fun w3 h3 => by have q : w3.cell? ⟨w2.heap.size + 1, 0, none⟩ = some (.bool true) := cell_of_arr ((h3.block _ HLF.out).trans HI5.out.bf) 0; go_simp)) HS7.out ?_
          simp only [Act.put, s1, s2, s3]
          refine tkH (i := 6) (oi := ⟨some 31, .unOp .not 4 (.tmp 30), _, _, _, some (4, true)⟩) (.bool false) rfl (by kernel_rfl) (fun _ _ _ h => h) (yH rfl (fun w3 h3 => by go_simp)) HS7.out ?_
          simp only [Act.put, s1, s2, s3]
          refine tkH (i := 7) (oi := ⟨some 32, .move (.tmp 31), _, _, _, some (4, true)⟩) (.bool false) rfl (by kernel_rfl) (fun _ _ _ h => h) (yH rfl (fun w3 h3 => by go_simp)) HS7.out ?_
          simp only [Act.put, s1, s2, s3]
          refine tkH (i := 8) (oi := ⟨some 33, .load 59 (.tmp 9), _, _, _, some (7, false)⟩) (.agg (bc s)) rfl (by kernel_rfl) (fun _ _ _ h => h) (yH rfl (fun w3 h3 => ldX s hs rfl ((h3.block _ (by omega)).trans HH5.out))) HS7.out ?_
          simp only [Act.put, s1, s2, s3]
          refine tkH (i := 10) (oi := ⟨some 35, .load 59 (.tmp 6), _, _, _, some (7, false)⟩) (.agg (bc u)) rfl (by kernel_rfl) (fun _ _ _ h => h) (yH rfl (fun w3 h3 => ldX u hu rfl ((h3.block _ HLT.out).trans HI5.out.bt))) HS7.out ?_
          simp only [Act.put, s1, s2, s3]
          refine rdH (i := 9) (o := ⟨some 34, .call ⟨.value (.func 32), #[.tmp 33], _⟩, _, _, _, some (7, false)⟩) (by kernel_rfl) rfl (fun K' hK => ?_)
          go_simp
          refine (number_any s hs _).mono ?_
          rintro e w8 ⟨rfl, hb8⟩
          have HS8 := Lib.hid (show Below (W.heap.size + 1) W5 w8 from HS7.out.trans (hb8.mono (by have := HS7.out.size; have := HZ5.out; omega)))
          clear hb8
          refine hK.out _ _ HS8.out (fun _ => ?_)
          clear hK K'
          try (simp only [Act.put, s1, s2, s3])
          refine rdH (i := 11) (o := ⟨some 36, .call ⟨.value (.func 32), #[.tmp 35], _⟩, _, _, _, some (7, false)⟩) (by kernel_rfl) rfl (fun K' hK => ?_)
          go_simp
          refine (number_any u hu _).mono ?_
          rintro e w9 ⟨rfl, hb9⟩
          have HS9 := Lib.hid (show Below (W.heap.size + 1) W5 w9 from HS8.out.trans (hb9.mono (by have := HS8.out.size; have := HZ5.out; omega)))
          clear hb9
          refine hK.out _ _ HS9.out (fun _ => ?_)
          clear hK K'
          try (simp only [Act.put, s1, s2, s3])
          refine tkH (i := 12) (oi := ⟨some 37, .binOp .gtr 49 (.tmp 34) (.tmp 36) 49, _, _, _, some (7, false)⟩) (.bool true) rfl (by kernel_rfl) (fun _ _ _ h => h) (yH rfl (fun w3 h3 => by go_simp)) HS9.out ?_
          simp only [Act.put, s1, s2, s3]
          refine tkH (i := 13) (oi := ⟨some 38, .pick (.tmp 32) (.const (.bool true)) (.tmp 37), _, _, _, some (4, true)⟩) (.bool true) rfl (by kernel_rfl) (fun _ _ _ h => h) (yH rfl (fun w3 h3 => by go_simp)) HS9.out ?_
          simp only [Act.put, s1, s2, s3]
          refine tkH (i := 14) (oi := ⟨some 39, .pick (.tmp 29) (.tmp 38) (.const (.bool false)), _, _, _, none⟩) (.bool true) rfl (by kernel_rfl) (fun _ _ _ h => h) (yH rfl (fun w3 h3 => by go_simp)) HS9.out ?_
          simp only [Act.put, s1, s2, s3]
          refine wpAnyH_done (by kernel_rfl) ?_ _
          have HI7 := Lib.hid (HI6.out w9 HS9.out)
          have hfb : (w9.setRow w2.heap.size (bc s)).heap[w2.heap.size + 1]? = some (.cells #[.bool true] 4 (0, 0)) := (setRow_other _ _ _ _ (by omega)).trans HI7.out.bf
          have hfc : (w9.setRow w2.heap.size (bc s)).cell? ⟨w2.heap.size + 1, 0, none⟩ = some (.bool true) := cell_of_arr hfb 0
          have hff : (w9.setRow w2.heap.size (bc s)).frozen? ⟨w2.heap.size + 1, 0, none⟩ = false := froz_of_arr hfb 0
          clear hfb
          gi_wp2_with first
            | ((with_reducible refine wlI_load (dst := 40) W.heap.size 0 (bc s) _ Try.underlying59 rfl ?_ ?_ ?_ ?_); (· rfl); (· exact rangeAt_arr ((HS9.out.block _ (by omega)).trans HH5.out) (fun j v hv => by rw [Nat.zero_add]; simpa using hv)); (· rw [bc_size, hs]; exact info_head))
            | ((with_reducible refine wlI_store (ty := 59) w2.heap.size 0 (bc s) (bc (topC (some u))) (bc s) 59 ?_ ?_ ?_ ?_ ?_ ?_ ?_ ?_); (· rfl); (· rfl); (· exact HI7.out.bt); (· rw [bc_size, hs]; exact info_head); (· rw [bc_size, bc_size, hs, hTl]; omega); (· exact hbo); (· rw [List.take_zero, List.nil_append, Nat.zero_add, List.drop_of_length_le (by rw [Array.length_toList, bc_size, bc_size, hs, hTl]; omega), List.append_nil, Array.toArray_toList]))
          exact HFT.out _ _ HI7.out HS9.out
        · have hi : decide ((numB u : Int) < (numB s : Int)) = false := decide_eq_false (by omega)
          have HFF := Lib.hid (fun w3 a3 h7 hb7 => HFF0.out w3 h7 hb7 (by unfold stepB; rw [HWH.out, if_neg (by rintro ⟨_, h | h⟩; cases h; exact hlt h)]) a3)
          refine region_round (S := Below (W.heap.size + 1) W5) (by kernel_rfl) (by kernel_rfl) (fun ⟨_, _, h⟩ => h) ?_
          change wpAnyH _ _ _ _ _ _ _ _ (World.drew _)
          refine tkH (i := 0) (oi := ⟨some 25, .load 59 (.tmp 9), _, _, _, none⟩) (.agg (bc s)) rfl (by kernel_rfl) (fun _ _ _ h => h) (yH rfl (fun w3 h3 => ldX s hs rfl ((h3.block _ (by omega)).trans HH5.out))) HS5.out ?_
          simp only [Act.put, s1, s2, s3]
          refine tkH (i := 1) (oi := ⟨some 26, .load 24 (.tmp 1), _, _, _, none⟩) (pD D) rfl (by kernel_rfl) (fun _ _ _ h => h) (yH rfl (fun w3 h3 => by have q : w3.cell? ⟨w.heap.size, 0, none⟩ = some (pD D) := cell_of_arr ((h3.block _ HLB.out).trans HI5.out.bd) 0; go_simp)) HS5.out ?_
          simp only [Act.put, s1, s2, s3]
          refine rdH (i := 2) (o := ⟨some 27, .call ⟨.value (.func 46), #[.tmp 26], _⟩, _, _, _, none⟩) (by kernel_rfl) rfl (fun K' hK => ?_)
          go_simp
          refine (roomOf_any (HI6.out W5.drew HS5.out).dk (by have := HN.out; omega)).mono ?_
          rintro e w6 ⟨rfl, rfl⟩
          rw [HRM.out]
          refine hK.out _ _ HS5.out (fun _ => ?_)
          clear hK K'
          try (simp only [Act.put, s1, s2, s3])
          refine rdH (i := 3) (o := ⟨some 28, .call ⟨.value (.func 45), #[.tmp 25, .tmp 27], _⟩, _, _, _, none⟩) (by kernel_rfl) rfl (fun K' hK => ?_)
          go_simp
          refine (whole_any s hs room hroom _).mono ?_
          rintro e w7 ⟨rfl, hb7⟩
          have HS7 := Lib.hid (show Below (W.heap.size + 1) W5 w7 from HS5.out.trans (hb7.mono (by have := HS5.out.size; have := HZ5.out; omega)))
          clear hb7
          refine hK.out _ _ HS7.out (fun _ => ?_)
          clear hK K'
          try (simp only [Act.put, s1, s2, s3])
          refine tkH (i := 4) (oi := ⟨some 29, .move (.tmp 28), _, _, _, none⟩) (.bool true) rfl (by kernel_rfl) (fun _ _ _ h => h) (yH rfl (fun w3 h3 => by have q := HWH.out; go_simp)) HS7.out ?_
          simp only [Act.put, s1, s2, s3]
          refine tkH (i := 5) (oi := ⟨some 30, .load 4 (.tmp 7), _, _, _, some (4, true)⟩) (.bool true) rfl (by kernel_rfl) (fun _ _ _ h => h) (yH rfl (fun w3 h3 => by have q : w3.cell? ⟨w2.heap.size + 1, 0, none⟩ = some (.bool true) := cell_of_arr ((h3.block _ HLF.out).trans HI5.out.bf) 0; go_simp)) HS7.out ?_
          simp only [Act.put, s1, s2, s3]
          refine tkH (i := 6) (oi := ⟨some 31, .unOp .not 4 (.tmp 30), _, _, _, some (4, true)⟩) (.bool false) rfl (by kernel_rfl) (fun _ _ _ h => h) (yH rfl (fun w3 h3 => by go_simp)) HS7.out ?_
          simp only [Act.put, s1, s2, s3]
          refine tkH (i := 7) (oi := ⟨some 32, .move (.tmp 31), _, _, _, some (4, true)⟩) (.bool false) rfl (by kernel_rfl) (fun _ _ _ h => h) (yH rfl (fun w3 h3 => by go_simp)) HS7.out ?_
          simp only [Act.put, s1, s2, s3]
          refine tkH (i := 8) (oi := ⟨some 33, .load 59 (.tmp 9), _, _, _, some (7, false)⟩) (.agg (bc s)) rfl (by kernel_rfl) (fun _ _ _ h => h) (yH rfl (fun w3 h3 => ldX s hs rfl ((h3.block _ (by omega)).trans HH5.out))) HS7.out ?_
          simp only [Act.put, s1, s2, s3]
          refine tkH (i := 10) (oi := ⟨some 35, .load 59 (.tmp 6), _, _, _, some (7, false)⟩) (.agg (bc u)) rfl (by kernel_rfl) (fun _ _ _ h => h) (yH rfl (fun w3 h3 => ldX u hu rfl ((h3.block _ HLT.out).trans HI5.out.bt))) HS7.out ?_
          simp only [Act.put, s1, s2, s3]
          refine rdH (i := 9) (o := ⟨some 34, .call ⟨.value (.func 32), #[.tmp 33], _⟩, _, _, _, some (7, false)⟩) (by kernel_rfl) rfl (fun K' hK => ?_)
          go_simp
          refine (number_any s hs _).mono ?_
          rintro e w8 ⟨rfl, hb8⟩
          have HS8 := Lib.hid (show Below (W.heap.size + 1) W5 w8 from HS7.out.trans (hb8.mono (by have := HS7.out.size; have := HZ5.out; omega)))
          clear hb8
          refine hK.out _ _ HS8.out (fun _ => ?_)
          clear hK K'
          try (simp only [Act.put, s1, s2, s3])
          refine rdH (i := 11) (o := ⟨some 36, .call ⟨.value (.func 32), #[.tmp 35], _⟩, _, _, _, some (7, false)⟩) (by kernel_rfl) rfl (fun K' hK => ?_)
          go_simp
          refine (number_any u hu _).mono ?_
          rintro e w9 ⟨rfl, hb9⟩
          have HS9 := Lib.hid (show Below (W.heap.size + 1) W5 w9 from HS8.out.trans (hb9.mono (by have := HS8.out.size; have := HZ5.out; omega)))
          clear hb9
          refine hK.out _ _ HS9.out (fun _ => ?_)
          clear hK K'
          try (simp only [Act.put, s1, s2, s3])
          refine tkH (i := 12) (oi := ⟨some 37, .binOp .gtr 49 (.tmp 34) (.tmp 36) 49, _, _, _, some (7, false)⟩) (.bool false) rfl (by kernel_rfl) (fun _ _ _ h => h) (yH rfl (fun w3 h3 => by go_simp)) HS9.out ?_
          simp only [Act.put, s1, s2, s3]
          refine tkH (i := 13) (oi := ⟨some 38, .pick (.tmp 32) (.const (.bool true)) (.tmp 37), _, _, _, some (4, true)⟩) (.bool false) rfl (by kernel_rfl) (fun _ _ _ h => h) (yH rfl (fun w3 h3 => by go_simp)) HS9.out ?_
          simp only [Act.put, s1, s2, s3]
          refine tkH (i := 14) (oi := ⟨some 39, .pick (.tmp 29) (.tmp 38) (.const (.bool false)), _, _, _, none⟩) (.bool false) rfl (by kernel_rfl) (fun _ _ _ h => h) (yH rfl (fun w3 h3 => by go_simp)) HS9.out ?_
          simp only [Act.put, s1, s2, s3]
          refine wpAnyH_done (by kernel_rfl) ?_ _
          have HI7 := Lib.hid (HI6.out w9 HS9.out)
          gi_wp2
          exact HFF.out _ _ HI7.out HS9.out
  case done =>
    rintro E ys W hD rfl ⟨hI, hB⟩ hK
    rw [topP_two] at hI
    have hT0 := HT.out (pcs 2 2)
    rw [topP_two] at hT0
    have hE : w.heap.size + 1 ≠ E := by have := HS3.out; have := HS1b.out; have := HQ.out.t; rw [HCS.out] at hD; omega
    have HE := Lib.hid hE
    have hEB : w.heap.size ≤ E := by have := HS3.out; have := HQ.out.t; rw [HCS.out] at hD; omega
    have HEB := Lib.hid hEB
    have HI := Lib.hid hI
    have HB := Lib.hid hB
    have cf : W.cell? ⟨w2.heap.size + 1, 0, none⟩ = some (.bool (topB (d.rd 0) (d.rd 1) room).isSome) := cell_of_arr hI.bf 0
    clear hI hB hD hs3 hs1 hcs hE hEB
    generalize topB (d.rd 0) (d.rd 1) room = t at *
    cases t with
    | none =>
      have cf : W.cell? ⟨w2.heap.size + 1, 0, none⟩ = some (.bool false) := cf
      gi_wp2_with
        ((with_reducible refine wlI_store (ty := 59) (w.heap.size + 1) 0 (bc zero64) (bc zero64) (bc zero64) 59 ?_ ?_ ?_ ?_ ?_ ?_ ?_ ?_); (· rfl); (· rfl); (· exact HI.out.br); (· rw [bc_size, zero64_len]; exact info_head); (· omega); (· exact bc_one _); (· rw [List.take_zero, List.nil_append, Nat.zero_add, List.drop_of_length_le (by rw [Array.length_toList]; omega), List.append_nil, Array.toArray_toList]))
      have hbr : (W.setRow (w.heap.size + 1) (bc zero64)).heap[w.heap.size + 1]? = some (.cells (bc zero64) 59 (0, 0)) := setRow_heap _ _ _ _ _ _ HI.out.br
      have hk : (W.setRow (w.heap.size + 1) (bc zero64)).heap[E]? = some (.deferred (some [])) := (setRow_other _ _ _ _ (Ne.symm HE.out)).trans hK
      refine ⟨by simp, .inl ⟨_, _, rfl, run_takeDeferred hk, ?_⟩⟩
      refine ⟨_, results_head rfl _ _ (w.heap.size + 1) 59 (bc zero64) (0, 0) 64 5 rfl ((World.putObj_heap_other HE.out).trans hbr) Try.underlying59 (by rw [bc_size, zero64_len]; exact info_head), rfl, ?_⟩
      exact (HB.out.trans ((Frq.setRow (G := (· = w.heap.size + 1)) (Frq.refl _ W) (.inl rfl) _).below HB.out.size (fun k e => by omega))).trans (belowK_b (w := w) (Nat.le_refl _) _ E _ _ HEB.out hk rfl rfl)
    | some s =>
      have cf : W.cell? ⟨w2.heap.size + 1, 0, none⟩ = some (.bool true) := cf
      have hs := hT0 s rfl
      have HBT := Lib.hid (show W.heap[w2.heap.size]? = some (.cells (bc s) 59 (0, 0)) from HI.out.bt)
      gi_wp2_with first
        | ((with_reducible refine wlI_load (dst := 44) w2.heap.size 0 (bc s) _ Try.underlying59 rfl ?_ ?_ ?_ ?_); (· rfl); (· exact rangeAt_arr HBT.out (fun j v hv => by rw [Nat.zero_add]; simpa using hv)); (· rw [bc_size, hs]; exact info_head))
        | ((with_reducible refine wlI_store (ty := 59) (w.heap.size + 1) 0 (bc s) (bc zero64) (bc s) 59 ?_ ?_ ?_ ?_ ?_ ?_ ?_ ?_); (· rfl); (· rfl); (· exact HI.out.br); (· rw [bc_size, hs]; exact info_head); (· rw [bc_size, bc_size, hs, zero64_len]; omega); (· exact bc_one _); (· rw [List.take_zero, List.nil_append, Nat.zero_add, List.drop_of_length_le (by rw [Array.length_toList, bc_size, bc_size, hs, zero64_len]; omega), List.append_nil, Array.toArray_toList]))
      have hbr : (W.setRow (w.heap.size + 1) (bc s)).heap[w.heap.size + 1]? = some (.cells (bc s) 59 (0, 0)) := setRow_heap _ _ _ _ _ _ HI.out.br
      have hk : (W.setRow (w.heap.size + 1) (bc s)).heap[E]? = some (.deferred (some [])) := (setRow_other _ _ _ _ (Ne.symm HE.out)).trans hK
      refine ⟨by simp, .inl ⟨_, _, rfl, run_takeDeferred hk, ?_⟩⟩
      refine ⟨_, results_head rfl _ _ (w.heap.size + 1) 59 (bc s) (0, 0) 64 5 rfl ((World.putObj_heap_other HE.out).trans hbr) Try.underlying59 (by rw [bc_size, hs]; exact info_head), rfl, ?_⟩
      exact (HB.out.trans ((Frq.setRow (G := (· = w.heap.size + 1)) (Frq.refl _ W) (.inl rfl) _).below HB.out.size (fun k e => by omega))).trans (belowK_b (w := w) (Nat.le_refl _) _ E _ _ HEB.out hk rfl rfl)
  case stop =>
    rintro E c pre W _ _ h _
    exact h.elim
end Go.Proofs.Ytabahkeologbmaa.Jn
