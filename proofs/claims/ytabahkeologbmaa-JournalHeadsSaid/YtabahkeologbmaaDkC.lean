/- Contracts of a disk's small calls: New, Size, Waiting, Dead, Kill, Fuse, has, burn, written. -/
import Derived.Test.YtabahkeologbmaaDkM
namespace Go.Proofs.Ytabahkeologbmaa.Dk
open Go.RowKit Go.Shelf Go.Dk Go.Sha
open Go.Maps (Keyed)

/-- a disk by its struct's block, in a world -/
abbrev pD (D : Nat) : Value := .pointer (some ⟨D, 0, none⟩)
def NewP (n : Nat) (w : World) (e : Ending) (w' : World) : Prop := ∃ D L M, e = .returned (.tuple #[pD D, .int .i64 0]) ∧ DkAt w' D L M (Dk.new n) ∧ Below w.heap.size w w' ∧ w.heap.size ≤ D ∧ w.heap.size ≤ L ∧ w.heap.size ≤ M
theorem new_ok {n : Nat} (h1 : 1 ≤ n) (h2 : n ≤ 4096) : (Dk.new n).Ok := ⟨h1, h2, fun _ => zero64_len, (fun _ _ h => by cases h), by show (-1 : Int) ≤ -1; omega, by show (-1 : Int) ≤ 9223372036854775807; omega⟩
theorem made_empty {w : World} {M c : Nat} (n : Nat) (h : w.heap[M]? = some (.map #[] c)) : MpAt w M n (fun _ => none) := by
  refine ⟨#[], c, h, ⟨by simp, ⟨by simp, by simp, by simp⟩, by simp⟩, Nat.zero_le _, ?_⟩
  rw [Dm_none]; rfl
set_option maxRecDepth 100000 in
theorem new_any (n : Nat) (h1 : 1 ≤ n) (h2 : n ≤ 4096) (w : World) : Calls Try.prog 9 #[.int .i64 (n : Int)] w (NewP n w) := by
  have i1 : decide ((n : Int) < 1) = false := decide_eq_false (by omega)
  have i2 : decide ((4096 : Int) < (n : Int)) = false := decide_eq_false (by omega)
  have hmk := mk_sectors n h2
  have hmm := @run_makeMap Try.prog
  go_enter Try.func9, Try.ntmps9
  go_wp2
  go_ret2
  have e0 : ∀ o o' o'' : Obj, (((w.alloc o).alloc o').alloc o'').heap[w.heap.size]? = some o := fun o o' o'' => (heap_prev _ _ _ (by simp; omega)).trans ((heap_prev _ _ _ (by simp)).trans (heap_last w o _ rfl))
  have e1 : ∀ o o' o'' : Obj, (((w.alloc o).alloc o').alloc o'').heap[w.heap.size + 1]? = some o' := fun o o' o'' => (heap_prev _ _ _ (by simp)).trans (heap_last _ o' _ (by simp))
  have e2 : ∀ o o' o'' : Obj, (((w.alloc o).alloc o').alloc o'').heap[w.heap.size + 1 + 1]? = some o'' := fun o o' o'' => heap_last _ o'' _ (by simp)
  refine ⟨w.heap.size + 1 + 1, w.heap.size, w.heap.size + 1, rfl, ⟨new_ok h1 h2, e2 _ _ _, ?_, made_empty n (e1 _ _ _), by omega⟩, (((Below.refl _ w).alloc (Nat.le_refl _) _).alloc (by simp) _).alloc (by simp; omega) _, by omega, Nat.le_refl _, by omega⟩
  rw [e0, zS_flat]
  rfl
set_option maxRecDepth 100000 in
theorem size_any {D L M : Nat} {d : Dk} {w : World} (h : DkAt w D L M d) : Calls Try.prog 25 #[pD D] w fun e w' => e = .returned (.int .i64 (d.n : Int)) ∧ w = w' := by
  have c0 := h.c0
  clear h
  go_enter Try.func25, Try.ntmps25
  go_wp2
  go_ret
  exact ⟨rfl, rfl⟩
set_option maxRecDepth 100000 in
theorem size_nil (w : World) : Calls Try.prog 25 #[.pointer none] w fun e w' => e = .returned (.int .i64 0) ∧ w = w' := by
  go_enter Try.func25, Try.ntmps25
  go_wp2
  go_ret
  exact ⟨rfl, rfl⟩
set_option maxRecDepth 100000 in
theorem waiting_any {D L M : Nat} {d : Dk} {w : World} (h : DkAt w D L M d) : Calls Try.prog 20 #[pD D] w fun e w' => e = .returned (.int .i64 ((keysW d.wt d.n).length : Int)) ∧ w = w' := by
  have c1 := h.c1
  have hm : w.ownsMap Try.prog 3 RV M d.n (Dm d.n d.wt) := h.hm
  rw [← size_Dm]
  clear h
  go_enter Try.func20, Try.ntmps20
  go_wp2_with (at_len; refine wpList_len_own _ rfl _ 53 rfl 3 74 Try.underlying53 RV M d.n (Dm d.n d.wt) rfl hm ?_)
  go_ret
  exact ⟨rfl, rfl⟩
set_option maxRecDepth 100000 in
theorem waiting_nil (w : World) : Calls Try.prog 20 #[.pointer none] w fun e w' => e = .returned (.int .i64 0) ∧ w = w' := by
  go_enter Try.func20, Try.ntmps20
  go_wp2
  go_ret
  exact ⟨rfl, rfl⟩
set_option maxRecDepth 100000 in
theorem dead_any {D L M : Nat} {d : Dk} {w : World} (h : DkAt w D L M d) : Calls Try.prog 16 #[pD D] w fun e w' => e = .returned (.bool d.dead) ∧ w = w' := by
  have c2 := h.c2
  clear h
  go_enter Try.func16, Try.ntmps16
  go_wp2
  go_ret
  exact ⟨rfl, rfl⟩
set_option maxRecDepth 100000 in
theorem dead_nil (w : World) : Calls Try.prog 16 #[.pointer none] w fun e w' => e = .returned (.bool false) ∧ w = w' := by
  go_enter Try.func16, Try.ntmps16
  go_wp2
  all_goals go_ret
  all_goals exact ⟨rfl, rfl⟩
/-- a field of the struct is another -/
theorem DkAt.setDead {w : World} {D L M : Nat} {d : Dk} (h : DkAt w D L M d) (b : Bool) : DkAt (w.setCell ⟨D, 2, none⟩ (.bool b)) D L M { d with dead := b } :=
  ⟨⟨h.ok.n1, h.ok.n2, h.ok.la, h.ok.wt, h.ok.f1, h.ok.f2⟩, by rw [set_heap h.hd]; rfl, (Below.heap_setCell _ _ _ _ h.ne.symm).trans h.hl, h.hm.heap (Below.heap_setCell _ _ _ _ h.nDM.symm), h.ne⟩
theorem DkAt.setFuse {w : World} {D L M : Nat} {d : Dk} (h : DkAt w D L M d) {f : Int} (h1 : -1 ≤ f) (h2 : f ≤ 9223372036854775807) : DkAt (w.setCell ⟨D, 3, none⟩ (.int .i64 f)) D L M { d with fuse := f } :=
  ⟨⟨h.ok.n1, h.ok.n2, h.ok.la, h.ok.wt, h1, h2⟩, by rw [set_heap h.hd]; rfl, (Below.heap_setCell _ _ _ _ h.ne.symm).trans h.hl, h.hm.heap (Below.heap_setCell _ _ _ _ h.nDM.symm), h.ne⟩
set_option maxRecDepth 100000 in
theorem kill_any {D L M : Nat} {d : Dk} {w : World} (h : DkAt w D L M d) : Calls Try.prog 17 #[pD D] w fun e w' => e = .returned (.tuple #[]) ∧ w' = w.setCell ⟨D, 2, none⟩ (.bool true) := by
  have c2 := h.c2
  have f2 := h.fr 2
  clear h
  go_enter Try.func17, Try.ntmps17
  go_wp2
  go_end0
  exact ⟨rfl, rfl⟩
set_option maxRecDepth 100000 in
theorem kill_nil (w : World) : Calls Try.prog 17 #[.pointer none] w fun e w' => e = .returned (.tuple #[]) ∧ w = w' := by
  go_enter Try.func17, Try.ntmps17
  go_wp2
  go_end0
  exact ⟨rfl, rfl⟩
set_option maxRecDepth 100000 in
theorem fuse_any {D L M : Nat} {d : Dk} {w : World} (h : DkAt w D L M d) (hd : d.dead = false) (n : Int) (h0 : 0 ≤ n) : Calls Try.prog 13 #[pD D, .int .i64 n] w fun e w' => e = .returned (.tuple #[]) ∧ w' = w.setCell ⟨D, 3, none⟩ (.int .i64 n) := by
  have c2 := h.c2
  rw [hd] at c2
  have c3 := h.c3
  have f3 := h.fr 3
  have i1 : decide (n < -1) = false := decide_eq_false (by omega)
  clear h hd
  go_enter Try.func13, Try.ntmps13
  go_wp2
  go_end0
  exact ⟨rfl, by rw [show max n (-1) = n by omega]⟩
set_option maxRecDepth 100000 in
theorem fuse_nil (w : World) (n : Int) : Calls Try.prog 13 #[.pointer none, .int .i64 n] w fun e w' => e = .returned (.tuple #[]) ∧ w = w' := by
  go_enter Try.func13, Try.ntmps13
  go_wp2
  all_goals exact bodyPost_ret (results_none rfl _ _ _) rfl ⟨rfl, rfl⟩
/-- whether sectors are all on the disk -/
theorem has_true {d : Dk} {a m : Int} (h1 : 0 ≤ a) (h2 : 0 ≤ m) (h3 : m ≤ (d.n : Int) - a) : d.has a m = true := by simp [Dk.has, h1, h2, h3]
set_option maxRecDepth 100000 in
theorem has_any {D L M : Nat} {d : Dk} {w : World} (h : DkAt w D L M d) (a m : Int) (ha : (Lit.int .i64 a).wf = true) : Calls Try.prog 40 #[pD D, .int .i64 a, .int .i64 m] w fun e w' => e = .returned (.bool (d.has a m)) ∧ w = w' := by
  have c0 := h.c0
  have hn1 : (1 : Int) ≤ (d.n : Int) := by have := h.ok.n1; omega
  have hn2 : (d.n : Int) ≤ 4096 := by have := h.ok.n2; omega
  have hw : 0 ≤ a → IntKind.i64.wrap ((d.n : Int) - a) = (d.n : Int) - a := fun h0 => IntWalk.i64_in _ (by
    have e2 : IntKind.i64.max = 9223372036854775807 := rfl
    simp only [Lit.wf, e2, Bool.and_eq_true, decide_eq_true_eq] at ha
    omega)
  have HB := Lib.hid (show (0 : Int) ≤ a → a ≤ 9223372036854775807 from fun _ => by
    have e2 : IntKind.i64.max = 9223372036854775807 := rfl
    simp only [Lit.wf, e2, Bool.and_eq_true, decide_eq_true_eq] at ha
    omega)
  clear h ha
  unfold Dk.has
  by_cases h1 : 0 ≤ a
  · have a1 := HB.out h1
    have hw' := hw h1
    clear hw HB
    have i1 : decide (0 ≤ a) = true := decide_eq_true h1
    by_cases h2 : 0 ≤ m
    · have i2 : decide (0 ≤ m) = true := decide_eq_true h2
      rw [i1, i2]
      by_cases h3 : m ≤ (d.n : Int) - a
      · have i3 : decide (m ≤ (d.n : Int) - a) = true := decide_eq_true h3
        rw [i3]
        go_enter Try.func40, Try.ntmps40
        go_wp2
        go_ret
        exact ⟨rfl, rfl⟩
      · have i3 : decide (m ≤ (d.n : Int) - a) = false := decide_eq_false h3
        rw [i3]
        go_enter Try.func40, Try.ntmps40
        go_wp2
        go_ret
        exact ⟨rfl, rfl⟩
    · have i2 : decide (0 ≤ m) = false := decide_eq_false h2
      rw [i1, i2]
      go_enter Try.func40, Try.ntmps40
      go_wp2
      go_ret
      exact ⟨rfl, rfl⟩
  · have i1 : decide (0 ≤ a) = false := decide_eq_false h1
    rw [i1]
    clear hw HB
    go_enter Try.func40, Try.ntmps40
    go_wp2
    go_ret
    exact ⟨rfl, rfl⟩
/-- the fuse burns -/
theorem burn_ok {d : Dk} (h : d.Ok) : d.burn.Ok := by
  have := h.f1; have := h.f2
  unfold Dk.burn
  split
  · exact ⟨h.n1, h.n2, h.la, h.wt, h.f1, h.f2⟩
  · split
    · exact ⟨h.n1, h.n2, h.la, h.wt, by dsimp only; omega, by dsimp only; omega⟩
    · exact h
def BurnP (D L M : Nat) (d : Dk) (w : World) (e : Ending) (w' : World) : Prop := e = .returned (.bool d.burnOk) ∧ DkAt w' D L M d.burn ∧ Frq (· = D) w w'
set_option maxRecDepth 100000 in
theorem burn_any {D L M : Nat} {d : Dk} {w : World} (h : DkAt w D L M d) : Calls Try.prog 42 #[pD D] w (BurnP D L M d w) := by
  have c3 := h.c3
  have f3 := h.fr 3
  have b1 := h.ok.f1
  have HB2 := Lib.hid h.ok.f2
  have HH := Lib.hid h
  unfold BurnP Dk.burnOk Dk.burn
  have K := Lib.hid (kill_any h)
  clear h
  obtain ⟨n, la, wt, dead, f⟩ := d
  dsimp only at *
  by_cases h0 : f = 0
  · subst h0
    go_enter Try.func42, Try.ntmps42
    go_wp2_with (go_at_call 17; refine (K.out).mono ?_; rintro e w' ⟨rfl, rfl⟩)
    go_ret
    exact ⟨rfl, HH.out.setDead true, (Frq.refl (· = D) w).setCell (p := ⟨D, 2, none⟩) (.inl rfl) _⟩
  · have i0 : (f == 0) = false := by simpa using h0
    by_cases h1 : 0 < f
    · have h2 : f ≤ 9223372036854775807 := HB2.out
      have i1 : decide (0 < f) = true := decide_eq_true h1
      go_enter Try.func42, Try.ntmps42
      go_wp2
      go_ret
      exact ⟨rfl, HH.out.setFuse (f := f - 1) (by omega) (by omega), (Frq.refl (· = D) w).setCell (p := ⟨D, 3, none⟩) (.inl rfl) _⟩
    · have i1 : decide (0 < f) = false := decide_eq_false h1
      go_enter Try.func42, Try.ntmps42
      go_wp2
      go_ret
      exact ⟨rfl, HH.out, Frq.refl _ _⟩
/-- fates in memory -/
abbrev FtsF (w : World) (F : Nat → Prop) (v : Value) (fs : List Int) : Prop := RowF w F v fs.length (fs.map (Value.int .i64))
set_option maxRecDepth 100000 in
theorem written_any (fs : List Int) (v : Value) (F : Nat → Prop) (i : Nat) (hi : i ≤ 4096) (hl : fs.length ≤ 1000000) (w : World) (h : FtsF w F v fs) : Calls Try.prog 39 #[v, .int .i64 (i : Int)] w fun e w' => e = .returned (.int .i64 (fateN fs i : Int)) ∧ w = w' := by
  obtain ⟨p, cap, rfl, hc, hp⟩ := h
  have hi0 : (0 : Int) ≤ (i : Int) := Int.natCast_nonneg _
  have hi1 : (i : Int) ≤ 4096 := by omega
  have hl1 : (fs.length : Int) ≤ 1000000 := by omega
  by_cases hlt : i < fs.length
  · obtain ⟨b, o, rfl, _, hcell⟩ := hp (by omega)
    have hw := fateN_le fs i
    have he : (fateN fs i : Int) = ((fs.getD i 0).tmod 65 + 65) % 65 := by
      unfold fateN
      rw [if_pos hlt]
      have h2 : -65 < (fs.getD i 0).tmod 65 := by
        have := Int.lt_tmod_of_pos (fs.getD i 0) (show (0:Int) < 65 by omega)
        omega
      rw [Int.tmod_eq_emod_of_nonneg (by omega)]
      omega
    rw [he]
    have hc1 := hcell i (.int .i64 (fs.getD i 0)) (by rw [List.getElem?_map, List.getD_eq_getElem?_getD, List.getElem?_eq_getElem hlt]; rfl)
    have b1 : -65 < (fs.getD i 0).tmod 65 := by
      have := Int.lt_tmod_of_pos (fs.getD i 0) (show (0:Int) < 65 by omega)
      omega
    have b2 : (fs.getD i 0).tmod 65 < 65 := Int.tmod_lt_of_pos _ (by omega)
    have i1 : decide ((fs.length : Int) ≤ (i : Int)) = false := decide_eq_false (by omega)
    have i2 : decide (fs.length ≤ i) = false := decide_eq_false (by omega)
    generalize fs.getD i 0 = x at *
    generalize fs.length = N at *
    clear hcell hp he hw
    go_enter Try.func39, Try.ntmps39
    go_wp2
    go_ret
    exact ⟨rfl, rfl⟩
  · have he : fateN fs i = 0 := if_neg hlt
    rw [he]
    have i2 : decide (fs.length ≤ i) = true := decide_eq_true (by omega)
    generalize fs.length = N at *
    clear hp
    go_enter Try.func39, Try.ntmps39
    go_wp2
    go_ret
    exact ⟨rfl, rfl⟩
end Go.Proofs.Ytabahkeologbmaa.Dk
