/- Contract of commit. -/
import Derived.Test.YtabahkeologbmaaJnCm
import Derived.Test.YtabahkeologbmaaDkI
namespace Go.Proofs.Ytabahkeologbmaa.Jn
open Go.RowKit Go.Shelf Go.Dk Go.Jn Go.Sha Go.Proofs.Ytabahkeologbmaa.Dk
attribute [local go_sem high, local simp high] zero_head

/-- a commit on a disk -/
def cmt (d : Dk) (a : Int) (ws : By) (h : Int) (hd : By) : Int × Dk :=
  if (Dk.wr d a ws).1 ≠ 0 then Dk.wr d a ws
  else if (Dk.sy (Dk.wr d a ws).2).1 ≠ 0 then Dk.sy (Dk.wr d a ws).2
  else if (Dk.wr (Dk.sy (Dk.wr d a ws).2).2 h hd).1 ≠ 0 then Dk.wr (Dk.sy (Dk.wr d a ws).2).2 h hd
  else Dk.sy (Dk.wr (Dk.sy (Dk.wr d a ws).2).2 h hd).2
structure CmI (B H J D L M : Nat) (v vn : Value) (num nx fs : Nat) (dead : Bool) (hd : By) (data : By) (F : Nat → Prop) (w : World) (d' : Dk) (W : World) : Prop where
  bj : W.heap[B]? = some (.cells #[pJ J] 29 (0, 0))
  bd : W.heap[B + 1]? = some (.cells #[vn] 40 (0, 0))
  bn : W.heap[B + 1 + 1]? = some (.cells #[.int .u64 (nx : Int)] 49 (0, 0))
  bh : W.heap[H]? = some (.cells (bc hd) 59 (0, 0))
  bf : W.heap[H + 1]? = some (.cells #[.int .i64 (fs : Int)] 3 (0, 0))
  js : W.heap[J]? = some (.cells #[pD D, .int .u64 (num : Int), v, .bool dead] 57 (0, 0))
  dk : DkAt W D L M d'
  row : BysF W F vn data
  fr : Frq (fun k => k = D ∨ k = L ∨ k = M) w W
def cmC (B H D : Nat) : Array Value := #[.func (.func 53) #[] #[.pointer (some ⟨B, 0, none⟩), .pointer (some ⟨H + 1, 0, none⟩), .pointer (some ⟨B + 1, 0, none⟩)], .func (.func 55) #[pD D] #[], .func (.func 56) #[] #[.pointer (some ⟨B, 0, none⟩), .pointer (some ⟨B + 1 + 1, 0, none⟩), .pointer (some ⟨H, 0, none⟩)], .func (.func 55) #[pD D] #[]]
def cmS (B H D : Nat) : List Stp3 := [⟨53, #[], #[.pointer (some ⟨B, 0, none⟩), .pointer (some ⟨H + 1, 0, none⟩), .pointer (some ⟨B + 1, 0, none⟩)]⟩, ⟨55, #[pD D], #[]⟩, ⟨56, #[], #[.pointer (some ⟨B, 0, none⟩), .pointer (some ⟨B + 1 + 1, 0, none⟩), .pointer (some ⟨H, 0, none⟩)]⟩, ⟨55, #[pD D], #[]⟩]
theorem cmS_ent (B H D : Nat) : ∀ (i : Nat) v, (cmS B H D)[i]? = some v → Enters Try.prog v.g := by
  intro i v h
  match i, h with
  | 0, h => obtain rfl := Option.some.inj h; exact enters_of Try.func53 (by kernel_rfl) rfl
  | 1, h => obtain rfl := Option.some.inj h; exact enters_of Try.func55 (by kernel_rfl) rfl
  | 2, h => obtain rfl := Option.some.inj h; exact enters_of Try.func56 (by kernel_rfl) rfl
  | 3, h => obtain rfl := Option.some.inj h; exact enters_of Try.func55 (by kernel_rfl) rfl
  | i + 4, h => simp [cmS] at h
/-- where a commit's blocks lie -/
structure CmB (B H J D L M : Nat) (F : Nat → Prop) (w : World) : Prop where
  h : B + 3 ≤ H
  d : D < B ∧ L < B ∧ M < B
  j : J ≠ D ∧ J ≠ L ∧ J ≠ M
  f : ∀ x, F x → x < w.heap.size ∧ x ≠ D ∧ x ≠ L ∧ x ≠ M
theorem CmI.step {B H J D L M : Nat} {v vn : Value} {num nx fs : Nat} {dead : Bool} {hd : By} {data : By} {F : Nat → Prop} {w : World} {d' d2 : Dk} {W W' : World} (h : CmI B H J D L M v vn num nx fs dead hd data F w d' W) (q : CmB B H J D L M F w) (hd2 : DkAt W' D L M d2) (hf : Frq (fun k => k = D ∨ k = L ∨ k = M) W W') :
    CmI B H J D L M v vn num nx fs dead hd data F w d2 W' := by
  have hh := q.h; have hdd := q.d; have hj := q.j
  have same : ∀ b, b < W.heap.size → b ≠ D → b ≠ L → b ≠ M → W'.heap[b]? = W.heap[b]? := fun b h1 h2 h3 h4 => hf.block b h1 (fun e => by omega)
  exact ⟨(same _ (lt_of_heap h.bj) (by omega) (by omega) (by omega)).trans h.bj, (same _ (lt_of_heap h.bd) (by omega) (by omega) (by omega)).trans h.bd, (same _ (lt_of_heap h.bn) (by omega) (by omega) (by omega)).trans h.bn, (same _ (lt_of_heap h.bh) (by omega) (by omega) (by omega)).trans h.bh, (same _ (lt_of_heap h.bf) (by omega) (by omega) (by omega)).trans h.bf, (same _ (lt_of_heap h.js) (by omega) (by omega) (by omega)).trans h.js, hd2,
    h.row.kept (fun x hx => ⟨hx, same x (Nat.lt_of_lt_of_le (q.f x hx).1 h.fr.size) (q.f x hx).2.1 (q.f x hx).2.2.1 (q.f x hx).2.2.2⟩), h.fr.trans hf⟩
theorem CmI.to {B H J D L M : Nat} {v vn : Value} {num nx fs : Nat} {dead : Bool} {hd : By} {data : By} {F : Nat → Prop} {w : World} {d' : Dk} {W W' : World} (h : CmI B H J D L M v vn num nx fs dead hd data F w d' W) (q : CmB B H J D L M F w) (hb : Below W.heap.size W W') :
    CmI B H J D L M v vn num nx fs dead hd data F w d' W' := h.step q (h.dk.below hb h.dk.ltD h.dk.ltL h.dk.ltM) (Frq.ofBelow hb)
def CmK (B H J D L M : Nat) (v vn : Value) (num nx fs : Nat) (dead : Bool) (hd : By) (data : By) (F : Nat → Prop) (w : World) (d : Dk) (k : Nat) (W : World) : Prop :=
  (∃ d', CmI B H J D L M v vn num nx fs dead hd data F w d' W ∧
  (match k with
  | 0 => d' = d
  | 1 => (Dk.wr d (2 + (fs : Int)) (padS (data.drop (64 * fs)))).1 = 0 ∧ d' = (Dk.wr d (2 + (fs : Int)) (padS (data.drop (64 * fs)))).2
  | 2 => (Dk.wr d (2 + (fs : Int)) (padS (data.drop (64 * fs)))).1 = 0 ∧ (Dk.sy (Dk.wr d (2 + (fs : Int)) (padS (data.drop (64 * fs)))).2).1 = 0 ∧ d' = (Dk.sy (Dk.wr d (2 + (fs : Int)) (padS (data.drop (64 * fs)))).2).2
  | 3 => (Dk.wr d (2 + (fs : Int)) (padS (data.drop (64 * fs)))).1 = 0 ∧ (Dk.sy (Dk.wr d (2 + (fs : Int)) (padS (data.drop (64 * fs)))).2).1 = 0 ∧ (Dk.wr (Dk.sy (Dk.wr d (2 + (fs : Int)) (padS (data.drop (64 * fs)))).2).2 ((nx % 2 : Nat) : Int) hd).1 = 0 ∧ d' = (Dk.wr (Dk.sy (Dk.wr d (2 + (fs : Int)) (padS (data.drop (64 * fs)))).2).2 ((nx % 2 : Nat) : Int) hd).2
  | _ => (cmt d (2 + (fs : Int)) (padS (data.drop (64 * fs))) ((nx % 2 : Nat) : Int) hd).1 = 0 ∧ d' = (cmt d (2 + (fs : Int)) (padS (data.drop (64 * fs))) ((nx % 2 : Nat) : Int) hd).2)) ∧ W.heap[H + 1 + 1]? = some (.cells (cmC B H D) 63 (0, 0))
def CmO (J D L M : Nat) (d : Dk) (r : Int × Dk) (w : World) (n : Int) (W : World) : Prop := n = r.1 ∧ DkAt W D L M r.2 ∧ Frq (fun k => k = D ∨ k = L ∨ k = M) w W
theorem cmS_step {B H J D L M : Nat} {np : Option Addr} {nc : Nat} {v : Value} {num nx fs : Nat} {dead : Bool} {hd : By} {data : By} {F : Nat → Prop} {w : World} {d : Dk} (q : CmB B H J D L M F w) (hnx : nx < 18446744073709551616) (hh : hd.length = 64) (hfs : 64 * fs < data.length) (hN2 : data.length ≤ 300000) : ∀ k s W, (cmS B H D)[k]? = some s → CmK B H J D L M v (.slice np data.length nc) num nx fs dead hd data F w d k W →
    Calls Try.prog s.g (s.first ++ s.caps) W (StepP (CmK B H J D L M v (.slice np data.length nc) num nx fs dead hd data F w d (k + 1)) (CmO J D L M d (cmt d (2 + (fs : Int)) (padS (data.drop (64 * fs))) ((nx % 2 : Nat) : Int) hd) w)) := by
  intro k s W h hI
  have hh2 := q.h; have hdd := q.d; have hj := q.j
  have q6 : ∀ {W W' : World}, W.heap[H + 1 + 1]? = some (.cells (cmC B H D) 63 (0, 0)) → Frq (fun k => k = D ∨ k = L ∨ k = M) W W' → W'.heap[H + 1 + 1]? = some (.cells (cmC B H D) 63 (0, 0)) := fun h1 h2 => (h2.block _ (lt_of_heap h1) (by omega)).trans h1
  match k, h, hI with
  | 0, h, hI =>
    obtain rfl := Option.some.inj h
    obtain ⟨⟨d', hC, hd'⟩, hq⟩ := hI
    have hd' : d' = d := hd'
    subst hd'
    refine (commit1_any (Bj := B) (Bf := H + 1) (Bd := B + 1) hC.dk np data.length nc fs data F rfl hC.bj hC.bf hC.bd hC.js ⟨by omega, by omega, by omega, by omega⟩ hC.row (fun x hx => Nat.lt_of_lt_of_le (q.f x hx).1 hC.fr.size) hfs hN2).mono ?_
    rintro e W' ⟨rfl, hd1, hf1⟩
    have hf2 : Frq (fun k => k = D ∨ k = L ∨ k = M) W W' := hf1.mono (fun k e => by omega)
    by_cases h0 : (Dk.wr d' (2 + (fs : Int)) (padS (data.drop (64 * fs)))).1 = 0
    · exact .inl ⟨by rw [h0], ⟨_, hC.step q hd1 hf2, h0, rfl⟩, q6 hq hf2⟩
    · refine .inr ⟨_, h0, rfl, ?_⟩
      unfold cmt
      rw [if_pos h0]
      exact ⟨rfl, hd1, hC.fr.trans hf2⟩
  | 1, h, hI =>
    obtain rfl := Option.some.inj h
    obtain ⟨⟨d', hC, h1, hd'⟩, hq⟩ := hI
    subst hd'
    refine (sync_gen hC.dk).mono ?_
    rintro e W' ⟨rfl, hd1, hf2⟩
    by_cases h0 : (Dk.sy (Dk.wr d (2 + (fs : Int)) (padS (data.drop (64 * fs)))).2).1 = 0
    · exact .inl ⟨by rw [h0], ⟨_, hC.step q hd1 hf2, h1, h0, rfl⟩, q6 hq hf2⟩
    · refine .inr ⟨_, h0, rfl, ?_⟩
      unfold cmt
      rw [if_neg (fun h => h h1), if_pos h0]
      exact ⟨rfl, hd1, hC.fr.trans hf2⟩
  | 2, h, hI =>
    obtain rfl := Option.some.inj h
    obtain ⟨⟨d', hC, h1, h2, hd'⟩, hq⟩ := hI
    subst hd'
    refine (commit2_any (Bj := B) (Bn := B + 1 + 1) (Bh := H) hC.dk nx hnx hd hh hC.bj hC.bn hC.bh hC.js ⟨by omega, by omega, by omega, by omega⟩).mono ?_
    rintro e W' ⟨rfl, hd1, hf1⟩
    have hf2 : Frq (fun k => k = D ∨ k = L ∨ k = M) W W' := hf1.mono (fun k e => by omega)
    by_cases h0 : (Dk.wr (Dk.sy (Dk.wr d (2 + (fs : Int)) (padS (data.drop (64 * fs)))).2).2 ((nx % 2 : Nat) : Int) hd).1 = 0
    · exact .inl ⟨by rw [h0], ⟨_, hC.step q hd1 hf2, h1, h2, h0, rfl⟩, q6 hq hf2⟩
    · refine .inr ⟨_, h0, rfl, ?_⟩
      unfold cmt
      rw [if_neg (fun h => h h1), if_neg (fun h => h h2), if_pos h0]
      exact ⟨rfl, hd1, hC.fr.trans hf2⟩
  | 3, h, hI =>
    obtain rfl := Option.some.inj h
    obtain ⟨⟨d', hC, h1, h2, h3, hd'⟩, hq⟩ := hI
    subst hd'
    refine (sync_gen hC.dk).mono ?_
    rintro e W' ⟨rfl, hd1, hf2⟩
    have hc : cmt d (2 + (fs : Int)) (padS (data.drop (64 * fs))) ((nx % 2 : Nat) : Int) hd = Dk.sy (Dk.wr (Dk.sy (Dk.wr d (2 + (fs : Int)) (padS (data.drop (64 * fs)))).2).2 ((nx % 2 : Nat) : Int) hd).2 := by
      unfold cmt
      rw [if_neg (fun h => h h1), if_neg (fun h => h h2), if_neg (fun h => h h3)]
    rw [← hc] at hd1 ⊢
    by_cases h0 : (cmt d (2 + (fs : Int)) (padS (data.drop (64 * fs))) ((nx % 2 : Nat) : Int) hd).1 = 0
    · exact .inl ⟨by rw [h0], ⟨_, hC.step q hd1 hf2, h0, rfl⟩, q6 hq hf2⟩
    · exact .inr ⟨_, h0, rfl, rfl, hd1, hC.fr.trans hf2⟩
  | k + 4, h, _ => simp [cmS] at h
theorem CmK.cells {B H J D L M : Nat} {v vn : Value} {num nx fs : Nat} {dead : Bool} {hd : By} {data : By} {F : Nat → Prop} {w : World} {d : Dk} {k : Nat} {W : World} (h : CmK B H J D L M v vn num nx fs dead hd data F w d k W) : ∀ i s, (cmS B H D)[i]? = some s → W.cell? ⟨H + 1 + 1, i, none⟩ = some s.val := by
  intro i s hs
  have hq := h.2
  match i, hs with
  | 0, hs => obtain rfl := Option.some.inj hs; exact cell_of_arr hq 0
  | 1, hs => obtain rfl := Option.some.inj hs; exact cell_of_arr hq 1
  | 2, hs => obtain rfl := Option.some.inj hs; exact cell_of_arr hq 2
  | 3, hs => obtain rfl := Option.some.inj hs; exact cell_of_arr hq 3
  | i + 4, hs => simp [cmS] at hs
def CommitP (D L M : Nat) (r : Int × Dk) (w : World) (e : Ending) (w' : World) : Prop := e = .returned (.int .i64 r.1) ∧ DkAt w' D L M r.2 ∧ Frq (fun k => k = D ∨ k = L ∨ k = M) w w'
set_option maxRecDepth 100000 in
set_option maxHeartbeats 1600000 in
theorem commit_any {w : World} {J D L M base : Nat} {v : Value} {rs : List By} {num : Nat} {dead : Bool} {d : Dk} (hj : JnAt w J D base v rs num dead) (h : DkAt w D L M d) (hJ : J ≠ D ∧ J ≠ L ∧ J ≠ M) (np : Option Addr) (nc : Nat) (data : By) (F : Nat → Prop) (hrow : BysF w F (.slice np data.length nc) data) (hF : ∀ x, F x → x < w.heap.size ∧ x ≠ D ∧ x ≠ L ∧ x ≠ M)
    (hnum : num + 1 < 18446744073709551616) (hdl : (dat rs).length < data.length) (hN : data.length ≤ 300000)
    (r : Int × Dk) (hr : cmt d (2 + (((dat rs).length / 64 : Nat) : Int)) (padS (data.drop (64 * ((dat rs).length / 64)))) (((num + 1) % 2 : Nat) : Int) (headB (num + 1) data.length) = r) :
    Calls Try.prog 37 #[pJ J, .slice np data.length nc] w (CommitP D L M r w) := by
  obtain ⟨vp, vc, rfl⟩ := own_slice hj.row
  obtain ⟨nx, hnx⟩ : ∃ nx, num + 1 = nx := ⟨_, rfl⟩
  rw [hnx] at hnum hr
  have HNX := Lib.hid hnx
  have HJ := Lib.hid hj.hj
  have HD := Lib.hid h
  have HR := Lib.hid hrow
  have HF := Lib.hid hF
  have HJJ := Lib.hid hJ
  obtain ⟨w1, hw1⟩ : ∃ w1, ((w.alloc (.cells #[pJ J] 29)).alloc (.cells #[.slice np data.length nc] 40)).alloc (.cells #[.int .u64 (nx : Int)] 49) = w1 := ⟨_, rfl⟩
  have HW1 := Lib.hid hw1
  have HB1 := Lib.hid (show Below w.heap.size w w1 from by rw [← hw1]; exact (((Below.refl _ _).alloc (Nat.le_refl _) _).alloc (by simp) _).alloc (by simp <;> omega) _)
  have HS1 := Lib.hid (show w1.heap.size = w.heap.size + 3 from by rw [← hw1]; simp)
  have HX0 := Lib.hid (show w1.heap[w.heap.size]? = some (.cells #[pJ J] 29 (0, 0)) from by rw [← hw1]; exact (heap_prev _ _ _ (by simp <;> omega)).trans ((heap_prev _ _ _ (by simp)).trans (heap_last _ _ _ rfl)))
  have HX1 := Lib.hid (show w1.heap[w.heap.size + 1]? = some (.cells #[.slice np data.length nc] 40 (0, 0)) from by rw [← hw1]; exact (heap_prev _ _ _ (by simp)).trans (heap_last _ _ _ (by simp)))
  have HX2 := Lib.hid (show w1.heap[w.heap.size + 1 + 1]? = some (.cells #[.int .u64 (nx : Int)] 49 (0, 0)) from by rw [← hw1]; exact heap_last _ _ _ (by simp))
  have HH := Lib.hid (fun W => headOf_any nx data.length hnum (by omega) W)
  have c1 := cell_alloc_l (.cells #[.slice np data.length nc] 40) (cell_alloc_l (.cells #[pJ J] 29) (show w.cell? ⟨J, 1, none⟩ = some (.int .u64 (num : Int)) from cell_of_arr hj.hj 1))
  have HRR := Lib.hid hr
  have hnI : IntKind.u64.wrap ((num : Int) + 1) = (nx : Int) := by rw [u64_in (by omega) (by omega)]; omega
  have hlI : IntKind.u64.wrap (data.length : Int) = (data.length : Int) := u64_in (by omega) (by omega)
  have l0 : (0 : Int) ≤ ((dat rs).length : Int) := Int.natCast_nonneg _
  have l1 : ((dat rs).length : Int) ≤ 300000 := by omega
  have HN := Lib.hid hnum
  have HDL := Lib.hid hdl
  clear hj h hrow hF hw1 hnum hdl hJ hr hnx
  go_enter Try.func37, Try.ntmps37
  go_wp2_with fail
  rw [HW1.out]
  refine (HH.out w1).mono ?_
  rintro e w2 ⟨rfl, hb2⟩
  have HB2 := Lib.hid hb2
  have HHL := Lib.hid (headB_len nx data.length)
  obtain ⟨hd, hhd⟩ : ∃ hd, headB nx data.length = hd := ⟨_, rfl⟩
  rw [hhd]
  have HHD := Lib.hid hhd
  have hhl : hd.length = 64 := by rw [← hhd]; exact HHL.out
  have c3 := cell_alloc_l (.cells (bc hd) 59) (show w2.cell? ⟨w.heap.size, 0, none⟩ = some (pJ J) from cell_of_arr ((hb2.block _ (lt_of_heap HX0.out)).trans HX0.out) 0)
  have c4 := cell_alloc_l (.cells (bc hd) 59) (show w2.cell? ⟨J, 2, none⟩ = some (.slice vp (dat rs).length vc) from cell_of_arr ((hb2.block _ (Nat.lt_of_lt_of_le (lt_of_heap HJ.out) HB1.out.size)).trans ((HB1.out.block _ (lt_of_heap HJ.out)).trans HJ.out)) 2)
  clear hb2 c1 hhd
  go_wp2_with ((with_reducible refine wl_storeL (ty := 59) w2.heap.size (bc hd) ?_ ?_ ?_ ?_ ?_ ?_ ?_); (· rfl); (· rfl); (· rfl); (· rw [bc_size, hhl]; exact info_head); (· rw [bc_size, bc_size, hhl, zero64_len]); (· exact bc_one _))
  obtain ⟨fs, hfs⟩ : ∃ fs, (dat rs).length / 64 = fs := ⟨_, rfl⟩
  have hfI : ((dat rs).length : Int) / 64 = (fs : Int) := by omega
  rw [hfI]
  obtain ⟨w5, hw5⟩ : ∃ w5, (w2.alloc (.cells (bc hd) 59)).alloc (.cells #[.int .i64 (fs : Int)] 3) = w5 := ⟨_, rfl⟩
  rw [hw5]
  have HZ5 := Lib.hid (show w5.heap.size = w2.heap.size + 1 + 1 from by rw [← hw5]; simp)
  have hb5 : Below w2.heap.size w2 w5 := by rw [← hw5]; exact ((Below.refl _ _).alloc (Nat.le_refl _) _).alloc (by simp) _
  have hb15 : Below w1.heap.size w1 w5 := HB2.out.trans (hb5.mono HB2.out.size)
  have HB5 := Lib.hid (show Below w.heap.size w w5 from HB1.out.trans (hb15.mono HB1.out.size))
  have hs1 := HS1.out
  have hs2 := HB2.out.size
  have hHD := HD.out
  have HI5 := Lib.hid (show CmI w.heap.size w2.heap.size J D L M (.slice vp (dat rs).length vc) (.slice np data.length nc) num nx fs dead hd data F w5 d w5 from
    ⟨(hb15.block _ (by omega)).trans HX0.out, (hb15.block _ (by omega)).trans HX1.out, (hb15.block _ (by omega)).trans HX2.out, by rw [← hw5]; exact (heap_prev _ _ _ (by simp)).trans (heap_last _ _ _ rfl), by rw [← hw5]; exact heap_last _ _ _ (by simp),
      (HB5.out.block _ (lt_of_heap HJ.out)).trans HJ.out, hHD.below HB5.out hHD.ltD hHD.ltL hHD.ltM, HR.out.kept (fun x hx => ⟨hx, HB5.out.block x (HF.out x hx).1⟩), Frq.refl _ _⟩)
  have HQ := Lib.hid (show CmB w.heap.size w2.heap.size J D L M F w5 from ⟨by omega, ⟨hHD.ltD, hHD.ltL, hHD.ltM⟩, HJJ.out, fun x hx => ⟨Nat.lt_of_lt_of_le (HF.out x hx).1 HB5.out.size, (HF.out x hx).2⟩⟩)
  have HST := Lib.hid (cmS_step (np := np) (nc := nc) (v := .slice vp (dat rs).length vc) (num := num) (dead := dead) (d := d) HQ.out (nx := nx) HN.out hhl (show 64 * fs < data.length by have := HDL.out; omega) hN)
  have hr := HRR.out
  rw [HHD.out, hfs] at hr
  have HRC := Lib.hid hr
  rw [hr] at HST
  have HEND := Lib.hid (show ∀ e w7, StepP (CmK w.heap.size w2.heap.size J D L M (.slice vp (dat rs).length vc) (.slice np data.length nc) num nx fs dead hd data F w5 d (cmS w.heap.size w2.heap.size D).length) (CmO J D L M d r w5) e w7 → e = .returned (.int .i64 r.1) ∧ DkAt w7 D L M r.2 ∧ Frq (fun k => k = D ∨ k = L ∨ k = M) w5 w7 from fun e w7 hq => by
    rcases hq with ⟨rfl, ⟨d', hC, h0, rfl⟩, _⟩ | ⟨n, _, rfl, rfl, h1, h2⟩
    · rw [HRC.out] at h0 hC
      exact ⟨by rw [h0], hC.dk, hC.fr⟩
    · exact ⟨rfl, h1, h2⟩)
  have HS5 := Lib.hid (show Frq (fun k => k = D ∨ k = L ∨ k = M) w5 w5.drew from (Frq.refl _ _).drew)
  clear hw5 hb5 hb15 hs1 hs2 hHD hr c3 c4 hfs hfI
  refine wp_region_held (S := Frq (fun k => k = D ∨ k = L ∨ k = M) w5) (by kernel_rfl) ?_
  change wpAnyH _ _ _ _ _ _ _ _ (World.drew _)
  refine tkH (i := 0) (oi := ⟨some 24, .makeFunc (.func 53) #[] #[.tmp 2, .tmp 7, .tmp 3], _, _, _, none⟩) (.func (.func 53) #[] #[.pointer (some ⟨w.heap.size, 0, none⟩), .pointer (some ⟨w2.heap.size + 1, 0, none⟩), .pointer (some ⟨w.heap.size + 1, 0, none⟩)]) rfl (by kernel_rfl) (fun _ _ _ h => h) (yH rfl (fun w3 h3 => by go_simp)) HS5.out ?_
  simp only [Act.put, s1, s2, s3]
  refine tkH (i := 1) (oi := ⟨some 25, .load 29 (.tmp 2), _, _, _, none⟩) (pJ J) rfl (by kernel_rfl) (fun _ _ _ h => h) (yH rfl (fun w3 h3 => by have q : w3.cell? ⟨w.heap.size, 0, none⟩ = some (pJ J) := cell_of_arr ((h3.block _ (lt_of_heap HI5.out.bj) (by have := HQ.out.d; omega)).trans HI5.out.bj) 0; go_simp)) HS5.out ?_
  simp only [Act.put, s1, s2, s3]
  refine tkH (i := 2) (oi := ⟨some 26, .nilCheck (.tmp 25), _, _, _, none⟩) (pJ J) rfl (by kernel_rfl) (fun _ _ _ h => h) (yH rfl (fun w3 h3 => by go_simp)) HS5.out ?_
  simp only [Act.put, s1, s2, s3]
  refine tkH (i := 3) (oi := ⟨some 27, .fieldAddr 57 (.tmp 26) 0, _, _, _, none⟩) (pJ J) rfl (by kernel_rfl) (fun _ _ _ h => h) (yH rfl (fun w3 h3 => by go_simp)) HS5.out ?_
  simp only [Act.put, s1, s2, s3]
  refine tkH (i := 4) (oi := ⟨some 28, .load 24 (.tmp 27), _, _, _, none⟩) (pD D) rfl (by kernel_rfl) (fun _ _ _ h => h) (yH rfl (fun w3 h3 => by have q : w3.cell? ⟨J, 0, none⟩ = some (pD D) := cell_of_arr ((h3.block _ (lt_of_heap HI5.out.js) (by have := HQ.out.j; omega)).trans HI5.out.js) 0; go_simp)) HS5.out ?_
  simp only [Act.put, s1, s2, s3]
  refine tkH (i := 5) (oi := ⟨some 29, .makeFunc (.func 55) #[.tmp 28] #[], _, _, _, none⟩) (.func (.func 55) #[pD D] #[]) rfl (by kernel_rfl) (fun _ _ _ h => h) (yH rfl (fun w3 h3 => by go_simp)) HS5.out ?_
  simp only [Act.put, s1, s2, s3]
  refine tkH (i := 6) (oi := ⟨some 30, .makeFunc (.func 56) #[] #[.tmp 2, .tmp 5, .tmp 6], _, _, _, none⟩) (.func (.func 56) #[] #[.pointer (some ⟨w.heap.size, 0, none⟩), .pointer (some ⟨w.heap.size + 1 + 1, 0, none⟩), .pointer (some ⟨w2.heap.size, 0, none⟩)]) rfl (by kernel_rfl) (fun _ _ _ h => h) (yH rfl (fun w3 h3 => by go_simp)) HS5.out ?_
  simp only [Act.put, s1, s2, s3]
  refine tkH (i := 7) (oi := ⟨some 31, .load 29 (.tmp 2), _, _, _, none⟩) (pJ J) rfl (by kernel_rfl) (fun _ _ _ h => h) (yH rfl (fun w3 h3 => by have q : w3.cell? ⟨w.heap.size, 0, none⟩ = some (pJ J) := cell_of_arr ((h3.block _ (lt_of_heap HI5.out.bj) (by have := HQ.out.d; omega)).trans HI5.out.bj) 0; go_simp)) HS5.out ?_
  simp only [Act.put, s1, s2, s3]
  refine tkH (i := 8) (oi := ⟨some 32, .nilCheck (.tmp 31), _, _, _, none⟩) (pJ J) rfl (by kernel_rfl) (fun _ _ _ h => h) (yH rfl (fun w3 h3 => by go_simp)) HS5.out ?_
  simp only [Act.put, s1, s2, s3]
  refine tkH (i := 9) (oi := ⟨some 33, .fieldAddr 57 (.tmp 32) 0, _, _, _, none⟩) (pJ J) rfl (by kernel_rfl) (fun _ _ _ h => h) (yH rfl (fun w3 h3 => by go_simp)) HS5.out ?_
  simp only [Act.put, s1, s2, s3]
  refine tkH (i := 10) (oi := ⟨some 34, .load 24 (.tmp 33), _, _, _, none⟩) (pD D) rfl (by kernel_rfl) (fun _ _ _ h => h) (yH rfl (fun w3 h3 => by have q : w3.cell? ⟨J, 0, none⟩ = some (pD D) := cell_of_arr ((h3.block _ (lt_of_heap HI5.out.js) (by have := HQ.out.j; omega)).trans HI5.out.js) 0; go_simp)) HS5.out ?_
  simp only [Act.put, s1, s2, s3]
  refine tkH (i := 11) (oi := ⟨some 35, .makeFunc (.func 55) #[.tmp 34] #[], _, _, _, none⟩) (.func (.func 55) #[pD D] #[]) rfl (by kernel_rfl) (fun _ _ _ h => h) (yH rfl (fun w3 h3 => by go_simp)) HS5.out ?_
  simp only [Act.put, s1, s2, s3]
  refine rdH (i := 12) (o := ⟨some 36, .buildSlice 84 4 #[(0, .tmp 24), (1, .tmp 29), (2, .tmp 30), (3, .tmp 35)], _, _, _, none⟩) (by kernel_rfl) rfl (fun K' hK => ?_)
  go_simp
  have HS6 := Lib.hid (show Frq (fun k => k = D ∨ k = L ∨ k = M) w5 (w5.drew.alloc (.cells (cmC w.heap.size w2.heap.size D) 63)) from HS5.out.alloc _)
  refine hK.out _ _ HS6.out (fun _ => ?_)
  clear hK K'
  try (simp only [Act.put, s1, s2, s3])
  have HB6 := Lib.hid (show Below w5.heap.size w5 (w5.drew.alloc (.cells (cmC w.heap.size w2.heap.size D) 63)) from (show Below w5.heap.size w5 w5.drew from ⟨rfl, rfl, rfl, Nat.le_refl _, fun _ _ => rfl⟩).alloc (Nat.le_refl _) _)
  have HK := Lib.hid (show CmK w.heap.size w2.heap.size J D L M (.slice vp (dat rs).length vc) (.slice np data.length nc) num nx fs dead hd data F w5 d 0 (w5.drew.alloc (.cells (cmC w.heap.size w2.heap.size D) 63)) from ⟨⟨d, HI5.out.to HQ.out HB6.out, rfl⟩, heap_last _ _ _ (by have := HZ5.out; show _ = w5.heap.size; omega)⟩)
  refine rdH (i := 13) (o := ⟨some 37, .call ⟨.value (.func 26), #[.tmp 36], _⟩, _, _, _, none⟩) (by kernel_rfl) rfl (fun K' hK => ?_)
  go_simp
  rw [HZ5.out]
  refine (inRow_any (cmS w.heap.size w2.heap.size D) (w2.heap.size + 1 + 1) (CmK w.heap.size w2.heap.size J D L M (.slice vp (dat rs).length vc) (.slice np data.length nc) num nx fs dead hd data F w5 d) (CmO J D L M d r w5) _ (by show 4 ≤ 100; omega) (fun _ _ hk => hk.cells) (cmS_ent _ _ _) HST.out HK.out).mono ?_
  rintro e w7 hq
  have hq2 : e = .returned (.int .i64 r.1) ∧ DkAt w7 D L M r.2 ∧ Frq (fun k => k = D ∨ k = L ∨ k = M) w5 w7 := HEND.out e w7 hq
  obtain ⟨rfl, hd7, hf7⟩ := hq2
  have HD7 := Lib.hid hd7
  have HF7 := Lib.hid hf7
  clear hq hd7 hf7
  refine hK.out _ _ HF7.out (fun _ => ?_)
  clear hK K'
  try (simp only [Act.put, s1, s2, s3])
  refine tkH (i := 14) (oi := ⟨some 4, .assign (.tmp 37), _, _, _, none⟩) (.int .i64 r.1) rfl (by kernel_rfl) (fun _ _ _ h => h) (yH rfl (fun w3 h3 => by go_simp)) HF7.out ?_
  simp only [Act.put, s1, s2, s3]
  refine wpAnyH_done (by kernel_rfl) ?_ _
  go_wp2
  go_ret
  exact ⟨rfl, HD7.out, (Frq.ofBelow HB5.out).trans HF7.out⟩
end Go.Proofs.Ytabahkeologbmaa.Jn
