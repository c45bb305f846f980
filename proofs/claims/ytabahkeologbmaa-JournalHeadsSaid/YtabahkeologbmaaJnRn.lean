/- Runs that came in, and whether they are too many. -/
import Derived.Test.YtabahkeologbmaaJnOpen
namespace Go.Proofs.Ytabahkeologbmaa.Jn
open Go.ChangeShapes Go.WideShapes Go.ChangeAt Go.RowKit Go.ChangeMaps Go.Deep Go.Dk Go.Proofs.Ytabahkeologbmaa.Dk

theorem cellsRun : Try.prog.cellsOf 37 = 3 := by kernel_rfl
/-- a run -/
structure Rn where
  L : List By
  fuse : Int
  fs : List Int
  vl : Value
  vf : Value
  deriving Inhabited
def rnC (a : Rn) : List Value := [a.vl, .int .i64 a.fuse, a.vf]
structure RnOk (W : World) (a : Rn) : Prop where
  l : BsF W (· < W.heap.size) a.vl a.L
  f : (Lit.int .i64 a.fuse).wf = true
  t : ∃ p cap, a.vf = .slice p a.fs.length cap ∧ FtsF W (· < W.heap.size) a.vf a.fs
structure RunsF (W : World) (p : Option Addr) (L : List Rn) : Prop where
  ok : ∀ a ∈ L, RnOk W a
  at_ : 0 < L.length → ∃ b o, p = some ⟨b, o, none⟩ ∧ b < W.heap.size ∧ ∀ j a, L[j]? = some a → ∀ i u, (rnC a)[i]? = some u → W.cell? ⟨b, o + j * 3 + i, none⟩ = some u
section
variable {H : Type} {enc : TypeId × Value → H} {W : World} {base : Nat} {sp : Nat → Bool} {held : Bool}
theorem runU : ∃ f0 f1 f2 : Field, Try.prog.underlying 37 = some (.struct #[f0, f1, f2]) ∧ f0.offset = 0 ∧ f1.offset = 1 ∧ f2.offset = 2 ∧ f0.type = 28 ∧ f1.type = 3 ∧ f2.type = 35 :=
  ⟨_, _, _, Try.underlying37, rfl, rfl, rfl, rfl, rfl, rfl⟩
set_option maxRecDepth 100000 in
theorem run_each (n : Nat) (cs : List Value) (y : DataW H × List MemPlace) (h : DataW.trod enc Try.prog W base sp held n 37 cs = some y) (hl : cs.length = 3) : ∃ x : Rn, cs = rnC x ∧ RnOk W x := by
  obtain ⟨f0, f1, f2, hu, o0, o1, o2, t0, t1, t2⟩ := runU
  obtain ⟨xs, m, _, _, _, hn, hel⟩ := DataW.trod_struct hu h
  match cs, hl with
  | [a, b, c], _ =>
    have e0 := hel 0 f0 rfl
    have e1 := hel 1 f1 rfl
    have e2 := hel 2 f2 rfl
    rw [t0, o0, cellsBytess, List.getElem?_eq_getElem (by rw [hn]; show _ < 3; omega)] at e0
    rw [t1, o1, cellsInt, List.getElem?_eq_getElem (by rw [hn]; show _ < 3; omega)] at e1
    rw [t2, o2, cellsInts, List.getElem?_eq_getElem (by rw [hn]; show _ < 3; omega)] at e2
    obtain ⟨n1, g1, _, w1⟩ := DataW.trod_int Try.underlying3 e1
    have q1 : b = .int .i64 n1 := by simpa using g1
    obtain ⟨l, p3, c3, hv3, hb3⟩ := rows_of e0
    obtain ⟨fs, p4, c4, hv4, _, hf4⟩ := ints_of Try.underlying35 Try.underlying3 cellsInt e2
    refine ⟨⟨l, n1, fs, a, c⟩, ?_, ⟨hb3, w1, ⟨p4, c4, hv4, hf4⟩⟩⟩
    unfold rnC
    rw [q1]
set_option maxRecDepth 100000 in
theorem open_runs {r : Reach} {b0 : Nat} {v : Value} {d : DataW H} {pl : List MemPlace} (hv : Value.okWide Try.prog W r b0 22 v) (h : DataW.Trod enc Try.prog W base sp held 22 v d pl) :
    ∃ (L : List Rn) (p : Option Addr) (cap : Nat), v = .slice p L.length cap ∧ RunsF W p L := by
  obtain ⟨a0, len, cap, rfl⟩ := okWide_slice Try.underlying22 hv
  obtain ⟨fuel, hf⟩ := h
  rcases open_slice Try.underlying22 hf with ⟨hcs, _⟩ | ⟨a, len', cap', m, n, D, Pl, hcs, _, hl, hm, hmm, _, hx⟩
  · simp only [Value.cells, List.cons.injEq, and_true] at hcs
    simp at hcs
    obtain ⟨rfl, rfl, rfl⟩ := hcs
    exact ⟨[], none, 0, rfl, fun a ha => by simp at ha, fun h => absurd h (by simp)⟩
  · simp [Value.cells] at hcs
    obtain ⟨rfl, rfl, rfl⟩ := hcs
    have hlm : len ≤ m := by rw [hmm]; split <;> omega
    have key : ∀ q, q ≤ len → ∃ L : List Rn, L.length = q ∧ (∀ x ∈ L, RnOk W x) ∧ ∀ j x, L[j]? = some x → ∀ i u, (rnC x)[i]? = some u → W.cell? (a.add (j * 3 + i)) = some u := by
      intro q
      induction q with
      | zero => intro _; exact ⟨[], rfl, fun x hx => by simp at hx, fun j x hj => by simp at hj⟩
      | succ q ih =>
        intro hq
        obtain ⟨L, e1, e2, e3⟩ := ih (by omega)
        obtain ⟨cs, h1, h2⟩ := hx q (by omega)
        rw [cellsRun] at h1
        obtain ⟨_, hlen, hcell⟩ := World.cells?_some h1
        obtain ⟨y, rfl, hy⟩ := run_each _ _ _ h2 hlen
        refine ⟨L ++ [y], by simp [e1], fun x hx => ?_, fun j x hj i u hu => ?_⟩
        · rcases List.mem_append.1 hx with hx | hx
          · exact e2 x hx
          · simp at hx; rw [hx]; exact hy
        · by_cases hj2 : j < L.length
          · rw [List.getElem?_append_left hj2] at hj
            exact e3 j x hj i u hu
          · have hjl := (List.getElem?_eq_some_iff.1 hj).1
            rw [List.length_append, List.length_singleton] at hjl
            obtain rfl : j = q := by omega
            rw [List.getElem?_append_right (by omega), show j - L.length = 0 by omega] at hj
            obtain rfl := Option.some.inj hj
            have hi : i < 3 := (List.getElem?_eq_some_iff.1 hu).1
            have := hcell i hi
            rw [hu, add_add] at this
            exact this
    obtain ⟨L, e1, e2, e3⟩ := key len (Nat.le_refl _)
    refine ⟨L, some a, cap, by rw [e1], e2, fun hp => ?_⟩
    obtain ⟨x, hx0⟩ : ∃ x, L[0]? = some x := ⟨_, List.getElem?_eq_getElem hp⟩
    have hc0 := e3 0 x hx0 0 _ rfl
    obtain ⟨b, o, rfl, hb⟩ := addr_of hc0
    refine ⟨b, o, rfl, hb, fun j x hj i u hu => ?_⟩
    have := e3 j x hj i u hu
    rw [Addr.add_mid, ← Nat.add_assoc] at this
    exact this
end
/-- few enough: as far as the k-th run -/
def fewR (x : Rn) : Prop := x.L.length ≤ 20 ∧ x.fs.length ≤ 60 ∧ ∀ (i : Nat) r, x.L[i]? = some r → r.length ≤ 400
def fewL (L : List Rn) (k : Nat) : Prop := ∀ (j : Nat) x, j < k → L[j]? = some x → fewR x
/-- a run's cells, whatever was laid above -/
structure RunC (W w3 : World) (b o k : Nat) (x : Rn) (lp : Option Addr) (lc : Nat) (fp : Option Addr) (fc : Nat) : Prop where
  c0 : w3.cell? ⟨b, o + k * 3, none⟩ = some (.slice lp x.L.length lc)
  c1 : w3.cell? ⟨b, o + k * 3 + 1, none⟩ = some (.int .i64 x.fuse)
  c2 : w3.cell? ⟨b, o + k * 3 + 2, none⟩ = some (.slice fp x.fs.length fc)
theorem RunsF.get {W : World} {p : Option Addr} {L : List Rn} {k : Nat} {x : Rn} (h : RunsF W p L) (hk : L[k]? = some x) :
    ∃ b o lp lc fp fc, p = some ⟨b, o, none⟩ ∧ x.vl = .slice lp x.L.length lc ∧ x.vf = .slice fp x.fs.length fc ∧ RnOk W x ∧ ∀ w3, Below W.heap.size W w3 → RunC W w3 b o k x lp lc fp fc := by
  obtain ⟨b, o, rfl, hb, hc⟩ := h.at_ (by have := (List.getElem?_eq_some_iff.1 hk).1; omega)
  have hok := h.ok x (List.mem_of_getElem? hk)
  obtain ⟨lp, lc, e1, _⟩ := hok.l
  obtain ⟨fp, fc, e2, _⟩ := hok.t
  refine ⟨b, o, lp, lc, fp, fc, rfl, e1, e2, hok, fun w3 h3 => ⟨?_, ?_, ?_⟩⟩
  · exact (h3.cell (p := ⟨b, o + k * 3, none⟩) hb).trans (by have := hc k x hk 0 _ rfl; rw [e1] at this; exact this)
  · exact (h3.cell (p := ⟨b, o + k * 3 + 1, none⟩) hb).trans (hc k x hk 1 _ rfl)
  · exact (h3.cell (p := ⟨b, o + k * 3 + 2, none⟩) hb).trans (by have := hc k x hk 2 _ rfl; rw [e2] at this; exact this)
/-- a record's slice of a run, whatever was laid above -/
theorem rec_get {W : World} {v : Value} {L : List By} {i : Nat} {r : By} (h : BsF W (· < W.heap.size) v L) (hi : L[i]? = some r) :
    ∃ g o lc yp yc, v = .slice (some ⟨g, o, none⟩) L.length lc ∧ BysF W (· < W.heap.size) (.slice yp r.length yc) r ∧ ∀ w3, Below W.heap.size W w3 → w3.cell? ⟨g, o + i, none⟩ = some (.slice yp r.length yc) := by
  obtain ⟨p, lc, rfl, hp⟩ := h
  obtain ⟨g, o, rfl, hg, hc⟩ := hp (by have := (List.getElem?_eq_some_iff.1 hi).1; omega)
  obtain ⟨y, hy, hb⟩ := hc i r hi
  have hb' := hb
  obtain ⟨yp, yc, rfl, _, _⟩ := hb'
  exact ⟨g, o, lc, yp, yc, rfl, hb, fun w3 h3 => (h3.cell (p := ⟨g, o + i, none⟩) hg).trans hy⟩
def HeavyP (L : List Rn) (w : World) (e : Ending) (w' : World) : Prop := (∃ h : Bool, e = .returned (.bool h) ∧ (h = false → L.length ≤ 12 ∧ fewL L L.length)) ∧ w = w'
set_option maxRecDepth 100000 in
set_option maxHeartbeats 1600000 in
theorem heavy_any (L : List Rn) (p : Option Addr) (cap : Nat) (w : World) (h : RunsF w p L) : Calls Try.prog 8 #[.slice p L.length cap] w (HeavyP L w) := by
  by_cases hL : 12 < L.length
  · have i1 : decide ((12 : Int) < (L.length : Int)) = true := decide_eq_true (by omega)
    go_enter Try.func8, Try.ntmps8
    go_wp2
    go_ret
    exact ⟨⟨true, rfl, by simp⟩, rfl⟩
  have i1 : decide ((12 : Int) < (L.length : Int)) = false := decide_eq_false (by omega)
  have hl0 : (L.length : Int) ≤ 12 := by omega
  have HA := Lib.hid h
  clear h
  go_enter Try.func8, Try.ntmps8
  go_wp2
  go_loopw [3] (fun i wr => ∃ k : Nat, k ≤ L.length ∧ i = .int .i64 (k : Int) ∧ Hid (fewL L k) ∧ w = wr) (fun i _ => L.length - (intOf i).toNat)
  case atStart => exact ⟨0, Nat.zero_le _, rfl, Lib.hid (fun j x h => absurd h (Nat.not_lt_zero j)), rfl⟩
  case round =>
    obtain ⟨k, hk, rfl, hfew, rfl⟩ := hrel
    have hk0 : (0 : Int) ≤ (k : Int) := Int.natCast_nonneg _
    by_cases hlt : (k : Int) < (L.length : Int)
    · have hkl : k < L.length := by omega
      obtain ⟨x, hx⟩ : ∃ x, L[k]? = some x := ⟨_, List.getElem?_eq_getElem hkl⟩
      obtain ⟨b, o, lp, lc, fp, fc, rfl, hvl, hvf, hok, hrc⟩ := HA.out.get hx
      have hc := hrc w (Below.refl _ _)
      have c0 := hc.c0
      have c2 := hc.c2
      have HX := Lib.hid hx
      have HOL := Lib.hid hok.l
      rw [hvl] at HOL
      clear hrc hc hvl hvf hok hx
      by_cases j1 : 20 < x.L.length
      · have q1 : decide ((20 : Int) < (x.L.length : Int)) = true := decide_eq_true (by omega)
        go_wp2
        go_ret
        exact ⟨⟨true, rfl, by simp⟩, rfl⟩
      have q1 : decide ((20 : Int) < (x.L.length : Int)) = false := decide_eq_false (by omega)
      by_cases j2 : 60 < x.fs.length
      · have q2 : decide ((60 : Int) < (x.fs.length : Int)) = true := decide_eq_true (by omega)
        go_wp2
        go_ret
        exact ⟨⟨true, rfl, by simp⟩, rfl⟩
      have q2 : decide ((60 : Int) < (x.fs.length : Int)) = false := decide_eq_false (by omega)
      have hxl : (x.L.length : Int) ≤ 20 := by omega
      obtain ⟨wo, hwo⟩ : ∃ wo : World, wo = w := ⟨_, rfl⟩
      go_wp2_with fail
      go_loopw [4] (fun i wr => ∃ m : Nat, m ≤ x.L.length ∧ i = .int .i64 (m : Int) ∧ Hid (∀ (j : Nat) r, j < m → x.L[j]? = some r → r.length ≤ 400) ∧ w = wr) (fun i _ => x.L.length - (intOf i).toNat)
      case atStart => exact ⟨0, Nat.zero_le _, rfl, Lib.hid (fun j r h => absurd h (Nat.not_lt_zero j)), rfl⟩
      case round =>
        obtain ⟨m, hm, rfl, hsm, rfl⟩ := hrel
        have hm0 : (0 : Int) ≤ (m : Int) := Int.natCast_nonneg _
        by_cases hlt2 : (m : Int) < (x.L.length : Int)
        · have hml : m < x.L.length := by omega
          obtain ⟨r, hr⟩ : ∃ r, x.L[m]? = some r := ⟨_, List.getElem?_eq_getElem hml⟩
          obtain ⟨g, oo, lc', yp, yc, e, _, hcr⟩ := rec_get HOL.out hr
          simp only [Value.slice.injEq, true_and] at e
          obtain ⟨rfl, rfl⟩ := e
          have cr := hcr w (Below.refl _ _)
          have HR := Lib.hid hr
          clear hcr hr
          by_cases j3 : 400 < r.length
          · have q3 : decide ((400 : Int) < (r.length : Int)) = true := decide_eq_true (by omega)
            go_wp2
            go_ret
            exact ⟨⟨true, rfl, by simp⟩, rfl⟩
          have q3 : decide ((400 : Int) < (r.length : Int)) = false := decide_eq_false (by omega)
          go_wp2
          go_roundw
          case rel => exact ⟨m + 1, by omega, by go_num, Lib.hid (fun j s hj hs => by
            rcases Nat.lt_succ_iff_lt_or_eq.1 hj with h | rfl
            · exact hsm.out j s h hs
            · rw [HR.out] at hs; obtain rfl := Option.some.inj hs; omega), trivial⟩
          case measure => simp [intOf]; omega
        · obtain rfl : m = x.L.length := by omega
          go_wp2
          go_roundw
          case rel => exact ⟨k + 1, by omega, by go_num, Lib.hid (fun j s hj hs => by
            rcases Nat.lt_succ_iff_lt_or_eq.1 hj with h | rfl
            · exact hfew.out j s h hs
            · rw [HX.out] at hs
              obtain rfl := Option.some.inj hs
              exact ⟨by omega, by omega, fun i r hr => hsm.out i r (by have := (List.getElem?_eq_some_iff.1 hr).1; omega) hr⟩), trivial⟩
          case measure => simp [intOf]; omega
    · obtain rfl : k = L.length := by omega
      go_wp2
      go_ret
      exact ⟨⟨false, rfl, fun _ => ⟨by omega, hfew.out⟩⟩, rfl⟩
end Go.Proofs.Ytabahkeologbmaa.Jn
