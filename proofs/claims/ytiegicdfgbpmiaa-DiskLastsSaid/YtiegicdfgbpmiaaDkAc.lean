/- Acts that came in, and whether they are too many. -/
import Derived.Test.YtiegicdfgbpmiaaDkOpen
import Derived.Test.YtiegicdfgbpmiaaDkKp
namespace Go.Proofs.Ytiegicdfgbpmiaa.Dk
open Go.ChangeShapes Go.WideShapes Go.ChangeAt Go.RowKit Go.ChangeMaps Go.Deep Go.Dk

/-- an act -/
structure Ac where
  do_ : Nat
  at_ : Int
  n : Int
  b : By
  fs : List Int
  vb : Value
  vf : Value
  deriving Inhabited
def acC (a : Ac) : List Value := [.int .u8 (a.do_ : Int), .int .i64 a.at_, .int .i64 a.n, a.vb, a.vf]
structure AcOk (W : World) (a : Ac) : Prop where
  d : a.do_ < 256
  w : (Lit.int .i64 a.at_).wf = true
  b : ∃ p cap, a.vb = .slice p a.b.length cap ∧ BysF W (· < W.heap.size) a.vb a.b
  f : ∃ p cap, a.vf = .slice p a.fs.length cap ∧ FtsF W (· < W.heap.size) a.vf a.fs
structure ActsF (W : World) (p : Option Addr) (L : List Ac) : Prop where
  ok : ∀ a ∈ L, AcOk W a
  at_ : 0 < L.length → ∃ b o, p = some ⟨b, o, none⟩ ∧ b < W.heap.size ∧ ∀ j a, L[j]? = some a → ∀ i u, (acC a)[i]? = some u → W.cell? ⟨b, o + j * 5 + i, none⟩ = some u
section
variable {H : Type} {enc : TypeId × Value → H} {W : World} {base : Nat} {sp : Nat → Bool} {held : Bool}
theorem actU : ∃ f0 f1 f2 f3 f4 : Field, Try.prog.underlying 31 = some (.struct #[f0, f1, f2, f3, f4]) ∧ f0.offset = 0 ∧ f1.offset = 1 ∧ f2.offset = 2 ∧ f3.offset = 3 ∧ f4.offset = 4 ∧ f0.type = 5 ∧ f1.type = 3 ∧ f2.type = 3 ∧ f3.type = 29 ∧ f4.type = 23 :=
  ⟨_, _, _, _, _, Try.underlying31, rfl, rfl, rfl, rfl, rfl, rfl, rfl, rfl, rfl, rfl⟩
set_option maxRecDepth 100000 in
theorem act_each (n : Nat) (cs : List Value) (y : DataW H × List MemPlace) (h : DataW.trod enc Try.prog W base sp held n 31 cs = some y) (hl : cs.length = 5) : ∃ x : Ac, cs = acC x ∧ AcOk W x := by
  obtain ⟨f0, f1, f2, f3, f4, hu, o0, o1, o2, o3, o4, t0, t1, t2, t3, t4⟩ := actU
  obtain ⟨xs, m, _, _, _, hn, hel⟩ := DataW.trod_struct hu h
  match cs, hl with
  | [a, b, c, d, e], _ =>
    have e0 := hel 0 f0 rfl
    have e1 := hel 1 f1 rfl
    have e2 := hel 2 f2 rfl
    have e3 := hel 3 f3 rfl
    have e4 := hel 4 f4 rfl
    rw [t0, o0, cellsU8, List.getElem?_eq_getElem (by rw [hn]; show _ < 5; omega)] at e0
    rw [t1, o1, cellsInt, List.getElem?_eq_getElem (by rw [hn]; show _ < 5; omega)] at e1
    rw [t2, o2, cellsInt, List.getElem?_eq_getElem (by rw [hn]; show _ < 5; omega)] at e2
    rw [t3, o3, cellsBytes, List.getElem?_eq_getElem (by rw [hn]; show _ < 5; omega)] at e3
    rw [t4, o4, cellsInts, List.getElem?_eq_getElem (by rw [hn]; show _ < 5; omega)] at e4
    obtain ⟨n0, g0, _, w0⟩ := DataW.trod_int Try.underlying5 e0
    obtain ⟨n1, g1, _, w1⟩ := DataW.trod_int Try.underlying3 e1
    obtain ⟨n2, g2, _, w2⟩ := DataW.trod_int Try.underlying3 e2
    have q0 : a = .int .u8 n0 := by simpa using g0
    have q1 : b = .int .i64 n1 := by simpa using g1
    have q2 : c = .int .i64 n2 := by simpa using g2
    have b0 := wf8 w0
    obtain ⟨l, p3, c3, hv3, hb3⟩ := bytes_of e3
    obtain ⟨fs, p4, c4, hv4, _, hf4⟩ := ints_of Try.underlying23 Try.underlying3 cellsInt e4
    refine ⟨⟨n0.toNat, n1, n2, l, fs, d, e⟩, ?_, ⟨by show n0.toNat < 256; omega, w1, ⟨p3, c3, hv3, hb3⟩, ⟨p4, c4, hv4, hf4⟩⟩⟩
    unfold acC
    rw [q0, q1, q2, show ((n0.toNat : Nat) : Int) = n0 by omega]
theorem open_acts {r : Reach} {b0 : Nat} {v : Value} {d : DataW H} {pl : List MemPlace} (hv : Value.okWide Try.prog W r b0 22 v) (h : DataW.Trod enc Try.prog W base sp held 22 v d pl) :
    ∃ (L : List Ac) (p : Option Addr) (cap : Nat), v = .slice p L.length cap ∧ ActsF W p L := by
  obtain ⟨a0, len, cap, rfl⟩ := okWide_slice Try.underlying22 hv
  obtain ⟨fuel, hf⟩ := h
  rcases open_slice Try.underlying22 hf with ⟨hcs, _⟩ | ⟨a, len', cap', m, n, D, Pl, hcs, _, hl, hm, hmm, _, hx⟩
  · simp only [Value.cells, List.cons.injEq, and_true] at hcs
    simp at hcs
    obtain ⟨rfl, rfl, rfl⟩ := hcs
    exact ⟨[], none, 0, rfl, fun a ha => by simp at ha, fun h => absurd h (by simp)⟩
  · simp [Value.cells] at hcs
    obtain ⟨rfl, rfl, rfl⟩ := hcs
    have hlm : len ≤ m := by rw [hmm]; split <;> omega
    have key : ∀ q, q ≤ len → ∃ L : List Ac, L.length = q ∧ (∀ x ∈ L, AcOk W x) ∧ ∀ j x, L[j]? = some x → ∀ i u, (acC x)[i]? = some u → W.cell? (a.add (j * 5 + i)) = some u := by
      intro q
      induction q with
      | zero => intro _; exact ⟨[], rfl, fun x hx => by simp at hx, fun j x hj => by simp at hj⟩
      | succ q ih =>
        intro hq
        obtain ⟨L, e1, e2, e3⟩ := ih (by omega)
        obtain ⟨cs, h1, h2⟩ := hx q (by omega)
        rw [cellsAct] at h1
        obtain ⟨_, hlen, hcell⟩ := World.cells?_some h1
        obtain ⟨y, rfl, hy⟩ := act_each _ _ _ h2 hlen
        refine ⟨L ++ [y], by simp [e1], fun x hx => ?_, fun j x hj i u hu => ?_⟩
        · rcases List.mem_append.1 hx with hx | hx
          · exact e2 x hx
          · simp at hx; rw [hx]; exact hy
        · by_cases hj2 : j < L.length
          · rw [List.getElem?_append_left hj2] at hj
            exact e3 j x hj i u hu
          · have hjl := (List.getElem?_eq_some_iff.1 hj).1
            rw [List.length_append, List.length_singleton] at hjl
            obtain rfl : j = q := by omega
            rw [List.getElem?_append_right (by omega), show j - L.length = 0 by omega] at hj
            obtain rfl := Option.some.inj hj
            have hi : i < 5 := (List.getElem?_eq_some_iff.1 hu).1
            have := hcell i hi
            rw [hu, add_add] at this
            exact this
    obtain ⟨L, e1, e2, e3⟩ := key len (Nat.le_refl _)
    refine ⟨L, some a, cap, by rw [e1], e2, fun hp => ?_⟩
    obtain ⟨x, hx0⟩ : ∃ x, L[0]? = some x := ⟨_, List.getElem?_eq_getElem hp⟩
    have hc0 := e3 0 x hx0 0 _ rfl
    obtain ⟨b, o, rfl, hb⟩ := addr_of hc0
    refine ⟨b, o, rfl, hb, fun j x hj i u hu => ?_⟩
    have := e3 j x hj i u hu
    rw [Addr.add_mid, ← Nat.add_assoc] at this
    exact this
end
/-- too many? -/
def bigA (a : Ac) : Bool := decide (1000 < a.b.length) || decide (60 < a.fs.length)
def greatB (L : List Ac) : Bool := decide (60 < L.length) || L.any bigA
set_option maxRecDepth 100000 in
set_option maxHeartbeats 800000 in
theorem great_any (L : List Ac) (p : Option Addr) (cap : Nat) (w0 w : World) (h : ActsF w0 p L) (hb : Below w0.heap.size w0 w) : Calls Try.prog 7 #[.slice p L.length cap] w fun e w' => e = .returned (.bool (greatB L)) ∧ w = w' := by
  unfold greatB
  by_cases hL : 60 < L.length
  · have i1 : decide ((60 : Int) < (L.length : Int)) = true := decide_eq_true (by omega)
    have i2 : decide (60 < L.length) = true := decide_eq_true hL
    rw [i2]
    go_enter Try.func7, Try.ntmps7
    go_wp2
    go_ret
    exact ⟨rfl, rfl⟩
  · have i1 : decide ((60 : Int) < (L.length : Int)) = false := decide_eq_false (by omega)
    have i2 : decide (60 < L.length) = false := decide_eq_false hL
    have hl0 : (L.length : Int) ≤ 60 := by omega
    rw [i2, Bool.false_or]
    have HA := Lib.hid h
    clear h
    go_enter Try.func7, Try.ntmps7
    go_wp2
    go_loop [3] (fun i => ∃ k : Nat, k ≤ L.length ∧ i = .int .i64 (k : Int) ∧ (L.take k).any bigA = false) (fun i => L.length - (intOf i).toNat)
    case atStart => exact ⟨0, Nat.zero_le _, rfl, rfl⟩
    case round =>
      obtain ⟨k, hk, rfl, hany⟩ := hrel
      have HY := Lib.hid hany
      clear hany
      by_cases hlt : k < L.length
      · have hlt1 : (k : Int) < (L.length : Int) := by omega
        have hk0 : (0 : Int) ≤ (k : Int) := Int.natCast_nonneg _
        obtain ⟨x, hx⟩ : ∃ x, L[k]? = some x := ⟨_, List.getElem?_eq_getElem hlt⟩
        obtain ⟨b, o, rfl, hbw, hcell⟩ := HA.out.at_ (by omega)
        have hok := HA.out.ok x (List.mem_of_getElem? hx)
        obtain ⟨pb, cb, hvb, _⟩ := hok.b
        obtain ⟨pf, cf, hvf, _⟩ := hok.f
        have c3 : w.cell? ⟨b, o + k * 5 + 3, none⟩ = some (.slice pb x.b.length cb) := (hb.cell (p := ⟨b, o + k * 5 + 3, none⟩) hbw).trans (by rw [hcell k x hx 3 _ rfl, hvb])
        have c4 : w.cell? ⟨b, o + k * 5 + 4, none⟩ = some (.slice pf x.fs.length cf) := (hb.cell (p := ⟨b, o + k * 5 + 4, none⟩) hbw).trans (by rw [hcell k x hx 4 _ rfl, hvf])
        have HT := Lib.hid (show (L.take (k + 1)).any bigA = ((L.take k).any bigA || bigA x) from by rw [List.take_add_one, hx, List.any_append]; simp)
        have HN := Lib.hid (show L.any bigA = true ∨ bigA x = false from by
          cases e : bigA x with
          | false => exact Or.inr rfl
          | true => exact Or.inl (List.any_eq_true.2 ⟨x, List.mem_of_getElem? hx, e⟩))
        have HBG := Lib.hid (show bigA x = (decide (1000 < x.b.length) || decide (60 < x.fs.length)) from rfl)
        clear hcell hok hvb hvf hx
        by_cases j1 : 1000 < x.b.length
        · have q1 : decide ((1000 : Int) < (x.b.length : Int)) = true := decide_eq_true (by omega)
          have HG := Lib.hid (show L.any bigA = true from HN.out.resolve_right (by rw [HBG.out, decide_eq_true j1]; simp))
          generalize x.b.length = bl at *
          go_wp2
          go_ret
          exact ⟨by rw [HG.out]; rfl, rfl⟩
        · have q1 : decide ((1000 : Int) < (x.b.length : Int)) = false := decide_eq_false (by omega)
          by_cases j2 : 60 < x.fs.length
          · have q2 : decide ((60 : Int) < (x.fs.length : Int)) = true := decide_eq_true (by omega)
            have HG := Lib.hid (show L.any bigA = true from HN.out.resolve_right (by rw [HBG.out, decide_eq_true j2]; simp))
            generalize x.b.length = bl at *
            generalize x.fs.length = fl at *
            go_wp2
            go_ret
            exact ⟨by rw [HG.out]; rfl, rfl⟩
          · have q2 : decide ((60 : Int) < (x.fs.length : Int)) = false := decide_eq_false (by omega)
            have HG := Lib.hid (show bigA x = false from by rw [HBG.out, decide_eq_false j1, decide_eq_false j2]; rfl)
            generalize x.b.length = bl at *
            generalize x.fs.length = fl at *
            go_wp2
            go_round
            case rel => exact ⟨k + 1, by omega, by go_num, by rw [HT.out, HY.out, HG.out]; rfl⟩
            case measure => simp [intOf]; omega
      · obtain rfl : k = L.length := by omega
        have HG := Lib.hid (show L.any bigA = false from by have := HY.out; rwa [List.take_length] at this)
        go_wp2
        go_ret
        exact ⟨by rw [HG.out]; rfl, rfl⟩
end Go.Proofs.Ytiegicdfgbpmiaa.Dk
