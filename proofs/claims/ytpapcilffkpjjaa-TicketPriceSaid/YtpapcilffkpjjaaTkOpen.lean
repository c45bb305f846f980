/- What the ticket rows' cards lean on: tickets, sales, documents and lists that came in. -/
import Derived.Test.YtpapcilffkpjjaaTkBa
import Derived.Test.YtpapcilffkpjjaaMoneyOpen
import Derived.Deep.Slices
namespace Go.Proofs.Ytpapcilffkpjjaa
open Go.ChangeShapes Go.WideShapes Go.ChangeAt Go.RowKit Go.Money Go.ChangeMaps Go.Pror Go.Tick Go.Deep

theorem cellsU8 : Try.prog.cellsOf 5 = 1 := by kernel_rfl
theorem cellsU32 : Try.prog.cellsOf 56 = 1 := by kernel_rfl
theorem cellsU64 : Try.prog.cellsOf 22 = 1 := by kernel_rfl
theorem cellsStr : Try.prog.cellsOf 9 = 1 := by kernel_rfl
theorem cellsTk : Try.prog.cellsOf 24 = 2 := by kernel_rfl
theorem cellsLg : Try.prog.cellsOf 58 = 3 := by kernel_rfl
theorem cellsTx : Try.prog.cellsOf 48 = 2 := by kernel_rfl
theorem cellsSa : Try.prog.cellsOf 28 = 5 := by kernel_rfl
theorem cellsDo : Try.prog.cellsOf 31 = 17 := by kernel_rfl
theorem cellsLs : Try.prog.cellsOf 25 = 1 := by kernel_rfl
theorem cellsTs : Try.prog.cellsOf 26 = 1 := by kernel_rfl
theorem cellsIs : Try.prog.cellsOf 29 = 1 := by kernel_rfl
theorem cellsSt : Try.prog.cellsOf 45 = 1 := by kernel_rfl
theorem cellsBo : Try.prog.cellsOf 4 = 1 := by kernel_rfl
theorem str_of (s : ByteArray) : str s.data.toList = .string s := by simp [str]
theorem bd_u8 {n : Int} (h : (Lit.int .u8 n).wf = true) : 0 ≤ n ∧ n < 256 := by
  simp [Lit.wf, IntKind.min, IntKind.max, IntKind.signed, IntKind.bits] at h; omega
theorem bd_u16 {n : Int} (h : (Lit.int .u16 n).wf = true) : 0 ≤ n ∧ n < 65536 := by
  simp [Lit.wf, IntKind.min, IntKind.max, IntKind.signed, IntKind.bits] at h; omega
theorem bd_u32 {n : Int} (h : (Lit.int .u32 n).wf = true) : 0 ≤ n ∧ n < 4294967296 := by
  simp [Lit.wf, IntKind.min, IntKind.max, IntKind.signed, IntKind.bits] at h; omega
theorem bd_u64 {n : Int} (h : (Lit.int .u64 n).wf = true) : 0 ≤ n ∧ n < 18446744073709551616 := by
  simp [Lit.wf, IntKind.min, IntKind.max, IntKind.signed, IntKind.bits] at h; omega
theorem bd_i64 {n : Int} (h : (Lit.int .i64 n).wf = true) : -9223372036854775808 ≤ n ∧ n ≤ 9223372036854775807 := by
  simp [Lit.wf, IntKind.min, IntKind.max, IntKind.signed, IntKind.bits] at h; omega
/-- an address at which a cell lies -/
theorem addr_of {W : World} {a : Addr} {u : Value} (h : W.cell? (a.add 0) = some u) : ∃ b o, a = ⟨b, o, none⟩ ∧ b < W.heap.size := by
  obtain ⟨b, o, spot⟩ := a
  have hspot : spot = none := by simpa [Addr.add] using World.cell?_spot h
  subst hspot
  refine ⟨b, o, rfl, ?_⟩
  have := block_lt_of_cell h
  rw [Addr.add_mid] at this
  exact this
section
variable {H : Type} {enc : TypeId × Value → H} {W : World} {base : Nat} {sp : Nat → Bool} {held : Bool}
theorem row_open {α : Type} [Inhabited α] {ec : α → List Value} {k : Nat} {Q : α → Prop} {t e : TypeId} (ht : Try.prog.underlying t = some (.slice e)) (hce : Try.prog.cellsOf e = k) (h0 : 0 < k) (hk : ∀ x, (ec x).length = k)
    (each : ∀ n cs y, DataW.trod enc Try.prog W base sp held n e cs = some y → cs.length = k → ∃ x, cs = ec x ∧ Q x)
    {fuel : Nat} {v : Value} {x : DataW H × List MemPlace} (h : DataW.trod enc Try.prog W base sp held fuel t [v] = some x) :
    ∃ p L cap, v = .slice p L.length cap ∧ L.length ≤ cap ∧ Row W k ec p L ∧ ∀ x ∈ L, Q x := by
  rcases open_slice ht h with ⟨hcs, _⟩ | ⟨a, len, cap, m, n, D, Pl, hcs, _, hl, hm, hmm, _, hx⟩
  · simp only [List.cons.injEq, and_true] at hcs
    subst hcs
    exact ⟨none, [], 0, rfl, Nat.le_refl _, ⟨fun h => absurd h (by simp)⟩, fun x hx => by simp at hx⟩
  · simp only [List.cons.injEq, and_true] at hcs
    subst hcs
    have hlm : len ≤ m := by rw [hmm]; split <;> omega
    have key : ∀ q, q ≤ len → ∃ L : List α, L.length = q ∧ (∀ x ∈ L, Q x) ∧ ∀ j, j < q → ∀ i u, (ec L[j]!)[i]? = some u → W.cell? (a.add (j * k + i)) = some u := by
      intro q
      induction q with
      | zero => intro _; exact ⟨[], rfl, fun x hx => by simp at hx, fun j hj => absurd hj (Nat.not_lt_zero _)⟩
      | succ q ih =>
        intro hq
        obtain ⟨L, e1, e2, e3⟩ := ih (by omega)
        obtain ⟨cs, h1, h2⟩ := hx q (by omega)
        rw [hce] at h1
        obtain ⟨_, hlen, hcell⟩ := World.cells?_some h1
        obtain ⟨y, rfl, hy⟩ := each _ _ _ h2 hlen
        refine ⟨L ++ [y], by simp [e1], fun x hx => ?_, fun j hj i u hu => ?_⟩
        · rcases List.mem_append.1 hx with hx | hx
          · exact e2 x hx
          · simp at hx; rw [hx]; exact hy
        · by_cases hj2 : j = q
          · subst hj2
            have hg : (L ++ [y])[j]! = y := by rw [getElem!_pos (L ++ [y]) j (by simp [e1])]; simp [← e1]
            rw [hg] at hu
            have hi : i < k := by have := (List.getElem?_eq_some_iff.1 hu).1; rw [hk] at this; exact this
            have := hcell i hi
            rw [hu, add_add] at this
            exact this
          · have hg : (L ++ [y])[j]! = L[j]! := by
              have hjl : j < L.length := by omega
              rw [getElem!_pos (L ++ [y]) j (by simp; omega), getElem!_pos L j hjl, List.getElem_append_left hjl]
            rw [hg] at hu
            exact e3 j (by omega) i u hu
    obtain ⟨L, e1, e2, e3⟩ := key len (Nat.le_refl _)
    refine ⟨some a, L, cap, by rw [e1], by rw [e1]; exact hl, ⟨fun hp => ?_⟩, e2⟩
    have hlp : 0 < len := by omega
    have hc0 : ∃ u, W.cell? (a.add 0) = some u := by
      have hl0 : 0 < (ec L[0]!).length := by rw [hk]; exact h0
      have := e3 0 hlp 0 _ (List.getElem?_eq_getElem hl0)
      rw [Nat.zero_mul, Nat.zero_add] at this
      exact ⟨_, this⟩
    obtain ⟨u, hu⟩ := hc0
    obtain ⟨b, o, rfl, hb⟩ := addr_of hu
    refine ⟨b, o, rfl, hb, fun j hj i v hv => ?_⟩
    have := e3 j (by omega) i v hv
    rw [Addr.add_mid, ← Nat.add_assoc] at this
    exact this
theorem one_of {n : Nat} {t : TypeId} {cs : List Value} {y : Option (DataW H × List MemPlace)} (h : DataW.trod enc Try.prog W base sp held n t cs = y) (hs : y.isSome = true) : ∃ z, DataW.trod enc Try.prog W base sp held n t cs = some z := by
  cases y with
  | none => cases hs
  | some z => exact ⟨z, h⟩
theorem u8_of {n : Nat} {v : Value} {y : DataW H × List MemPlace} {t : TypeId} (ht : Try.prog.underlying t = some (.int .u8)) (h : DataW.trod enc Try.prog W base sp held n t [v] = some y) : ∃ c : Nat, v = u8v c ∧ c < 256 := by
  obtain ⟨a, g, _, w0⟩ := DataW.trod_int ht h
  have b := bd_u8 w0
  simp only [List.cons.injEq, and_true] at g
  exact ⟨a.toNat, by rw [g]; show _ = Value.int .u8 ((a.toNat : Nat) : Int); rw [show ((a.toNat : Nat) : Int) = a by omega], by omega⟩
theorem u64_of {n : Nat} {v : Value} {y : DataW H × List MemPlace} (h : DataW.trod enc Try.prog W base sp held n 22 [v] = some y) : ∃ c : Nat, v = u64v c := by
  obtain ⟨a, g, _, w0⟩ := DataW.trod_int Try.underlying22 h
  have b := bd_u64 w0
  simp only [List.cons.injEq, and_true] at g
  exact ⟨a.toNat, by rw [g]; show _ = Value.int .u64 ((a.toNat : Nat) : Int); rw [show ((a.toNat : Nat) : Int) = a by omega]⟩
theorem i64_of {n : Nat} {v : Value} {y : DataW H × List MemPlace} (h : DataW.trod enc Try.prog W base sp held n 2 [v] = some y) : ∃ c : Int, v = iv c ∧ -9223372036854775808 ≤ c ∧ c ≤ 9223372036854775807 := by
  obtain ⟨a, g, _, w0⟩ := DataW.trod_int Try.underlying2 h
  simp only [List.cons.injEq, and_true] at g
  exact ⟨a, g, bd_i64 w0⟩
theorem str_of' {n : Nat} {v : Value} {y : DataW H × List MemPlace} (h : DataW.trod enc Try.prog W base sp held n 9 [v] = some y) : ∃ t : List UInt8, v = str t := by
  obtain ⟨a, g, _⟩ := DataW.trod_string Try.underlying9 h
  simp only [List.cons.injEq, and_true] at g
  exact ⟨a.data.toList, by rw [g, str_of]⟩
theorem legU : ∃ f0 f1 f2 : Field, Try.prog.underlying 58 = some (.struct #[f0, f1, f2]) ∧ f0.offset = 0 ∧ f1.offset = 1 ∧ f2.offset = 2 ∧ f0.type = 5 ∧ f1.type = 55 ∧ f2.type = 56 :=
  ⟨_, _, _, Try.underlying58, rfl, rfl, rfl, rfl, rfl, rfl⟩
theorem taxU : ∃ f0 f1 : Field, Try.prog.underlying 48 = some (.struct #[f0, f1]) ∧ f0.offset = 0 ∧ f1.offset = 1 ∧ f0.type = 9 ∧ f1.type = 2 :=
  ⟨_, _, Try.underlying48, rfl, rfl, rfl, rfl⟩
theorem tkU : ∃ f0 f1 : Field, Try.prog.underlying 24 = some (.struct #[f0, f1]) ∧ f0.offset = 0 ∧ f1.offset = 1 ∧ f0.type = 5 ∧ f1.type = 22 :=
  ⟨_, _, Try.underlying24, rfl, rfl, rfl, rfl⟩
theorem saU : ∃ f0 f1 f2 f3 f4 : Field, Try.prog.underlying 28 = some (.struct #[f0, f1, f2, f3, f4]) ∧ f0.offset = 0 ∧ f1.offset = 1 ∧ f2.offset = 2 ∧ f3.offset = 3 ∧ f4.offset = 4 ∧ f0.type = 9 ∧ f1.type = 25 ∧ f2.type = 2 ∧ f3.type = 26 ∧ f4.type = 2 :=
  ⟨_, _, _, _, _, Try.underlying28, rfl, rfl, rfl, rfl, rfl, rfl, rfl, rfl, rfl, rfl⟩
theorem doU : ∃ f0 f1 f2 f3 f4 f5 f6 f7 f8 f9 : Field, Try.prog.underlying 31 = some (.struct #[f0, f1, f2, f3, f4, f5, f6, f7, f8, f9]) ∧ (f0.offset = 0 ∧ f1.offset = 2 ∧ f2.offset = 7 ∧ f3.offset = 8 ∧ f4.offset = 10 ∧ f5.offset = 12 ∧ f6.offset = 13 ∧ f7.offset = 14 ∧ f8.offset = 15 ∧ f9.offset = 16) ∧
    f0.type = 24 ∧ f1.type = 28 ∧ f2.type = 29 ∧ f3.type = 24 ∧ f4.type = 24 ∧ f5.type = 2 ∧ f6.type = 2 ∧ f7.type = 2 ∧ f8.type = 2 ∧ f9.type = 2 :=
  ⟨_, _, _, _, _, _, _, _, _, _, Try.underlying31, ⟨rfl, rfl, rfl, rfl, rfl, rfl, rfl, rfl, rfl, rfl⟩, rfl, rfl, rfl, rfl, rfl, rfl, rfl, rfl, rfl, rfl⟩
theorem cellsU16' : Try.prog.cellsOf 55 = 1 := by kernel_rfl
set_option maxRecDepth 100000 in
theorem leg_each (n : Nat) (cs : List Value) (y : DataW H × List MemPlace) (h : DataW.trod enc Try.prog W base sp held n 58 cs = some y) (hl : cs.length = 3) : ∃ x : Lg, cs = lgC x ∧ x.wt ≤ 4294967295 := by
  obtain ⟨f0, f1, f2, hu, o0, o1, o2, t0, t1, t2⟩ := legU
  obtain ⟨xs, m, _, _, _, hn, hel⟩ := DataW.trod_struct hu h
  match cs, hl with
  | [a, b, c], _ =>
    have e0 := hel 0 f0 rfl
    have e1 := hel 1 f1 rfl
    have e2 := hel 2 f2 rfl
    rw [t0, o0, cellsU8, List.getElem?_eq_getElem (by rw [hn]; show _ < 3; omega)] at e0
    rw [t1, o1, cellsU16', List.getElem?_eq_getElem (by rw [hn]; show _ < 3; omega)] at e1
    rw [t2, o2, cellsU32, List.getElem?_eq_getElem (by rw [hn]; show _ < 3; omega)] at e2
    obtain ⟨c0, rfl, h0⟩ := u8_of Try.underlying5 e0
    obtain ⟨n1, g1, _, w1⟩ := DataW.trod_int Try.underlying55 e1
    obtain ⟨n2, g2, _, w2⟩ := DataW.trod_int Try.underlying56 e2
    have q1 : b = .int .u16 n1 := by simpa using g1
    have q2 : c = .int .u32 n2 := by simpa using g2
    have b1 := bd_u16 w1
    have b2 := bd_u32 w2
    refine ⟨⟨UInt8.ofNat c0, n1.toNat, n2.toNat⟩, ?_, by show n2.toNat ≤ _; omega⟩
    unfold lgC
    rw [q1, q2]
    simp only [UInt8.toNat_ofNat', show c0 % 2 ^ 8 = c0 by omega, show ((n1.toNat : Nat) : Int) = n1 by omega, show ((n2.toNat : Nat) : Int) = n2 by omega]
set_option maxRecDepth 100000 in
theorem tax_each (n : Nat) (cs : List Value) (y : DataW H × List MemPlace) (h : DataW.trod enc Try.prog W base sp held n 48 cs = some y) (hl : cs.length = 2) : ∃ x : Tax, cs = txC x ∧ (-9223372036854775808 ≤ x.am ∧ x.am ≤ 9223372036854775807) := by
  obtain ⟨f0, f1, hu, o0, o1, t0, t1⟩ := taxU
  obtain ⟨xs, m, _, _, _, hn, hel⟩ := DataW.trod_struct hu h
  match cs, hl with
  | [a, b], _ =>
    have e0 := hel 0 f0 rfl
    have e1 := hel 1 f1 rfl
    rw [t0, o0, cellsStr, List.getElem?_eq_getElem (by rw [hn]; show _ < 2; omega)] at e0
    rw [t1, o1, cellsI64, List.getElem?_eq_getElem (by rw [hn]; show _ < 2; omega)] at e1
    obtain ⟨t, rfl⟩ := str_of' e0
    obtain ⟨am, rfl, hb⟩ := i64_of e1
    exact ⟨⟨t, am⟩, rfl, hb⟩
/-- a sale in memory -/
structure SaP (W : World) (s : Sl) (lp : Option Addr) (lc : Nat) (tp : Option Addr) (tc : Nat) : Prop where
  lr : Row W 3 lgC lp s.legs
  tr : Row W 2 txC tp s.taxes
  lc_ : s.legs.length ≤ lc
  tc_ : s.taxes.length ≤ tc
  wt : ∀ x ∈ s.legs, x.wt ≤ 4294967295
  fb : s.fare ≤ 9223372036854775807
set_option maxRecDepth 100000 in
theorem sale_of {n : Nat} {cs : List Value} {y : DataW H × List MemPlace} (h : DataW.trod enc Try.prog W base sp held n 28 cs = some y) (hl : cs.length = 5) : ∃ s lp lc tp tc, cs = (saV s lp lc tp tc).toList ∧ SaP W s lp lc tp tc := by
  obtain ⟨f0, f1, f2, f3, f4, hu, o0, o1, o2, o3, o4, t0, t1, t2, t3, t4⟩ := saU
  obtain ⟨xs, m, _, _, _, hn, hel⟩ := DataW.trod_struct hu h
  match cs, hl with
  | [a, b, c, d, e], _ =>
    have e0 := hel 0 f0 rfl
    have e1 := hel 1 f1 rfl
    have e2 := hel 2 f2 rfl
    have e3 := hel 3 f3 rfl
    have e4 := hel 4 f4 rfl
    rw [t0, o0, cellsStr, List.getElem?_eq_getElem (by rw [hn]; show _ < 5; omega)] at e0
    rw [t1, o1, cellsLs, List.getElem?_eq_getElem (by rw [hn]; show _ < 5; omega)] at e1
    rw [t2, o2, cellsI64, List.getElem?_eq_getElem (by rw [hn]; show _ < 5; omega)] at e2
    rw [t3, o3, cellsTs, List.getElem?_eq_getElem (by rw [hn]; show _ < 5; omega)] at e3
    rw [t4, o4, cellsI64, List.getElem?_eq_getElem (by rw [hn]; show _ < 5; omega)] at e4
    obtain ⟨t, rfl⟩ := str_of' e0
    obtain ⟨lp, L, lc, rfl, hlc, hL, hw⟩ := row_open Try.underlying25 cellsLg (by decide) (fun _ => rfl) leg_each e1
    obtain ⟨fa, rfl, hf⟩ := i64_of e2
    obtain ⟨tp, T, tc, rfl, htc, hT, _⟩ := row_open Try.underlying26 cellsTx (by decide) (fun _ => rfl) tax_each e3
    obtain ⟨pe, rfl, _⟩ := i64_of e4
    exact ⟨⟨t, L, fa, T, pe⟩, lp, lc, tp, tc, rfl, hL, hT, hlc, htc, hw, hf.2⟩
theorem nums_of {n : Nat} {v : Value} {y : DataW H × List MemPlace} {t e : TypeId} {k : IntKind}
    (ht : Try.prog.underlying t = some (.slice e)) (he : Try.prog.underlying e = some (.int k)) (hcl : Try.prog.cellsOf e = 1)
    (h : DataW.trod enc Try.prog W base sp held n t [v] = some y) :
    ∃ (pc : Option Addr) (l : List Int) (cap : Nat), v = .slice pc l.length cap ∧ l.length ≤ cap ∧ Nums W k pc l ∧ ∀ x ∈ l, (Lit.int k x).wf = true := by
  rcases open_slice ht h with ⟨hcs, _⟩ | ⟨a, len, cap, m, q, D, Pl, hcs, _, hl, hm, hmm, _, hx⟩
  · simp only [List.cons.injEq, and_true] at hcs
    subst hcs
    exact ⟨none, [], 0, rfl, Nat.le_refl _, ⟨fun h => absurd h (by simp)⟩, fun x hx => by simp at hx⟩
  · simp only [List.cons.injEq, and_true] at hcs
    subst hcs
    have hlm : len ≤ m := by rw [hmm]; split <;> omega
    have key : ∀ z, z ≤ len → ∃ L : List Int, L.length = z ∧ (∀ x ∈ L, (Lit.int k x).wf = true) ∧ ∀ j, j < z → W.cell? (a.add j) = some (.int k (L.getD j 0)) := by
      intro z
      induction z with
      | zero => intro _; exact ⟨[], rfl, fun x hx => by simp at hx, fun j hj => absurd hj (Nat.not_lt_zero _)⟩
      | succ z ih =>
        intro hz
        obtain ⟨L, e1, e2, e3⟩ := ih (by omega)
        obtain ⟨cs, h1, h2⟩ := hx z (by omega)
        rw [hcl] at h1
        obtain ⟨_, hlen, hcell⟩ := World.cells?_some h1
        obtain ⟨x, g, _, hw⟩ := DataW.trod_int he h2
        subst g
        refine ⟨L ++ [x], by simp [e1], fun y hy => ?_, fun j hj => ?_⟩
        · rcases List.mem_append.1 hy with hy | hy
          · exact e2 y hy
          · simp at hy; rw [hy]; exact hw
        · by_cases hj2 : j = z
          · subst hj2
            have := hcell 0 (by omega)
            rw [add_add] at this
            simp only [Nat.mul_one, Nat.add_zero] at this
            rw [this]
            simp [← e1]
          · have := e3 j (by omega)
            rw [this]
            simp [List.getD_eq_getElem?_getD, List.getElem?_append_left (show j < L.length by omega)]
    obtain ⟨L, e1, e2, e3⟩ := key len (Nat.le_refl _)
    refine ⟨some a, L, cap, by rw [e1], by rw [e1]; exact hl, ⟨fun hp => ?_⟩, e2⟩
    obtain ⟨b, o, rfl, hb⟩ := addr_of (e3 0 (by omega))
    exact ⟨b, o, rfl, hb, fun j hj => by have := e3 j (by omega); rw [Addr.add_mid] at this; exact this⟩
theorem tk_of {n : Nat} {a b : Value} {y : DataW H × List MemPlace} (h : DataW.trod enc Try.prog W base sp held n 24 [a, b] = some y) : ∃ c s : Nat, a = u8v c ∧ b = u64v s ∧ c < 256 := by
  obtain ⟨f0, f1, hu, o0, o1, t0, t1⟩ := tkU
  obtain ⟨xs, m, _, _, _, hn, hel⟩ := DataW.trod_struct hu h
  have e0 := hel 0 f0 rfl
  have e1 := hel 1 f1 rfl
  rw [t0, o0, cellsU8, List.getElem?_eq_getElem (by rw [hn]; show _ < 2; omega)] at e0
  rw [t1, o1, cellsU64, List.getElem?_eq_getElem (by rw [hn]; show _ < 2; omega)] at e1
  obtain ⟨c, rfl, hc⟩ := u8_of Try.underlying5 e0
  obtain ⟨s, rfl⟩ := u64_of e1
  exact ⟨c, s, rfl, rfl, hc⟩
/-- a document, cell by cell -/
abbrev dC (c0 s0 : Nat) (s : Sl) (lp : Option Addr) (lc : Nat) (tp : Option Addr) (tc : Nat) (vp : Option Addr) (n vc : Nat) (c1 s1 c2 s2 : Nat) (cr pd bk kp lf : Int) : Array Value :=
  dcV (u8v c0) (u64v s0) (str s.name) (.slice lp s.legs.length lc) (iv s.fare) (.slice tp s.taxes.length tc) (iv s.pen) vp n vc (u8v c1) (u64v s1) (u8v c2) (u64v s2) cr pd bk kp lf
set_option maxRecDepth 100000 in
theorem doc_of {n : Nat} {cs : List Value} {y : DataW H × List MemPlace} (h : DataW.trod enc Try.prog W base sp held n 31 cs = some y) (hl : cs.length = 17) :
    ∃ c0 s0 s lp lc tp tc vp V vc c1 s1 c2 s2 cr pd bk kp lf, cs = (dC c0 s0 s lp lc tp tc vp V.length vc c1 s1 c2 s2 cr pd bk kp lf).toList ∧ Nums W .i64 vp V := by
  obtain ⟨f0, f1, f2, f3, f4, f5, f6, f7, f8, f9, hu, ⟨o0, o1, o2, o3, o4, o5, o6, o7, o8, o9⟩, t0, t1, t2, t3, t4, t5, t6, t7, t8, t9⟩ := doU
  obtain ⟨xs, m, _, _, _, hn, hel⟩ := DataW.trod_struct hu h
  match cs, hl with
  | [a0, a1, a2, a3, a4, a5, a6, a7, a8, a9, a10, a11, a12, a13, a14, a15, a16], _ =>
    have e0 := hel 0 f0 rfl
    have e1 := hel 1 f1 rfl
    have e2 := hel 2 f2 rfl
    have e3 := hel 3 f3 rfl
    have e4 := hel 4 f4 rfl
    have e5 := hel 5 f5 rfl
    have e6 := hel 6 f6 rfl
    have e7 := hel 7 f7 rfl
    have e8 := hel 8 f8 rfl
    have e9 := hel 9 f9 rfl
    rw [t0, o0, cellsTk, List.getElem?_eq_getElem (by rw [hn]; show _ < 10; omega)] at e0
    rw [t1, o1, cellsSa, List.getElem?_eq_getElem (by rw [hn]; show _ < 10; omega)] at e1
    rw [t2, o2, cellsIs, List.getElem?_eq_getElem (by rw [hn]; show _ < 10; omega)] at e2
    rw [t3, o3, cellsTk, List.getElem?_eq_getElem (by rw [hn]; show _ < 10; omega)] at e3
    rw [t4, o4, cellsTk, List.getElem?_eq_getElem (by rw [hn]; show _ < 10; omega)] at e4
    rw [t5, o5, cellsI64, List.getElem?_eq_getElem (by rw [hn]; show _ < 10; omega)] at e5
    rw [t6, o6, cellsI64, List.getElem?_eq_getElem (by rw [hn]; show _ < 10; omega)] at e6
    rw [t7, o7, cellsI64, List.getElem?_eq_getElem (by rw [hn]; show _ < 10; omega)] at e7
    rw [t8, o8, cellsI64, List.getElem?_eq_getElem (by rw [hn]; show _ < 10; omega)] at e8
    rw [t9, o9, cellsI64, List.getElem?_eq_getElem (by rw [hn]; show _ < 10; omega)] at e9
    obtain ⟨c0, s0, rfl, rfl, _⟩ := tk_of e0
    obtain ⟨s, lp, lc, tp, tc, hs, _⟩ := sale_of e1 rfl
    obtain ⟨vp, V, vc, rfl, _, hV, _⟩ := nums_of Try.underlying29 Try.underlying2 cellsI64 e2
    obtain ⟨c1, s1, rfl, rfl, _⟩ := tk_of e3
    obtain ⟨c2, s2, rfl, rfl, _⟩ := tk_of e4
    obtain ⟨cr, rfl, _⟩ := i64_of e5
    obtain ⟨pd, rfl, _⟩ := i64_of e6
    obtain ⟨bk, rfl, _⟩ := i64_of e7
    obtain ⟨kp, rfl, _⟩ := i64_of e8
    obtain ⟨lf, rfl, _⟩ := i64_of e9
    simp only [List.drop_succ_cons, List.drop_zero, List.take_succ_cons, List.take_zero, List.cons.injEq, and_true] at hs
    obtain ⟨rfl, rfl, rfl, rfl, rfl⟩ := hs
    exact ⟨c0, s0, s, lp, lc, tp, tc, vp, V, vc, c1, s1, c2, s2, cr, pd, bk, kp, lf, rfl, hV⟩
set_option maxRecDepth 100000 in
/-- an argument's struct, by its cells -/
theorem agg_of {r : Reach} {b0 : Nat} {v : Value} {d : DataW H} {p : List MemPlace} {t : TypeId} {fs : Array Field} {k : Nat} (hu : Try.prog.underlying t = some (.struct fs)) (hk : Try.prog.cellsOf t = k)
    (hv : Value.okWide Try.prog W r b0 t v) (h : DataW.Trod enc Try.prog W base sp held t v d p) : ∃ cs : Array Value, v = .agg cs ∧ cs.size = k ∧ ∃ n y, DataW.trod enc Try.prog W base sp held n t cs.toList = some y := by
  simp only [Value.okWide, hu] at hv
  obtain ⟨cs, rfl, hsz, _⟩ := hv
  rw [hk] at hsz
  obtain ⟨fuel, hf⟩ := h
  exact ⟨cs, rfl, hsz, fuel, _, hf⟩
set_option maxRecDepth 100000 in
theorem open_sale {r : Reach} {b0 : Nat} {v : Value} {d : DataW H} {p : List MemPlace} (hv : Value.okWide Try.prog W r b0 28 v) (h : DataW.Trod enc Try.prog W base sp held 28 v d p) :
    ∃ s lp lc tp tc, v = .agg (saV s lp lc tp tc) ∧ SaP W s lp lc tp tc := by
  obtain ⟨f0, f1, f2, f3, f4, hu, _⟩ := saU
  obtain ⟨cs, rfl, hsz, n, y, hf⟩ := agg_of hu cellsSa hv h
  obtain ⟨s, lp, lc, tp, tc, hs, hP⟩ := sale_of hf (by simpa using hsz)
  exact ⟨s, lp, lc, tp, tc, by rw [Array.toList_inj.1 hs], hP⟩
set_option maxRecDepth 100000 in
theorem open_tk {r : Reach} {b0 : Nat} {v : Value} {d : DataW H} {p : List MemPlace} (hv : Value.okWide Try.prog W r b0 24 v) (h : DataW.Trod enc Try.prog W base sp held 24 v d p) :
    ∃ c s : Nat, v = .agg (tkV c s) ∧ c < 256 := by
  obtain ⟨f0, f1, hu, _⟩ := tkU
  obtain ⟨cs, rfl, hsz, n, y, hf⟩ := agg_of hu cellsTk hv h
  match cs, hsz with
  | ⟨[a, b]⟩, _ =>
    obtain ⟨c, s, rfl, rfl, hc⟩ := tk_of hf
    exact ⟨c, s, rfl, hc⟩
set_option maxRecDepth 100000 in
theorem open_tax {r : Reach} {b0 : Nat} {v : Value} {d : DataW H} {p : List MemPlace} (hv : Value.okWide Try.prog W r b0 48 v) (h : DataW.Trod enc Try.prog W base sp held 48 v d p) :
    ∃ x : Tax, v = .agg #[str x.code, iv x.am] ∧ (-9223372036854775808 ≤ x.am ∧ x.am ≤ 9223372036854775807) := by
  obtain ⟨f0, f1, hu, _⟩ := taxU
  obtain ⟨cs, rfl, hsz, n, y, hf⟩ := agg_of hu cellsTx hv h
  obtain ⟨x, hx, hb⟩ := tax_each n cs.toList y hf (by simpa using hsz)
  refine ⟨x, ?_, hb⟩
  have : cs = (txC x).toArray := Array.toList_inj.1 (by simpa using hx)
  rw [this]; rfl
set_option maxRecDepth 100000 in
theorem open_doc {r : Reach} {b0 : Nat} {v : Value} {d : DataW H} {p : List MemPlace} (hv : Value.okWide Try.prog W r b0 31 v) (h : DataW.Trod enc Try.prog W base sp held 31 v d p) :
    ∃ c0 s0 s lp lc tp tc vp V vc c1 s1 c2 s2 cr pd bk kp lf, v = .agg (dC c0 s0 s lp lc tp tc vp V.length vc c1 s1 c2 s2 cr pd bk kp lf) ∧ Nums W .i64 vp V := by
  obtain ⟨f0, f1, f2, f3, f4, f5, f6, f7, f8, f9, hu, _⟩ := doU
  obtain ⟨cs, rfl, hsz, n, y, hf⟩ := agg_of hu cellsDo hv h
  obtain ⟨c0, s0, s, lp, lc, tp, tc, vp, V, vc, c1, s1, c2, s2, cr, pd, bk, kp, lf, hd, hV⟩ := doc_of hf (by simpa using hsz)
  exact ⟨c0, s0, s, lp, lc, tp, tc, vp, V, vc, c1, s1, c2, s2, cr, pd, bk, kp, lf, by rw [Array.toList_inj.1 hd], hV⟩
set_option maxRecDepth 100000 in
theorem open_stats {r : Reach} {b0 : Nat} {v : Value} {d : DataW H} {p : List MemPlace} (hv : Value.okWide Try.prog W r b0 32 v) (h : DataW.Trod enc Try.prog W base sp held 32 v d p) :
    ∃ (q : Option Addr) (S : List Nat) (c : Nat), v = .slice q S.length c ∧ Nums W .u8 q (ints S) ∧ ∀ x ∈ S, x < 256 := by
  obtain ⟨a0, len, cap, rfl⟩ := okWide_slice Try.underlying32 hv
  obtain ⟨fuel, hf⟩ := h
  obtain ⟨q, l, c, he, _, hN, hb⟩ := nums_of (v := .slice a0 len cap) Try.underlying32 Try.underlying45 cellsSt (by simpa [Value.cells] using hf)
  have hl : l = ints (l.map Int.toNat) := by
    unfold ints
    rw [List.map_map]
    have : l.map ((fun (i : Nat) => (i : Int)) ∘ Int.toNat) = l.map id := List.map_congr_left fun x hx => by have := bd_u8 (hb x hx); simp; omega
    rw [this, List.map_id]
  refine ⟨q, l.map Int.toNat, c, by rw [he]; simp, by rw [← hl]; exact hN, fun x hx => ?_⟩
  obtain ⟨y, hy, rfl⟩ := List.mem_map.1 hx
  have := bd_u8 (hb y hy)
  omega
end
end Go.Proofs.Ytpapcilffkpjjaa
