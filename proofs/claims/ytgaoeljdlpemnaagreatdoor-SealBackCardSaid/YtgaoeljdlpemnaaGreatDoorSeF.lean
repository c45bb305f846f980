/- Contracts: bytes.Equal, bytes.Clone, how many carriers a ring has, which keys it may have. -/
import Derived.Test.YtgaoeljdlpemnaaGreatDoorShaPureS
import Derived.Test.YtgaoeljdlpemnaaGreatDoorEdiLt
import Derived.Test.YtgaoeljdlpemnaaGreatDoorMgRk
import Derived.Test.YtgaoeljdlpemnaaGreatDoorMgTk
import Derived.Maps.OwnSet
import Derived.Maps.RangeWalk
import Derived.DeepKeys4
import Derived.Deep.QuietTactic
import Derived.WalkSmall
import Derived.Lib.LazyBuf
/- Contract of mac.Same, over the translated program. -/
namespace Go.Proofs.YtgaoeljdlpemnaaGreatDoor.Hs
open Go.RowKit Go.Sha

/-- what two digests are unlike in, gathered over the first k bytes -/
def unl (a b : List Nat) : Nat → Nat
  | 0 => 0
  | k + 1 => unl a b k ||| (at0 a k ^^^ at0 b k)
theorem unl_zero (a b : List Nat) : unl a b 0 = 0 := rfl
theorem unl_succ (a b : List Nat) (k : Nat) : unl a b (k + 1) = unl a b k ||| (at0 a k ^^^ at0 b k) := rfl
theorem unl_lt {a b : List Nat} (ha : Lt 256 a) (hb : Lt 256 b) : ∀ k, unl a b k < 256
  | 0 => by rw [unl_zero]; decide
  | k + 1 => by rw [unl_succ]; exact Nat.or_lt_two_pow (n := 8) (unl_lt ha hb k) (xor_byte (ha.getD (by decide) _) (hb.getD (by decide) _))
theorem xor_zero {a b : Nat} : a ^^^ b = 0 ↔ a = b := by
  constructor
  · intro h
    have : a ^^^ b ^^^ b = 0 ^^^ b := by rw [h]
    rw [Nat.xor_assoc, Nat.xor_self, Nat.xor_zero, Nat.zero_xor] at this
    exact this
  · rintro rfl; exact Nat.xor_self a
theorem unl_all (a b : List Nat) : ∀ k, unl a b k = 0 ↔ ∀ j, j < k → at0 a j = at0 b j
  | 0 => by rw [unl_zero]; simp
  | k + 1 => by
    rw [unl_succ, Nat.or_eq_zero_iff, unl_all a b k, xor_zero]
    constructor
    · rintro ⟨h1, h2⟩ j hj
      by_cases e : j = k
      · subst e; exact h2
      · exact h1 j (by omega)
    · intro h
      exact ⟨fun j hj => h j (by omega), h k (by omega)⟩
theorem unl_eq {a b : List Nat} (ha : a.length = 32) (hb : b.length = 32) : ((unl a b 32 : Int) == 0) = decide (a = b) := by
  rw [Bool.eq_iff_iff]
  simp only [beq_iff_eq, decide_eq_true_eq]
  constructor
  · intro h
    have h2 := (unl_all a b 32).1 (by omega)
    exact list_at0 (by omega) (fun j hj => h2 j (by omega))
  · rintro rfl
    have := (unl_all a a 32).2 (fun _ _ => rfl)
    omega
theorem u8or {a b : Nat} (ha : a < 256) (hb : b < 256) : bits .or .u8 (a : Int) (b : Int) = ((a ||| b : Nat) : Int) := u8_or_nat a b ha hb
attribute [irreducible] unl

set_option maxRecDepth 100000 in
set_option maxHeartbeats 800000 in
theorem same_any (a b : List Nat) (w : World) (ha : a.length = 32) (hb : b.length = 32) (ha1 : Lt 256 a) (hb1 : Lt 256 b) :
    Calls Tryz.prog 24 #[.agg (bv a), .agg (bv b)] w fun e w' => e = .returned (.bool (decide (a = b))) ∧ Below w.heap.size w w' := by
  have HA := Lib.hid ha; clear ha
  have HB := Lib.hid hb; clear hb
  have HA1 := Lib.hid ha1; clear ha1
  have HB1 := Lib.hid hb1; clear hb1
  go_enter Tryz.func24, Tryz.ntmps24
  go_wp2
  go_loopw [5, 6, 7] (fun u _ i wr => ∃ k : Nat, k ≤ 32 ∧ i = .int .i64 k ∧ u = .int .u8 (unl a b k : Nat) ∧ wr.heap[w.heap.size]? = some (.cells (bv a) 62 (0, 0)) ∧ wr.heap[w.heap.size + 1]? = some (.cells (bv b) 62 (0, 0)) ∧ Below w.heap.size w wr) (fun _ _ i _ => 32 - (intOf i).toNat)
  case atStart => exact ⟨0, Nat.zero_le _, rfl, by rw [unl_zero]; rfl, (heap_prev _ _ _ (by simp)).trans (heap_last _ _ _ rfl), heap_last _ _ _ (by simp), ((Below.refl _ _).alloc (Nat.le_refl _) _).alloc (by simp) _⟩
  case round =>
    obtain ⟨k, hk, rfl, rfl, h1, h2, hb⟩ := hrel
    have H1 := Lib.hid h1; clear h1
    have H2 := Lib.hid h2; clear h2
    have HBel := Lib.hid hb; clear hb
    by_cases hlt : k < 32
    · have x1 : wr.cell? ⟨w.heap.size, k, none⟩ = some (.int .u8 (at0 a k : Nat)) := (cell_of_row _ _ k _ _ _ H1.out).trans (bv_get a k (by rw [HA.out]; exact hlt))
      have x2 : wr.cell? ⟨w.heap.size + 1, k, none⟩ = some (.int .u8 (at0 b k : Nat)) := (cell_of_row _ _ k _ _ _ H2.out).trans (bv_get b k (by rw [HB.out]; exact hlt))
      have la : at0 a k < 256 := HA1.out.getD (by decide) _
      have lb : at0 b k < 256 := HB1.out.getD (by decide) _
      have lu : unl a b k < 256 := unl_lt HA1.out HB1.out k
      have HX := Lib.hid (u8xor la lb)
      have HY := Lib.hid (u8or lu (xor_byte la lb))
      have HS := Lib.hid (unl_succ a b k)
      generalize unl a b k = u at *
      generalize at0 a k = y at *
      generalize at0 b k = z at *
      go_wp2
      go_region
      go_wp2
      go_roundw
      case rel =>
        go_light
        rw [HX.out, HY.out]
        exact ⟨k + 1, by omega, by go_num, by rw [HS.out], H1.out, H2.out, HBel.out.drew⟩
      case measure => simp [intOf]; omega
    · obtain rfl : k = 32 := by omega
      have HE := Lib.hid (unl_eq HA.out HB.out)
      generalize unl a b 32 = u at *
      go_wp2
      go_ret
      refine ⟨?_, HBel.out⟩
      rw [← HE.out]
      rfl
end Go.Proofs.YtgaoeljdlpemnaaGreatDoor.Hs
/- Bytes in memory; the keys of a ring: a map whose keys are arrays of two bytes. -/
namespace Go.Proofs.YtgaoeljdlpemnaaGreatDoor
open Go.RowKit Go.Edi Go.Wrap Go.Lib
open Go.Maps (Keyed)
open Go.Proofs.YtgaoeljdlpemnaaGreatDoor.Hs (Gl Byt)

/-- what stands below B for good: tables and errors of the library, the tables of sha -/
structure Ev (B : Nat) (w : World) : Prop where
  env : Env B w
  gl : Gl w
  b0 : 0 < B
  b1 : 1 < B
theorem Ev.on {B : Nat} {w w1 : World} (h : Ev B w) (hb : Below B w w1) : Ev B w1 :=
  ⟨h.env.on hb, ⟨by obtain ⟨t, f, e⟩ := h.gl.1; exact ⟨t, f, (hb.block _ h.b0).trans e⟩, by obtain ⟨t, f, e⟩ := h.gl.2; exact ⟨t, f, (hb.block _ h.b1).trans e⟩⟩, h.b0, h.b1⟩
def bn (t : Tx) : List Nat := t.map (·.toNat)
def nb (l : List Nat) : Tx := l.map UInt8.ofNat
theorem bn_len (t : Tx) : (bn t).length = t.length := by simp [bn]
theorem nb_len (l : List Nat) : (nb l).length = l.length := by simp [nb]
theorem bn_lt (t : Tx) : Go.Sha.Lt 256 (bn t) := by
  intro x hx
  obtain ⟨c, _, rfl⟩ := List.mem_map.1 hx
  exact c.toNat_lt
theorem nb_bn (t : Tx) : nb (bn t) = t := by
  unfold nb bn
  rw [List.map_map]
  conv => rhs; rw [← List.map_id t]
  exact List.map_congr_left (fun c _ => by simp)
theorem bn_nb {l : List Nat} (h : Go.Sha.Lt 256 l) : bn (nb l) = l := by
  unfold nb bn
  rw [List.map_map]
  conv => rhs; rw [← List.map_id l]
  exact List.map_congr_left (fun x hx => by have := h x hx; simp [UInt8.toNat_ofNat']; omega)
theorem bn_inj {a b : Tx} (h : bn a = bn b) : a = b := by rw [← nb_bn a, h, nb_bn]
/-- bytes in memory, in blocks that meet F -/
abbrev BysF (w : World) (F : Nat → Prop) (v : Value) (l : Tx) : Prop := RowF w F v l.length (Lib.byteCells l)
theorem bys_cell {l : Tx} {j : Nat} (hj : j < l.length) : (Lib.byteCells l)[j]? = some (.int .u8 (Go.Sha.at0 (bn l) j : Nat)) := by
  unfold Lib.byteCells Go.Sha.at0 bn
  rw [List.getElem?_map, List.getElem?_eq_getElem hj, List.getD_eq_getElem?_getD, List.getElem?_map, List.getElem?_eq_getElem hj]
  rfl
theorem bys_byt {w : World} {F : Nat → Prop} {v : Value} {l : Tx} {g : Nat} (h : BysF w F v l) (hF : ∀ b, F b → b ≠ g ∧ b < w.heap.size) : Byt w g v (bn l) := by
  obtain ⟨p, cap, e, hc, hp⟩ := h
  refine ⟨p, cap, by rw [bn_len]; exact e, by rw [bn_len]; exact hc, fun h0 => ?_⟩
  rw [bn_len] at h0
  obtain ⟨b, o, e1, e2, e3⟩ := hp h0
  refine ⟨b, o, e1, (hF b e2).1, (hF b e2).2, fun j hj => e3 j _ (bys_cell (by rw [bn_len] at hj; exact hj))⟩
theorem bys_str {w : World} {F : Nat → Prop} {v : Value} {l : Tx} (h : BysF w F v l) : (convert 39 9 v).run Tryz.prog w = .ok (str l) w := by
  obtain ⟨p, cap, rfl, hc, hp⟩ := h
  by_cases h0 : 0 < l.length
  · obtain ⟨b, o, rfl, _, e3⟩ := hp h0
    have hcc : ∀ i, i < l.length → w.cell? ⟨b, o + i, none⟩ = some (.int .u8 ((l.map fun (c : UInt8) => ((c.toNat : Nat) : Int)).getD i 0)) := fun i hi => by
      rw [e3 i (.int .u8 (((l[i]).toNat : Nat) : Int)) (by simp [Lib.byteCells, hi]), List.getD_eq_getElem?_getD, List.getElem?_map, List.getElem?_eq_getElem hi]
      rfl
    have := run_convert_bytes_arg (P := Tryz.prog) w 39 5 Tryz.underlying39 Tryz.underlying5 b o l.length cap (l.map fun (c : UInt8) => ((c.toNat : Nat) : Int)) (by simp) hcc 9 Tryz.underlying9
    rw [this]
    have e : strOfNums (l.map fun (c : UInt8) => ((c.toNat : Nat) : Int)) = tx l := by simp [strOfNums, tx, Function.comp_def]
    rw [e]
  · obtain rfl : l = [] := List.eq_nil_of_length_eq_zero (by omega)
    show (convert 39 9 (.slice p 0 cap)).run Tryz.prog w = _
    rw [run_convert_bytes_string w 39 9 5 p 0 cap Tryz.underlying39 Tryz.underlying5 Tryz.underlying9]
    cases p <;> simp [Conv.bytesToString] <;> rfl
theorem bys_one (l : Tx) : ∀ u ∈ Lib.byteCells l, u.oneCell' = true := by
  intro u hu
  obtain ⟨c, _, rfl⟩ := List.mem_map.1 hu
  rfl
/-- a pair of carriers as a map's key -/
def ka (f t : Nat) : Lit := .string [UInt8.ofNat f, UInt8.ofNat t]
def kp (f t : Nat) : Value := .agg #[.int .u8 (f : Int), .int .u8 (t : Int)]
theorem u8_inj {a b : Nat} (ha : a < 256) (hb : b < 256) (h : UInt8.ofNat a = UInt8.ofNat b) : a = b := by
  have := congrArg UInt8.toNat h
  simp [UInt8.toNat_ofNat'] at this
  omega
theorem ka_inj {a b c d : Nat} (ha : a < 256) (hb : b < 256) (hc : c < 256) (hd : d < 256) (h : ka a b = ka c d) : a = c ∧ b = d := by
  unfold ka at h
  simp only [Lit.string.injEq, List.cons.injEq, and_true] at h
  exact ⟨u8_inj ha hc h.1, u8_inj hb hd h.2⟩
theorem laidOutS : laidOutB Tryz.prog = true := by kernel_rfl
theorem KPair : Keyed Tryz.prog 58 := Keyed.of_law (deep_law_laid laidOutS (m := 2) (by omega) (of_decide_eq_true (by kernel_rfl)) (by kernel_rfl) (by rw [Tryz.underlying58]))
theorem cellsPair : Tryz.prog.cellsOf 58 = 2 := by kernel_rfl
theorem keyTypePair : Tryz.prog.keyType 58 = true := by kernel_rfl
theorem cellsU8s : Tryz.prog.cellsOf 5 = 1 := by kernel_rfl
theorem wf8 {n : Nat} (h : n < 256) : (Lit.int .u8 (n : Int)).wf = true := by
  have e1 : IntKind.u8.min = 0 := rfl
  have e2 : IntKind.u8.max = 255 := rfl
  simp only [Lit.wf, e1, e2, Bool.and_eq_true, decide_eq_true_eq]
  omega
theorem kb8 {n : Nat} (h : n < 256) : (Lit.int .u8 (n : Int)).keyBytes = [UInt8.ofNat n] := by
  have e1 : ((n : Int) % 2 ^ IntKind.u8.bits).toNat = n := by show ((n : Int) % 256).toNat = n; omega
  simp only [Lit.keyBytes]
  rw [e1]
  show bytesBE 1 n = _
  simp [bytesBE, bytesLE, Nat.mod_eq_of_lt h]
theorem kl8 (d : Nat) {n : Nat} (h : n < 256) : Tryz.prog.keyLits (d + 1) 5 [.int .u8 (n : Int)] = some [.int .u8 (n : Int)] := by
  unfold Program.keyLits
  rw [Tryz.underlying5]
  simp only [wf8 h, and_self, if_true]
theorem hkp {f t : Nat} (hf : f < 256) (ht : t < 256) : keyOf Tryz.prog 58 (kp f t) = some (ka f t) := by
  have hfm : (kp f t).formed Tryz.prog 58 = true := by simp [kp, Value.formed, Tryz.underlying58, cellsPair]
  unfold keyOf
  rw [Tryz.underlying58]
  simp only [keyTypePair, hfm, Bool.and_self, if_true]
  obtain ⟨m, hm⟩ : ∃ m, Tryz.prog.types.size + 1 = m + 1 + 1 := ⟨Tryz.prog.types.size - 1, by
    have : 0 < Tryz.prog.types.size := of_decide_eq_true (by kernel_rfl)
    omega⟩
  rw [hm]
  have e : Tryz.prog.keyLits (m + 1 + 1) 58 (kp f t).cells.toList = some [.int .u8 (f : Int), .int .u8 (t : Int)] := by
    unfold Program.keyLits
    rw [Tryz.underlying58]
    simp only [kp, Value.cells]
    have hr : List.range 2 = [0, 1] := rfl
    simp [cellsPair, cellsU8s, hr, kl8 m hf, kl8 m ht]
  rw [e]
  simp [keyBytes, kb8 hf, kb8 ht, ka]
/-- a ring's map in memory: of each pair that has a key, its bytes in blocks that meet P -/
structure RgM (mb cnt : Nat) (K : Nat → Nat → Option Tx) (P : Nat → Prop) (w : World) : Prop where
  own : ∃ D, w.ownsMap Tryz.prog 58 RV mb cnt D ∧
    (∀ f t key, f < 256 → t < 256 → K f t = some key → ∃ v, (∀ z, D.atKey (ka f t) z = .held v) ∧ Maps.has D (ka f t) = true ∧ BysF w P v key) ∧
    (∀ f t, f < 256 → t < 256 → K f t = none → Maps.has D (ka f t) = false) ∧
    (∀ kl, Maps.has D kl = true → ∃ f t key, f < 256 ∧ t < 256 ∧ kl = ka f t ∧ K f t = some key)
  pb : ∀ b, P b → b < w.heap.size ∧ b ≠ mb
theorem RgM.kept {mb cnt : Nat} {K : Nat → Nat → Option Tx} {P : Nat → Prop} {w w' : World} (h : RgM mb cnt K P w) (hs : w.heap.size ≤ w'.heap.size) (hm : w'.heap[mb]? = w.heap[mb]?) (hk : ∀ b, P b → w'.heap[b]? = w.heap[b]?) : RgM mb cnt K P w' := by
  obtain ⟨D, ⟨es, clock, e1, e2⟩, h2, h3, h4⟩ := h.own
  exact ⟨⟨D, ⟨es, clock, hm.trans e1, e2⟩, fun f t key hf ht hK => by
    obtain ⟨v, a1, a2, a3⟩ := h2 f t key hf ht hK
    exact ⟨v, a1, a2, a3.kept (fun b hb => ⟨hb, hk b hb⟩)⟩, h3, h4⟩, fun b hb => ⟨Nat.lt_of_lt_of_le (h.pb b hb).1 hs, (h.pb b hb).2⟩⟩
theorem RgM.lt {mb cnt : Nat} {K : Nat → Nat → Option Tx} {P : Nat → Prop} {w : World} (h : RgM mb cnt K P w) : mb < w.heap.size := by
  obtain ⟨D, ho, _⟩ := h.own
  exact ho.lt
theorem RgM.later {mb cnt : Nat} {K : Nat → Nat → Option Tx} {P : Nat → Prop} {w w' : World} (h : RgM mb cnt K P w) (hb : Below w.heap.size w w') : RgM mb cnt K P w' :=
  h.kept hb.size (hb.block _ h.lt) (fun b hp => hb.block b (h.pb b hp).1)
/-- what a look-up with ok answers -/
theorem RgM.look {mb cnt : Nat} {K : Nat → Nat → Option Tx} {P : Nat → Prop} {w : World} (h : RgM mb cnt K P w) {f t : Nat} (hf : f < 256) (ht : t < 256) (hz : (zeroValue 39).run Tryz.prog w = .ok (.slice none 0 0) w) :
    ∃ v, (Instr.lookup 54 (.map (some mb)) (kp f t) true).run Tryz.prog w = .ok (.tuple #[v, .bool (K f t).isSome]) w ∧ ∀ key, K f t = some key → BysF w P v key := by
  obtain ⟨D, ho, h2, h3, h4⟩ := h.own
  obtain ⟨v, ps, hrun, hv⟩ := ho.look_ok KPair Tryz.underlying54 hz (zd := .held (.slice none 0 0)) (zp := []) rfl (hkp hf ht)
  cases hK : K f t with
  | none =>
    rw [h3 f t hf ht hK] at hrun
    exact ⟨v, hrun, fun key e => by cases e⟩
  | some key =>
    obtain ⟨u, a1, a2, a3⟩ := h2 f t key hf ht hK
    rw [a2] at hrun
    rw [a1] at hv
    have e : v = u := DataW.held.inj (Prod.mk.inj (Option.some.inj hv)).1
    subst e
    exact ⟨v, hrun, fun key' e => by cases e; exact a3⟩
end Go.Proofs.YtgaoeljdlpemnaaGreatDoor
namespace Go.Proofs.YtgaoeljdlpemnaaGreatDoor
open Go.RowKit Go.Edi Go.Wrap Go.Lib
open Go.Maps (Keyed)

theorem slice_nil (w : World) (a : Option Addr) (l c : Nat) : (binOp .eql 39 (.slice a l c) (.slice none 0 0)).run Tryz.prog w = .ok (.bool a.isNone) w := by
  simp [binOp, run_equal_slice_nil w 39 5 a l c Tryz.underlying39]
theorem eq_toList (a b : Tx) : ((tx a).toList == (tx b).toList) = decide (a = b) := by
  rw [txl, txl]
  by_cases h : a = b
  · subst h; simp
  · rw [decide_eq_false h]; simpa using h
set_option maxRecDepth 100000 in
theorem bEqual_any (a b : Tx) (v u : Value) (F G : Nat → Prop) (w : World) (hv : BysF w F v a) (hu : BysF w G u b) :
    Calls Tryz.prog 41 #[v, u] w fun e w' => e = .returned (.bool (decide (a = b))) ∧ w' = w := by
  have h1 := bys_str hv
  have h2 := bys_str hu
  have HE := Lib.hid (eq_toList a b)
  clear hv hu
  go_enter Tryz.func41, Tryz.ntmps41
  go_wp2
  go_ret
  exact ⟨ret_bool HE.out, rfl⟩
set_option maxRecDepth 100000 in
theorem bClone_any (l : Tx) (v : Value) (F : Nat → Prop) (w : World) (hl : 0 < l.length) (hl2 : l.length ≤ 1000000) (hv : BysF w F v l) (hF : ∀ b, F b → b < w.heap.size) :
    Calls Tryz.prog 28 #[v] w fun e w' => ∃ p cap, e = .returned (.slice p l.length cap) ∧ w'.ownsRow w.heap.size 5 1 (.slice p l.length cap) l.length (Lib.byteCells l) ∧ Below w.heap.size w w' := by
  obtain ⟨p, cap, rfl, hc, hp⟩ := hv
  obtain ⟨b, o, rfl, hFb, hcell⟩ := hp hl
  have HV := Lib.hid (show BysF (w.alloc (.cells #[] 5)) F (.slice (some ⟨b, o, none⟩) l.length cap) l from RowF.kept (w := w) (F := F) ⟨_, _, rfl, hc, fun _ => ⟨b, o, rfl, hFb, hcell⟩⟩ (fun b hb => ⟨hb, Below.heap_alloc _ _ _ (hF b hb)⟩))
  have HO := Lib.hid (World.ownsRow_made (base := w.heap.size) (e := 5) (size := 1) w #[] 0 (Nat.le_refl _) (by decide) rfl)
  have HB := Lib.hid ((Below.refl w.heap.size w).alloc (Nat.le_refl _) (.cells #[] 5))
  have HL := Lib.hid hl2
  have hnil : ∀ W, (binOp .eql 39 (.slice (some ⟨b, o, none⟩) l.length cap) (.slice none 0 0)).run Tryz.prog W = .ok (.bool false) W := fun W => slice_nil W _ _ _
  clear hp hc hcell hFb hl hl2 hF
  go_enter Tryz.func28, Tryz.ntmps28
  go_wp2_with (at_builtin; refine wl_appF 39 5 (.int .u8 0) 1 1 par_u8 Tryz.underlying39 rfl (by decide) (by decide) w.heap.size (.slice (some ⟨w.heap.size, 0, none⟩) 0 0) 0 [] rfl HO.out (.slice (some ⟨b, o, none⟩) l.length cap) F l.length (Lib.byteCells l) rfl HV.out (by rw [Lib.byteCells_length, Nat.mul_one]) (bys_one l) (by have := HL.out; omega) HB.out.size ?_)
  intro v' w2 ho hgr _
  rw [Nat.zero_add, List.nil_append] at ho
  obtain ⟨p', cap', rfl⟩ := own_slice ho
  have HO2 := Lib.hid ho
  have HB2 := Lib.hid (HB.out.grown hgr HB.out.size (fun k hk => (HO.out.lt k hk).1))
  clear ho hgr
  go_wp2
  go_ret
  exact ⟨p', cap', rfl, HO2.out, HB2.out⟩
set_option maxRecDepth 100000 in
theorem carriers_nil (w : World) : Calls Tryz.prog 7 #[.pointer none] w fun e w' => e = .returned (.int .i64 0) ∧ w' = w := by
  go_enter Tryz.func7, Tryz.ntmps7
  go_wp2
  go_ret
  exact ⟨rfl, rfl⟩
/-- the two cells of a ring -/
abbrev rgV (n mb : Nat) : Array Value := #[.int .i64 (n : Int), .map (some mb)]
set_option maxRecDepth 100000 in
theorem carriers_any (n mb rb : Nat) (w : World) (hr : w.heap[rb]? = some (.cells (rgV n mb) 56 (0, 0))) : Calls Tryz.prog 7 #[.pointer (some ⟨rb, 0, none⟩)] w fun e w' => e = .returned (.int .i64 (n : Int)) ∧ w' = w := by
  have c0 := cell_of_arr hr 0
  simp only [List.getElem?_toArray, List.getElem?_cons_zero] at c0
  have hlt := lt_of_heap hr
  clear hr
  go_enter Tryz.func7, Tryz.ntmps7
  go_wp2
  go_ret
  exact ⟨rfl, rfl⟩
/-- which keys may be put to others -/
def keyFits (K : Nat → Nat → Option Tx) (key : Tx) : Prop := 0 < key.length ∧ key.length ≤ 64 ∧ ∀ f t k, f < 256 → t < 256 → K f t = some k → k ≠ key
set_option maxRecDepth 100000 in
set_option maxHeartbeats 1600000 in
theorem mayHave_any (n mb cnt rb : Nat) (K : Nat → Nat → Option Tx) (P : Nat → Prop) (key : Tx) (v : Value) (F : Nat → Prop) (w : World) (hr : w.heap[rb]? = some (.cells (rgV n mb) 56 (0, 0))) (hm : RgM mb cnt K P w)
    (hv : BysF w F v key) (hF : ∀ b, F b → b < w.heap.size) (hfit : keyFits K key) :
    Calls Tryz.prog 27 #[.pointer (some ⟨rb, 0, none⟩), v] w fun e w' => e = .returned (.bool true) ∧ Below w.heap.size w w' := by
  obtain ⟨hf1, hf2, hf3⟩ := hfit
  obtain ⟨p, cap, rfl⟩ : ∃ p cap, v = .slice p key.length cap := by obtain ⟨p, cap, e, _⟩ := hv; exact ⟨p, cap, e⟩
  obtain ⟨D, hown, h2, h3, h4⟩ := hm.own
  have c1 := cell_of_arr hr 1
  simp only [List.getElem?_toArray, List.getElem?_cons_zero, List.getElem?_cons_succ] at c1
  have hlt := lt_of_heap hr
  obtain ⟨N, hN⟩ : ∃ N, N = key.length := ⟨_, rfl⟩
  rw [← hN] at hv ⊢
  have k1 : ¬ (N : Int) = 0 := by omega
  have k2 : ¬ (64 : Int) < (N : Int) := by omega
  have HV := Lib.hid (show BysF w F (.slice p N cap) key from hv)
  have HF := Lib.hid hF
  have HH := Lib.hid (show ∀ (kl : Lit), Maps.has D kl = true → ∃ k u, BysF w P u k ∧ (∀ z, D.atKey kl z = .held u) ∧ k ≠ key from fun kl hk => by
    obtain ⟨f, t, k, a1, a2, rfl, a4⟩ := h4 kl hk
    obtain ⟨u, b1, _, b3⟩ := h2 f t k a1 a2 a4
    exact ⟨k, u, b3, b1, hf3 f t k a1 a2 a4⟩)
  have HP := Lib.hid (fun b hb => (hm.pb b hb).1)
  have HO := Lib.hid hown
  clear hv hF hf1 hf2 hf3 h2 h3 h4 hr hm hown hN
  go_enter Tryz.func27, Tryz.ntmps27
  go_wp2_with (first | (at_range; refine wpList_range_own _ rfl _ 54 rfl 58 39 KPair Tryz.underlying54 _ mb cnt D rfl HO.out ?_; intro w0 hrg0 hg0 hs0) | go_in)
  go_loopw [6] (fun _ wr => ∃ (left : Lit → Bool) (c : Nat), wr.ranges Tryz.prog 58 RV mb w.heap.size cnt D left c ∧ Below w.heap.size w wr ∧ (∀ kl, left kl = true → Maps.has D kl = true))
    (fun _ wr => wr.rangeLeft mb w.heap.size)
  case atStart => exact ⟨_, _, hrg0, ⟨hg0.os, hg0.tape, hg0.output, hg0.size, fun k hk => hg0.block k hk (by simp)⟩, fun _ h => h⟩
  case round =>
    obtain ⟨left, c, hrg, hgw, hsub⟩ := hrel
    have HGW := Lib.hid hgw
    go_wp2_with (first
      | (at_next; refine wpList_next_ranges _ rfl _ rfl 58 KPair RV id id (fun key kl _ => ⟨key, rfl⟩) (fun v y _ => ⟨v, rfl⟩) mb w.heap.size cnt D left c rfl hrg ?_ ?_)
      | go_in)
    · intro _ _
      go_wp2
      go_ret
      exact ⟨rfl, HGW.out⟩
    · intro x u kl y1 y2 w1 cnt1 hkey hlk hR hat hrg1 hlt1 hg1 hs1 hen
      obtain ⟨k, u', b1, b2, b3⟩ := HH.out kl (hsub kl hlk)
      have hu : u = u' := by
        have e1 : y1 = .held u := (Prod.mk.inj (Option.some.inj hR)).1.symm
        have e2 := hat (.held u)
        rw [b2, e1] at e2
        exact (DataW.held.inj e2).symm
      subst hu
      have hgw1 : Below w.heap.size w w1 := HGW.out.grown hg1 HGW.out.size (fun k hk => by cases hk; exact Nat.le_refl _)
      have HGW1 := Lib.hid hgw1
      have HQ := Lib.hid (bEqual_any key k (.slice p N cap) u F P w1 (HV.out.kept (fun b hb => ⟨hb, hgw1.block b (HF.out b hb)⟩)) (b1.kept (fun b hb => ⟨hb, hgw1.block b (HP.out b hb)⟩)))
      have hne : decide (key = k) = false := decide_eq_false (fun e => b3 e.symm)
      rw [hne] at HQ
      have HRG := Lib.hid hrg1
      have HLE := Lib.hid (show w1.rangeLeft mb w.heap.size < wr.rangeLeft mb w.heap.size by rw [hrg1.left_eq, hrg.left_eq]; exact hlt1)
      have HSB := Lib.hid hsub
      clear hgw hgw1 hrg hrg1 hat hR b1 b2 b3 hne hlt1 hsub
      go_wp2_with (go_at_call 41; refine (HQ.out).mono ?_; rintro e w2 ⟨rfl, hw2⟩; have hw3 := hw2.symm; subst hw3)
      go_roundw
      case rel => exact ⟨_, cnt1, HRG.out, HGW1.out, fun kl h => HSB.out kl (by simp at h; exact h.1)⟩
      case measure => exact HLE.out
end Go.Proofs.YtgaoeljdlpemnaaGreatDoor
