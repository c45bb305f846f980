/- What the codec rows' cards lean on: records and bytes that came in. (Written by tools/cd-open.py.) -/
import Derived.Test.YtjdfdihopgceoaaRows
import Derived.Test.YtjdfdihopgceoaaCdGr
import Derived.ProofKit
import Derived.OpenShut
import Derived.JoinedOf
import Derived.ChangeMaps5
import Derived.Deep.Slices
import Derived.Carry
import Derived.ChangeCalls
namespace Go.Proofs.Ytjdfdihopgceoaa.Cd
open Go.ChangeShapes Go.WideShapes Go.ChangeAt Go.RowKit Go.ChangeMaps Go.Deep Go.Dk Go.Jn Go.Cod

theorem own : ownKnob Try.prog.godebug = none := by kernel_rfl
theorem laidOut : laidOutB Try.prog = true := by kernel_rfl
theorem cellsU8 : Try.prog.cellsOf 5 = 1 := by kernel_rfl
theorem cellsBytes : Try.prog.cellsOf 47 = 1 := by kernel_rfl
theorem wf8 {n : Int} (h : (Lit.int .u8 n).wf = true) : 0 ≤ n ∧ n < 256 := by
  simp [Lit.wf, IntKind.min, IntKind.max, IntKind.signed, IntKind.bits] at h; omega
theorem list3 {α : Type} (l : List α) (h : l.length = 3) : ∃ a b c, l = [a, b, c] := by
  match l, h with
  | [a, b, c], _ => exact ⟨a, b, c, rfl⟩
theorem arr3 (A : Array Value) (h : A.toList.length = 3) : ∃ a b c, A = #[a, b, c] := by
  obtain ⟨a, b, c, he⟩ := list3 A.toList h
  exact ⟨a, b, c, Array.toList_inj.1 he⟩
theorem list4 {α : Type} (l : List α) (h : l.length = 4) : ∃ a b c d, l = [a, b, c, d] := by
  match l, h with
  | [a, b, c, d], _ => exact ⟨a, b, c, d, rfl⟩
theorem arr4 (A : Array Value) (h : A.toList.length = 4) : ∃ a b c d, A = #[a, b, c, d] := by
  obtain ⟨a, b, c, d, he⟩ := list4 A.toList h
  exact ⟨a, b, c, d, Array.toList_inj.1 he⟩
theorem list1 {α : Type} (l : List α) (h : l.length = 1) : ∃ a, l = [a] := by
  match l, h with
  | [a], _ => exact ⟨a, rfl⟩
theorem arr1 (A : Array Value) (h : A.toList.length = 1) : ∃ a, A = #[a] := by
  obtain ⟨a, e⟩ := list1 _ h
  exact ⟨a, by rw [← Array.toArray_toList (xs := A), e]⟩
theorem list2 {α : Type} (l : List α) (h : l.length = 2) : ∃ a b, l = [a, b] := by
  match l, h with
  | [a, b], _ => exact ⟨a, b, rfl⟩
theorem arr2 (A : Array Value) (h : A.toList.length = 2) : ∃ a b, A = #[a, b] := by
  obtain ⟨a, b, e⟩ := list2 _ h
  exact ⟨a, b, by rw [← Array.toArray_toList (xs := A), e]⟩
theorem c_u8 : Try.prog.cellsOf 5 = 1 := by kernel_rfl
theorem c_u16 : Try.prog.cellsOf 33 = 1 := by kernel_rfl
theorem c_u32 : Try.prog.cellsOf 34 = 1 := by kernel_rfl
theorem c_u64 : Try.prog.cellsOf 22 = 1 := by kernel_rfl
theorem c_i64 : Try.prog.cellsOf 2 = 1 := by kernel_rfl
theorem c_St : Try.prog.cellsOf 37 = 1 := by kernel_rfl
theorem c_Er : Try.prog.cellsOf 40 = 1 := by kernel_rfl
theorem c_str : Try.prog.cellsOf 9 = 1 := by kernel_rfl
theorem c_legs : Try.prog.cellsOf 25 = 1 := by kernel_rfl
theorem c_taxes : Try.prog.cellsOf 26 = 1 := by kernel_rfl
theorem c_tk : Try.prog.cellsOf 24 = 2 := by kernel_rfl
theorem c_lg : Try.prog.cellsOf 36 = 3 := by kernel_rfl
theorem c_ke : Try.prog.cellsOf 32 = 3 := by kernel_rfl
theorem c_cp : Try.prog.cellsOf 39 = 6 := by kernel_rfl
theorem c_ms : Try.prog.cellsOf 42 = 12 := by kernel_rfl
theorem c_txs : Try.prog.cellsOf 58 = 2 := by kernel_rfl
theorem c_sa : Try.prog.cellsOf 28 = 5 := by kernel_rfl
theorem c_cm : Try.prog.cellsOf 30 = 10 := by kernel_rfl
theorem c_rc : Try.prog.cellsOf 44 = 25 := by kernel_rfl
section
variable {H : Type} {enc : TypeId × Value → H}
theorem trodAll_get {W : World} {base : Nat} {sp : Nat → Bool} {held : Bool} : ∀ {ts : List TypeId} {vs : List Value} {ds : List (DataW H)} {ps : List MemPlace}, DataW.TrodAll enc Try.prog W base sp held ts vs ds ps →
    ∀ (j : Nat) {t : TypeId} {v : Value}, ts[j]? = some t → vs[j]? = some v → ∃ d p, DataW.Trod enc Try.prog W base sp held t v d p
  | [], _, _, _, _, j, t, v, ht, _ => by simp at ht
  | t0 :: ts, vs, ds, ps, h, j, t, v, ht, hv => by
    obtain ⟨v0, vs', d0, ds', p0, p', rfl, rfl, rfl, h0, h1⟩ := trodAll_cons h
    cases j with
    | zero =>
      simp only [List.getElem?_cons_zero, Option.some.injEq] at ht hv
      subst ht hv
      exact ⟨d0, p0, h0⟩
    | succ j => exact trodAll_get h1 j (by simpa using ht) (by simpa using hv)
theorem trodAll_below' {W W' : World} (hb : Below W.heap.size W W') : ∀ {ts : List TypeId} {vs : List Value} {ds : List (DataW H)} {ps : List MemPlace}, DataW.TrodAll enc Try.prog W 0 (fun _ => true) true ts vs ds ps →
    (∀ t ∈ ts, Try.prog.readableRec t = true ∧ t < Try.prog.types.size) → (∀ x ∈ ps, x.block < W.heap.size) → DataW.TrodAll enc Try.prog W' 0 (fun b => decide (b < W.heap.size)) true ts vs ds ps
  | [], vs, ds, ps, h, _, _ => by
    obtain ⟨rfl, rfl, rfl⟩ := trodAll_nil h
    exact trodAll_mk0
  | t :: ts, vs, ds, ps, h, ht, hl => by
    obtain ⟨v0, vs', d0, ds', p0, p', rfl, rfl, rfl, h0, h1⟩ := trodAll_cons h
    have h2 := ht t (by simp)
    exact trodAll_cons_mk (Below.trod laidOut h2.1 h2.2 h0 hb (fun x hx => hl x (by simp [hx]))) (trodAll_below' hb h1 (fun t' h' => ht t' (by simp [h'])) (fun x hx => hl x (by simp [hx])))
theorem trodAll_below {W W' : World} {ts : List TypeId} {vs : List Value} {ds : List (DataW H)} {ps : List MemPlace} (h : DataW.TrodAll enc Try.prog W 0 (fun _ => true) true ts vs ds ps)
    (hr : ts.all (fun t => Try.prog.readableRec t) = true) (hn : ts.all (fun t => decide (t < 110)) = true) (hb : Below W.heap.size W W') (hl : ∀ x ∈ ps, x.block < W.heap.size) :
    DataW.TrodAll enc Try.prog W' 0 (fun b => decide (b < W.heap.size)) true ts vs ds ps := by
  have hsz : 110 ≤ Try.prog.types.size := of_decide_eq_true (by kernel_rfl)
  exact trodAll_below' hb h (fun t ht => ⟨List.all_eq_true.1 hr t ht, Nat.lt_of_lt_of_le (of_decide_eq_true (List.all_eq_true.1 hn t ht)) hsz⟩) hl
end
def Wf (k : IntKind) (n : Int) : Prop := (Lit.int k n).wf = true
theorem wf_u8 {n : Int} (h : Wf .u8 n) : 0 ≤ n ∧ n < 256 := by simp [Wf, Lit.wf, IntKind.min, IntKind.max, IntKind.signed, IntKind.bits] at h; omega
theorem wf_u16 {n : Int} (h : Wf .u16 n) : 0 ≤ n ∧ n < 65536 := by simp [Wf, Lit.wf, IntKind.min, IntKind.max, IntKind.signed, IntKind.bits] at h; omega
theorem wf_u32 {n : Int} (h : Wf .u32 n) : 0 ≤ n ∧ n < 4294967296 := by simp [Wf, Lit.wf, IntKind.min, IntKind.max, IntKind.signed, IntKind.bits] at h; omega
theorem wf_u64 {n : Int} (h : Wf .u64 n) : 0 ≤ n ∧ n < 18446744073709551616 := by simp [Wf, Lit.wf, IntKind.min, IntKind.max, IntKind.signed, IntKind.bits] at h; omega
theorem wf_i64 {n : Int} (h : Wf .i64 n) : -9223372036854775808 ≤ n ∧ n ≤ 9223372036854775807 := by simp [Wf, Lit.wf, IntKind.min, IntKind.max, IntKind.signed, IntKind.bits] at h; omega
theorem res_of {a : Int} (h : Wf .i64 a) : ∃ n : Nat, n < 18446744073709551616 ∧ a = wrap64 (n : Int) := by
  have := wf_i64 h
  refine ⟨(a % 18446744073709551616).toNat, by omega, ?_⟩
  unfold wrap64
  omega
theorem nat_u8 {a : Int} (h : Wf .u8 a) : ∃ n : Nat, n < 256 ∧ a = (n : Int) := by have := wf_u8 h; exact ⟨a.toNat, by omega, by omega⟩
theorem nat_u16 {a : Int} (h : Wf .u16 a) : ∃ n : Nat, n < 65536 ∧ a = (n : Int) := by have := wf_u16 h; exact ⟨a.toNat, by omega, by omega⟩
theorem nat_u32 {a : Int} (h : Wf .u32 a) : ∃ n : Nat, n < 4294967296 ∧ a = (n : Int) := by have := wf_u32 h; exact ⟨a.toNat, by omega, by omega⟩
theorem nat_u64 {a : Int} (h : Wf .u64 a) : ∃ n : Nat, n < 18446744073709551616 ∧ a = (n : Int) := by have := wf_u64 h; exact ⟨a.toNat, by omega, by omega⟩
section
variable {H : Type} {enc : TypeId × Value → H} {W : World} {base : Nat} {sp : Nat → Bool} {held : Bool}
theorem intc_of {t : TypeId} {k : IntKind} (ht : Try.prog.underlying t = some (.int k)) {n : Nat} {v : Value} {y : DataW H × List MemPlace} (h : DataW.trod enc Try.prog W base sp held n t [v] = some y) : ∃ c : Int, v = .int k c ∧ Wf k c := by
  obtain ⟨a, g, _, w0⟩ := DataW.trod_int ht h
  simp only [List.cons.injEq, and_true] at g
  exact ⟨a, g, w0⟩
theorem addr_of {W : World} {a : Addr} {u : Value} (h : W.cell? (a.add 0) = some u) : ∃ b o, a = ⟨b, o, none⟩ ∧ b < W.heap.size := by
  obtain ⟨b, o, spot⟩ := a
  have hspot : spot = none := by simpa [Addr.add] using World.cell?_spot h
  subst hspot
  refine ⟨b, o, rfl, ?_⟩
  have := block_lt_of_cell h
  rw [Addr.add_mid] at this
  exact this
set_option maxRecDepth 100000 in
theorem ints_of {t e : TypeId} {k : IntKind} (ht : Try.prog.underlying t = some (.slice e)) (he : Try.prog.underlying e = some (.int k)) (hcl : Try.prog.cellsOf e = 1) {n : Nat} {v : Value} {y : DataW H × List MemPlace}
    (h : DataW.trod enc Try.prog W base sp held n t [v] = some y) : ∃ (l : List Int) (p : Option Addr) (cap : Nat), v = .slice p l.length cap ∧ (∀ x ∈ l, (Lit.int k x).wf = true) ∧ RowF W (· < W.heap.size) v l.length (l.map (Value.int k)) := by
  rcases open_ints ht he hcl h with ⟨hcs, _⟩ | ⟨a, len, cap, zs, hcs, _, hl, hm, hz, _, hcell, hwz⟩
  · simp only [List.cons.injEq, and_true] at hcs
    subst hcs
    exact ⟨[], none, 0, rfl, fun x hx => by simp at hx, none, 0, rfl, Nat.le_refl _, fun h => absurd h (by simp)⟩
  · simp only [List.cons.injEq, and_true] at hcs
    subst hcs
    have hlz : len ≤ zs.length := by rw [hz]; split <;> omega
    have hlen : (zs.take len).length = len := by rw [List.length_take]; omega
    refine ⟨zs.take len, some a, cap, by rw [hlen], fun x hx => hwz x (List.mem_of_mem_take hx), ?_⟩
    rw [hlen]
    refine ⟨some a, cap, rfl, hl, fun hp => ?_⟩
    have c0 := hcell 0 (by omega)
    obtain ⟨b, o, rfl, hb⟩ := addr_of c0
    refine ⟨b, o, rfl, hb, fun j u hu => ?_⟩
    rw [List.getElem?_map, List.getElem?_take] at hu
    split at hu
    · rename_i hj
      have hjz : j < zs.length := by omega
      rw [List.getElem?_eq_getElem hjz] at hu
      have := hcell j hjz
      rw [Addr.add_mid, List.getD_eq_getElem?_getD, List.getElem?_eq_getElem hjz] at this
      rw [this, ← hu]
      rfl
    · cases hu
theorem bytes_of {n : Nat} {v : Value} {y : DataW H × List MemPlace} (h : DataW.trod enc Try.prog W base sp held n 47 [v] = some y) : ∃ (l : By) (p : Option Addr) (cap : Nat), v = .slice p l.length cap ∧ BysF W (· < W.heap.size) v l := by
  obtain ⟨l, p, cap, hv, hw, hr⟩ := ints_of Try.underlying47 Try.underlying5 cellsU8 h
  have e : l.map (Value.int .u8) = Lib.byteCells (l.map fun x => UInt8.ofNat x.toNat) := by
    unfold Lib.byteCells
    rw [List.map_map]
    refine List.map_congr_left (fun x hx => ?_)
    have := wf8 (hw x hx)
    simp only [Function.comp, UInt8.toNat_ofNat']
    rw [show x.toNat % 2 ^ 8 = x.toNat by omega, show ((x.toNat : Nat) : Int) = x by omega]
  rw [e] at hr
  refine ⟨l.map fun x => UInt8.ofNat x.toNat, p, cap, by rw [List.length_map]; exact hv, ?_⟩
  unfold BysF
  rw [List.length_map]
  exact hr
set_option maxRecDepth 100000 in
theorem open_bytes {r : Reach} {b0 : Nat} {v : Value} {d : DataW H} {p : List MemPlace} (hv : Value.okWide Try.prog W r b0 47 v) (h : DataW.Trod enc Try.prog W base sp held 47 v d p) :
    ∃ (l : By) (q : Option Addr) (cap : Nat), v = .slice q l.length cap ∧ BysF W (· < W.heap.size) v l := by
  obtain ⟨a0, len, cap, rfl⟩ := okWide_slice Try.underlying47 hv
  obtain ⟨fuel, hf⟩ := h
  exact bytes_of hf
theorem strc_of {n : Nat} {v : Value} {y : DataW H × List MemPlace} (h : DataW.trod enc Try.prog W base sp held n 9 [v] = some y) : ∃ t : By, v = str t := by
  obtain ⟨a, g, _⟩ := DataW.trod_string Try.underlying9 h
  simp only [List.cons.injEq, and_true] at g
  exact ⟨a.data.toList, by rw [g]; simp [tx]⟩
theorem rowf_open {α : Type} [Inhabited α] {ec : α → List Value} {k : Nat} {Q : α → Prop} {t e : TypeId} (ht : Try.prog.underlying t = some (.slice e)) (hce : Try.prog.cellsOf e = k) (h0 : 0 < k) (hk : ∀ x, (ec x).length = k)
    (each : ∀ n cs y, DataW.trod enc Try.prog W base sp held n e cs = some y → cs.length = k → ∃ x, cs = ec x ∧ Q x)
    {fuel : Nat} {v : Value} {x : DataW H × List MemPlace} (h : DataW.trod enc Try.prog W base sp held fuel t [v] = some x) :
    ∃ (L : List α) (p : Option Addr) (cap : Nat), v = .slice p L.length cap ∧ RowF W (· < W.heap.size) v L.length (flt ec L) ∧ ∀ x ∈ L, Q x := by
  rcases open_slice ht h with ⟨hcs, _⟩ | ⟨a, len, cap, m, n, D, Pl, hcs, _, hl, hm, hmm, _, hx⟩
  · simp only [List.cons.injEq, and_true] at hcs
    subst hcs
    exact ⟨[], none, 0, rfl, rowf_nil _ _, fun x hx => by simp at hx⟩
  · simp only [List.cons.injEq, and_true] at hcs
    subst hcs
    have hlm : len ≤ m := by rw [hmm]; split <;> omega
    have key : ∀ q, q ≤ len → ∃ L : List α, L.length = q ∧ (∀ x ∈ L, Q x) ∧ ∀ j u, (flt ec L)[j]? = some u → W.cell? (a.add j) = some u := by
      intro q
      induction q with
      | zero => intro _; exact ⟨[], rfl, fun x hx => by simp at hx, fun j u hu => by simp [flt] at hu⟩
      | succ q ih =>
        intro hq
        obtain ⟨L, e1, e2, e3⟩ := ih (by omega)
        obtain ⟨cs, h1, h2⟩ := hx q (by omega)
        rw [hce] at h1
        obtain ⟨_, hlen, hcell⟩ := World.cells?_some h1
        obtain ⟨y, rfl, hy⟩ := each _ _ _ h2 hlen
        refine ⟨L ++ [y], by simp [e1], fun x hx => ?_, fun j u hu => ?_⟩
        · rcases List.mem_append.1 hx with hx | hx
          · exact e2 x hx
          · simp at hx; rw [hx]; exact hy
        · rw [flt_append, flt_one] at hu
          have hfl : (flt ec L).length = q * k := by rw [flt_len hk, e1]
          by_cases hj : j < q * k
          · rw [List.getElem?_append_left (by omega)] at hu
            exact e3 j u hu
          · rw [List.getElem?_append_right (by omega), hfl] at hu
            have hjk : j - q * k < k := by have := (List.getElem?_eq_some_iff.1 hu).1; rw [hk] at this; exact this
            have := hcell (j - q * k) hjk
            rw [add_add, hu, show q * k + (j - q * k) = j by omega] at this
            exact this
    obtain ⟨L, e1, e2, e3⟩ := key len (Nat.le_refl _)
    refine ⟨L, some a, cap, by rw [e1], ⟨some a, cap, by rw [e1], by rw [e1]; exact hl, fun hp => ?_⟩, e2⟩
    have hfl : (flt ec L).length = L.length * k := flt_len hk L
    have hpos : 0 < (flt ec L).length := by rw [hfl]; exact Nat.mul_pos hp h0
    have hc0 := e3 0 _ (List.getElem?_eq_getElem hpos)
    obtain ⟨b, o, rfl, hb⟩ := addr_of hc0
    exact ⟨b, o, rfl, hb, fun j u hu => by have := e3 j u hu; rw [Addr.add_mid] at this; exact this⟩
instance : Inhabited Lg := ⟨zLg⟩
instance : Inhabited Tx := ⟨zTx⟩
theorem tkU : ∃ f0 f1 : Field, Try.prog.underlying 24 = some (.struct #[f0, f1]) ∧ (f0.offset = 0 ∧ f1.offset = 1) ∧ (f0.type = 5 ∧ f1.type = 22) :=
  ⟨_, _, Try.underlying24, ⟨rfl, rfl⟩, ⟨rfl, rfl⟩⟩
set_option maxRecDepth 100000 in
theorem tk_of {n : Nat} {cs : List Value} {y : DataW H × List MemPlace} (h : DataW.trod enc Try.prog W base sp held n 24 cs = some y) (hl : cs.length = 2) : ∃ (x0 : Nat), ∃ (x1 : Nat), cs = [.int .u8 (x0 : Int), .int .u64 (x1 : Int)] ∧ (x0 < 256) ∧ (x1 < 18446744073709551616) := by
  obtain ⟨f0, f1, hu, ⟨o0, o1⟩, t0, t1⟩ := tkU
  obtain ⟨xs, m, _, _, _, hn, hel⟩ := DataW.trod_struct hu h
  match cs, hl with
  | [a0, a1], _ =>
    have e0 := hel 0 f0 rfl
    rw [t0, o0, c_u8, List.getElem?_eq_getElem (by rw [hn]; show _ < 2; omega)] at e0
    have e1 := hel 1 f1 rfl
    rw [t1, o1, c_u64, List.getElem?_eq_getElem (by rw [hn]; show _ < 2; omega)] at e1
    obtain ⟨y0, rfl, v0⟩ := intc_of Try.underlying5 e0
    obtain ⟨x0, w0, rfl⟩ := nat_u8 v0
    obtain ⟨y1, rfl, v1⟩ := intc_of Try.underlying22 e1
    obtain ⟨x1, w1, rfl⟩ := nat_u64 v1
    exact ⟨x0, x1, rfl, w0, w1⟩
theorem lgU : ∃ f0 f1 f2 : Field, Try.prog.underlying 36 = some (.struct #[f0, f1, f2]) ∧ (f0.offset = 0 ∧ f1.offset = 1 ∧ f2.offset = 2) ∧ (f0.type = 5 ∧ f1.type = 33 ∧ f2.type = 34) :=
  ⟨_, _, _, Try.underlying36, ⟨rfl, rfl, rfl⟩, ⟨rfl, rfl, rfl⟩⟩
set_option maxRecDepth 100000 in
theorem lg_of {n : Nat} {cs : List Value} {y : DataW H × List MemPlace} (h : DataW.trod enc Try.prog W base sp held n 36 cs = some y) (hl : cs.length = 3) : ∃ (x0 : Nat), ∃ (x1 : Nat), ∃ (x2 : Nat), cs = [.int .u8 (x0 : Int), .int .u16 (x1 : Int), .int .u32 (x2 : Int)] ∧ (x0 < 256) ∧ (x1 < 65536) ∧ (x2 < 4294967296) := by
  obtain ⟨f0, f1, f2, hu, ⟨o0, o1, o2⟩, t0, t1, t2⟩ := lgU
  obtain ⟨xs, m, _, _, _, hn, hel⟩ := DataW.trod_struct hu h
  match cs, hl with
  | [a0, a1, a2], _ =>
    have e0 := hel 0 f0 rfl
    rw [t0, o0, c_u8, List.getElem?_eq_getElem (by rw [hn]; show _ < 3; omega)] at e0
    have e1 := hel 1 f1 rfl
    rw [t1, o1, c_u16, List.getElem?_eq_getElem (by rw [hn]; show _ < 3; omega)] at e1
    have e2 := hel 2 f2 rfl
    rw [t2, o2, c_u32, List.getElem?_eq_getElem (by rw [hn]; show _ < 3; omega)] at e2
    obtain ⟨y0, rfl, v0⟩ := intc_of Try.underlying5 e0
    obtain ⟨x0, w0, rfl⟩ := nat_u8 v0
    obtain ⟨y1, rfl, v1⟩ := intc_of Try.underlying33 e1
    obtain ⟨x1, w1, rfl⟩ := nat_u16 v1
    obtain ⟨y2, rfl, v2⟩ := intc_of Try.underlying34 e2
    obtain ⟨x2, w2, rfl⟩ := nat_u32 v2
    exact ⟨x0, x1, x2, rfl, w0, w1, w2⟩
theorem keU : ∃ f0 f1 : Field, Try.prog.underlying 32 = some (.struct #[f0, f1]) ∧ (f0.offset = 0 ∧ f1.offset = 2) ∧ (f0.type = 24 ∧ f1.type = 5) :=
  ⟨_, _, Try.underlying32, ⟨rfl, rfl⟩, ⟨rfl, rfl⟩⟩
set_option maxRecDepth 100000 in
theorem ke_of {n : Nat} {cs : List Value} {y : DataW H × List MemPlace} (h : DataW.trod enc Try.prog W base sp held n 32 cs = some y) (hl : cs.length = 3) : ∃ (x0_0 : Nat), ∃ (x1_0 : Nat), ∃ (x1 : Nat), cs = [.int .u8 (x0_0 : Int), .int .u64 (x1_0 : Int), .int .u8 (x1 : Int)] ∧ (x0_0 < 256) ∧ (x1_0 < 18446744073709551616) ∧ (x1 < 256) := by
  obtain ⟨f0, f1, hu, ⟨o0, o1⟩, t0, t1⟩ := keU
  obtain ⟨xs, m, _, _, _, hn, hel⟩ := DataW.trod_struct hu h
  match cs, hl with
  | [a0, a1, a2], _ =>
    have e0 := hel 0 f0 rfl
    rw [t0, o0, c_tk, List.getElem?_eq_getElem (by rw [hn]; show _ < 2; omega)] at e0
    have e1 := hel 1 f1 rfl
    rw [t1, o1, c_u8, List.getElem?_eq_getElem (by rw [hn]; show _ < 2; omega)] at e1
    obtain ⟨x0_0, x1_0, h0, w0_0, w0_1⟩ := tk_of e0 rfl
    simp only [List.drop_succ_cons, List.drop_zero, List.take_succ_cons, List.take_zero, List.cons.injEq, and_true] at h0
    obtain ⟨rfl, rfl⟩ := h0
    obtain ⟨y1, rfl, v1⟩ := intc_of Try.underlying5 e1
    obtain ⟨x1, w1, rfl⟩ := nat_u8 v1
    exact ⟨x0_0, x1_0, x1, rfl, w0_0, w0_1, w1⟩
theorem cpU : ∃ f0 f1 f2 f3 : Field, Try.prog.underlying 39 = some (.struct #[f0, f1, f2, f3]) ∧ (f0.offset = 0 ∧ f1.offset = 3 ∧ f2.offset = 4 ∧ f3.offset = 5) ∧ (f0.type = 36 ∧ f1.type = 2 ∧ f2.type = 37 ∧ f3.type = 34) :=
  ⟨_, _, _, _, Try.underlying39, ⟨rfl, rfl, rfl, rfl⟩, ⟨rfl, rfl, rfl, rfl⟩⟩
set_option maxRecDepth 100000 in
theorem cp_of {n : Nat} {cs : List Value} {y : DataW H × List MemPlace} (h : DataW.trod enc Try.prog W base sp held n 39 cs = some y) (hl : cs.length = 6) : ∃ (x0_0 : Nat), ∃ (x1_0 : Nat), ∃ (x2_0 : Nat), ∃ (x1 : Nat), ∃ (x2 : Nat), ∃ (x3 : Nat), cs = [.int .u8 (x0_0 : Int), .int .u16 (x1_0 : Int), .int .u32 (x2_0 : Int), .int .i64 (wrap64 (x1 : Int)), .int .u8 (x2 : Int), .int .u32 (x3 : Int)] ∧ (x0_0 < 256) ∧ (x1_0 < 65536) ∧ (x2_0 < 4294967296) ∧ (x1 < 18446744073709551616) ∧ (x2 < 256) ∧ (x3 < 4294967296) := by
  obtain ⟨f0, f1, f2, f3, hu, ⟨o0, o1, o2, o3⟩, t0, t1, t2, t3⟩ := cpU
  obtain ⟨xs, m, _, _, _, hn, hel⟩ := DataW.trod_struct hu h
  match cs, hl with
  | [a0, a1, a2, a3, a4, a5], _ =>
    have e0 := hel 0 f0 rfl
    rw [t0, o0, c_lg, List.getElem?_eq_getElem (by rw [hn]; show _ < 4; omega)] at e0
    have e1 := hel 1 f1 rfl
    rw [t1, o1, c_i64, List.getElem?_eq_getElem (by rw [hn]; show _ < 4; omega)] at e1
    have e2 := hel 2 f2 rfl
    rw [t2, o2, c_St, List.getElem?_eq_getElem (by rw [hn]; show _ < 4; omega)] at e2
    have e3 := hel 3 f3 rfl
    rw [t3, o3, c_u32, List.getElem?_eq_getElem (by rw [hn]; show _ < 4; omega)] at e3
    obtain ⟨x0_0, x1_0, x2_0, h0, w0_0, w0_1, w0_2⟩ := lg_of e0 rfl
    simp only [List.drop_succ_cons, List.drop_zero, List.take_succ_cons, List.take_zero, List.cons.injEq, and_true] at h0
    obtain ⟨rfl, rfl, rfl⟩ := h0
    obtain ⟨y1, rfl, v1⟩ := intc_of Try.underlying2 e1
    obtain ⟨x1, w1, rfl⟩ := res_of v1
    obtain ⟨y2, rfl, v2⟩ := intc_of Try.underlying37 e2
    obtain ⟨x2, w2, rfl⟩ := nat_u8 v2
    obtain ⟨y3, rfl, v3⟩ := intc_of Try.underlying34 e3
    obtain ⟨x3, w3, rfl⟩ := nat_u32 v3
    exact ⟨x0_0, x1_0, x2_0, x1, x2, x3, rfl, w0_0, w0_1, w0_2, w1, w2, w3⟩
theorem msU : ∃ f0 f1 f2 f3 f4 : Field, Try.prog.underlying 42 = some (.struct #[f0, f1, f2, f3, f4]) ∧ (f0.offset = 0 ∧ f1.offset = 1 ∧ f2.offset = 4 ∧ f3.offset = 10 ∧ f4.offset = 11) ∧ (f0.type = 5 ∧ f1.type = 32 ∧ f2.type = 39 ∧ f3.type = 2 ∧ f4.type = 40) :=
  ⟨_, _, _, _, _, Try.underlying42, ⟨rfl, rfl, rfl, rfl, rfl⟩, ⟨rfl, rfl, rfl, rfl, rfl⟩⟩
set_option maxRecDepth 100000 in
theorem ms_of {n : Nat} {cs : List Value} {y : DataW H × List MemPlace} (h : DataW.trod enc Try.prog W base sp held n 42 cs = some y) (hl : cs.length = 12) : ∃ (x0 : Nat), ∃ (x0_0_1 : Nat), ∃ (x1_0_1 : Nat), ∃ (x1_1 : Nat), ∃ (x0_0_2 : Nat), ∃ (x1_0_2 : Nat), ∃ (x2_0_2 : Nat), ∃ (x1_2 : Nat), ∃ (x2_2 : Nat), ∃ (x3_2 : Nat), ∃ (x3 : Nat), ∃ (x4 : Nat), cs = [.int .u8 (x0 : Int), .int .u8 (x0_0_1 : Int), .int .u64 (x1_0_1 : Int), .int .u8 (x1_1 : Int), .int .u8 (x0_0_2 : Int), .int .u16 (x1_0_2 : Int), .int .u32 (x2_0_2 : Int), .int .i64 (wrap64 (x1_2 : Int)), .int .u8 (x2_2 : Int), .int .u32 (x3_2 : Int), .int .i64 (wrap64 (x3 : Int)), .int .i64 (wrap64 (x4 : Int))] ∧ (x0 < 256) ∧ (x0_0_1 < 256) ∧ (x1_0_1 < 18446744073709551616) ∧ (x1_1 < 256) ∧ (x0_0_2 < 256) ∧ (x1_0_2 < 65536) ∧ (x2_0_2 < 4294967296) ∧ (x1_2 < 18446744073709551616) ∧ (x2_2 < 256) ∧ (x3_2 < 4294967296) ∧ (x3 < 18446744073709551616) ∧ (x4 < 18446744073709551616) := by
  obtain ⟨f0, f1, f2, f3, f4, hu, ⟨o0, o1, o2, o3, o4⟩, t0, t1, t2, t3, t4⟩ := msU
  obtain ⟨xs, m, _, _, _, hn, hel⟩ := DataW.trod_struct hu h
  match cs, hl with
  | [a0, a1, a2, a3, a4, a5, a6, a7, a8, a9, a10, a11], _ =>
    have e0 := hel 0 f0 rfl
    rw [t0, o0, c_u8, List.getElem?_eq_getElem (by rw [hn]; show _ < 5; omega)] at e0
    have e1 := hel 1 f1 rfl
    rw [t1, o1, c_ke, List.getElem?_eq_getElem (by rw [hn]; show _ < 5; omega)] at e1
    have e2 := hel 2 f2 rfl
    rw [t2, o2, c_cp, List.getElem?_eq_getElem (by rw [hn]; show _ < 5; omega)] at e2
    have e3 := hel 3 f3 rfl
    rw [t3, o3, c_i64, List.getElem?_eq_getElem (by rw [hn]; show _ < 5; omega)] at e3
    have e4 := hel 4 f4 rfl
    rw [t4, o4, c_Er, List.getElem?_eq_getElem (by rw [hn]; show _ < 5; omega)] at e4
    obtain ⟨y0, rfl, v0⟩ := intc_of Try.underlying5 e0
    obtain ⟨x0, w0, rfl⟩ := nat_u8 v0
    obtain ⟨x0_0_1, x1_0_1, x1_1, h1, w1_0, w1_1, w1_2⟩ := ke_of e1 rfl
    simp only [List.drop_succ_cons, List.drop_zero, List.take_succ_cons, List.take_zero, List.cons.injEq, and_true] at h1
    obtain ⟨rfl, rfl, rfl⟩ := h1
    obtain ⟨x0_0_2, x1_0_2, x2_0_2, x1_2, x2_2, x3_2, h2, w2_0, w2_1, w2_2, w2_3, w2_4, w2_5⟩ := cp_of e2 rfl
    simp only [List.drop_succ_cons, List.drop_zero, List.take_succ_cons, List.take_zero, List.cons.injEq, and_true] at h2
    obtain ⟨rfl, rfl, rfl, rfl, rfl, rfl⟩ := h2
    obtain ⟨y3, rfl, v3⟩ := intc_of Try.underlying2 e3
    obtain ⟨x3, w3, rfl⟩ := res_of v3
    obtain ⟨y4, rfl, v4⟩ := intc_of Try.underlying40 e4
    obtain ⟨x4, w4, rfl⟩ := res_of v4
    exact ⟨x0, x0_0_1, x1_0_1, x1_1, x0_0_2, x1_0_2, x2_0_2, x1_2, x2_2, x3_2, x3, x4, rfl, w0, w1_0, w1_1, w1_2, w2_0, w2_1, w2_2, w2_3, w2_4, w2_5, w3, w4⟩
theorem txsU : ∃ f0 f1 : Field, Try.prog.underlying 58 = some (.struct #[f0, f1]) ∧ (f0.offset = 0 ∧ f1.offset = 1) ∧ (f0.type = 9 ∧ f1.type = 2) :=
  ⟨_, _, Try.underlying58, ⟨rfl, rfl⟩, ⟨rfl, rfl⟩⟩
set_option maxRecDepth 100000 in
theorem txs_of {n : Nat} {cs : List Value} {y : DataW H × List MemPlace} (h : DataW.trod enc Try.prog W base sp held n 58 cs = some y) (hl : cs.length = 2) : ∃ (s0 : By), ∃ (x1 : Nat), cs = [str s0, .int .i64 (wrap64 (x1 : Int))] ∧ (x1 < 18446744073709551616) := by
  obtain ⟨f0, f1, hu, ⟨o0, o1⟩, t0, t1⟩ := txsU
  obtain ⟨xs, m, _, _, _, hn, hel⟩ := DataW.trod_struct hu h
  match cs, hl with
  | [a0, a1], _ =>
    have e0 := hel 0 f0 rfl
    rw [t0, o0, c_str, List.getElem?_eq_getElem (by rw [hn]; show _ < 2; omega)] at e0
    have e1 := hel 1 f1 rfl
    rw [t1, o1, c_i64, List.getElem?_eq_getElem (by rw [hn]; show _ < 2; omega)] at e1
    obtain ⟨s0, rfl⟩ := strc_of e0
    obtain ⟨y1, rfl, v1⟩ := intc_of Try.underlying2 e1
    obtain ⟨x1, w1, rfl⟩ := res_of v1
    exact ⟨s0, x1, rfl, w1⟩
theorem leg_each (n : Nat) (cs : List Value) (y : DataW H × List MemPlace) (h : DataW.trod enc Try.prog W base sp held n 36 cs = some y) (hl : cs.length = 3) : ∃ x : Lg, cs = lgC x ∧ OkLg x := by
  obtain ⟨a, b, c, e, h0, h1, h2⟩ := lg_of h hl
  exact ⟨⟨a, b, c⟩, e, h0, h1, h2⟩
theorem tax_each (n : Nat) (cs : List Value) (y : DataW H × List MemPlace) (h : DataW.trod enc Try.prog W base sp held n 58 cs = some y) (hl : cs.length = 2) : ∃ x : Tx, cs = txC x ∧ x.am < 18446744073709551616 := by
  obtain ⟨a, b, e, h0⟩ := txs_of h hl
  exact ⟨⟨a, b⟩, e, h0⟩
theorem saU : ∃ f0 f1 f2 f3 f4 : Field, Try.prog.underlying 28 = some (.struct #[f0, f1, f2, f3, f4]) ∧ (f0.offset = 0 ∧ f1.offset = 1 ∧ f2.offset = 2 ∧ f3.offset = 3 ∧ f4.offset = 4) ∧ (f0.type = 9 ∧ f1.type = 25 ∧ f2.type = 2 ∧ f3.type = 26 ∧ f4.type = 2) :=
  ⟨_, _, _, _, _, Try.underlying28, ⟨rfl, rfl, rfl, rfl, rfl⟩, ⟨rfl, rfl, rfl, rfl, rfl⟩⟩
set_option maxRecDepth 100000 in
theorem sa_of {n : Nat} {cs : List Value} {y : DataW H × List MemPlace} (h : DataW.trod enc Try.prog W base sp held n 28 cs = some y) (hl : cs.length = 5) : ∃ (s0 : By), ∃ (L1 : List Lg), ∃ (p1 : Option Addr), ∃ (q1 : Nat), ∃ (x2 : Nat), ∃ (L3 : List Tx), ∃ (p3 : Option Addr), ∃ (q3 : Nat), ∃ (x4 : Nat), cs = [str s0, .slice p1 L1.length q1, .int .i64 (wrap64 (x2 : Int)), .slice p3 L3.length q3, .int .i64 (wrap64 (x4 : Int))] ∧ (RowF W (· < W.heap.size) (.slice p1 L1.length q1) L1.length (flt lgC L1)) ∧ (∀ x ∈ L1, OkLg x) ∧ (x2 < 18446744073709551616) ∧ (RowF W (· < W.heap.size) (.slice p3 L3.length q3) L3.length (flt txC L3)) ∧ (∀ x ∈ L3, x.am < 18446744073709551616) ∧ (x4 < 18446744073709551616) := by
  obtain ⟨f0, f1, f2, f3, f4, hu, ⟨o0, o1, o2, o3, o4⟩, t0, t1, t2, t3, t4⟩ := saU
  obtain ⟨xs, m, _, _, _, hn, hel⟩ := DataW.trod_struct hu h
  match cs, hl with
  | [a0, a1, a2, a3, a4], _ =>
    have e0 := hel 0 f0 rfl
    rw [t0, o0, c_str, List.getElem?_eq_getElem (by rw [hn]; show _ < 5; omega)] at e0
    have e1 := hel 1 f1 rfl
    rw [t1, o1, c_legs, List.getElem?_eq_getElem (by rw [hn]; show _ < 5; omega)] at e1
    have e2 := hel 2 f2 rfl
    rw [t2, o2, c_i64, List.getElem?_eq_getElem (by rw [hn]; show _ < 5; omega)] at e2
    have e3 := hel 3 f3 rfl
    rw [t3, o3, c_taxes, List.getElem?_eq_getElem (by rw [hn]; show _ < 5; omega)] at e3
    have e4 := hel 4 f4 rfl
    rw [t4, o4, c_i64, List.getElem?_eq_getElem (by rw [hn]; show _ < 5; omega)] at e4
    obtain ⟨s0, rfl⟩ := strc_of e0
    obtain ⟨L1, p1, q1, rfl, r1, k1⟩ := rowf_open Try.underlying25 c_lg (by decide) (fun _ => rfl) leg_each e1
    obtain ⟨y2, rfl, v2⟩ := intc_of Try.underlying2 e2
    obtain ⟨x2, w2, rfl⟩ := res_of v2
    obtain ⟨L3, p3, q3, rfl, r3, k3⟩ := rowf_open Try.underlying26 c_txs (by decide) (fun _ => rfl) tax_each e3
    obtain ⟨y4, rfl, v4⟩ := intc_of Try.underlying2 e4
    obtain ⟨x4, w4, rfl⟩ := res_of v4
    exact ⟨s0, L1, p1, q1, x2, L3, p3, q3, x4, rfl, r1, k1, w2, r3, k3, w4⟩
theorem cmU : ∃ f0 f1 f2 f3 f4 : Field, Try.prog.underlying 30 = some (.struct #[f0, f1, f2, f3, f4]) ∧ (f0.offset = 0 ∧ f1.offset = 1 ∧ f2.offset = 3 ∧ f3.offset = 4 ∧ f4.offset = 9) ∧ (f0.type = 5 ∧ f1.type = 24 ∧ f2.type = 5 ∧ f3.type = 28 ∧ f4.type = 2) :=
  ⟨_, _, _, _, _, Try.underlying30, ⟨rfl, rfl, rfl, rfl, rfl⟩, ⟨rfl, rfl, rfl, rfl, rfl⟩⟩
set_option maxRecDepth 100000 in
theorem cm_of {n : Nat} {cs : List Value} {y : DataW H × List MemPlace} (h : DataW.trod enc Try.prog W base sp held n 30 cs = some y) (hl : cs.length = 10) : ∃ (x0 : Nat), ∃ (x0_1 : Nat), ∃ (x1_1 : Nat), ∃ (x2 : Nat), ∃ (s0_3 : By), ∃ (L1_3 : List Lg), ∃ (p1_3 : Option Addr), ∃ (q1_3 : Nat), ∃ (x2_3 : Nat), ∃ (L3_3 : List Tx), ∃ (p3_3 : Option Addr), ∃ (q3_3 : Nat), ∃ (x4_3 : Nat), ∃ (x4 : Nat), cs = [.int .u8 (x0 : Int), .int .u8 (x0_1 : Int), .int .u64 (x1_1 : Int), .int .u8 (x2 : Int), str s0_3, .slice p1_3 L1_3.length q1_3, .int .i64 (wrap64 (x2_3 : Int)), .slice p3_3 L3_3.length q3_3, .int .i64 (wrap64 (x4_3 : Int)), .int .i64 (wrap64 (x4 : Int))] ∧ (x0 < 256) ∧ (x0_1 < 256) ∧ (x1_1 < 18446744073709551616) ∧ (x2 < 256) ∧ (RowF W (· < W.heap.size) (.slice p1_3 L1_3.length q1_3) L1_3.length (flt lgC L1_3)) ∧ (∀ x ∈ L1_3, OkLg x) ∧ (x2_3 < 18446744073709551616) ∧ (RowF W (· < W.heap.size) (.slice p3_3 L3_3.length q3_3) L3_3.length (flt txC L3_3)) ∧ (∀ x ∈ L3_3, x.am < 18446744073709551616) ∧ (x4_3 < 18446744073709551616) ∧ (x4 < 18446744073709551616) := by
  obtain ⟨f0, f1, f2, f3, f4, hu, ⟨o0, o1, o2, o3, o4⟩, t0, t1, t2, t3, t4⟩ := cmU
  obtain ⟨xs, m, _, _, _, hn, hel⟩ := DataW.trod_struct hu h
  match cs, hl with
  | [a0, a1, a2, a3, a4, a5, a6, a7, a8, a9], _ =>
    have e0 := hel 0 f0 rfl
    rw [t0, o0, c_u8, List.getElem?_eq_getElem (by rw [hn]; show _ < 5; omega)] at e0
    have e1 := hel 1 f1 rfl
    rw [t1, o1, c_tk, List.getElem?_eq_getElem (by rw [hn]; show _ < 5; omega)] at e1
    have e2 := hel 2 f2 rfl
    rw [t2, o2, c_u8, List.getElem?_eq_getElem (by rw [hn]; show _ < 5; omega)] at e2
    have e3 := hel 3 f3 rfl
    rw [t3, o3, c_sa, List.getElem?_eq_getElem (by rw [hn]; show _ < 5; omega)] at e3
    have e4 := hel 4 f4 rfl
    rw [t4, o4, c_i64, List.getElem?_eq_getElem (by rw [hn]; show _ < 5; omega)] at e4
    obtain ⟨y0, rfl, v0⟩ := intc_of Try.underlying5 e0
    obtain ⟨x0, w0, rfl⟩ := nat_u8 v0
    obtain ⟨x0_1, x1_1, h1, w1_0, w1_1⟩ := tk_of e1 rfl
    simp only [List.drop_succ_cons, List.drop_zero, List.take_succ_cons, List.take_zero, List.cons.injEq, and_true] at h1
    obtain ⟨rfl, rfl⟩ := h1
    obtain ⟨y2, rfl, v2⟩ := intc_of Try.underlying5 e2
    obtain ⟨x2, w2, rfl⟩ := nat_u8 v2
    obtain ⟨s0_3, L1_3, p1_3, q1_3, x2_3, L3_3, p3_3, q3_3, x4_3, h3, w3_0, w3_1, w3_2, w3_3, w3_4, w3_5⟩ := sa_of e3 rfl
    simp only [List.drop_succ_cons, List.drop_zero, List.take_succ_cons, List.take_zero, List.cons.injEq, and_true] at h3
    obtain ⟨rfl, rfl, rfl, rfl, rfl⟩ := h3
    obtain ⟨y4, rfl, v4⟩ := intc_of Try.underlying2 e4
    obtain ⟨x4, w4, rfl⟩ := res_of v4
    exact ⟨x0, x0_1, x1_1, x2, s0_3, L1_3, p1_3, q1_3, x2_3, L3_3, p3_3, q3_3, x4_3, x4, rfl, w0, w1_0, w1_1, w2, w3_0, w3_1, w3_2, w3_3, w3_4, w3_5, w4⟩
theorem rcU : ∃ f0 f1 f2 f3 f4 : Field, Try.prog.underlying 44 = some (.struct #[f0, f1, f2, f3, f4]) ∧ (f0.offset = 0 ∧ f1.offset = 1 ∧ f2.offset = 11 ∧ f3.offset = 12 ∧ f4.offset = 13) ∧ (f0.type = 5 ∧ f1.type = 30 ∧ f2.type = 5 ∧ f3.type = 22 ∧ f4.type = 42) :=
  ⟨_, _, _, _, _, Try.underlying44, ⟨rfl, rfl, rfl, rfl, rfl⟩, ⟨rfl, rfl, rfl, rfl, rfl⟩⟩
set_option maxRecDepth 100000 in
theorem rc_of {n : Nat} {cs : List Value} {y : DataW H × List MemPlace} (h : DataW.trod enc Try.prog W base sp held n 44 cs = some y) (hl : cs.length = 25) : ∃ (x0 : Nat), ∃ (x0_1 : Nat), ∃ (x0_1_1 : Nat), ∃ (x1_1_1 : Nat), ∃ (x2_1 : Nat), ∃ (s0_3_1 : By), ∃ (L1_3_1 : List Lg), ∃ (p1_3_1 : Option Addr), ∃ (q1_3_1 : Nat), ∃ (x2_3_1 : Nat), ∃ (L3_3_1 : List Tx), ∃ (p3_3_1 : Option Addr), ∃ (q3_3_1 : Nat), ∃ (x4_3_1 : Nat), ∃ (x4_1 : Nat), ∃ (x2 : Nat), ∃ (x3 : Nat), ∃ (x0_4 : Nat), ∃ (x0_0_1_4 : Nat), ∃ (x1_0_1_4 : Nat), ∃ (x1_1_4 : Nat), ∃ (x0_0_2_4 : Nat), ∃ (x1_0_2_4 : Nat), ∃ (x2_0_2_4 : Nat), ∃ (x1_2_4 : Nat), ∃ (x2_2_4 : Nat), ∃ (x3_2_4 : Nat), ∃ (x3_4 : Nat), ∃ (x4_4 : Nat), cs = [.int .u8 (x0 : Int), .int .u8 (x0_1 : Int), .int .u8 (x0_1_1 : Int), .int .u64 (x1_1_1 : Int), .int .u8 (x2_1 : Int), str s0_3_1, .slice p1_3_1 L1_3_1.length q1_3_1, .int .i64 (wrap64 (x2_3_1 : Int)), .slice p3_3_1 L3_3_1.length q3_3_1, .int .i64 (wrap64 (x4_3_1 : Int)), .int .i64 (wrap64 (x4_1 : Int)), .int .u8 (x2 : Int), .int .u64 (x3 : Int), .int .u8 (x0_4 : Int), .int .u8 (x0_0_1_4 : Int), .int .u64 (x1_0_1_4 : Int), .int .u8 (x1_1_4 : Int), .int .u8 (x0_0_2_4 : Int), .int .u16 (x1_0_2_4 : Int), .int .u32 (x2_0_2_4 : Int), .int .i64 (wrap64 (x1_2_4 : Int)), .int .u8 (x2_2_4 : Int), .int .u32 (x3_2_4 : Int), .int .i64 (wrap64 (x3_4 : Int)), .int .i64 (wrap64 (x4_4 : Int))] ∧ (x0 < 256) ∧ (x0_1 < 256) ∧ (x0_1_1 < 256) ∧ (x1_1_1 < 18446744073709551616) ∧ (x2_1 < 256) ∧ (RowF W (· < W.heap.size) (.slice p1_3_1 L1_3_1.length q1_3_1) L1_3_1.length (flt lgC L1_3_1)) ∧ (∀ x ∈ L1_3_1, OkLg x) ∧ (x2_3_1 < 18446744073709551616) ∧ (RowF W (· < W.heap.size) (.slice p3_3_1 L3_3_1.length q3_3_1) L3_3_1.length (flt txC L3_3_1)) ∧ (∀ x ∈ L3_3_1, x.am < 18446744073709551616) ∧ (x4_3_1 < 18446744073709551616) ∧ (x4_1 < 18446744073709551616) ∧ (x2 < 256) ∧ (x3 < 18446744073709551616) ∧ (x0_4 < 256) ∧ (x0_0_1_4 < 256) ∧ (x1_0_1_4 < 18446744073709551616) ∧ (x1_1_4 < 256) ∧ (x0_0_2_4 < 256) ∧ (x1_0_2_4 < 65536) ∧ (x2_0_2_4 < 4294967296) ∧ (x1_2_4 < 18446744073709551616) ∧ (x2_2_4 < 256) ∧ (x3_2_4 < 4294967296) ∧ (x3_4 < 18446744073709551616) ∧ (x4_4 < 18446744073709551616) := by
  obtain ⟨f0, f1, f2, f3, f4, hu, ⟨o0, o1, o2, o3, o4⟩, t0, t1, t2, t3, t4⟩ := rcU
  obtain ⟨xs, m, _, _, _, hn, hel⟩ := DataW.trod_struct hu h
  match cs, hl with
  | [a0, a1, a2, a3, a4, a5, a6, a7, a8, a9, a10, a11, a12, a13, a14, a15, a16, a17, a18, a19, a20, a21, a22, a23, a24], _ =>
    have e0 := hel 0 f0 rfl
    rw [t0, o0, c_u8, List.getElem?_eq_getElem (by rw [hn]; show _ < 5; omega)] at e0
    have e1 := hel 1 f1 rfl
    rw [t1, o1, c_cm, List.getElem?_eq_getElem (by rw [hn]; show _ < 5; omega)] at e1
    have e2 := hel 2 f2 rfl
    rw [t2, o2, c_u8, List.getElem?_eq_getElem (by rw [hn]; show _ < 5; omega)] at e2
    have e3 := hel 3 f3 rfl
    rw [t3, o3, c_u64, List.getElem?_eq_getElem (by rw [hn]; show _ < 5; omega)] at e3
    have e4 := hel 4 f4 rfl
    rw [t4, o4, c_ms, List.getElem?_eq_getElem (by rw [hn]; show _ < 5; omega)] at e4
    obtain ⟨y0, rfl, v0⟩ := intc_of Try.underlying5 e0
    obtain ⟨x0, w0, rfl⟩ := nat_u8 v0
    obtain ⟨x0_1, x0_1_1, x1_1_1, x2_1, s0_3_1, L1_3_1, p1_3_1, q1_3_1, x2_3_1, L3_3_1, p3_3_1, q3_3_1, x4_3_1, x4_1, h1, w1_0, w1_1, w1_2, w1_3, w1_4, w1_5, w1_6, w1_7, w1_8, w1_9, w1_10⟩ := cm_of e1 rfl
    simp only [List.drop_succ_cons, List.drop_zero, List.take_succ_cons, List.take_zero, List.cons.injEq, and_true] at h1
    obtain ⟨rfl, rfl, rfl, rfl, rfl, rfl, rfl, rfl, rfl, rfl⟩ := h1
    obtain ⟨y2, rfl, v2⟩ := intc_of Try.underlying5 e2
    obtain ⟨x2, w2, rfl⟩ := nat_u8 v2
    obtain ⟨y3, rfl, v3⟩ := intc_of Try.underlying22 e3
    obtain ⟨x3, w3, rfl⟩ := nat_u64 v3
    obtain ⟨x0_4, x0_0_1_4, x1_0_1_4, x1_1_4, x0_0_2_4, x1_0_2_4, x2_0_2_4, x1_2_4, x2_2_4, x3_2_4, x3_4, x4_4, h4, w4_0, w4_1, w4_2, w4_3, w4_4, w4_5, w4_6, w4_7, w4_8, w4_9, w4_10, w4_11⟩ := ms_of e4 rfl
    simp only [List.drop_succ_cons, List.drop_zero, List.take_succ_cons, List.take_zero, List.cons.injEq, and_true] at h4
    obtain ⟨rfl, rfl, rfl, rfl, rfl, rfl, rfl, rfl, rfl, rfl, rfl, rfl⟩ := h4
    exact ⟨x0, x0_1, x0_1_1, x1_1_1, x2_1, s0_3_1, L1_3_1, p1_3_1, q1_3_1, x2_3_1, L3_3_1, p3_3_1, q3_3_1, x4_3_1, x4_1, x2, x3, x0_4, x0_0_1_4, x1_0_1_4, x1_1_4, x0_0_2_4, x1_0_2_4, x2_0_2_4, x1_2_4, x2_2_4, x3_2_4, x3_4, x4_4, rfl, w0, w1_0, w1_1, w1_2, w1_3, w1_4, w1_5, w1_6, w1_7, w1_8, w1_9, w1_10, w2, w3, w4_0, w4_1, w4_2, w4_3, w4_4, w4_5, w4_6, w4_7, w4_8, w4_9, w4_10, w4_11⟩
end
/-- a record that came in -/
structure InRc (r : Rc) : Prop where
  kind : r.kind < 256
  ckind : r.cmd.kind < 256
  car : r.cmd.car < 256
  ser : r.cmd.ser < 18446744073709551616
  pos : r.cmd.pos < 256
  fare : r.cmd.fare < 18446744073709551616
  pen : r.cmd.pen < 18446744073709551616
  am : r.cmd.am < 18446744073709551616
  legs : ∀ x ∈ r.cmd.legs, OkLg x
  taxes : ∀ x ∈ r.cmd.taxes, x.am < 18446744073709551616
  frm : r.frm < 256
  num : r.num < 18446744073709551616
  msg : Vld messageK r.msg
/-- a record in memory, as it came in -/
def RecP (W : World) (r : Rc) (lp : Option Addr) (lc : Nat) (tp : Option Addr) (tc : Nat) : Prop :=
  InRc r ∧ RowF W (· < W.heap.size) (.slice lp r.cmd.legs.length lc) r.cmd.legs.length (flt lgC r.cmd.legs) ∧ RowF W (· < W.heap.size) (.slice tp r.cmd.taxes.length tc) r.cmd.taxes.length (flt txC r.cmd.taxes)
abbrev recV (r : Rc) (lp : Option Addr) (lc : Nat) (tp : Option Addr) (tc : Nat) : Value := .agg (recC r (.slice lp r.cmd.legs.length lc) (.slice tp r.cmd.taxes.length tc)).toArray
theorem InRc.ok {r : Rc} (h : InRc r) (hg : greatL r = false) : OkRc true r := by
  unfold greatL at hg
  simp only [Bool.or_eq_false_iff, decide_eq_false_iff_not] at hg
  obtain ⟨⟨⟨h1, h2⟩, h3⟩, h4⟩ := hg
  refine ⟨h.kind, ⟨h.ckind, h.car, h.ser, h.pos, h.fare, h.pen, h.am, ⟨by omega, .inl rfl⟩, ⟨by omega, .inl rfl, h.legs⟩, ⟨by omega, .inl rfl, fun x hx => ⟨?_, .inl rfl, h.taxes x hx⟩⟩⟩, h.frm, h.num, h.msg⟩
  rw [List.any_eq_false] at h4
  have := h4 x hx
  simp [bigT] at this
  omega
theorem mem_vld {j : Nat} : True := trivial
set_option maxRecDepth 100000 in
theorem open_rec {H : Type} {enc : TypeId × Value → H} {W : World} {base : Nat} {sp : Nat → Bool} {held : Bool} {r : Reach} {b0 : Nat} {v : Value} {d : DataW H} {p : List MemPlace} (hv : Value.okWide Try.prog W r b0 44 v) (h : DataW.Trod enc Try.prog W base sp held 44 v d p) :
    ∃ (x : Rc) (lp : Option Addr) (lc : Nat) (tp : Option Addr) (tc : Nat), v = recV x lp lc tp tc ∧ RecP W x lp lc tp tc := by
  obtain ⟨f0, f1, f2, f3, f4, hu, _⟩ := rcU
  simp only [Value.okWide, hu] at hv
  obtain ⟨cs, rfl, hsz, _⟩ := hv
  rw [c_rc] at hsz
  obtain ⟨fuel, hf0⟩ := h
  obtain ⟨y, hf⟩ : ∃ y, DataW.trod enc Try.prog W base sp held fuel 44 cs.toList = some y := ⟨_, hf0⟩
  obtain ⟨x0, x0_1, x0_1_1, x1_1_1, x2_1, s0_3_1, L1_3_1, p1_3_1, q1_3_1, x2_3_1, L3_3_1, p3_3_1, q3_3_1, x4_3_1, x4_1, x2, x3, x0_4, x0_0_1_4, x1_0_1_4, x1_1_4, x0_0_2_4, x1_0_2_4, x2_0_2_4, x1_2_4, x2_2_4, x3_2_4, x3_4, x4_4, hs, hh0, hh1, hh2, hh3, hh4, hh5, hh6, hh7, hh8, hh9, hh10, hh11, hh12, hh13, hh14, hh15, hh16, hh17, hh18, hh19, hh20, hh21, hh22, hh23, hh24, hh25⟩ := rc_of hf (by simpa using hsz)
  refine ⟨⟨x0, ⟨x0_1, x0_1_1, x1_1_1, x2_1, s0_3_1, L1_3_1, x2_3_1, L3_3_1, x4_3_1, x4_1⟩, x2, x3, [x0_4, x0_0_1_4, x1_0_1_4, x1_1_4, x0_0_2_4, x1_0_2_4, x2_0_2_4, x1_2_4, x2_2_4, x3_2_4, x3_4, x4_4]⟩, p1_3_1, q1_3_1, p3_3_1, q3_3_1, ?_, ⟨hh0, hh1, hh2, hh3, hh4, hh7, hh10, hh11, hh6, hh9, hh12, hh13, ⟨rfl, fun j k v hk hv => by
    match j with
    | 0 => simp at hk hv; subst hk hv; exact hh14
    | 1 => simp at hk hv; subst hk hv; exact hh15
    | 2 => simp at hk hv; subst hk hv; exact hh16
    | 3 => simp at hk hv; subst hk hv; exact hh17
    | 4 => simp at hk hv; subst hk hv; exact hh18
    | 5 => simp at hk hv; subst hk hv; exact hh19
    | 6 => simp at hk hv; subst hk hv; exact hh20
    | 7 => simp at hk hv; subst hk hv; exact hh21
    | 8 => simp at hk hv; subst hk hv; exact hh22
    | 9 => simp at hk hv; subst hk hv; exact hh23
    | 10 => simp at hk hv; subst hk hv; exact hh24
    | 11 => simp at hk hv; subst hk hv; exact hh25
    | j + 12 => simp at hk⟩⟩, hh5, hh8⟩
  have : cs = (cs.toList).toArray := by simp
  rw [this, hs]
  rfl
end Go.Proofs.Ytjdfdihopgceoaa.Cd
