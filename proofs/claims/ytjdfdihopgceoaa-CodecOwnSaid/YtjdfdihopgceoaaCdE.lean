/- What a list is made of: elements, rows of them; copying rows. -/
import Derived.Test.YtjdfdihopgceoaaCdL
import Derived.Test.YtjdfdihopgceoaaCdQ
namespace Go.Cod
open Go.Dk Go.Jn

theorem elM_snoc {α : Type} (f : St → α → St × α) : ∀ (l : List α) (s : St) (x : α), elM f s (l ++ [x]) = ((f (elM f s l).1 x).1, (elM f s l).2 ++ [(f (elM f s l).1 x).2])
  | [], s, x => rfl
  | y :: l, s, x => by simp only [List.cons_append, elM, elM_snoc f l]
theorem elM_len {α : Type} (f : St → α → St × α) : ∀ (l : List α) (s : St), (elM f s l).2.length = l.length
  | [], _ => rfl
  | x :: l, s => by simp [elM, elM_len f l]
def flt {α : Type} (e : α → List Value) (l : List α) : List Value := l.flatMap e
theorem flt_append {α : Type} (e : α → List Value) (a b : List α) : flt e (a ++ b) = flt e a ++ flt e b := by simp [flt]
theorem flt_one {α : Type} (e : α → List Value) (a : α) : flt e [a] = e a := by simp [flt]
theorem flt_len {α : Type} {e : α → List Value} {k : Nat} (h : ∀ x, (e x).length = k) : ∀ l : List α, (flt e l).length = l.length * k
  | [] => by simp [flt]
  | x :: l => by
    have := flt_len h l
    simp only [flt, List.flatMap_cons, List.length_append, List.length_cons, h, Nat.succ_mul] at this ⊢
    omega
end Go.Cod
namespace Go.Proofs.Ytjdfdihopgceoaa.Cd
open Go.RowKit Go.Shelf Go.Dk Go.Jn Go.Cod

theorem flt_reps {α : Type} (e : α → List Value) (z : α) : ∀ n, flt e (List.replicate n z) = reps n (e z)
  | 0 => rfl
  | n + 1 => by
    have := flt_reps e z n
    unfold flt at this ⊢
    rw [List.replicate_succ, List.flatMap_cons, this]
    rfl
theorem run_copy_k {P : Program} (w : World) (dT sT ty elem : TypeId) (k m g o dLen dCap : Nat) (a : Addr) (sLen sCap : Nat) (cur : Array Value) (t : TypeId) (cs : List Value)
    (hu : P.underlying dT = some (.slice elem)) (hs : (P.info? elem).map (·.size) = some k)
    (hg : w.heap[g]? = some (.cells cur t (0, 0))) (hm : m = Nat.min sLen dLen) (hn : cs.length = m * k)
    (hsrc : ∀ j v, cs[j]? = some v → w.cell? (a.add j) = some v) (hfit : o + cs.length ≤ cur.size) (h1 : ∀ v ∈ cs, v.oneCell' = true) :
    (Builtin.copy_ #[dT, sT] ty #[.slice (some ⟨g, o, none⟩) dLen dCap, .slice (some a) sLen sCap]).run P w =
      .ok (goInt m) (w.setRow g (cur.toList.take o ++ cs ++ cur.toList.drop (o + cs.length)).toArray) := by
  have hl := run_loadCells_list (P := P) w a cs hsrc
  have hst := run_storeCells_at (P := P) g o t cs 0 cur w hg (by simpa using hfit) h1
  rw [hn] at hl
  cases hq : P.info? elem with
  | none => simp [hq] at hs
  | some i =>
    have hi : i.size = k := by simpa [hq] using hs
    simp [Builtin.copy_, run_underlying hu, Builtin.lenOf, Builtin.firstCells, sizeOf, typeInfo, hq, hi, ← hm, hl, hst]
theorem run_copy_nil' {P : Program} (w : World) (dT sT ty elem : TypeId) (p : Option Addr) (q cap : Nat) (hu : P.underlying dT = some (.slice elem)) (hs : (P.info? elem).isSome = true) :
    (Builtin.copy_ #[dT, sT] ty #[.slice none 0 0, .slice p q cap]).run P w = .ok (goInt 0) w := by
  cases hq : P.info? elem with
  | none => simp [hq] at hs
  | some i =>
    have hl : ∀ (x : Addr), (loadCells x 0).run P w = .ok #[] w := fun x => by simpa using run_loadCells_list (P := P) w x [] (by simp)
    cases p <;> simp [Builtin.copy_, run_underlying hu, Builtin.lenOf, Builtin.firstCells, sizeOf, typeInfo, hq, hl]
theorem run_copy_from_nil {P : Program} (w : World) (dT sT ty elem : TypeId) (a : Addr) (n dcap cap : Nat) (p : Option Addr) (hu : P.underlying dT = some (.slice elem)) (hs : (P.info? elem).isSome = true) :
    (Builtin.copy_ #[dT, sT] ty #[.slice (some a) n dcap, .slice p 0 cap]).run P w = .ok (goInt 0) w := by
  cases hq : P.info? elem with
  | none => simp [hq] at hs
  | some i =>
    have hl : ∀ (x : Addr), (loadCells x 0).run P w = .ok #[] w := fun x => by simpa using run_loadCells_list (P := P) w x [] (by simp)
    cases p <;> simp [Builtin.copy_, run_underlying hu, Builtin.lenOf, Builtin.firstCells, sizeOf, typeInfo, hq, hl, storeCells]
/-- what is copied to a new row, of as many or of none -/
theorem copy_rows {w : World} {t dT elem : TypeId} {k g n dcap q cap : Nat} {arr : Array Value} {xs zs : List Value} {p : Option Addr} {F : Nat → Prop} (hu : Try.prog.underlying dT = some (.slice elem)) (hs : (Try.prog.info? elem).map (·.size) = some k)
    (hg : w.heap[g]? = some (.cells arr t (0, 0))) (hat : At arr 0 (reps n zs)) (hsrc : RowF w F (.slice p q cap) q xs) (hxl : xs.length = q * k) (h1 : ∀ v ∈ xs, v.oneCell' = true) (hq : n = q ∨ q = 0) (hz : zs.length = k) (hsz : n * k ≤ arr.size) (ty : TypeId) :
    ∃ r w' arr', (Builtin.copy_ #[dT, dT] ty #[.slice (some ⟨g, 0, none⟩) n dcap, .slice p q cap]).run Try.prog w = .ok r w' ∧ w'.heap[g]? = some (.cells arr' t (0, 0)) ∧ arr'.size = arr.size ∧ At arr' 0 (xs ++ reps (n - q) zs) ∧ Frq (· = g) w w' := by
  by_cases h0 : q = 0
  · subst h0
    obtain rfl : xs = [] := List.eq_nil_of_length_eq_zero (by omega)
    exact ⟨_, w, arr, run_copy_from_nil w dT dT ty elem ⟨g, 0, none⟩ n dcap cap p hu (by cases h : Try.prog.info? elem <;> simp_all), hg, rfl, by simpa using hat, Frq.refl _ _⟩
  · obtain rfl : n = q := by omega
    obtain ⟨p', cap', e, _, hp⟩ := hsrc
    simp only [Value.slice.injEq, true_and] at e
    obtain ⟨rfl, rfl⟩ := e
    obtain ⟨b, o, rfl, _, hc⟩ := hp (by omega)
    have hrun := run_copy_k (P := Try.prog) w dT dT ty elem k n g 0 n dcap ⟨b, o, none⟩ n cap arr t xs hu hs hg (Nat.min_self n).symm hxl (fun j v hv => by rw [Addr.add_mid]; exact hc j v hv) (by omega) h1
    refine ⟨_, _, _, hrun, setRow_heap w g _ _ t _ hg, ?_, ?_, (Frq.refl (· = g) w).setRow (.inl rfl) _⟩
    · simp only [List.size_toArray, List.length_append, List.length_take, List.length_drop, Array.length_toList]
      omega
    · intro j u hu
      rw [Nat.sub_self] at hu
      simp only [reps, List.append_nil] at hu
      have hj := (List.getElem?_eq_some_iff.1 hu).1
      simp only [Nat.zero_add, List.take_zero, List.nil_append, List.getElem?_toArray]
      rw [List.getElem?_append_left hj]
      exact hu
/-- a row of one's own, of so many things -/
def OwnL (t : TypeId) (k lo : Nat) (w : World) (v : Value) (n : Nat) (xs : List Value) : Prop :=
  (n = 0 ∧ v = .slice none 0 0) ∨ ∃ g cap arr, v = .slice (some ⟨g, 0, none⟩) n cap ∧ lo ≤ g ∧ n ≤ cap ∧ w.heap[g]? = some (.cells arr t (0, 0)) ∧ At arr 0 xs ∧ arr.size = cap * k
theorem OwnL.kept {t : TypeId} {k lo n B : Nat} {K : Nat → Prop} {w w' : World} {v : Value} {xs : List Value} (h : OwnL t k lo w v n xs) (hf : Fr B K w w') (ht : t ≠ 5) (hK : ∀ g, lo ≤ g → ¬ K g) : OwnL t k lo w' v n xs := by
  rcases h with h | ⟨g, cap, arr, h1, h2, h3, h4, h5⟩
  · exact .inl h
  · exact .inr ⟨g, cap, arr, h1, h2, h3, hf.keep g _ _ _ h4 ht (hK g h2), h5⟩
theorem OwnL.row {t : TypeId} {k lo n : Nat} {w : World} {v : Value} {xs : List Value} (h : OwnL t k lo w v n xs) : RowF w (lo ≤ ·) v n xs := by
  rcases h with ⟨rfl, rfl⟩ | ⟨g, cap, arr, rfl, h2, h3, h4, h5, _⟩
  · exact ⟨none, 0, rfl, Nat.le_refl _, fun h => absurd h (by omega)⟩
  · exact ⟨_, cap, rfl, h3, fun _ => ⟨g, 0, rfl, h2, fun j u hu => by rw [Nat.zero_add, cell_of_arr h4]; have := h5 j u hu; rwa [Nat.zero_add] at this⟩⟩
/-- a function that goes over one element -/
structure EC {α : Type} (fn : FuncId) (k ln : Nat) (ecl : α → List Value) (f : Bool → St → α → St × α) (okm : Bool → α → Prop) : Prop where
  len : ∀ x, (ecl x).length = k
  one : ∀ x, ∀ v ∈ ecl x, v.oneCell' = true
  call : ∀ (m : Bool) (B wb rb T : Nat) (ty : TypeId) (i n : Nat) (s : St) (cs : Array Value) (w0 w : World) (x : α), Sg m B wb rb T ty n s cs w0 w → At cs i (ecl x) → okm m x → n + ln ≤ 1000000 →
    Calls Try.prog fn #[pt wb, .pointer (some ⟨T, i, none⟩)] w fun e w' => e = .returned (.tuple #[]) ∧ Sg m B wb rb T ty (n + ln) (f m s x).1 (putC cs i (ecl (f m s x).2)) w0 w'
/-- between two rounds of a list -/
structure LI {α : Type} (m : Bool) (B wb rb g : Nat) (ty : TypeId) (n ln : Nat) (ecl : α → List Value) (f : Bool → St → α → St × α) (s : St) (arr : Array Value) (L : List α) (w0 : World) (j : Nat) (w : World) : Prop where
  sg : Sg m B wb rb g ty (n + j * ln) (elM (f m) s (L.take j)).1 (putC arr 0 (flt ecl (elM (f m) s (L.take j)).2)) w0 w
theorem LI.next {α : Type} {fn : FuncId} {k ln : Nat} {ecl : α → List Value} {f : Bool → St → α → St × α} {okm : Bool → α → Prop} (hE : EC fn k ln ecl f okm) {m : Bool} {B wb rb g : Nat} {ty : TypeId} {n : Nat} {s : St} {arr : Array Value} {L : List α} {w0 w : World} {j : Nat}
    (h : LI m B wb rb g ty n ln ecl f s arr L w0 j w) (hj : j < L.length) (hat : At arr 0 (flt ecl L)) (hok : ∀ x ∈ L, okm m x) (hn : n + j * ln + ln ≤ 1000000) (o : Nat) (ho : o = j * k) :
    Calls Try.prog fn #[pt wb, .pointer (some ⟨g, o, none⟩)] w fun e w' => e = .returned (.tuple #[]) ∧ LI m B wb rb g ty n ln ecl f s arr L w0 (j + 1) w' := by
  subst ho
  have hfl : (flt ecl (elM (f m) s (L.take j)).2).length = j * k := by rw [flt_len hE.len, elM_len, List.length_take, Nat.min_eq_left (by omega)]
  have hsp : flt ecl L = flt ecl (L.take j) ++ (ecl L[j] ++ flt ecl (L.drop (j + 1))) := by
    rw [← flt_one ecl L[j], ← flt_append, ← flt_append]
    congr 1
    rw [← List.append_assoc, ← List.take_succ_eq_append_getElem hj, List.take_append_drop]
  rw [hsp] at hat
  have hat2 := hat.sub
  rw [Nat.zero_add, flt_len hE.len, List.length_take, Nat.min_eq_left (by omega)] at hat2
  refine (hE.call m B wb rb g ty (j * k) (n + j * ln) _ _ w0 w L[j] h.sg (hat2.put (.inr (by rw [hfl]; omega))) (hok _ (List.getElem_mem hj)) hn).mono ?_
  rintro e w' ⟨rfl, hs⟩
  refine ⟨rfl, ⟨?_⟩⟩
  rw [List.take_succ_eq_append_getElem hj, elM_snoc, flt_append, flt_one]
  have hp := putC_append (flt ecl (elM (f m) s (L.take j)).2) (ecl (f m (elM (f m) s (L.take j)).1 L[j]).2) arr 0
  rw [hfl, Nat.zero_add] at hp
  rw [← hp, Nat.succ_mul, ← Nat.add_assoc]
  exact hs
end Go.Proofs.Ytjdfdihopgceoaa.Cd
