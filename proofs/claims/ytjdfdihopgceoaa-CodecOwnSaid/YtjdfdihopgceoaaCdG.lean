/- Fields one behind the other. -/
import Derived.Test.YtjdfdihopgceoaaCdN
namespace Go.Proofs.Ytjdfdihopgceoaa.Cd
open Go.RowKit Go.Shelf Go.Dk Go.Jn Go.Cod

/-- a number's cell -/
def cellK : K → Nat → Value
  | .u8, v => .int .u8 (v : Int)
  | .u16, v => .int .u16 (v : Int)
  | .u32, v => .int .u32 (v : Int)
  | .u64, v => .int .u64 (v : Int)
  | .i64, v => .int .i64 (wrap64 (v : Int))
def cellsK : List K → List Nat → List Value
  | k :: ks, v :: vs => cellK k v :: cellsK ks vs
  | _, _ => []
theorem cellsK_append : ∀ (f1 f2 : List K) (v1 v2 : List Nat), v1.length = f1.length → cellsK (f1 ++ f2) (v1 ++ v2) = cellsK f1 v1 ++ cellsK f2 v2
  | [], f2, [], v2, _ => rfl
  | k :: f1, f2, v :: v1, v2, h => by
    have := cellsK_append f1 f2 v1 v2 (by simpa using h)
    simp only [List.cons_append, cellsK, this]
  | [], _, _ :: _, _, h => by simp at h
  | _ :: _, _, [], _, h => by simp at h
theorem cellsK_len : ∀ (fs : List K) (vs : List Nat), vs.length = fs.length → (cellsK fs vs).length = fs.length
  | [], [], _ => rfl
  | k :: fs, v :: vs, h => by simp [cellsK, cellsK_len fs vs (by simpa using h)]
  | [], _ :: _, h => by simp at h
  | _ :: _, [], h => by simp at h
/-- cells laid over others -/
def putC : Array Value → Nat → List Value → Array Value
  | cs, _, [] => cs
  | cs, i, v :: l => putC (cs.setIfInBounds i v) (i + 1) l
theorem putC_append : ∀ (l1 l2 : List Value) (cs : Array Value) (i : Nat), putC (putC cs i l1) (i + l1.length) l2 = putC cs i (l1 ++ l2)
  | [], l2, cs, i => rfl
  | v :: l1, l2, cs, i => by
    simp only [putC, List.cons_append, List.length_cons]
    rw [show i + (l1.length + 1) = i + 1 + l1.length by omega]
    exact putC_append l1 l2 _ _
theorem putC_size : ∀ (l : List Value) (cs : Array Value) (i : Nat), (putC cs i l).size = cs.size
  | [], _, _ => rfl
  | v :: l, cs, i => by simp [putC, putC_size l]
theorem putC_out : ∀ (l : List Value) (cs : Array Value) (i j : Nat), (j < i ∨ i + l.length ≤ j) → (putC cs i l)[j]? = cs[j]?
  | [], _, _, _, _ => rfl
  | v :: l, cs, i, j, h => by
    simp only [List.length_cons] at h
    rw [putC, putC_out l _ _ _ (by omega), Array.getElem?_setIfInBounds, if_neg (by omega)]
theorem putC_in : ∀ (l : List Value) (cs : Array Value) (i j : Nat), i + l.length ≤ cs.size → j < l.length → (putC cs i l)[i + j]? = l[j]?
  | [], _, _, _, _, h => by simp at h
  | v :: l, cs, i, j, hc, h => by
    simp only [List.length_cons] at h hc
    cases j with
    | zero => rw [putC, putC_out l _ _ _ (by omega), Array.getElem?_setIfInBounds, Nat.add_zero, if_pos rfl, if_pos (by omega)]; rfl
    | succ j => rw [putC, show i + (j + 1) = i + 1 + j by omega, putC_in l _ _ _ (by simp; omega) (by omega)]; rfl
/-- cells that stand there -/
def At (cs : Array Value) (i : Nat) (l : List Value) : Prop := ∀ j u, l[j]? = some u → cs[i + j]? = some u
theorem At.sub {cs : Array Value} {i : Nat} {a b c : List Value} (h : At cs i (a ++ (b ++ c))) : At cs (i + a.length) b := fun j u hu => by
  rw [Nat.add_assoc]
  refine h _ u ?_
  rw [List.getElem?_append_right (by omega), Nat.add_sub_cancel_left, List.getElem?_append_left (List.getElem?_eq_some_iff.1 hu).1]
  exact hu
theorem At.put {cs : Array Value} {i j : Nat} {l m : List Value} (h : At cs j l) (ho : j + l.length ≤ i ∨ i + m.length ≤ j) : At (putC cs i m) j l := fun q u hu => by
  have := (List.getElem?_eq_some_iff.1 hu).1
  rw [putC_out _ _ _ _ (by omega)]
  exact h q u hu
theorem At.size {cs : Array Value} {i : Nat} {l : List Value} (h : At cs i l) (h0 : 0 < l.length) : i + l.length ≤ cs.size := by
  have h1 := h (l.length - 1) _ (List.getElem?_eq_getElem (by omega))
  have := (Array.getElem?_eq_some_iff.1 h1).1
  omega
/-- a walk that stands at some cells of a block -/
structure Sg (m : Bool) (B wb rb T : Nat) (ty : TypeId) (n : Nat) (s : St) (cs : Array Value) (w0 w : World) : Prop where
  wk : Wk m B wb rb NoX n s w
  cells : w.heap[T]? = some (.cells cs ty (0, 0))
  fr : Fr B (fun x => x = wb ∨ x = rb ∨ x = T) w0 w
  ty : ty ≠ 5 ∧ ty ≠ 62 ∧ ty ≠ 78
  bT : B ≤ T
  b0 : B ≤ w0.heap.size
/-- a function that goes over such fields -/
def FC (fn : FuncId) (ex : List Value) (fs : List K) : Prop :=
  ∀ (m : Bool) (B wb rb T : Nat) (ty : TypeId) (i n : Nat) (s : St) (cs : Array Value) (w0 w : World) (vs : List Nat), Sg m B wb rb T ty n s cs w0 w → At cs i (cellsK fs vs) → Vld fs vs → n + tot fs ≤ 1000000 →
    Calls Try.prog fn (.pointer (some ⟨wb, 0, none⟩) :: .pointer (some ⟨T, i, none⟩) :: ex).toArray w fun e w' => e = .returned (.tuple #[]) ∧ Sg m B wb rb T ty (n + tot fs) (nusM m s fs vs).1 (putC cs i (cellsK fs (nusM m s fs vs).2)) w0 w'
/-- the first p fields are gone over -/
structure PG (m : Bool) (B wb rb T : Nat) (ty : TypeId) (i n : Nat) (s : St) (cs : Array Value) (fs : List K) (vs : List Nat) (w0 : World) (p : Nat) (w : World) : Prop where
  sg : Sg m B wb rb T ty (n + tot (fs.take p)) (nusM m s (fs.take p) (vs.take p)).1 (putC cs i (cellsK (fs.take p) (nusM m s (fs.take p) (vs.take p)).2)) w0 w
  at' : At cs i (cellsK fs vs)
  vld : Vld fs vs
  lim : n + tot fs ≤ 1000000
theorem PG.zero {m : Bool} {B wb rb T : Nat} {ty : TypeId} {i n : Nat} {s : St} {cs : Array Value} {fs : List K} {vs : List Nat} {w0 w : World} (h : Sg m B wb rb T ty n s cs w0 w) (ha : At cs i (cellsK fs vs)) (hv : Vld fs vs) (hl : n + tot fs ≤ 1000000) :
    PG m B wb rb T ty i n s cs fs vs w0 0 w := ⟨by simpa [nusM, cellsK, putC, tot] using h, ha, hv, hl⟩
theorem PG.all {m : Bool} {B wb rb T : Nat} {ty : TypeId} {i n : Nat} {s : St} {cs : Array Value} {fs : List K} {vs : List Nat} {w0 w : World} {p : Nat} (h : PG m B wb rb T ty i n s cs fs vs w0 p w) (hp : fs.length ≤ p) :
    Sg m B wb rb T ty (n + tot fs) (nusM m s fs vs).1 (putC cs i (cellsK fs (nusM m s fs vs).2)) w0 w := by
  have := h.sg
  rwa [List.take_of_length_le hp, List.take_of_length_le (by rw [h.vld.1]; exact hp)] at this
theorem FC.at' {fn : FuncId} {ex : List Value} {f : List K} (hc : FC fn ex f) {m : Bool} {B wb rb T : Nat} {ty : TypeId} {i n : Nat} {s : St} {cs : Array Value} {fs : List K} {vs : List Nat} {w0 w : World} {p : Nat}
    (h : PG m B wb rb T ty i n s cs fs vs w0 p w) (hf : (fs.drop p).take f.length = f) (j : Nat) (hj : j = i + p) (hp : p + f.length ≤ fs.length) :
    Calls Try.prog fn (.pointer (some ⟨wb, 0, none⟩) :: .pointer (some ⟨T, j, none⟩) :: ex).toArray w fun e w' => e = .returned (.tuple #[]) ∧ PG m B wb rb T ty i n s cs fs vs w0 (p + f.length) w' := by
  subst hj
  have hvl := h.vld.1
  have ef : fs.take (p + f.length) = fs.take p ++ f := by rw [List.take_add, hf]
  have ev : vs.take (p + f.length) = vs.take p ++ (vs.drop p).take f.length := List.take_add
  have el : (vs.take p).length = (fs.take p).length := by simp [hvl]
  have elp : (fs.take p).length = p := by rw [List.length_take]; omega
  have elf : ((vs.drop p).take f.length).length = f.length := by rw [List.length_take, List.length_drop]; omega
  have es : fs = fs.take p ++ (f ++ fs.drop (p + f.length)) := by rw [← List.append_assoc, ← ef, List.take_append_drop]
  have es2 : vs = vs.take p ++ ((vs.drop p).take f.length ++ vs.drop (p + f.length)) := by rw [← List.append_assoc, ← ev, List.take_append_drop]
  have hcl : cellsK fs vs = cellsK (fs.take p) (vs.take p) ++ (cellsK f ((vs.drop p).take f.length) ++ cellsK (fs.drop (p + f.length)) (vs.drop (p + f.length))) := by
    conv => lhs; rw [es, es2]
    rw [cellsK_append _ _ _ _ el, cellsK_append _ _ _ _ elf]
  have hlen1 : (nusM m s (fs.take p) (vs.take p)).2.length = (fs.take p).length := (nusM_vld m s _ _ el).1
  have hat := h.at'
  rw [hcl] at hat
  have hat2 := hat.sub
  rw [cellsK_len _ _ el, elp] at hat2
  have hat3 : At (putC cs i (cellsK (fs.take p) (nusM m s (fs.take p) (vs.take p)).2)) (i + p) (cellsK f ((vs.drop p).take f.length)) := hat2.put (.inr (by rw [cellsK_len _ _ hlen1, elp]; exact Nat.le_refl _))
  have ht : n + tot (fs.take p) + tot f ≤ 1000000 := by
    have := h.lim
    rw [es, tot_append, tot_append] at this
    omega
  refine (hc m B wb rb T ty (i + p) (n + tot (fs.take p)) _ _ w0 w _ h.sg hat3 ⟨elf, fun j k v hk hv => ?_⟩ ht).mono ?_
  · have hjl : j < f.length := (List.getElem?_eq_some_iff.1 hk).1
    refine h.vld.2 (p + j) k v ?_ ?_
    · rw [es, List.getElem?_append_right (by omega), elp, Nat.add_sub_cancel_left, List.getElem?_append_left hjl]; exact hk
    · rw [List.getElem?_take, if_pos hjl, List.getElem?_drop] at hv; exact hv
  · rintro e w' ⟨rfl, hs⟩
    refine ⟨rfl, ⟨?_, h.at', h.vld, h.lim⟩⟩
    rw [ef, ev, nusM_append _ _ _ _ _ _ el, tot_append]
    rw [cellsK_append _ _ _ _ hlen1, ← putC_append, cellsK_len _ _ hlen1, elp, ← Nat.add_assoc]
    exact hs
end Go.Proofs.Ytjdfdihopgceoaa.Cd
