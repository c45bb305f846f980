/- Contracts: sale, command, a packet's head, over a record. -/
import Derived.Test.YtjdfdihopgceoaaCdM
namespace Go.Proofs.Ytjdfdihopgceoaa.Cd
open Go.RowKit Go.Shelf Go.Dk Go.Jn Go.Cod

theorem putC_list (l mm : List Value) (i : Nat) (h : i + mm.length ≤ l.length) : putC l.toArray i mm = (l.take i ++ mm ++ l.drop (i + mm.length)).toArray := by
  apply Array.ext_getElem?
  intro j
  by_cases h1 : j < i
  · rw [putC_out _ _ _ _ (.inl h1)]
    simp only [List.getElem?_toArray]
    rw [List.append_assoc, List.getElem?_append_left (by rw [List.length_take]; omega), List.getElem?_take, if_pos h1]
  · by_cases h2 : j < i + mm.length
    · have e : i + (j - i) = j := by omega
      have := putC_in mm l.toArray i (j - i) (by simpa using h) (by omega)
      rw [e] at this
      rw [this]
      simp only [List.getElem?_toArray]
      rw [List.append_assoc, List.getElem?_append_right (by rw [List.length_take]; omega), List.length_take, Nat.min_eq_left (by omega), List.getElem?_append_left (by omega)]
    · rw [putC_out _ _ _ _ (.inr (by omega))]
      simp only [List.getElem?_toArray]
      rw [List.getElem?_append_right (by rw [List.length_append, List.length_take]; omega), List.length_append, List.length_take, Nat.min_eq_left (by omega), List.getElem?_drop]
      congr 1
      omega
theorem Sg.list {m : Bool} {B wb rb T : Nat} {ty : TypeId} {n i : Nat} {s : St} {l mm l' : List Value} {w0 w : World} (h : Sg m B wb rb T ty n s (putC l.toArray i mm) w0 w) (hi : i + mm.length ≤ l.length) (hl : l' = l.take i ++ mm ++ l.drop (i + mm.length)) : Sg m B wb rb T ty n s l'.toArray w0 w := by
  rw [hl, ← putC_list l mm i hi]; exact h
theorem Sg.set1 {m : Bool} {B wb rb T : Nat} {ty : TypeId} {n i : Nat} {s : St} {l l' : List Value} {v : Value} {w0 w : World} (h : Sg m B wb rb T ty n s (l.toArray.setIfInBounds i v) w0 w) (hl : l' = l.set i v) : Sg m B wb rb T ty n s l'.toArray w0 w := by
  rw [hl]
  rw [List.setIfInBounds_toArray] at h
  exact h
theorem at_list {l mm : List Value} {i : Nat} (h : (l.drop i).take mm.length = mm) : At l.toArray i mm := fun j u hu => by
  have hj := (List.getElem?_eq_some_iff.1 hu).1
  rw [← h, List.getElem?_take, if_pos hj, List.getElem?_drop] at hu
  simpa using hu
theorem Sg.start {m : Bool} {B wb rb T : Nat} {ty : TypeId} {n : Nat} {s : St} {cs : Array Value} {w0 w : World} (h : Sg m B wb rb T ty n s cs w0 w) : Sg m B wb rb T ty n s cs w w := ⟨h.wk, h.cells, Fr.refl _ _ _, h.ty, h.bT, Nat.le_trans h.b0 h.fr.size⟩
theorem Sg.from {m : Bool} {B wb rb T : Nat} {ty : TypeId} {n : Nat} {s : St} {cs : Array Value} {w0 w1 w : World} (h : Sg m B wb rb T ty n s cs w1 w) (f : Fr B (fun x => x = wb ∨ x = rb ∨ x = T) w0 w1) (hb : B ≤ w0.heap.size) : Sg m B wb rb T ty n s cs w0 w := ⟨h.wk, h.cells, f.trans h.fr, h.ty, h.bT, hb⟩
theorem Sg.le {m : Bool} {B wb rb T : Nat} {ty : TypeId} {n n' : Nat} {s : St} {cs : Array Value} {w0 w : World} (h : Sg m B wb rb T ty n s cs w0 w) (hn : n ≤ n') : Sg m B wb rb T ty n' s cs w0 w := ⟨h.wk.le hn (fun _ e => e), h.cells, h.fr, h.ty, h.bT, h.b0⟩
theorem OwnL.lo {t : TypeId} {k lo lo' n : Nat} {w : World} {v : Value} {xs : List Value} (h : OwnL t k lo w v n xs) (hl : lo' ≤ lo) : OwnL t k lo' w v n xs := by
  rcases h with h | ⟨g, cap, arr, h1, h2, h3⟩
  · exact .inl h
  · exact .inr ⟨g, cap, arr, h1, Nat.le_trans hl h2, h3⟩
/-- a record, cell by cell -/
def recC (r : Rc) (lv tv : Value) : List Value :=
  .int .u8 (r.kind : Int) :: .int .u8 (r.cmd.kind : Int) :: .int .u8 (r.cmd.car : Int) :: .int .u64 (r.cmd.ser : Int) :: .int .u8 (r.cmd.pos : Int) :: str r.cmd.name :: lv :: .int .i64 (wrap64 (r.cmd.fare : Int)) :: tv :: .int .i64 (wrap64 (r.cmd.pen : Int)) :: .int .i64 (wrap64 (r.cmd.am : Int)) :: .int .u8 (r.frm : Int) :: .int .u64 (r.num : Int) :: cellsK messageK r.msg
theorem recC_len {r : Rc} {lv tv : Value} (h : r.msg.length = 12) : (recC r lv tv).length = 25 := by
  unfold recC
  simp only [List.length_cons]
  rw [cellsK_len _ _ h]
  rfl
theorem vld1 {k : K} {v : Nat} (h : v < 256 ^ k.sz) : Vld [k] [v] := ⟨rfl, fun j k' v' hk hv => by
  match j with
  | 0 => simp at hk hv; subst hk hv; exact h
  | j + 1 => simp at hk⟩
theorem vld2 {k l : K} {v u : Nat} (h : v < 256 ^ k.sz) (h2 : u < 256 ^ l.sz) : Vld [k, l] [v, u] := ⟨rfl, fun j k' v' hk hv => by
  match j with
  | 0 => simp at hk hv; subst hk hv; exact h
  | 1 => simp at hk hv; subst hk hv; exact h2
  | j + 2 => simp at hk⟩
theorem FC.one {fn : FuncId} {ex : List Value} {k : K} (hc : FC fn ex [k]) {m : Bool} {B wb rb T : Nat} {ty : TypeId} {i n : Nat} {s : St} {cs : Array Value} {w0 w : World} (h : Sg m B wb rb T ty n s cs w0 w) (v : Nat) (hv : v < 256 ^ k.sz) (hx : cs[i]? = some (cellK k v)) (q : Nat) (hq : q = k.sz) (hn : n + q ≤ 1000000) :
    Calls Try.prog fn (.pointer (some ⟨wb, 0, none⟩) :: .pointer (some ⟨T, i, none⟩) :: ex).toArray w fun e w' => e = .returned (.tuple #[]) ∧ Sg m B wb rb T ty (n + q) (nuM m s q v).1 (cs.setIfInBounds i (cellK k (nuM m s q v).2)) w0 w' := by
  subst hq
  have := hc m B wb rb T ty i n s cs w0 w [v] h (fun j u hu => by
    match j with
    | 0 => simp only [cellsK, List.getElem?_cons_zero, Option.some.injEq] at hu; subst hu; exact hx
    | j + 1 => simp [cellsK] at hu) (vld1 hv) (by simpa [tot] using hn)
  simpa [tot, nusM, cellsK, putC] using this
structure OkCmd (m : Bool) (c : Cmd) : Prop where
  kind : c.kind < 256
  car : c.car < 256
  ser : c.ser < 18446744073709551616
  pos : c.pos < 256
  fare : c.fare < 18446744073709551616
  pen : c.pen < 18446744073709551616
  am : c.am < 18446744073709551616
  name : c.name.length ≤ 1000000 ∧ (m = true ∨ c.name = [])
  legs : c.legs.length ≤ 1000000 ∧ (m = true ∨ c.legs = []) ∧ ∀ l ∈ c.legs, OkLg l
  taxes : c.taxes.length ≤ 1000000 ∧ (m = true ∨ c.taxes = []) ∧ ∀ x ∈ c.taxes, OkTx m x
theorem okz_tx (m : Bool) : OkTx m zTx := ⟨by simp [zTx], .inr rfl, by simp [zTx]⟩
theorem okz_lg : OkLg zLg := by simp [OkLg, zLg]
/-- over a sale alone -/
def saM (m : Bool) (s : St) (c : Cmd) : St × Cmd :=
  let b1 := teM m s c.name
  let b2 := liM m (lgM m) zLg b1.1 c.legs
  let b3 := nuM m b2.1 8 c.fare
  let b4 := liM m (txM m) zTx b3.1 c.taxes
  let b5 := nuM m b4.1 8 c.pen
  (b5.1, { c with name := b1.2, legs := b2.2, fare := b3.2, taxes := b4.2, pen := b5.2 })
def SaleP (m : Bool) (B wb rb qb n : Nat) (s : St) (r : Rc) (w0 w : World) (e : Ending) (w' : World) : Prop :=
  e = .returned (.tuple #[]) ∧ ∃ lv tv, Sg m B wb rb qb 44 (n + 243) (saM m s r.cmd).1 (recC { r with cmd := (saM m s r.cmd).2 } lv tv).toArray w0 w' ∧
    OwnL 36 3 w.heap.size w' lv (saM m s r.cmd).2.legs.length (flt lgC (saM m s r.cmd).2.legs) ∧ OwnL 58 2 w.heap.size w' tv (saM m s r.cmd).2.taxes.length (flt txC (saM m s r.cmd).2.taxes)
set_option maxRecDepth 100000 in
set_option maxHeartbeats 3200000 in
theorem sale_any {m : Bool} {B wb rb qb n : Nat} {s : St} {r : Rc} {lp tp : Option Addr} {lc tc : Nat} {w0 w : World} (h : Sg m B wb rb qb 44 n s (recC r (.slice lp r.cmd.legs.length lc) (.slice tp r.cmd.taxes.length tc)).toArray w0 w)
    (hl : RowF w (· < B) (.slice lp r.cmd.legs.length lc) r.cmd.legs.length (flt lgC r.cmd.legs)) (ht : RowF w (· < B) (.slice tp r.cmd.taxes.length tc) r.cmd.taxes.length (flt txC r.cmd.taxes)) (hok : OkCmd m r.cmd) (hn : n + 243 ≤ 1000000) (hm : r.msg.length = 12) :
    Calls Try.prog 50 #[pt wb, .pointer (some ⟨qb, 5, none⟩)] w (SaleP m B wb rb qb n s r w0 w) := by
  have hB : B ≤ w.heap.size := Nat.le_trans h.b0 h.fr.size
  have hlo : wb < w.heap.size ∧ rb < w.heap.size ∧ qb < w.heap.size := by
    obtain ⟨_, _, hrr, _⟩ := h.wk.row
    exact ⟨lt_of_heap h.wk.walk, lt_of_heap hrr, lt_of_heap h.cells⟩
  have H0 := Lib.hid h
  have HOK := Lib.hid hok
  have HL := Lib.hid hl
  have HT := Lib.hid ht
  have HM := Lib.hid hm
  have HLO := Lib.hid hlo
  have HN1 := Lib.hid (text_sg (i := 5) h.start r.cmd.name (by simp [recC]) hok.name.1 hok.name.2 (by omega))
  clear h hok hl ht hm hlo
  go_enter Try.func50, Try.ntmps50
  go_wp2_with fail
  refine (HN1.out).mono ?_
  rintro e w1 ⟨rfl, h1⟩
  have hF1 := h1.fr
  have h1' := (Sg.set1 (l' := recC { r with cmd := { r.cmd with name := (teM m s r.cmd.name).2 } } (.slice lp r.cmd.legs.length lc) (.slice tp r.cmd.taxes.length tc)) (i := 5) (v := str (teM m s r.cmd.name).2) h1 rfl).start
  have HN2 := Lib.hid (listLeg (i := 6) h1' r.cmd.legs lp lc (by simp [recC]) (HL.out.kept (fun b hb => ⟨hb, hF1.low b hb⟩)) HOK.out.legs.1 HOK.out.legs.2.1 HOK.out.legs.2.2 okz_lg (by omega))
  have HT1 := Lib.hid (HT.out.kept (F' := (· < B)) (fun b hb => ⟨hb, hF1.low b hb⟩))
  have HF1 := Lib.hid hF1
  obtain ⟨a1, ha1⟩ : ∃ a1, teM m s r.cmd.name = a1 := ⟨_, rfl⟩
  rw [ha1] at HN2
  have HA1 := Lib.hid ha1
  clear h1 h1' hF1 HN1 HL HT ha1
  go_wp2_with fail
  refine (HN2.out).mono ?_
  rintro e w2 ⟨rfl, lv, h2, ho2⟩
  have hF2 := h2.fr
  obtain ⟨a2, ha2⟩ : ∃ a2, liM m (lgM m) zLg a1.1 r.cmd.legs = a2 := ⟨_, rfl⟩
  rw [ha2] at h2 ho2
  have h2' := (Sg.set1 (l' := recC { r with cmd := { r.cmd with name := a1.2, legs := a2.2 } } lv (.slice tp r.cmd.taxes.length tc)) (i := 6) (v := lv) h2 rfl).start
  have HN3 := Lib.hid (fc_i64.one (i := 7) h2' r.cmd.fare HOK.out.fare (by simp [recC, cellK]) 8 rfl (by omega))
  have HT2 := Lib.hid (HT1.out.kept (F' := (· < B)) (fun b hb => ⟨hb, hF2.low b hb⟩))
  have HF2 := Lib.hid (HF1.out.trans hF2)
  have HO2 := Lib.hid (ho2.lo HF1.out.size)
  have HA2 := Lib.hid ha2
  clear h2 h2' hF2 HN2 HT1 HF1 ha2 ho2
  go_wp2_with fail
  refine (HN3.out).mono ?_
  rintro e w3 ⟨rfl, h3⟩
  have hF3 := h3.fr
  obtain ⟨a3, ha3⟩ : ∃ a3, nuM m a2.1 8 r.cmd.fare = a3 := ⟨_, rfl⟩
  rw [ha3] at h3
  have h3' := (Sg.set1 (l' := recC { r with cmd := { r.cmd with name := a1.2, legs := a2.2, fare := a3.2 } } lv (.slice tp r.cmd.taxes.length tc)) (i := 7) (v := .int .i64 (wrap64 (a3.2 : Int))) h3 rfl).start
  have HN4 := Lib.hid (listTax (i := 8) h3' r.cmd.taxes tp tc (by simp [recC]) (HT2.out.kept (fun b hb => ⟨hb, hF3.low b hb⟩)) HOK.out.taxes.1 HOK.out.taxes.2.1 HOK.out.taxes.2.2 (okz_tx m) (by omega))
  have HF3 := Lib.hid (HF2.out.trans hF3)
  have HO3 := Lib.hid (HO2.out.kept hF3 (by decide) (fun g hg e => by have := HLO.out; omega))
  have HA3 := Lib.hid ha3
  clear h3 h3' hF3 HN3 HT2 HF2 ha3 HO2
  go_wp2_with fail
  refine (HN4.out).mono ?_
  rintro e w4 ⟨rfl, tv, h4, ho4⟩
  have hF4 := h4.fr
  obtain ⟨a4, ha4⟩ : ∃ a4, liM m (txM m) zTx a3.1 r.cmd.taxes = a4 := ⟨_, rfl⟩
  rw [ha4] at h4 ho4
  have h4' := (Sg.set1 (l' := recC { r with cmd := { r.cmd with name := a1.2, legs := a2.2, fare := a3.2, taxes := a4.2 } } lv tv) (i := 8) (v := tv) h4 rfl).start
  have HN5 := Lib.hid (fc_i64.one (i := 9) h4' r.cmd.pen HOK.out.pen (by simp [recC, cellK]) 8 rfl (by omega))
  have HF4 := Lib.hid (HF3.out.trans hF4)
  have HO4 := Lib.hid (HO3.out.kept hF4 (by decide) (fun g hg e => by have := HLO.out; omega))
  have HP4 := Lib.hid (ho4.lo HF3.out.size)
  have HA4 := Lib.hid ha4
  clear h4 h4' hF4 HN4 HF3 ha4 ho4 HO3
  go_wp2_with fail
  refine (HN5.out).mono ?_
  rintro e w5 ⟨rfl, h5⟩
  have H5 := Lib.hid h5
  clear h5 HN5
  go_wp2_with fail
  go_end0
  have hF5 := H5.out.fr
  have es : saM m s r.cmd = ((nuM m a4.1 8 r.cmd.pen).1, { r.cmd with name := a1.2, legs := a2.2, fare := a3.2, taxes := a4.2, pen := (nuM m a4.1 8 r.cmd.pen).2 }) := by
    unfold saM
    simp only [HA1.out, HA2.out, HA3.out, HA4.out]
  refine ⟨rfl, lv, tv, ?_, ?_, ?_⟩
  · rw [es]
    exact (((Sg.set1 (l' := recC { r with cmd := { r.cmd with name := a1.2, legs := a2.2, fare := a3.2, taxes := a4.2, pen := (nuM m a4.1 8 r.cmd.pen).2 } } lv tv) (i := 9) (v := .int .i64 (wrap64 ((nuM m a4.1 8 r.cmd.pen).2 : Int))) H5.out rfl).le (by omega)).from HF4.out hB).from H0.out.fr H0.out.b0
  · rw [es]
    exact HO4.out.kept hF5 (by decide) (fun g hg e => by have := HLO.out; omega)
  · rw [es]
    exact HP4.out.kept hF5 (by decide) (fun g hg e => by have := HLO.out; omega)
end Go.Proofs.Ytjdfdihopgceoaa.Cd
