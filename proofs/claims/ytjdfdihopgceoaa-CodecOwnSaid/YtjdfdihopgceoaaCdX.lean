/- What Put and Get answer, of any record and any bytes. -/
import Derived.Test.YtjdfdihopgceoaaCdGe
import Derived.Test.YtjdfdihopgceoaaCdR3
namespace Go.Proofs.Ytjdfdihopgceoaa.Cd
open Go.RowKit Go.Shelf Go.Dk Go.Jn Go.Cod

theorem OkRc.wf {r : Rc} (h : OkRc true r) (hk : r.kind = 1 ∨ r.kind = 2 ∨ r.kind = 3) : WfRc r :=
  ⟨hk, ⟨h.cmd.kind, h.cmd.car, h.cmd.ser, h.cmd.pos, h.cmd.am, trivial, h.cmd.legs.2.2, h.cmd.fare, fun x hx => (h.cmd.taxes.2.2 x hx).2.2, h.cmd.pen⟩, h.frm, h.num, h.msg⟩
theorem noCmd_z {c : Cmd} : noCmdB c = true ↔ c = zCmd := by
  obtain ⟨a, b, c', d, e, f, g, h, i, j⟩ := c
  unfold noCmdB zCmd
  simp only [Bool.and_eq_true, decide_eq_true_eq, List.length_eq_zero_iff, Cmd.mk.injEq]
  constructor
  · rintro ⟨⟨⟨⟨⟨⟨⟨⟨⟨h1, h2⟩, h3⟩, h4⟩, h5⟩, h6⟩, h7⟩, h8⟩, h9⟩, h10⟩
    exact ⟨h1, h2, h3, h4, h5, h6, h7, h8, h9, h10⟩
  · rintro ⟨h1, h2, h3, h4, h5, h6, h7, h8, h9, h10⟩
    exact ⟨⟨⟨⟨⟨⟨⟨⟨⟨h1, h2⟩, h3⟩, h4⟩, h5⟩, h6⟩, h7⟩, h8⟩, h9⟩, h10⟩
theorem may_iff (r : Rc) : mayB r = true ↔ (r.kind = 1 ∨ r.kind = 2 ∨ r.kind = 3) ∧ bare r := by
  unfold mayB bare
  by_cases h1 : r.kind = 1
  · simp only [if_pos h1, Bool.and_eq_true, decide_eq_true_eq]
    constructor
    · rintro ⟨⟨a, b⟩, c⟩; exact ⟨.inl h1, fun _ => ⟨a, b, c⟩, fun e => by omega, fun e => by omega⟩
    · rintro ⟨_, a, _⟩; obtain ⟨x, y, z⟩ := a h1; exact ⟨⟨x, y⟩, z⟩
  · by_cases h2 : r.kind = 2
    · simp only [if_neg h1, if_pos h2, noCmd_z]
      constructor
      · intro a; exact ⟨.inr (.inl h2), fun e => by omega, fun _ => a, fun e => by omega⟩
      · rintro ⟨_, _, a, _⟩; exact a h2
    · by_cases h3 : r.kind = 3
      · simp only [if_neg h1, if_neg h2, if_pos h3, Bool.and_eq_true, decide_eq_true_eq, noCmd_z]
        constructor
        · rintro ⟨a, b⟩; exact ⟨.inr (.inr h3), fun e => by omega, fun e => by omega, fun _ => ⟨a, b⟩⟩
        · rintro ⟨_, _, _, a⟩; exact a h3
      · simp only [if_neg h1, if_neg h2, if_neg h3]
        constructor
        · intro h; cases h
        · rintro ⟨h, _⟩; omega
theorem put_ok {r : Rc} (h : OkRc true r) (hm : mayB r = true) (hf : fitRc r) : putL r = (0, encRc r) := by
  unfold putL
  rw [if_pos hm, rc_lay [] r (h.wf ((may_iff r).1 hm).1) hf]
  rfl
theorem put_long {r : Rc} (h : OkRc true r) (hm : mayB r = true) (hf : ¬ fitRc r) : putL r = (2, []) := by
  unfold putL
  rw [if_pos hm, rc_bad [] r (h.wf ((may_iff r).1 hm).1) hf]
  rfl
theorem put_no {r : Rc} (hm : ¬ mayB r = true) : putL r = (140, []) := by
  unfold putL
  rw [if_neg hm]
theorem put_zero {r : Rc} (h : OkRc true r) : (putL r).1 = 0 ↔ mayB r = true ∧ fitRc r := by
  by_cases hm : mayB r = true
  · by_cases hf : fitRc r
    · rw [put_ok h hm hf]; simp [hm, hf]
    · rw [put_long h hm hf]; simp [hf]
  · rw [put_no hm]; simp [hm]
theorem put_enc {r : Rc} (h : OkRc true r) (h0 : (putL r).1 = 0) : (putL r).2 = encRc r := by
  obtain ⟨hm, hf⟩ := (put_zero h).1 h0
  rw [put_ok h hm hf]
theorem put_not {r : Rc} (h0 : (putL r).1 ≠ 0) : (putL r).2 = [] := by
  unfold putL at h0 ⊢
  split
  · split
    · rename_i h1 h2; rw [if_pos h1, if_pos h2] at h0; exact absurd rfl h0
    · rfl
  · rfl
theorem get_more {r : Rc} (h : OkRc true r) (h0 : (putL r).1 = 0) (L : By) : rcM false ⟨true, encRc r ++ L⟩ zRc = (⟨true, L⟩, r) := by
  obtain ⟨hm, hf⟩ := (put_zero h).1 h0
  exact rc_rd L r (h.wf ((may_iff r).1 hm).1) hf ((may_iff r).1 hm).2
theorem get_put {r : Rc} (h : OkRc true r) (h0 : (putL r).1 = 0) : getL (encRc r) = some r := by
  have := get_more h h0 []
  rw [List.append_nil] at this
  unfold getL
  rw [this]
  rfl
/-- what is read may be put -/
theorem get_inv {b : By} {r : Rc} (h : getL b = some r) : OkRc true r ∧ (putL r).1 = 0 ∧ encRc r = b := by
  unfold getL at h
  split at h
  · rename_i hc
    obtain rfl := Option.some.inj h
    simp only [Bool.and_eq_true, decide_eq_true_eq] at hc
    obtain ⟨h1, h2, h3, h4⟩ := rc_inv b hc.1
    have h5 : (rcM false ⟨true, b⟩ zRc).1.L = [] := List.eq_nil_of_length_eq_zero hc.2
    rw [h5, List.append_nil] at h4
    generalize (rcM false ⟨true, b⟩ zRc).2 = r at *
    have hk : r.kind < 256 := by rcases h1.kind with h | h | h <;> omega
    have hfc : r.cmd.name.length ≤ 32 ∧ r.cmd.legs.length ≤ 4 ∧ (r.cmd.taxes.length ≤ 4 ∧ ∀ x ∈ r.cmd.taxes, x.code.length ≤ 32) := by
      by_cases e : r.kind = 1
      · exact h2 e
      · have : r.cmd = zCmd := by
          rcases h1.kind with h | h | h
          · exact absurd h e
          · exact h3.2.1 h
          · exact (h3.2.2 h).1
        rw [this]
        exact ⟨by decide, by decide, by decide, fun x hx => by simp [zCmd] at hx⟩
    have hok : OkRc true r := ⟨hk, ⟨h1.cmd.1, h1.cmd.2.1, h1.cmd.2.2.1, h1.cmd.2.2.2.1, h1.cmd.2.2.2.2.2.2.2.1, h1.cmd.2.2.2.2.2.2.2.2.2, h1.cmd.2.2.2.2.1, ⟨by omega, .inl rfl⟩, ⟨by omega, .inl rfl, h1.cmd.2.2.2.2.2.2.1⟩, ⟨by omega, .inl rfl, fun x hx => ⟨by have := hfc.2.2.2 x hx; omega, .inl rfl, h1.cmd.2.2.2.2.2.2.2.2.1 x hx⟩⟩⟩, h1.frm, h1.num, h1.msg⟩
    exact ⟨hok, (put_zero hok).2 ⟨(may_iff r).2 ⟨h1.kind, h3⟩, h2⟩, h4.symm⟩
  · cases h
/-- bytes behind, or fewer: no record's -/
theorem get_behind {r : Rc} (h : OkRc true r) (h0 : (putL r).1 = 0) {L : By} (hL : L ≠ []) : getL (encRc r ++ L) = none := by
  unfold getL
  rw [get_more h h0 L]
  simp [hL]
theorem get_cut {r : Rc} (h : OkRc true r) (h0 : (putL r).1 = 0) {k : Nat} (hk : k < (encRc r).length) : getL ((encRc r).take k) = none := by
  cases hg : getL ((encRc r).take k) with
  | none => rfl
  | some s =>
    obtain ⟨h1, h2, h3⟩ := get_inv hg
    have h4 := get_more h1 h2 ((encRc r).drop k)
    rw [h3, List.take_append_drop] at h4
    have h5 := get_more h h0 []
    rw [List.append_nil, h4] at h5
    have h6 : (encRc r).drop k = [] := by
      have := congrArg (fun x => x.1.L) h5
      simpa using this
    have := congrArg List.length h6
    rw [List.length_drop, List.length_nil] at this
    omega
theorem enc_inj {r s : Rc} (h : OkRc true r) (h0 : (putL r).1 = 0) (h' : OkRc true s) (h0' : (putL s).1 = 0) (he : encRc r = encRc s) : r = s := by
  have h1 := get_put h h0
  rw [he, get_put h' h0'] at h1
  exact (Option.some.inj h1).symm
theorem ns_len : ∀ (fs : List K) (vs : List Nat), vs.length = fs.length → (encNs fs vs).length = tot fs
  | [], [], _ => rfl
  | k :: fs, v :: vs, h => by
    have := ns_len fs vs (by simpa using h)
    simp only [encNs, List.length_append, beL_len, this, tot, List.map_cons, List.sum_cons]
  | [], _ :: _, h => by simp at h
  | _ :: _, [], h => by simp at h
def sumC (l : List Tx) : Nat := (l.map fun x => x.code.length).sum
theorem lgs_len (l : List Lg) : (l.flatMap encLg).length = 7 * l.length := by
  induction l with
  | nil => rfl
  | cons x l ih => simp only [List.flatMap_cons, List.length_append, ih, encLg, beL_len, List.length_cons]; omega
theorem txs_len (l : List Tx) : (l.flatMap encTx).length = 9 * l.length + sumC l := by
  induction l with
  | nil => rfl
  | cons x l ih =>
    unfold sumC at *
    simp only [List.flatMap_cons, List.length_append, ih, encTx, encTe, beL_len, List.length_cons, List.map_cons, List.sum_cons]; omega
/-- how many bytes a record has -/
def sizeL (r : Rc) : Nat := if r.kind = 1 then 39 + r.cmd.name.length + 7 * r.cmd.legs.length + 9 * r.cmd.taxes.length + sumC r.cmd.taxes else if r.kind = 2 then 57 else 10
theorem enc_len {r : Rc} (h : r.kind = 1 ∨ r.kind = 2 ∨ r.kind = 3) (hm : r.msg.length = 12) : (encRc r).length = sizeL r := by
  unfold sizeL
  rcases h with h | h | h
  · rw [enc_1 h, if_pos h]
    simp only [encCm, encTe, encLi, List.length_append, beL_len, lgs_len, txs_len]
    omega
  · rw [enc_2 h, if_neg (by omega), if_pos h]
    simp only [List.length_append, beL_len, ns_len messageK r.msg hm]
    rfl
  · rw [enc_3 h, if_neg (by omega), if_neg (by omega)]
    simp only [List.length_append, beL_len]
end Go.Proofs.Ytjdfdihopgceoaa.Cd
