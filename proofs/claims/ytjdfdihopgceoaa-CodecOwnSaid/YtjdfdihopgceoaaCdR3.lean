/- The plain model of codec: commands and records laid and read. -/
import Derived.Test.YtjdfdihopgceoaaCdR2
namespace Go.Cod
open Go.Dk Go.Jn

/-- one behind the other -/
def seqM {α β : Type} (f : Bool → St → α → St × α) (g : Bool → St → β → St × β) (m : Bool) (s : St) (x : α × β) : St × (α × β) :=
  let a := f m s x.1
  let b := g m a.1 x.2
  (b.1, (a.2, b.2))
theorem good_seq {α β : Type} {f : Bool → St → α → St × α} {g : Bool → St → β → St × β} {z : α} {y : β} {e1 : α → By} {e2 : β → By} {w1 f1 : α → Prop} {w2 f2 : β → Prop} (hf : Good f z e1 w1 f1) (hg : Good g y e2 w2 f2) :
    Good (seqM f g) (z, y) (fun x => e1 x.1 ++ e2 x.2) (fun x => w1 x.1 ∧ w2 x.2) (fun x => f1 x.1 ∧ f2 x.2) where
  lay := fun L x hw hx => by
    unfold seqM
    simp only
    rw [hf.lay L x.1 hw.1 hx.1]
    simp only
    rw [hg.lay _ x.2 hw.2 hx.2]
    simp only [List.append_assoc]
  bad := fun L x hw h => by
    unfold seqM
    simp only
    by_cases h1 : f1 x.1
    · rw [hf.lay L x.1 hw.1 h1]
      exact hg.bad _ x.2 hw.2 (fun h2 => h ⟨h1, h2⟩)
    · exact hg.stay' true (hf.bad L x.1 hw.1 h1) x.2
  stay := fun m L x => by
    unfold seqM
    exact hg.stay' m (hf.stay m L x.1) x.2
  rd := fun L x hw hx => by
    unfold seqM
    simp only [List.append_assoc]
    rw [hf.rd _ x.1 hw.1 hx.1]
    simp only
    rw [hg.rd L x.2 hw.2 hx.2]
  inv := fun L h => by
    unfold seqM at h ⊢
    simp only at h ⊢
    cases hk : (f false ⟨true, L⟩ z).1.ok
    · rw [hg.stay' false hk] at h; cases h
    obtain ⟨a1, a2, a3⟩ := hf.inv L hk
    generalize f false ⟨true, L⟩ z = a at *
    obtain ⟨⟨ok, M⟩, c⟩ := a
    simp only at hk a1 a2 a3 h ⊢
    subst hk
    obtain ⟨b1, b2, b3⟩ := hg.inv M h
    refine ⟨⟨a1, b1⟩, ⟨a2, b2⟩, ?_⟩
    rw [List.append_assoc, ← b3]
    exact a3
theorem good_iso {α β : Type} {f : Bool → St → α → St × α} {z : α} {e : α → By} {w t : α → Prop} (hf : Good f z e w t) (to : β → α) (of : α → β) (h1 : ∀ a, to (of a) = a) (h2 : ∀ b, of (to b) = b) (g : Bool → St → β → St × β) (hg : ∀ m s b, g m s b = ((f m s (to b)).1, of (f m s (to b)).2)) :
    Good g (of z) (fun b => e (to b)) (fun b => w (to b)) (fun b => t (to b)) where
  lay := fun L x hw hx => by rw [hg, hf.lay L _ hw hx, h2]
  bad := fun L x hw hx => by rw [hg]; exact hf.bad L _ hw hx
  stay := fun m L x => by rw [hg]; exact hf.stay m L _
  rd := fun L x hw hx => by rw [hg, h1, hf.rd L _ hw hx, h2]
  inv := fun L h => by
    rw [hg, h1] at h ⊢
    simp only [h1] at h ⊢
    exact hf.inv L h
/-- numbers one behind the other -/
def encNs : List K → List Nat → By
  | k :: ks, v :: vs => beL k.sz v ++ encNs ks vs
  | _, _ => []
theorem good_ns : ∀ fs : List K, Good (fun m s v => nusM m s fs v) (List.replicate fs.length 0) (encNs fs) (Vld fs) (fun _ => True)
  | [] => ⟨fun L x hw _ => by
      obtain rfl : x = [] := List.eq_nil_of_length_eq_zero hw.1
      simp [nusM, encNs], fun _ _ _ h => absurd trivial h, fun m L x => by cases x <;> rfl, fun L x hw _ => by
      obtain rfl : x = [] := List.eq_nil_of_length_eq_zero hw.1
      simp [nusM, encNs], fun L _ => ⟨⟨rfl, fun j k v h => by simp at h⟩, trivial, by simp [nusM, encNs]⟩⟩
  | k :: fs => by
    have ih := good_ns fs
    have hs := good_seq (good_nu k.sz) ih
    have hv : ∀ (v : Nat) (vs : List Nat), Vld (k :: fs) (v :: vs) ↔ v < 256 ^ k.sz ∧ Vld fs vs := fun v vs => by
      constructor
      · intro h
        exact ⟨h.2 0 k v rfl rfl, ⟨by have := h.1; simpa using this, fun j k' v' h1 h2 => h.2 (j + 1) k' v' h1 h2⟩⟩
      · rintro ⟨h1, h2⟩
        refine ⟨by simp [h2.1], fun j k' v' hk hv => ?_⟩
        cases j with
        | zero => simp at hk hv; subst hk hv; exact h1
        | succ j => exact h2.2 j k' v' hk hv
    refine ⟨fun L x hw _ => ?_, fun _ _ _ h => absurd trivial h, fun m L x => ?_, fun L x hw _ => ?_, fun L h => ?_⟩
    · match x, hw with
      | v :: vs, hw =>
        have := hs.lay L (v, vs) ((hv v vs).1 hw) ⟨trivial, trivial⟩
        unfold seqM at this
        simp only [Prod.mk.injEq] at this
        simp only [nusM, encNs, this.1, this.2.1, this.2.2]
      | [], hw => simp [Vld] at hw
    · match x with
      | v :: vs => exact hs.stay m L (v, vs)
      | [] => rfl
    · match x, hw with
      | v :: vs, hw =>
        have := hs.rd L (v, vs) ((hv v vs).1 hw) ⟨trivial, trivial⟩
        unfold seqM at this
        simp only [Prod.mk.injEq] at this
        simp only [List.length_cons, List.replicate_succ, nusM, encNs, this.1, this.2.1, this.2.2]
      | [], hw => simp [Vld] at hw
    · obtain ⟨h1, _, h3⟩ := hs.inv L h
      exact ⟨(hv _ _).2 h1, trivial, h3⟩
theorem good_ms : Good (fun m s v => nusM m s messageK v) zMsg (encNs messageK) (Vld messageK) (fun _ => True) := good_ns messageK
abbrev CmP := Nat × Nat × Nat × Nat × Nat × By × List Lg × Nat × List Tx × Nat
def toP (c : Cmd) : CmP := (c.kind, c.car, c.ser, c.pos, c.am, c.name, c.legs, c.fare, c.taxes, c.pen)
def ofP (p : CmP) : Cmd := ⟨p.1, p.2.1, p.2.2.1, p.2.2.2.1, p.2.2.2.2.2.1, p.2.2.2.2.2.2.1, p.2.2.2.2.2.2.2.1, p.2.2.2.2.2.2.2.2.1, p.2.2.2.2.2.2.2.2.2, p.2.2.2.2.1⟩
def encLg (l : Lg) : By := beL 1 l.c ++ (beL 2 l.f ++ beL 4 l.w)
def encTx (x : Tx) : By := encTe x.code ++ beL 8 x.am
/-- a command's bytes -/
def encCm (c : Cmd) : By := beL 1 c.kind ++ (beL 1 c.car ++ (beL 8 c.ser ++ (beL 1 c.pos ++ (beL 8 c.am ++ (encTe c.name ++ (encLi encLg c.legs ++ (beL 8 c.fare ++ (encLi encTx c.taxes ++ beL 8 c.pen))))))))
def wfCm (c : Cmd) : Prop := c.kind < 256 ^ 1 ∧ c.car < 256 ^ 1 ∧ c.ser < 256 ^ 8 ∧ c.pos < 256 ^ 1 ∧ c.am < 256 ^ 8 ∧ True ∧ (∀ l ∈ c.legs, OkLg l) ∧ c.fare < 256 ^ 8 ∧ (∀ x ∈ c.taxes, x.am < 256 ^ 8) ∧ c.pen < 256 ^ 8
def fitCm (c : Cmd) : Prop := c.name.length ≤ 32 ∧ c.legs.length ≤ 4 ∧ (c.taxes.length ≤ 4 ∧ ∀ x ∈ c.taxes, x.code.length ≤ 32)
theorem good_cm : Good cmM zCmd encCm wfCm fitCm := by
  have h : Good cmM zCmd encCm wfCm (fun c => True ∧ True ∧ True ∧ True ∧ True ∧ c.name.length ≤ 32 ∧ (c.legs.length ≤ 4 ∧ ∀ x ∈ c.legs, True) ∧ True ∧ (c.taxes.length ≤ 4 ∧ ∀ x ∈ c.taxes, x.code.length ≤ 32) ∧ True) :=
    good_iso (good_seq (good_nu 1) (good_seq (good_nu 1) (good_seq (good_nu 8) (good_seq (good_nu 1) (good_seq (good_nu 8) (good_seq good_te (good_seq (good_li good_lg) (good_seq (good_nu 8) (good_seq (good_li good_tx) (good_nu 8)))))))))) toP ofP (fun _ => rfl) (fun _ => rfl) cmM (fun _ _ _ => rfl)
  exact ⟨fun L x hw hf => h.lay L x hw ⟨trivial, trivial, trivial, trivial, trivial, hf.1, ⟨hf.2.1, fun _ _ => trivial⟩, trivial, hf.2.2, trivial⟩, fun L x hw hf => h.bad L x hw (fun e => hf ⟨e.2.2.2.2.2.1, e.2.2.2.2.2.2.1.1, e.2.2.2.2.2.2.2.2.1⟩), h.stay, fun L x hw hf => h.rd L x hw ⟨trivial, trivial, trivial, trivial, trivial, hf.1, ⟨hf.2.1, fun _ _ => trivial⟩, trivial, hf.2.2, trivial⟩, fun L hk => by
    obtain ⟨h1, e, h3⟩ := h.inv L hk
    exact ⟨h1, ⟨e.2.2.2.2.2.1, e.2.2.2.2.2.2.1.1, e.2.2.2.2.2.2.2.2.1⟩, h3⟩⟩
/-- a packet's head; a packet -/
theorem good_hd : Good (seqM (fun m s v => nuM m s 1 v) (fun m s v => nuM m s 8 v)) (0, 0) (fun x => beL 1 x.1 ++ beL 8 x.2) (fun x => x.1 < 256 ^ 1 ∧ x.2 < 256 ^ 8) (fun _ => True) := by
  have h := good_seq (good_nu 1) (good_nu 8)
  exact ⟨fun L x hw _ => h.lay L x hw ⟨trivial, trivial⟩, fun _ _ _ e => absurd trivial e, h.stay, fun L x hw _ => h.rd L x hw ⟨trivial, trivial⟩, fun L hk => by
    obtain ⟨h1, _, h3⟩ := h.inv L hk
    exact ⟨h1, trivial, h3⟩⟩
theorem good_pk : Good (seqM (fun m s v => nuM m s 1 v) (seqM (fun m s v => nuM m s 8 v) (fun m s v => nusM m s messageK v))) (0, 0, zMsg) (fun x => beL 1 x.1 ++ (beL 8 x.2.1 ++ encNs messageK x.2.2)) (fun x => x.1 < 256 ^ 1 ∧ x.2.1 < 256 ^ 8 ∧ Vld messageK x.2.2) (fun _ => True) := by
  have h := good_seq (good_nu 1) (good_seq (good_nu 8) good_ms)
  exact ⟨fun L x hw _ => h.lay L x hw ⟨trivial, trivial, trivial⟩, fun _ _ _ e => absurd trivial e, h.stay, fun L x hw _ => h.rd L x hw ⟨trivial, trivial, trivial⟩, fun L hk => by
    obtain ⟨h1, _, h3⟩ := h.inv L hk
    exact ⟨h1, trivial, h3⟩⟩
abbrev pkF : Bool → St → Nat × Nat × List Nat → St × (Nat × Nat × List Nat) := seqM (fun m s v => nuM m s 1 v) (seqM (fun m s v => nuM m s 8 v) (fun m s v => nusM m s messageK v))
abbrev hdF : Bool → St → Nat × Nat → St × (Nat × Nat) := seqM (fun m s v => nuM m s 1 v) (fun m s v => nuM m s 8 v)
theorem rcM_1 {m : Bool} {s : St} {r : Rc} (h : (nuM m s 1 r.kind).2 = 1) : rcM m s r = ((cmM m (nuM m s 1 r.kind).1 r.cmd).1, { r with kind := 1, cmd := (cmM m (nuM m s 1 r.kind).1 r.cmd).2 }) := by
  unfold rcM; simp only; rw [if_pos h, h]
theorem rcM_2 {m : Bool} {s : St} {r : Rc} (h : (nuM m s 1 r.kind).2 = 2) : rcM m s r = ((pkF m (nuM m s 1 r.kind).1 (r.frm, r.num, r.msg)).1, { r with kind := 2, frm := (pkF m (nuM m s 1 r.kind).1 (r.frm, r.num, r.msg)).2.1, num := (pkF m (nuM m s 1 r.kind).1 (r.frm, r.num, r.msg)).2.2.1, msg := (pkF m (nuM m s 1 r.kind).1 (r.frm, r.num, r.msg)).2.2.2 }) := by
  unfold rcM; simp only; rw [if_neg (by rw [h]; decide), if_pos h, h]; rfl
theorem rcM_3 {m : Bool} {s : St} {r : Rc} (h : (nuM m s 1 r.kind).2 = 3) : rcM m s r = ((hdF m (nuM m s 1 r.kind).1 (r.frm, r.num)).1, { r with kind := 3, frm := (hdF m (nuM m s 1 r.kind).1 (r.frm, r.num)).2.1, num := (hdF m (nuM m s 1 r.kind).1 (r.frm, r.num)).2.2 }) := by
  unfold rcM; simp only; rw [if_neg (by rw [h]; decide), if_neg (by rw [h]; decide), if_pos h, h]; rfl
theorem rcM_no {m : Bool} {s : St} {r : Rc} (h1 : (nuM m s 1 r.kind).2 ≠ 1) (h2 : (nuM m s 1 r.kind).2 ≠ 2) (h3 : (nuM m s 1 r.kind).2 ≠ 3) : (rcM m s r).1.ok = false := by
  unfold rcM; simp only; rw [if_neg h1, if_neg h2, if_neg h3]
/-- a record's bytes -/
def encRc (r : Rc) : By :=
  beL 1 r.kind ++ (if r.kind = 1 then encCm r.cmd else if r.kind = 2 then beL 1 r.frm ++ (beL 8 r.num ++ encNs messageK r.msg) else beL 1 r.frm ++ beL 8 r.num)
theorem enc_1 {r : Rc} (h : r.kind = 1) : encRc r = beL 1 1 ++ encCm r.cmd := by unfold encRc; rw [if_pos h, h]
theorem enc_2 {r : Rc} (h : r.kind = 2) : encRc r = beL 1 2 ++ (beL 1 r.frm ++ (beL 8 r.num ++ encNs messageK r.msg)) := by unfold encRc; rw [if_neg (by rw [h]; decide), if_pos h, h]
theorem enc_3 {r : Rc} (h : r.kind = 3) : encRc r = beL 1 3 ++ (beL 1 r.frm ++ beL 8 r.num) := by unfold encRc; rw [if_neg (by rw [h]; decide), if_neg (by rw [h]; decide), h]
structure WfRc (r : Rc) : Prop where
  kind : r.kind = 1 ∨ r.kind = 2 ∨ r.kind = 3
  cmd : wfCm r.cmd
  frm : r.frm < 256 ^ 1
  num : r.num < 256 ^ 8
  msg : Vld messageK r.msg
def fitRc (r : Rc) : Prop := r.kind = 1 → fitCm r.cmd
theorem rc_lay (L : By) (r : Rc) (hw : WfRc r) (hf : fitRc r) : rcM true ⟨true, L⟩ r = (⟨true, L ++ encRc r⟩, r) := by
  have hk : r.kind < 256 ^ 1 := by rcases hw.kind with h | h | h <;> rw [h] <;> decide
  have h0 : nuM true ⟨true, L⟩ 1 r.kind = (⟨true, L ++ beL 1 r.kind⟩, r.kind) := (good_nu 1).lay L r.kind hk trivial
  rcases hw.kind with h | h | h
  · rw [rcM_1 (by rw [h0]; exact h), h0, enc_1 h]
    simp only
    rw [good_cm.lay _ r.cmd hw.cmd (hf h), List.append_assoc, h]
    rw [← h]
  · rw [rcM_2 (by rw [h0]; exact h), h0, enc_2 h]
    simp only
    rw [show pkF true ⟨true, L ++ beL 1 r.kind⟩ (r.frm, r.num, r.msg) = _ from good_pk.lay (L ++ beL 1 r.kind) (r.frm, r.num, r.msg) ⟨hw.frm, hw.num, hw.msg⟩ trivial, List.append_assoc, h]
    rw [← h]
  · rw [rcM_3 (by rw [h0]; exact h), h0, enc_3 h]
    simp only
    rw [show hdF true ⟨true, L ++ beL 1 r.kind⟩ (r.frm, r.num) = _ from good_hd.lay (L ++ beL 1 r.kind) (r.frm, r.num) ⟨hw.frm, hw.num⟩ trivial, List.append_assoc, h]
    rw [← h]
theorem rc_bad (L : By) (r : Rc) (hw : WfRc r) (hf : ¬ fitRc r) : (rcM true ⟨true, L⟩ r).1.ok = false := by
  have hk1 : r.kind = 1 := Classical.byContradiction fun h => hf (fun e => absurd e h)
  have h0 : nuM true ⟨true, L⟩ 1 r.kind = (⟨true, L ++ beL 1 r.kind⟩, r.kind) := (good_nu 1).lay L r.kind (by rw [hk1]; decide) trivial
  rw [rcM_1 (by rw [h0]; exact hk1), h0]
  exact good_cm.bad _ r.cmd hw.cmd (fun h => hf (fun _ => h))
/-- only what its kind has -/
def bare (r : Rc) : Prop := (r.kind = 1 → r.frm = 0 ∧ r.num = 0 ∧ r.msg = zMsg) ∧ (r.kind = 2 → r.cmd = zCmd) ∧ (r.kind = 3 → r.cmd = zCmd ∧ r.msg = zMsg)
theorem rc_rd (L : By) (r : Rc) (hw : WfRc r) (hf : fitRc r) (hb : bare r) : rcM false ⟨true, encRc r ++ L⟩ zRc = (⟨true, L⟩, r) := by
  have hk : r.kind < 256 ^ 1 := by rcases hw.kind with h | h | h <;> rw [h] <;> decide
  have hr : ∀ M, nuM false ⟨true, beL 1 r.kind ++ M⟩ 1 zRc.kind = (⟨true, M⟩, r.kind) := fun M => (good_nu 1).rd M r.kind hk trivial
  rcases hw.kind with h | h | h
  · have hr1 : ∀ M, nuM false ⟨true, beL 1 1 ++ M⟩ 1 zRc.kind = (⟨true, M⟩, 1) := fun M => by have := hr M; rw [h] at this; exact this
    rw [enc_1 h, List.append_assoc]
    rw [rcM_1 (by rw [hr1]), hr1]
    simp only
    rw [show cmM false ⟨true, encCm r.cmd ++ L⟩ zRc.cmd = _ from good_cm.rd L r.cmd hw.cmd (hf h)]
    obtain ⟨h1, h2, h3⟩ := hb.1 h
    obtain ⟨k, c, f, n, g⟩ := r
    simp only at h h1 h2 h3
    subst h h1 h2 h3
    rfl
  · have hr1 : ∀ M, nuM false ⟨true, beL 1 2 ++ M⟩ 1 zRc.kind = (⟨true, M⟩, 2) := fun M => by have := hr M; rw [h] at this; exact this
    rw [enc_2 h, List.append_assoc]
    rw [rcM_2 (by rw [hr1]), hr1]
    simp only
    rw [show pkF false ⟨true, beL 1 r.frm ++ (beL 8 r.num ++ encNs messageK r.msg) ++ L⟩ (zRc.frm, zRc.num, zRc.msg) = _ from good_pk.rd L (r.frm, r.num, r.msg) ⟨hw.frm, hw.num, hw.msg⟩ trivial]
    have h1 := hb.2.1 h
    obtain ⟨k, c, f, n, g⟩ := r
    simp only at h h1
    subst h h1
    rfl
  · have hr1 : ∀ M, nuM false ⟨true, beL 1 3 ++ M⟩ 1 zRc.kind = (⟨true, M⟩, 3) := fun M => by have := hr M; rw [h] at this; exact this
    rw [enc_3 h, List.append_assoc]
    rw [rcM_3 (by rw [hr1]), hr1]
    simp only
    rw [show hdF false ⟨true, beL 1 r.frm ++ beL 8 r.num ++ L⟩ (zRc.frm, zRc.num) = _ from good_hd.rd L (r.frm, r.num) ⟨hw.frm, hw.num⟩ trivial]
    obtain ⟨h1, h2⟩ := hb.2.2 h
    obtain ⟨k, c, f, n, g⟩ := r
    simp only at h h1 h2
    subst h h1 h2
    rfl
theorem wf_zcm : wfCm zCmd := ⟨by decide, by decide, by decide, by decide, by decide, trivial, fun l h => by simp [zCmd] at h, by decide, fun l h => by simp [zCmd] at h, by decide⟩
theorem vld_zmsg : Vld messageK zMsg := ⟨rfl, fun j k v _ hv => by
  have : v = 0 := by
    have h : v ∈ zMsg := List.mem_of_getElem? hv
    simp [zMsg] at h; exact h
  subst this
  exact Nat.pow_pos (by decide)⟩
theorem st_true {s : St} (h : s.ok = true) : s = ⟨true, s.L⟩ := by obtain ⟨a, b⟩ := s; simp at h; rw [h]
theorem rc_inv (L : By) (h : (rcM false ⟨true, L⟩ zRc).1.ok = true) : WfRc (rcM false ⟨true, L⟩ zRc).2 ∧ fitRc (rcM false ⟨true, L⟩ zRc).2 ∧ bare (rcM false ⟨true, L⟩ zRc).2 ∧ L = encRc (rcM false ⟨true, L⟩ zRc).2 ++ (rcM false ⟨true, L⟩ zRc).1.L := by
  have hok : (nuM false ⟨true, L⟩ 1 zRc.kind).1.ok = true := by
    cases hk : (nuM false ⟨true, L⟩ 1 zRc.kind).1.ok
    · by_cases h1 : (nuM false ⟨true, L⟩ 1 zRc.kind).2 = 1
      · rw [rcM_1 h1] at h
        rw [good_cm.stay' false hk] at h; cases h
      · by_cases h2 : (nuM false ⟨true, L⟩ 1 zRc.kind).2 = 2
        · rw [rcM_2 h2] at h
          rw [good_pk.stay' false hk] at h; cases h
        · by_cases h3 : (nuM false ⟨true, L⟩ 1 zRc.kind).2 = 3
          · rw [rcM_3 h3] at h
            rw [good_hd.stay' false hk] at h; cases h
          · rw [rcM_no h1 h2 h3] at h; cases h
    · rfl
  obtain ⟨a1, _, a3⟩ := (good_nu 1).inv L hok
  have a3' : L = beL 1 (nuM false ⟨true, L⟩ 1 zRc.kind).2 ++ (nuM false ⟨true, L⟩ 1 zRc.kind).1.L := a3
  have hs : (nuM false ⟨true, L⟩ 1 zRc.kind).1 = ⟨true, (nuM false ⟨true, L⟩ 1 zRc.kind).1.L⟩ := st_true hok
  by_cases h1 : (nuM false ⟨true, L⟩ 1 zRc.kind).2 = 1
  · rw [rcM_1 h1] at h ⊢
    rw [hs] at h ⊢
    generalize (nuM false ⟨true, L⟩ 1 zRc.kind).1.L = M at *
    obtain ⟨b1, b2, b3⟩ := good_cm.inv M h
    refine ⟨⟨.inl rfl, b1, (show zRc.frm < 256 ^ 1 by decide), (show zRc.num < 256 ^ 8 by decide), vld_zmsg⟩, fun _ => b2, ⟨fun _ => ⟨rfl, rfl, rfl⟩, fun e => by simp at e, fun e => by simp at e⟩, ?_⟩
    rw [enc_1 rfl, List.append_assoc]
    rw [h1] at a3'
    rw [a3']
    congr 1
  · by_cases h2 : (nuM false ⟨true, L⟩ 1 zRc.kind).2 = 2
    · rw [rcM_2 h2] at h ⊢
      rw [hs] at h ⊢
      generalize (nuM false ⟨true, L⟩ 1 zRc.kind).1.L = M at *
      obtain ⟨b1, _, b3⟩ := good_pk.inv M h
      refine ⟨⟨.inr (.inl rfl), wf_zcm, b1.1, b1.2.1, b1.2.2⟩, fun e => by simp at e, ⟨fun e => by simp at e, fun _ => rfl, fun e => by simp at e⟩, ?_⟩
      rw [enc_2 rfl, List.append_assoc]
      rw [h2] at a3'
      rw [a3']
      congr 1
    · by_cases h3 : (nuM false ⟨true, L⟩ 1 zRc.kind).2 = 3
      · rw [rcM_3 h3] at h ⊢
        rw [hs] at h ⊢
        generalize (nuM false ⟨true, L⟩ 1 zRc.kind).1.L = M at *
        obtain ⟨b1, _, b3⟩ := good_hd.inv M h
        refine ⟨⟨.inr (.inr rfl), wf_zcm, b1.1, b1.2, vld_zmsg⟩, fun e => by simp at e, ⟨fun e => by simp at e, fun e => by simp at e, fun _ => ⟨rfl, rfl⟩⟩, ?_⟩
        rw [enc_3 rfl, List.append_assoc]
        rw [h3] at a3'
        rw [a3']
        congr 1
      · rw [rcM_no h1 h2 h3] at h; cases h
end Go.Cod
