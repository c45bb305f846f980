/- Contract: walkOver. -/
import Derived.Test.YtjdfdihopgceoaaCdV
namespace Go.Proofs.Ytjdfdihopgceoaa.Cd
open Go.RowKit Go.Shelf Go.Dk Go.Jn Go.Cod

structure OkRc (m : Bool) (r : Rc) : Prop where
  kind : r.kind < 256
  cmd : OkCmd m r.cmd
  frm : r.frm < 256
  num : r.num < 18446744073709551616
  msg : Vld messageK r.msg
def WoP (m : Bool) (B rb qb n : Nat) (L : By) (r : Rc) (lv0 tv0 : Value) (w : World) (e : Ending) (w' : World) : Prop :=
  e = .returned (.bool (rcM m ⟨true, L⟩ r).1.ok) ∧ RowM m B rb NoX (rcM m ⟨true, L⟩ r).1.L w' ∧ (rcM m ⟨true, L⟩ r).1.L.length ≤ n + 263 ∧ Fr B (fun x => x = rb ∨ x = qb) w w' ∧
    ∃ lv tv, w'.heap[qb]? = some (.cells (recC (rcM m ⟨true, L⟩ r).2 lv tv).toArray 44 (0, 0)) ∧
      (((rcM m ⟨true, L⟩ r).2.kind = 1 ∧ OwnL 36 3 w.heap.size w' lv (rcM m ⟨true, L⟩ r).2.cmd.legs.length (flt lgC (rcM m ⟨true, L⟩ r).2.cmd.legs) ∧ OwnL 58 2 w.heap.size w' tv (rcM m ⟨true, L⟩ r).2.cmd.taxes.length (flt txC (rcM m ⟨true, L⟩ r).2.cmd.taxes)) ∨
        ((rcM m ⟨true, L⟩ r).2.kind ≠ 1 ∧ lv = lv0 ∧ tv = tv0))
theorem Wk.fin {m : Bool} {B wb rb n : Nat} {s : St} {w : World} (h : Wk m B wb rb NoX n s w) : w.cell? ⟨wb, 1, none⟩ = some (.bool s.ok) := by
  have := cell_of_arr h.walk 1
  simpa using this
set_option maxRecDepth 100000 in
set_option maxHeartbeats 3200000 in
theorem walkOver_any {m : Bool} {B rb qb n : Nat} {L : By} {r : Rc} {lp tp : Option Addr} {lc tc : Nat} {w : World} (hrow : RowM m B rb NoX L w) (hcell : w.heap[qb]? = some (.cells (recC r (.slice lp r.cmd.legs.length lc) (.slice tp r.cmd.taxes.length tc)).toArray 44 (0, 0)))
    (hl : RowF w (· < B) (.slice lp r.cmd.legs.length lc) r.cmd.legs.length (flt lgC r.cmd.legs)) (ht : RowF w (· < B) (.slice tp r.cmd.taxes.length tc) r.cmd.taxes.length (flt txC r.cmd.taxes)) (hok : OkRc m r) (hL : L.length ≤ n) (hn : n + 263 ≤ 1000000) (hrb : B ≤ rb) (hqb : B ≤ qb) (hB : B ≤ w.heap.size) :
    Calls Try.prog 21 #[pt qb, stepV m rb] w (WoP m B rb qb n L r (.slice lp r.cmd.legs.length lc) (.slice tp r.cmd.taxes.length tc) w) := by
  obtain ⟨w1, hw1⟩ : ∃ w1, w.alloc (.cells #[stepV m rb, .bool true] 78) = w1 := ⟨_, rfl⟩
  have hbl : Below w.heap.size w w1 := by rw [← hw1]; exact (Below.refl _ _).alloc (Nat.le_refl _) _
  have hwk : w1.heap[w.heap.size]? = some (.cells #[stepV m rb, .bool true] 78 (0, 0)) := by rw [← hw1]; exact heap_last _ _ _ rfl
  have hql := lt_of_heap hcell
  have hrl : rb < w.heap.size := by obtain ⟨_, _, h, _⟩ := hrow; exact lt_of_heap h
  have hr1 : RowM m B rb NoX L w1 := hrow.other (T := w.heap.size) hB (fun k hk hne => by
    rcases hk with hk | hk
    · exact hbl.block k hk
    · exact hbl.block k (by omega)) (.inl (Nat.le_refl _))
  have hsg : Sg m B w.heap.size rb qb 44 n ⟨true, L⟩ (recC r (.slice lp r.cmd.legs.length lc) (.slice tp r.cmd.taxes.length tc)).toArray w w1 :=
    ⟨⟨hwk, hr1, hB, hrb, hL⟩, (hbl.block qb hql).trans hcell, Fr.ofBelow hbl hB, by decide, hqb, hB⟩
  obtain ⟨lv0, hlv0⟩ : ∃ v, Value.slice lp r.cmd.legs.length lc = v := ⟨_, rfl⟩
  obtain ⟨tv0, htv0⟩ : ∃ v, Value.slice tp r.cmd.taxes.length tc = v := ⟨_, rfl⟩
  have HL := Lib.hid hl
  have HT := Lib.hid ht
  have HOK := Lib.hid hok
  have HLV := Lib.hid hlv0
  have HTV := Lib.hid htv0
  have HQ := Lib.hid (And.intro hql hrl)
  have HW1 := Lib.hid hw1
  have HSG := Lib.hid hsg
  rw [hlv0, htv0] at hsg
  have HN1 := Lib.hid (fc_u8.one (i := 0) hsg r.kind hok.kind (by simp [recC, cellK]) 1 rfl (by omega))
  rw [hlv0, htv0]
  have HB := Lib.hid hB
  have fin : ∀ (s : St) (r' : Rc) (lv tv : Value) (w' : World), Sg m B w.heap.size rb qb 44 (n + 263) s (recC r' lv tv).toArray w w' → rcM m ⟨true, L⟩ r = (s, r') →
      ((r'.kind = 1 ∧ OwnL 36 3 w.heap.size w' lv r'.cmd.legs.length (flt lgC r'.cmd.legs) ∧ OwnL 58 2 w.heap.size w' tv r'.cmd.taxes.length (flt txC r'.cmd.taxes)) ∨ (r'.kind ≠ 1 ∧ lv = lv0 ∧ tv = tv0)) →
      WoP m B rb qb n L r lv0 tv0 w (.returned (.bool s.ok)) w' := fun s r' lv tv w' hs he hx => by
    unfold WoP
    rw [he]
    exact ⟨rfl, hs.wk.row, hs.wk.len, hs.fr.mono (fun x hx e => by
      rcases e with e | e | e
      · omega
      · exact .inl e
      · exact .inr e), lv, tv, hs.cells, hx⟩
  have FIN := Lib.hid fin
  clear hrow hcell hl ht hok hL hbl hwk hql hrl hr1 hsg hlv0 htv0 hw1 fin
  go_enter Try.func21, Try.ntmps21
  go_wp2_with fail
  rw [HW1.out]
  refine (HN1.out).mono ?_
  rintro e w2 ⟨rfl, h2⟩
  obtain ⟨a1, ha1⟩ : ∃ a1, nuM m ⟨true, L⟩ 1 r.kind = a1 := ⟨_, rfl⟩
  rw [ha1] at h2
  have h2' := Sg.set1 (l' := recC { r with kind := a1.2 } lv0 tv0) (i := 0) (v := .int .u8 (a1.2 : Int)) h2 rfl
  have ck := cell_of_arr h2'.cells 0
  simp only [recC, List.getElem?_toArray, List.getElem?_cons_zero] at ck
  have HA1 := Lib.hid ha1
  have H2 := Lib.hid h2'
  have k1 : (a1.2 : Int) ≤ 255 := by rw [← ha1]; have := nuM_lt m ⟨true, L⟩ 1 r.kind; omega
  have k0 : (0 : Int) ≤ (a1.2 : Int) := Int.natCast_nonneg _
  clear h2 h2' HN1 ha1
  obtain ⟨s1, kk⟩ := a1
  simp only at ck k0 k1
  by_cases e1 : kk = 1
  · subst e1
    have h2 := H2.out
    rw [← HLV.out, ← HTV.out] at h2
    have HC := Lib.hid (command_any (r := { r with kind := 1 }) h2 (HL.out.kept (fun b hb => ⟨hb, h2.fr.low b hb⟩)) (HT.out.kept (fun b hb => ⟨hb, h2.fr.low b hb⟩)) HOK.out.cmd (by omega) HOK.out.msg.1)
    have HF2 := Lib.hid h2.fr
    clear h2
    go_wp2_with fail
    refine (HC.out).mono ?_
    rintro e w3 ⟨rfl, lv, tv, h3, ho, hp⟩
    have cf := h3.wk.fin
    have HX := Lib.hid (FIN.out _ _ _ _ _ (h3.le (by omega)) (by unfold rcM; simp only [HA1.out]; rfl) (.inl ⟨rfl, ho.lo HF2.out.size, hp.lo HF2.out.size⟩))
    clear h3 ho hp HC
    go_wp2_with fail
    go_ret
    exact HX.out
  · by_cases e2 : kk = 2
    · subst e2
      have HC := Lib.hid (numbered_any (r := { r with kind := 2 }) H2.out HOK.out.frm HOK.out.num (by omega))
      go_wp2_with fail
      refine (HC.out).mono ?_
      rintro e w3 ⟨rfl, h3⟩
      obtain ⟨f1, hf1⟩ : ∃ f1, nuM m s1 1 r.frm = f1 := ⟨_, rfl⟩
      simp only [hf1] at h3
      obtain ⟨f2, hf2⟩ : ∃ f2, nuM m f1.1 8 r.num = f2 := ⟨_, rfl⟩
      simp only [hf2] at h3
      have hml := HOK.out.msg.1
      have HD := Lib.hid (fc_message m B w.heap.size rb qb 44 13 (n + 1 + 9) f2.1 _ w w3 r.msg h3 (at_list (by
        rw [cellsK_len _ _ hml]
        show (cellsK messageK r.msg).take 12 = _
        exact List.take_of_length_le (by rw [cellsK_len _ _ hml]; exact Nat.le_refl _))) HOK.out.msg (by simp [tot, K.sz]; omega))
      have HF1 := Lib.hid hf1
      have HF2 := Lib.hid hf2
      have HML := Lib.hid hml
      clear h3 HC hf1 hf2 hml
      go_wp2_with fail
      refine (HD.out).mono ?_
      rintro e w4 ⟨rfl, h4⟩
      have hl4 : (cellsK messageK (nusM m f2.1 messageK r.msg).2).length = 12 := cellsK_len _ _ (nusM_vld m f2.1 messageK r.msg HML.out).1
      have h4' := Sg.list (l' := recC { r with kind := 2, frm := f1.2, num := f2.2, msg := (nusM m f2.1 messageK r.msg).2 } lv0 tv0) h4 (by rw [hl4]; simp [recC]; rw [cellsK_len _ _ HML.out]; decide) (by
        rw [hl4]
        show _ = List.take 13 _ ++ _ ++ List.drop 25 _
        have hd : List.drop 25 (recC { kind := 2, cmd := r.cmd, frm := f1.2, num := f2.2, msg := r.msg } lv0 tv0) = [] := List.drop_of_length_le (by rw [recC_len (r := { kind := 2, cmd := r.cmd, frm := f1.2, num := f2.2, msg := r.msg }) HML.out]; exact Nat.le_refl _)
        rw [hd, List.append_nil]
        rfl)
      have cf := h4'.wk.fin
      have HX := Lib.hid (FIN.out _ _ _ _ _ (h4'.le (by simp [tot, K.sz])) (by unfold rcM; simp only [HA1.out, HF1.out, HF2.out]; rfl) (.inr ⟨by show (2 : Nat) ≠ 1; decide, rfl, rfl⟩))
      clear h4 h4' HD hl4
      go_wp2_with fail
      go_ret
      exact HX.out
    · by_cases e3 : kk = 3
      · subst e3
        have HC := Lib.hid (numbered_any (r := { r with kind := 3 }) H2.out HOK.out.frm HOK.out.num (by omega))
        go_wp2_with fail
        refine (HC.out).mono ?_
        rintro e w3 ⟨rfl, h3⟩
        obtain ⟨f1, hf1⟩ : ∃ f1, nuM m s1 1 r.frm = f1 := ⟨_, rfl⟩
        simp only [hf1] at h3
        obtain ⟨f2, hf2⟩ : ∃ f2, nuM m f1.1 8 r.num = f2 := ⟨_, rfl⟩
        simp only [hf2] at h3
        have cf := h3.wk.fin
        have HX := Lib.hid (FIN.out _ _ _ _ _ (h3.le (by omega)) (by unfold rcM; simp only [HA1.out, hf1, hf2]; rfl) (.inr ⟨by show (3 : Nat) ≠ 1; decide, rfl, rfl⟩))
        clear h3 HC hf1 hf2
        go_wp2_with fail
        go_ret
        exact HX.out
      · have i1 : ¬ (kk : Int) = 1 := by omega
        have i2 : ¬ (kk : Int) = 2 := by omega
        have i3 : ¬ (kk : Int) = 3 := by omega
        have h2 := H2.out
        have HX := Lib.hid (show WoP m B rb qb n L r lv0 tv0 w (.returned (.bool false)) w2 from by
          have he : rcM m ⟨true, L⟩ r = (⟨false, s1.L⟩, { r with kind := kk }) := by
            unfold rcM; simp only [HA1.out]; rw [if_neg e1, if_neg e2, if_neg e3]
          unfold WoP
          rw [he]
          have hq := HQ.out
          exact ⟨rfl, h2.wk.row, by have := h2.wk.len; simp only at this ⊢; omega, h2.fr.mono (fun x hx e => by
            rcases e with e | e | e
            · omega
            · exact .inl e
            · exact .inr e), lv0, tv0, h2.cells, .inr ⟨e1, rfl, rfl⟩⟩)
        clear h2
        go_wp2_with fail
        go_ret
        exact HX.out
end Go.Proofs.Ytjdfdihopgceoaa.Cd
