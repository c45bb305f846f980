/- Contracts: mayBe of a record, Put. -/
import Derived.Test.YtjdfdihopgceoaaCdMy
import Derived.Test.YtjdfdihopgceoaaCdR
namespace Go.Proofs.Ytjdfdihopgceoaa.Cd
open Go.RowKit Go.Shelf Go.Dk Go.Jn Go.Cod

theorem wrap_zero {v : Nat} (h : v < 18446744073709551616) : wrap64 (v : Int) = 0 ↔ v = 0 := by
  constructor
  · intro e; rcases wrap_cases v h with h1 | h1 <;> omega
  · rintro rfl; exact wrap_nat 0 (by decide)
theorem noCmd_iff {c : Cmd} (h : OkCmd true c) : decide (NoCmd (c.kind : Int) (c.car : Int) (c.ser : Int) (c.pos : Int) c.name c.legs.length c.taxes.length (wrap64 (c.fare : Int)) (wrap64 (c.pen : Int)) (wrap64 (c.am : Int))) = noCmdB c := by
  have h1 := wrap_zero h.fare
  have h2 := wrap_zero h.pen
  have h3 := wrap_zero h.am
  unfold noCmdB NoCmd NoSale
  rw [Bool.eq_iff_iff]
  simp only [decide_eq_true_eq, Bool.and_eq_true, h1, h2, h3]
  constructor
  · rintro ⟨a, ⟨b, c'⟩, d, ⟨e, f, g, i, j⟩, k⟩
    exact ⟨⟨⟨⟨⟨⟨⟨⟨⟨by omega, by omega⟩, by omega⟩, by omega⟩, e⟩, f⟩, g⟩, i⟩, j⟩, k⟩
  · rintro ⟨⟨⟨⟨⟨⟨⟨⟨⟨a, b⟩, c'⟩, d⟩, e⟩, f⟩, g⟩, i⟩, j⟩, k⟩
    exact ⟨by omega, ⟨by omega, by omega⟩, by omega, ⟨e, f, g, i, j⟩, k⟩
theorem mayBe_any {r : Rc} (h : OkRc true r) (lp tp : Option Addr) (lc tc : Nat) (w : World) :
    Calls Try.prog 20 #[.agg (recC r (.slice lp r.cmd.legs.length lc) (.slice tp r.cmd.taxes.length tc)).toArray] w fun e w' => e = .returned (.bool (mayB r)) ∧ Below w.heap.size w w' := by
  have hml := h.msg.1
  have hmv := h.msg.2
  have hc := noCmd_iff h.cmd
  have hl := h.cmd.legs.1
  have ht := h.cmd.taxes.1
  obtain ⟨kind, c, frm, num, msg⟩ := r
  simp only at hml hmv hc hl ht
  match msg, hml with
  | [m0, m1, m2, m3, m4, m5, m6, m7, m8, m9, m10, m11], _ =>
    have z7 := wrap_zero (hmv 7 .i64 m7 rfl rfl)
    have z10 := wrap_zero (hmv 10 .i64 m10 rfl rfl)
    have z11 := wrap_zero (hmv 11 .i64 m11 rfl rfl)
    have hz : decide (Msg0 (m0 : Int) m1 m2 m3 m4 m5 m6 (wrap64 m7) m8 m9 (wrap64 m10) (wrap64 m11)) = decide ([m0, m1, m2, m3, m4, m5, m6, m7, m8, m9, m10, m11] = zMsg) := by
      rw [decide_eq_decide]
      unfold Msg0 zMsg
      simp only [List.cons.injEq, and_true, z7, z10, z11]
      omega
    by_cases e1 : kind = 1
    · subst e1
      refine (mayBe_1 c.kind c.car c.ser c.pos c.name lp tp c.legs.length lc c.taxes.length tc (wrap64 c.fare) (wrap64 c.pen) (wrap64 c.am) frm num m0 m1 m2 m3 m4 m5 m6 (wrap64 m7) m8 m9 (wrap64 m10) (wrap64 m11) w hl ht).mono ?_
      rintro e w' ⟨rfl, hb⟩
      refine ⟨?_, hb⟩
      have : decide ((frm : Int) = 0 ∧ (num : Int) = 0 ∧ Msg0 (m0 : Int) m1 m2 m3 m4 m5 m6 (wrap64 m7) m8 m9 (wrap64 m10) (wrap64 m11)) = (decide (frm = 0) && decide (num = 0) && decide ([m0, m1, m2, m3, m4, m5, m6, m7, m8, m9, m10, m11] = zMsg)) := by
        rw [← hz, Bool.eq_iff_iff]
        simp only [decide_eq_true_eq, Bool.and_eq_true]
        constructor
        · rintro ⟨a, b, d⟩; exact ⟨⟨by omega, by omega⟩, d⟩
        · rintro ⟨⟨a, b⟩, d⟩; exact ⟨by omega, by omega, d⟩
      rw [this]
      unfold mayB
      simp only [if_true]
    · by_cases e2 : kind = 2
      · subst e2
        refine (mayBe_2 c.kind c.car c.ser c.pos c.name lp tp c.legs.length lc c.taxes.length tc (wrap64 c.fare) (wrap64 c.pen) (wrap64 c.am) frm num m0 m1 m2 m3 m4 m5 m6 (wrap64 m7) m8 m9 (wrap64 m10) (wrap64 m11) w hl ht).mono ?_
        rintro e w' ⟨rfl, hb⟩
        refine ⟨?_, hb⟩
        rw [hc]
        rfl
      · by_cases e3 : kind = 3
        · subst e3
          refine (mayBe_3 c.kind c.car c.ser c.pos c.name lp tp c.legs.length lc c.taxes.length tc (wrap64 c.fare) (wrap64 c.pen) (wrap64 c.am) frm num m0 m1 m2 m3 m4 m5 m6 (wrap64 m7) m8 m9 (wrap64 m10) (wrap64 m11) w hl ht).mono ?_
          rintro e w' ⟨rfl, hb⟩
          refine ⟨?_, hb⟩
          rw [Bool.decide_and, hc, hz]
          rfl
        · refine (mayBe_no c.kind c.car c.ser c.pos c.name lp tp c.legs.length lc c.taxes.length tc (wrap64 c.fare) (wrap64 c.pen) (wrap64 c.am) frm num m0 m1 m2 m3 m4 m5 m6 (wrap64 m7) m8 m9 (wrap64 m10) (wrap64 m11) w hl ht kind (by omega) (by omega) (by omega)).mono ?_
          rintro e w' ⟨rfl, hb⟩
          refine ⟨?_, hb⟩
          unfold mayB
          simp only [e1, e2, e3, if_false]
theorem sizeRec {r : Rc} {lv tv : Value} (h : r.msg.length = 12) : (Try.prog.info? 44).map (·.size) = some (recC r lv tv).toArray.size := by
  rw [List.size_toArray, recC_len h]
  kernel_rfl
def PutP (r : Rc) (w : World) (e : Ending) (w' : World) : Prop :=
  ∃ v, e = .returned (.tuple #[v, .int .i64 ((putL r).1 : Int)]) ∧ OwnB w' w.heap.size v (putL r).2 ∧ Below w.heap.size w w'
theorem own_nil (w : World) (B : Nat) : OwnB w B (.slice none 0 0) [] := ⟨rfl, .inl ⟨rfl, rfl⟩⟩
set_option maxRecDepth 100000 in
set_option maxHeartbeats 3200000 in
theorem put_any {r : Rc} (hok : OkRc true r) (lp tp : Option Addr) (lc tc : Nat) (w : World)
    (hl : RowF w (· < w.heap.size) (.slice lp r.cmd.legs.length lc) r.cmd.legs.length (flt lgC r.cmd.legs)) (ht : RowF w (· < w.heap.size) (.slice tp r.cmd.taxes.length tc) r.cmd.taxes.length (flt txC r.cmd.taxes)) :
    Calls Try.prog 12 #[.agg (recC r (.slice lp r.cmd.legs.length lc) (.slice tp r.cmd.taxes.length tc)).toArray] w (PutP r w) := by
  obtain ⟨lv, hlv⟩ : ∃ v, Value.slice lp r.cmd.legs.length lc = v := ⟨_, rfl⟩
  obtain ⟨tv, htv⟩ : ∃ v, Value.slice tp r.cmd.taxes.length tc = v := ⟨_, rfl⟩
  obtain ⟨C, hC⟩ : ∃ C, (recC r lv tv).toArray = C := ⟨_, rfl⟩
  obtain ⟨w1, hw1⟩ : ∃ w1, w.alloc (.cells C 44) = w1 := ⟨_, rfl⟩
  have hc1 : w1.heap[w.heap.size]? = some (.cells C 44 (0, 0)) := by rw [← hw1]; exact heap_last _ _ _ rfl
  have hb1 : Below w.heap.size w w1 := by rw [← hw1]; exact (Below.refl _ _).alloc (Nat.le_refl _) _
  have hs1 : w1.heap.size = w.heap.size + 1 := by rw [← hw1]; simp
  have hsz : (Try.prog.info? 44).map (·.size) = some C.size := by rw [← hC]; exact sizeRec hok.msg.1
  have HM := Lib.hid (fun w => by
    have := mayBe_any hok lp tp lc tc w
    rw [hlv, htv, hC] at this
    exact this)
  have hbox : ∀ w : World, w.alloc (.cells C 44) = w.alloc (.cells C 44) := fun _ => rfl
  rw [hlv, htv, hC]
  clear hbox
  go_enter Try.func12, Try.ntmps12
  go_wp2_with (refine wpList_load_row rfl 44 _ rfl w.heap.size rfl 44 C (0, 0) _ hc1 Try.underlying44 rfl hsz ?_)
  refine (HM.out w1).mono ?_
  rintro e w2 ⟨rfl, hb2⟩
  have hbb : Below w.heap.size w w2 := hb1.trans (hb2.mono (by omega))
  have hc2 := (hb2.block w.heap.size (by omega)).trans hc1
  cases hmb : mayB r
  · have hp : PutP r w (.returned (.tuple #[.slice none 0 0, .int .i64 140])) w2 := by
      refine ⟨.slice none 0 0, ?_, ?_, hbb⟩
      · unfold putL; simp [hmb]
      · have : (putL r).2 = [] := by unfold putL; simp [hmb]
        rw [this]; exact own_nil _ _
    have HP := Lib.hid hp
    clear hp hb2 hbb hc2 hl ht hok hb1 hc1 HM hsz hC hw1
    go_wp2
    go_ret2
    exact HP.out
  · obtain ⟨w3, hw3⟩ : ∃ w3, w2.alloc (.cells #[.slice none 0 0] 62) = w3 := ⟨_, rfl⟩
    have hbl3 : Below w2.heap.size w2 w3 := by rw [← hw3]; exact (Below.refl _ _).alloc (Nat.le_refl _) _
    have hr3 : w3.heap[w2.heap.size]? = some (.cells #[.slice none 0 0] 62 (0, 0)) := by rw [← hw3]; exact heap_last _ _ _ rfl
    have hs2 := hb2.size
    have hc3 := (hbl3.block w.heap.size (by omega)).trans hc2
    have hbb3 : Below w.heap.size w w3 := hbb.trans (hbl3.mono hbb.size)
    have hrow : RowM true w.heap.size w2.heap.size NoX [] w3 := ⟨none, 0, hr3, own_nil _ _, fun _ e => by cases e⟩
    have HW := walkOver_any (m := true) (B := w.heap.size) (rb := w2.heap.size) (qb := w.heap.size) (n := 0) (L := []) (r := r) (lp := lp) (tp := tp) (lc := lc) (tc := tc) (w := w3) hrow (by rw [hlv, htv, hC]; exact hc3)
      (hl.kept (fun b hb => ⟨hb, hbb3.block b hb⟩)) (ht.kept (fun b hb => ⟨hb, hbb3.block b hb⟩)) hok (Nat.le_refl _) (by decide) hbb.size (Nat.le_refl _) hbb3.size
    have HW2 := Lib.hid HW
    have HBB3 := Lib.hid hbb3
    have HMB := Lib.hid hmb
    clear HW hrow hbb3 hc3 hs2 hr3 hbl3 hc2 hbb hb2 hl ht hok hb1 hc1 HM hsz hC hw1 hmb
    go_wp2_with fail

    refine (HW2.out).mono ?_
    rintro e w4 ⟨rfl, hr4, _, hf4, _⟩
    obtain ⟨p4, cap4, hrc, ho4, _⟩ := hr4
    have q0 := cell_of_arr hrc 0
    simp only [List.getElem?_toArray, List.getElem?_cons_zero] at q0
    have hfin : Below w.heap.size w w4 := HBB3.out.trans (hf4.below HBB3.out.size)
    cases hko : (rcM true ⟨true, []⟩ r).1.ok
    · have HP := Lib.hid (show PutP r w (.returned (.tuple #[.slice none 0 0, .int .i64 2])) w4 from by
        have e : putL r = (2, []) := by unfold putL; simp [HMB.out, hko]
        refine ⟨.slice none 0 0, by rw [e]; rfl, by rw [e]; exact own_nil _ _, hfin⟩)
      clear hfin hf4 hrc ho4 HW2 hko
      go_wp2
      go_ret2
      exact HP.out
    · have HP := Lib.hid (show PutP r w (.returned (.tuple #[.slice p4 (rcM true ⟨true, []⟩ r).1.L.length cap4, .int .i64 0])) w4 from by
        have e : putL r = (0, (rcM true ⟨true, []⟩ r).1.L) := by unfold putL; simp [HMB.out, hko]
        refine ⟨_, by rw [e]; rfl, by rw [e]; exact ho4, hfin⟩)
      clear hfin hf4 hrc ho4 HW2 hko
      go_wp2
      go_ret2
      exact HP.out
end Go.Proofs.Ytjdfdihopgceoaa.Cd
