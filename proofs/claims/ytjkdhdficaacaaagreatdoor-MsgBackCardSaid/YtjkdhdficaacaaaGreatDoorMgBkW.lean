/- The walk of MsgBack: just what may be told is, and is read as it was; what is read is told as the text. -/
import Derived.Test.YtjkdhdficaacaaaGreatDoorMgMay3
import Derived.Test.YtjkdhdficaacaaaGreatDoorMgPrP
import Derived.Test.YtjkdhdficaacaaaGreatDoorMgTlW
import Derived.Test.YtjkdhdficaacaaaGreatDoorEdiSm
/- Contract of the statements' may: whether a packet may be told. -/
namespace Go.Proofs.YtjkdhdficaacaaaGreatDoor
open Go.RowKit Go.Edi Go.Wrap Go.Lib

def mayPB (p : Pk) : Bool := decide (p.from_ < 8) && (decide (p.to_ < 8) && (if p.ack then decide (p.m = .zero) else (decide (Number.may p.m.car p.m.ser) && docB p.m)))
theorem told_zero (m : Ms) : (toldMs m).2 = 0 ↔ Number.may m.car m.ser ∧ ∃ fds, fdsL m.kind = some fds ∧ mayL m fds = true := by
  rw [told_shape]
  cases hf : fdsL m.kind with
  | none =>
    constructor
    · intro h; cases h
    · rintro ⟨_, f, h, _⟩; cases h
  | some fds =>
    simp only
    have ht := Number.text_ok m.car m.ser
    by_cases hq : Number.may m.car m.ser
    · rw [if_pos hq] at ht
      rw [if_pos ht]
      cases hm : mayL m fds with
      | true => exact ⟨fun _ => ⟨hq, fds, rfl, hm⟩, fun _ => rfl⟩
      | false =>
        constructor
        · intro h; cases h
        · rintro ⟨_, f, h, h2⟩
          cases h
          rw [hm] at h2; cases h2
    · rw [if_neg hq] at ht
      have hn : ¬ (Number.textL m.car m.ser).2 = 0 := by omega
      rw [if_neg hn]
      exact ⟨fun h => absurd h hn, fun h => absurd h.1 hq⟩
theorem may_told {p : Pk} (hp : p.Ty) : mayPB p = decide ((mwrapL p).2 = 0) := by
  unfold mayPB mwrapL
  by_cases h1 : p.from_ < 8
  · by_cases h2 : p.to_ < 8
    · rw [decide_eq_true h1, decide_eq_true h2, if_neg (show ¬ (8 ≤ p.from_ ∨ 8 ≤ p.to_) by omega)]
      have e : (if (toldL p).2 = 0 then ((⟨p.from_, p.to_, p.num, (toldL p).1⟩ : Wr), 0) else (Wr.nil, (toldL p).2)).2 = (toldL p).2 := by
        split
        · rename_i h; exact h.symm
        · rfl
      rw [e]
      cases hk : p.ack with
      | true =>
        have et : (toldL p).2 = 0 ↔ p.m = .zero := by
          unfold toldL
          rw [hk, if_pos rfl]
          by_cases hz : p.m = .zero
          · rw [if_pos hz]; exact ⟨fun _ => hz, fun _ => rfl⟩
          · rw [if_neg hz]; exact ⟨fun h => (by cases h), fun h => absurd h hz⟩
        rw [if_pos rfl, Bool.true_and, Bool.true_and]
        exact decide_eq_decide.2 et.symm
      | false =>
        have et : toldL p = toldMs p.m := by unfold toldL; rw [hk]; rfl
        rw [et, if_neg (by decide), Bool.true_and, Bool.true_and, Bool.eq_iff_iff, decide_eq_true_iff, told_zero, Bool.and_eq_true, decide_eq_true_iff, doc_may hp.m]
        refine and_congr_right fun _ => ?_
        cases fdsL p.m.kind with
        | none => exact ⟨fun h => (by cases h), fun ⟨_, h, _⟩ => (by cases h)⟩
        | some fds => exact ⟨fun h => ⟨fds, rfl, h⟩, fun ⟨f, h, h2⟩ => (by cases h; exact h2)⟩
    · rw [decide_eq_false h2, if_pos (show 8 ≤ p.from_ ∨ 8 ≤ p.to_ by omega)]; simp
  · rw [decide_eq_false h1, if_pos (show 8 ≤ p.from_ ∨ 8 ≤ p.to_ by omega)]; simp
set_option maxRecDepth 100000 in
set_option maxHeartbeats 6400000 in
theorem mgmay_any (p : Pk) (w : World) : Calls Tryz.prog 24 #[.agg (pkV p)] w fun e w' => e = .returned (.bool (mayPB p)) ∧ Below w.heap.size w w' := by
  show Calls Tryz.prog 24 #[.agg #[.int .u8 (p.from_ : Int), .int .u8 (p.to_ : Int), .bool p.ack, .int .u64 (p.num : Int), .int .u8 (p.m.kind : Int), .int .u8 (p.m.car : Int), .int .u64 (p.m.ser : Int), .int .u8 (p.m.at_ : Int), .int .u8 (p.m.lc : Int), .int .u16 (p.m.lf : Int), .int .u32 (p.m.lw : Int), .int .i64 p.m.val, .int .u8 (p.m.st : Int), .int .u32 (p.m.non : Int), .int .i64 p.m.am, .int .i64 p.m.code]] w fun e w' => e = .returned (.bool (mayPB p)) ∧ Below w.heap.size w w'
  have HB := Lib.hid ((Below.refl w.heap.size w).alloc (Nat.le_refl _) (.cells #[.int .u8 (p.from_ : Int), .int .u8 (p.to_ : Int), .bool p.ack, .int .u64 (p.num : Int), .int .u8 (p.m.kind : Int), .int .u8 (p.m.car : Int), .int .u64 (p.m.ser : Int), .int .u8 (p.m.at_ : Int), .int .u8 (p.m.lc : Int), .int .u16 (p.m.lf : Int), .int .u32 (p.m.lw : Int), .int .i64 p.m.val, .int .u8 (p.m.st : Int), .int .u32 (p.m.non : Int), .int .i64 p.m.am, .int .i64 p.m.code] 38))
  have HBA := Lib.hid (show ∀ o, Below w.heap.size w (w.alloc o) from fun o => (Below.refl _ _).alloc (Nat.le_refl _) _)
  have HBX := Lib.hid (at_last w (.cells #[.int .u8 (p.from_ : Int), .int .u8 (p.to_ : Int), .bool p.ack, .int .u64 (p.num : Int), .int .u8 (p.m.kind : Int), .int .u8 (p.m.car : Int), .int .u64 (p.m.ser : Int), .int .u8 (p.m.at_ : Int), .int .u8 (p.m.lc : Int), .int .u16 (p.m.lf : Int), .int .u32 (p.m.lw : Int), .int .i64 p.m.val, .int .u8 (p.m.st : Int), .int .u32 (p.m.non : Int), .int .i64 p.m.am, .int .i64 p.m.code] 38))
  have HR := Lib.hid (fun W => Nu.rmay_any p.m.car p.m.ser W)
  have HD := Lib.hid (fun W => may10_any p.m W)
  have heq : ∀ W, (binOp .eql 36 (.agg (mC p.m)) (.agg #[.int .u8 0, .int .u8 0, .int .u64 0, .int .u8 0, .int .u8 0, .int .u16 0, .int .u32 0, .int .i64 0, .int .u8 0, .int .u32 0, .int .i64 0, .int .i64 0])).run Tryz.prog W = .ok (.bool (decide (p.m = .zero))) W := fun W => eql_ms p.m .zero W
  unfold mayPB
  generalize docB p.m = db at *
  generalize decide (p.m = .zero) = dz at *
  generalize decide (Number.may p.m.car p.m.ser) = dm at *
  by_cases h1 : p.from_ < 8
  · have g1 : ¬ (8 : Int) ≤ (p.from_ : Int) := by omega
    rw [decide_eq_true h1]
    by_cases h2 : p.to_ < 8
    · have g2 : ¬ (8 : Int) ≤ (p.to_ : Int) := by omega
      rw [decide_eq_true h2]
      clear h1 h2
      cases hk : p.ack with
      | true =>
        rw [hk] at HB HBX
        go_enter Tryz.func24, Tryz.ntmps24
        go_wp2
        go_ret
        exact ⟨ret_bool (by simp), HB.out⟩
      | false =>
        rw [hk] at HB HBX
        cases dm with
        | false =>
          go_enter Tryz.func24, Tryz.ntmps24
          go_wp2_with fail
          refine (HR.out _).mono ?_
          rintro e w1 ⟨rfl, hb1⟩
          have HB1 := Lib.hid (HB.out.trans (hb1.mono HB.out.size))
          clear hb1
          go_wp2
          all_goals go_ret
          all_goals exact ⟨ret_bool (by simp), HB1.out⟩
        | true =>
          go_enter Tryz.func24, Tryz.ntmps24
          go_wp2_with fail
          refine (HR.out _).mono ?_
          · rintro e w1 ⟨rfl, hb1⟩
            have HB1 := Lib.hid (HB.out.trans (hb1.mono HB.out.size))
            have hbx := (hb1.block w.heap.size (lt_of_heap HBX.out)).trans HBX.out
            have c4 : w1.cell? ⟨w.heap.size, 4, none⟩ = some (.int .u8 (p.m.kind : Int)) := cell_of_arr hbx 4
            have c5 : w1.cell? ⟨w.heap.size, 5, none⟩ = some (.int .u8 (p.m.car : Int)) := cell_of_arr hbx 5
            have c6 : w1.cell? ⟨w.heap.size, 6, none⟩ = some (.int .u64 (p.m.ser : Int)) := cell_of_arr hbx 6
            have c7 : w1.cell? ⟨w.heap.size, 7, none⟩ = some (.int .u8 (p.m.at_ : Int)) := cell_of_arr hbx 7
            have c8 : w1.cell? ⟨w.heap.size, 8, none⟩ = some (.int .u8 (p.m.lc : Int)) := cell_of_arr hbx 8
            have c9 : w1.cell? ⟨w.heap.size, 9, none⟩ = some (.int .u16 (p.m.lf : Int)) := cell_of_arr hbx 9
            have c10 : w1.cell? ⟨w.heap.size, 10, none⟩ = some (.int .u32 (p.m.lw : Int)) := cell_of_arr hbx 10
            have c11 : w1.cell? ⟨w.heap.size, 11, none⟩ = some (.int .i64 p.m.val) := cell_of_arr hbx 11
            have c12 : w1.cell? ⟨w.heap.size, 12, none⟩ = some (.int .u8 (p.m.st : Int)) := cell_of_arr hbx 12
            have c13 : w1.cell? ⟨w.heap.size, 13, none⟩ = some (.int .u32 (p.m.non : Int)) := cell_of_arr hbx 13
            have c14 : w1.cell? ⟨w.heap.size, 14, none⟩ = some (.int .i64 p.m.am) := cell_of_arr hbx 14
            have c15 : w1.cell? ⟨w.heap.size, 15, none⟩ = some (.int .i64 p.m.code) := cell_of_arr hbx 15
            clear hb1 hbx
            go_wp2_with (go_at_call 46; refine (HD.out _).mono ?_; rintro e w2 ⟨rfl, hb2⟩)
            go_ret
            exact ⟨ret_bool (by simp), HB1.out.trans (hb2.mono HB1.out.size)⟩
    · have g2 : (8 : Int) ≤ (p.to_ : Int) := by omega
      rw [decide_eq_false h2]
      clear h1 h2
      go_enter Tryz.func24, Tryz.ntmps24
      go_wp2
      all_goals go_ret
      all_goals exact ⟨ret_bool (by simp), HBA.out _⟩
  · have g1 : (8 : Int) ≤ (p.from_ : Int) := by omega
    rw [decide_eq_false h1]
    clear h1
    go_enter Tryz.func24, Tryz.ntmps24
    go_wp2
    all_goals go_ret
    all_goals exact ⟨ret_bool (by simp), HBA.out _⟩
end Go.Proofs.YtjkdhdficaacaaaGreatDoor
namespace Go.Proofs.YtjkdhdficaacaaaGreatDoor
open Go.RowKit Go.Edi Go.Wrap Go.Lib

set_option maxRecDepth 100000 in
set_option maxHeartbeats 12800000 in
theorem mback_walk (p : Pk) (t : Tx) (B : Nat) (w : World) (hp : p.Ty) (he : Env B w) (hB : B ≤ w.heap.size) :
    Calls Tryz.prog 5 #[.agg (pkV p), str t] w fun e w' => e = .returned (.bool true) ∧ Below w.heap.size w w' := by
  have hsz : (tx t).size = t.length := by simp [tx, ByteArray.size]
  obtain ⟨wb, hwb⟩ : ∃ wb, wb = w.alloc (.cells (pkV p) 38) := ⟨_, rfl⟩
  have hbw : Below w.heap.size w wb := by rw [hwb]; exact (Below.refl _ _).alloc (Nat.le_refl _) _
  have hws : wb.heap.size = w.heap.size + 1 := by rw [hwb]; simp only [size_a]
  have hp0 : wb.heap[w.heap.size]? = some (.cells (pkV p) 38 (0, 0)) := by rw [hwb]; exact heap_new _ _ _ rfl
  have HCP := Lib.hid (show ∀ wz : World, Below wb.heap.size wb wz → wz.heap[w.heap.size]? = some (.cells (pkV p) 38 (0, 0)) from fun wz hz => (hz.block _ (by omega)).trans hp0)
  have HEN := Lib.hid (show ∀ wz : World, Below wb.heap.size wb wz → Env B wz ∧ B ≤ wz.heap.size from fun wz hz => ⟨he.on ((hbw.mono hB).trans (hz.mono (Nat.le_trans hB hbw.size))), Nat.le_trans hB (Nat.le_trans hbw.size hz.size)⟩)
  have HFIN := Lib.hid (show ∀ wz : World, Below wb.heap.size wb wz → Below w.heap.size w wz from fun wz hz => hbw.trans (hz.mono hbw.size))
  have HTP := Lib.hid (show ∀ W, Below wb.heap.size wb W → Calls Tryz.prog 23 #[.agg (pkV p)] W (fun e w' => e = .returned (.tuple #[str (mtextL p).1, .int .i64 (((mtextL p).2 : Nat) : Int)]) ∧ Below W.heap.size W w') from fun W hW => mtext_any p B W hp (HEN.out W hW).1 (HEN.out W hW).2)
  have hpa : ∀ (s : Tx) (W : World), Below wb.heap.size wb W → Calls Tryz.prog 25 #[str s] W (fun e w' => e = .returned (.tuple #[.agg (pkV (mparseL s).1), .int .i64 (((mparseL s).2 : Nat) : Int)]) ∧ Below W.heap.size W w') := fun s W hW => mparse_any s B W (HEN.out W hW).1 (HEN.out W hW).2
  have HPA := Lib.hid (show (mtextL p).2 = 0 → ∀ (W : World), Below wb.heap.size wb W → Calls Tryz.prog 25 #[str (mtextL p).1] W (fun e w' => e = .returned (.tuple #[.agg (pkV p), .int .i64 0]) ∧ Below W.heap.size W w') from fun h0 W hW => by
    have h := hpa (mtextL p).1 W hW
    rw [mtext_parse hp h0] at h
    exact h)
  have HPT := Lib.hid (hpa t)
  have HTE := Lib.hid (show ∀ W, Below wb.heap.size wb W → _ from fun W hW => tells_any B W (HEN.out W hW).1 (HEN.out W hW).2)
  have HMP := Lib.hid (show ∀ W, Calls Tryz.prog 24 #[.agg (pkV p)] W (fun e w' => e = .returned (.bool (decide ((mtextL p).2 = 0))) ∧ Below W.heap.size W w') from fun W => (mgmay_any p W).mono (fun e w' h => ⟨by rw [h.1, may_told hp, mtext_mwrap hp], h.2⟩))
  have heqzz : ∀ W, (binOp .eql 38 (.agg (pkV Pk.zero)) (.agg pk0)).run Tryz.prog W = .ok (.bool true) W := fun W => by
    have h := eql_pk Pk.zero Pk.zero W
    rw [decide_eq_true rfl] at h
    exact h
  have hnepp : ∀ W, (binOp .neq 38 (.agg (pkV p)) (.agg (pkV p))).run Tryz.prog W = .ok (.bool false) W := fun W => by
    have h := neq_pk p p W
    rw [decide_eq_true rfl] at h
    exact h
  have HB0 := Lib.hid (Below.refl wb.heap.size wb)
  clear he hB hp hp0 hws hbw hpa
  suffices hmain : Calls Tryz.prog 5 #[.agg (pkV p), str t] w fun e w' => e = .returned (.bool true) ∧ Below wb.heap.size wb w' from
    hmain.mono fun e w' h => ⟨h.1, HFIN.out _ h.2⟩
  by_cases hl : (3000 : Int) < (t.length : Int)
  · go_enter Tryz.func5, Tryz.ntmps5
    go_wp2
    go_ret
    rw [← hwb]
    exact ⟨rfl, HB0.out⟩
  go_enter Tryz.func5, Tryz.ntmps5
  go_wp2_with (refine wpList_load_row rfl 38 _ rfl w.heap.size rfl 38 (pkV p) (0, 0) _ (by rw [← hwb]; exact HCP.out _ (Below.refl _ _)) Tryz.underlying38 rfl sizePk ?_)
  rw [← hwb]
  refine (HTP.out _ HB0.out).mono ?_
  rintro e w1 ⟨rfl, hb1⟩
  have HB1 := Lib.hid hb1
  clear hb1 hwb
  by_cases h0 : (mtextL p).2 = 0
  · have HPP := Lib.hid (HPA.out h0)
    have HMT := Lib.hid (show ∀ W, Calls Tryz.prog 24 #[.agg (pkV p)] W (fun e w' => e = .returned (.bool true) ∧ Below W.heap.size W w') from fun W => (HMP.out W).mono (fun e w' h => ⟨by rw [h.1, decide_eq_true h0], h.2⟩))
    rw [h0]
    clear h0 HMP HPA HTP
    as_aux_lemma =>
      go_wp2_with (refine wpList_load_row rfl 38 _ rfl w.heap.size rfl 38 (pkV p) (0, 0) _ (HCP.out _ HB1.out) Tryz.underlying38 rfl sizePk ?_)
      refine (HMT.out _).mono ?_
      rintro e w2 ⟨rfl, hb2⟩
      have HB2 := Lib.hid (HB1.out.trans (hb2.mono HB1.out.size))
      clear hb2
      go_wp2_with fail
      refine (HPP.out _ HB2.out).mono ?_
      rintro e w3 ⟨rfl, hb5⟩
      have hb5' := HB2.out.trans (hb5.mono HB2.out.size)
      have hb6 := hb5'.alloc hb5'.size (.cells pk0 38)
      have HBX := Lib.hid (show Below wb.heap.size wb ((w3.alloc (.cells pk0 38)).setRow w3.heap.size (pkV p)) from below_setR hb6 hb5'.size _)
      have HD := Lib.hid (show (w3.alloc (.cells pk0 38)).heap[w3.heap.size]? = some (.cells pk0 38 (0, 0)) from at_last _ _)
      have HQ := Lib.hid (setRow_heap _ _ pk0 (pkV p) _ _ HD.out)
      clear hb5 hb5' hb6
      go_wp2_with (first | (refine wpList_store_row rfl 38 _ _ rfl w3.heap.size (pkV p) rfl rfl 38 pk0 HD.out sizePk rfl (pkv_one _) ?_) | (refine wpList_load_row rfl 38 _ rfl w3.heap.size rfl 38 (pkV p) (0, 0) _ HQ.out Tryz.underlying38 rfl sizePk ?_) | (refine wpList_load_row rfl 38 _ rfl w.heap.size rfl 38 (pkV p) (0, 0) _ (HCP.out _ HBX.out) Tryz.underlying38 rfl sizePk ?_) | (refine wpList_load_rowG (by rfl) 38 _ rfl w3.heap.size rfl 38 (pkV p) (0, 0) _ HQ.out Tryz.underlying38 rfl sizePk ?_) | (refine wpList_load_rowG (by rfl) 38 _ rfl w.heap.size rfl 38 (pkV p) (0, 0) _ (HCP.out _ HBX.out) Tryz.underlying38 rfl sizePk ?_))
      have HBT := HBX
      clear HBX HQ HD HB1 HB2
      refine (HPT.out _ HBT.out).mono ?_
      rintro e w5 ⟨rfl, hb5⟩
      by_cases hq : (mparseL t).2 = 0
      · obtain ⟨hqT, hq2, hq3⟩ := mparse_told hq
        rw [hq]
        clear hq
        generalize (mparseL t).1 = q at *
        have hb5' := HBT.out.trans (hb5.mono HBT.out.size)
        have hb6 := hb5'.alloc hb5'.size (.cells pk0 38)
        have HBX := Lib.hid (show Below wb.heap.size wb ((w5.alloc (.cells pk0 38)).setRow w5.heap.size (pkV q)) from below_setR hb6 hb5'.size _)
        have HD := Lib.hid (show (w5.alloc (.cells pk0 38)).heap[w5.heap.size]? = some (.cells pk0 38 (0, 0)) from at_last _ _)
        have HQ := Lib.hid (setRow_heap _ _ pk0 (pkV q) _ _ HD.out)
        clear hb5 hb5' hb6
        obtain ⟨w6, hw6⟩ : ∃ w6, w6 = (w5.alloc (.cells pk0 38)).setRow w5.heap.size (pkV q) := ⟨_, rfl⟩
        have HQ6 := Lib.hid (show w6.heap[w5.heap.size]? = some (.cells (pkV q) 38 (0, 0)) by rw [hw6]; exact HQ.out)
        have HB6 := Lib.hid (show Below wb.heap.size wb w6 by rw [hw6]; exact HBX.out)
        have hte := (mtext_any q B w6 hqT (HEN.out _ HB6.out).1 (HEN.out _ HB6.out).2)
        rw [hq3] at hte
        have HTQ := Lib.hid hte
        have HMQ := Lib.hid (show ∀ W, Calls Tryz.prog 24 #[.agg (pkV q)] W (fun e w' => e = .returned (.bool true) ∧ Below W.heap.size W w') from fun W => (mgmay_any q W).mono (fun e w' h => ⟨by rw [h.1, may_told hqT, hq2]; rfl, h.2⟩))
        clear hqT hq2 hq3 hte HBX HQ
        go_wp2_with (first | (refine wpList_store_row rfl 38 _ _ rfl w5.heap.size (pkV q) rfl rfl 38 pk0 HD.out sizePk rfl (pkv_one _) ?_) | (refine wpList_load_row rfl 38 _ rfl w5.heap.size rfl 38 (pkV q) (0, 0) _ (by rw [← hw6]; exact HQ6.out) Tryz.underlying38 rfl sizePk ?_))
        rw [← hw6]
        clear hw6
        refine (HTQ.out).mono ?_
        rintro e w7 ⟨rfl, hb7⟩
        have HB7 := Lib.hid (HB6.out.trans (hb7.mono HB6.out.size))
        have HQ7 := Lib.hid (show w7.heap[w5.heap.size]? = some (.cells (pkV q) 38 (0, 0)) from (hb7.block _ (lt_of_heap HQ6.out)).trans HQ6.out)
        clear hb7
        go_wp2
        go_loopw [13, 14] (fun u i wr => ∃ (k : Nat) (p : Option Addr) (n cap : Nat), i = .int .i64 k ∧ u = .slice p n cap ∧ k ≤ t.length ∧ n ≤ k ∧ wr.ownsRow w7.heap.size 5 1 (.slice p n cap) n (Lib.byteCells (flt (t.take k))) ∧ Below w7.heap.size w7 wr) (fun _ i _ => t.length - (intOf i).toNat)
        case atStart => exact ⟨0, none, 0, 0, rfl, rfl, Nat.zero_le _, Nat.le_refl _, World.ownsRow_nil _ _ _ _, Below.refl _ _⟩
        case round =>
          obtain ⟨k, pp, n, cap, rfl, rfl, hk, hnk, hown, hbl⟩ := hrel
          have HBR := Lib.hid hbl
          have HO := Lib.hid hown
          by_cases hlt : (k : Int) < (t.length : Int)
          · have hkl : k < t.length := by omega
            have hk0 : (0 : Int) ≤ (k : Int) := Int.natCast_nonneg _
            have hkz : k < (tx t).size := by omega
            clear hbl hown
            by_cases h10 : (((tx t)[k]'hkz).toNat : Int) = 10
            · have HN := Lib.hid (show flt (t.take (k + 1)) = flt (t.take k) from flt_10 t k hkl ((eq8' 10 _).2 h10))
              go_wp2
              go_roundw
              case rel => exact ⟨k + 1, pp, n, cap, by go_num, rfl, by omega, by omega, by rw [HN.out]; exact HO.out, HBR.out⟩
              case measure => simp [intOf]; omega
            · have HN := Lib.hid (show flt (t.take (k + 1)) = flt (t.take k) ++ [(tx t)[k]'hkz] from flt_no t k hkl (fun e => h10 ((eq8' 10 _).1 e)))
              generalize hck : (tx t)[k]'hkz = c at *
              go_wp2_with (at_builtin; refine wl_app1 54 5 (.int .u8 0) 1 1 par_u8 Tryz.underlying54 rfl (by decide) (by decide) w7.heap.size (.slice pp n cap) n (Lib.byteCells (flt (t.take k))) rfl (HO.out.alloc _) wr.heap.size 1 [by8 c] 5 (0, 0) rfl rfl (at_last _ _) (by intro u hu; simp at hu; subst hu; rfl) (by omega) (by have := HBR.out.size; simp; omega) ?_)
              intro v' w2 ho hgr _
              obtain ⟨p', cap', rfl⟩ := own_slice ho
              have HBA := Lib.hid (below_app HBR.out (Nat.le_refl _) hgr (fun k hk => (HO.out.lt k hk).1))
              have HOO := Lib.hid ho
              clear ho hgr hck
              go_wp2
              go_roundw
              case rel => exact ⟨k + 1, p', n + 1, cap', by go_num, rfl, by omega, by omega, by rw [HN.out, ← cellsByte]; exact HOO.out, HBA.out⟩
              case measure => simp [intOf]; omega
          · obtain rfl : k = t.length := by omega
            rw [List.take_length] at hown
            have hnl : (flt t).length = n := by have := hown.1; simpa [Lib.byteCells_length] using this
            subst hnl
            have hcv := run_convW wr w7.heap.size _ (flt t) hown
            have HBW := Lib.hid (HB7.out.trans (hbl.mono HB7.out.size))
            have HQR := Lib.hid (show wr.heap[w5.heap.size]? = some (.cells (pkV q) 38 (0, 0)) from (hbl.block _ (lt_of_heap HQ7.out)).trans HQ7.out)
            clear hbl hown
            go_wp2_with (first | (refine wpList_load_row rfl 38 _ rfl w5.heap.size rfl 38 (pkV q) (0, 0) _ HQR.out Tryz.underlying38 rfl sizePk ?_) | (refine wpList_load_rowG (by rfl) 38 _ rfl w5.heap.size rfl 38 (pkV q) (0, 0) _ HQR.out Tryz.underlying38 rfl sizePk ?_))
            refine (HMQ.out _).mono ?_
            rintro e w8 ⟨rfl, hb8⟩
            have HB8 := Lib.hid (HBW.out.trans (hb8.mono HBW.out.size))
            clear hb8
            go_wp2_with fail
            refine (HTE.out _ HB8.out).mono ?_
            rintro e w9 ⟨rfl, hb9⟩
            have HB9 := Lib.hid (HB8.out.trans (hb9.mono HB8.out.size))
            clear hb9
            go_wp2
            go_ret
            exact ⟨rfl, HB9.out⟩
      · have hz := mparse_bad hq
        rw [hz]
        have hqi : ¬ (((mparseL t).2 : Nat) : Int) = 0 := by omega
        clear hz hq
        generalize (((mparseL t).2 : Nat) : Int) = E at *
        have hb5' := HBT.out.trans (hb5.mono HBT.out.size)
        have hb6 := hb5'.alloc hb5'.size (.cells pk0 38)
        have HBX := Lib.hid (show Below wb.heap.size wb ((w5.alloc (.cells pk0 38)).setRow w5.heap.size (pkV Pk.zero)) from below_setR hb6 hb5'.size _)
        have HD := Lib.hid (show (w5.alloc (.cells pk0 38)).heap[w5.heap.size]? = some (.cells pk0 38 (0, 0)) from at_last _ _)
        have HQ := Lib.hid (setRow_heap _ _ pk0 (pkV Pk.zero) _ _ HD.out)
        clear hb5 hb5' hb6
        go_wp2_with (first | (refine wpList_store_row rfl 38 _ _ rfl w5.heap.size (pkV Pk.zero) rfl rfl 38 pk0 HD.out sizePk rfl (pkv_one _) ?_) | (refine wpList_load_row rfl 38 _ rfl w5.heap.size rfl 38 (pkV Pk.zero) (0, 0) _ HQ.out Tryz.underlying38 rfl sizePk ?_))
        refine (HTE.out _ HBX.out).mono ?_
        rintro e w9 ⟨rfl, hb9⟩
        have HB9 := Lib.hid (HBX.out.trans (hb9.mono HBX.out.size))
        clear hb9
        go_wp2
        go_ret
        exact ⟨rfl, HB9.out⟩
  · have h1 : ¬ (((mtextL p).2 : Nat) : Int) = 0 := by omega
    have HMF := Lib.hid (show ∀ W, Calls Tryz.prog 24 #[.agg (pkV p)] W (fun e w' => e = .returned (.bool false) ∧ Below W.heap.size W w') from fun W => (HMP.out W).mono (fun e w' h => ⟨by rw [h.1, decide_eq_false h0], h.2⟩))
    clear h0 HMP HPA HTP
    generalize (((mtextL p).2 : Nat) : Int) = EE at *
    as_aux_lemma =>
      go_wp2_with (refine wpList_load_row rfl 38 _ rfl w.heap.size rfl 38 (pkV p) (0, 0) _ (HCP.out _ HB1.out) Tryz.underlying38 rfl sizePk ?_)
      refine (HMF.out _).mono ?_
      rintro e w2 ⟨rfl, hb2⟩
      have HBT := Lib.hid (HB1.out.trans (hb2.mono HB1.out.size))
      clear hb2 HB1
      go_wp2_with fail
      refine (HPT.out _ HBT.out).mono ?_
      rintro e w5 ⟨rfl, hb5⟩
      by_cases hq : (mparseL t).2 = 0
      · obtain ⟨hqT, hq2, hq3⟩ := mparse_told hq
        rw [hq]
        clear hq
        generalize (mparseL t).1 = q at *
        have hb5' := HBT.out.trans (hb5.mono HBT.out.size)
        have hb6 := hb5'.alloc hb5'.size (.cells pk0 38)
        have HBX := Lib.hid (show Below wb.heap.size wb ((w5.alloc (.cells pk0 38)).setRow w5.heap.size (pkV q)) from below_setR hb6 hb5'.size _)
        have HD := Lib.hid (show (w5.alloc (.cells pk0 38)).heap[w5.heap.size]? = some (.cells pk0 38 (0, 0)) from at_last _ _)
        have HQ := Lib.hid (setRow_heap _ _ pk0 (pkV q) _ _ HD.out)
        clear hb5 hb5' hb6
        obtain ⟨w6, hw6⟩ : ∃ w6, w6 = (w5.alloc (.cells pk0 38)).setRow w5.heap.size (pkV q) := ⟨_, rfl⟩
        have HQ6 := Lib.hid (show w6.heap[w5.heap.size]? = some (.cells (pkV q) 38 (0, 0)) by rw [hw6]; exact HQ.out)
        have HB6 := Lib.hid (show Below wb.heap.size wb w6 by rw [hw6]; exact HBX.out)
        have hte := (mtext_any q B w6 hqT (HEN.out _ HB6.out).1 (HEN.out _ HB6.out).2)
        rw [hq3] at hte
        have HTQ := Lib.hid hte
        have HMQ := Lib.hid (show ∀ W, Calls Tryz.prog 24 #[.agg (pkV q)] W (fun e w' => e = .returned (.bool true) ∧ Below W.heap.size W w') from fun W => (mgmay_any q W).mono (fun e w' h => ⟨by rw [h.1, may_told hqT, hq2]; rfl, h.2⟩))
        clear hqT hq2 hq3 hte HBX HQ
        go_wp2_with (first | (refine wpList_store_row rfl 38 _ _ rfl w5.heap.size (pkV q) rfl rfl 38 pk0 HD.out sizePk rfl (pkv_one _) ?_) | (refine wpList_load_row rfl 38 _ rfl w5.heap.size rfl 38 (pkV q) (0, 0) _ (by rw [← hw6]; exact HQ6.out) Tryz.underlying38 rfl sizePk ?_))
        rw [← hw6]
        clear hw6
        refine (HTQ.out).mono ?_
        rintro e w7 ⟨rfl, hb7⟩
        have HB7 := Lib.hid (HB6.out.trans (hb7.mono HB6.out.size))
        have HQ7 := Lib.hid (show w7.heap[w5.heap.size]? = some (.cells (pkV q) 38 (0, 0)) from (hb7.block _ (lt_of_heap HQ6.out)).trans HQ6.out)
        clear hb7
        go_wp2
        go_loopw [13, 14] (fun u i wr => ∃ (k : Nat) (p : Option Addr) (n cap : Nat), i = .int .i64 k ∧ u = .slice p n cap ∧ k ≤ t.length ∧ n ≤ k ∧ wr.ownsRow w7.heap.size 5 1 (.slice p n cap) n (Lib.byteCells (flt (t.take k))) ∧ Below w7.heap.size w7 wr) (fun _ i _ => t.length - (intOf i).toNat)
        case atStart => exact ⟨0, none, 0, 0, rfl, rfl, Nat.zero_le _, Nat.le_refl _, World.ownsRow_nil _ _ _ _, Below.refl _ _⟩
        case round =>
          obtain ⟨k, pp, n, cap, rfl, rfl, hk, hnk, hown, hbl⟩ := hrel
          have HBR := Lib.hid hbl
          have HO := Lib.hid hown
          by_cases hlt : (k : Int) < (t.length : Int)
          · have hkl : k < t.length := by omega
            have hk0 : (0 : Int) ≤ (k : Int) := Int.natCast_nonneg _
            have hkz : k < (tx t).size := by omega
            clear hbl hown
            by_cases h10 : (((tx t)[k]'hkz).toNat : Int) = 10
            · have HN := Lib.hid (show flt (t.take (k + 1)) = flt (t.take k) from flt_10 t k hkl ((eq8' 10 _).2 h10))
              go_wp2
              go_roundw
              case rel => exact ⟨k + 1, pp, n, cap, by go_num, rfl, by omega, by omega, by rw [HN.out]; exact HO.out, HBR.out⟩
              case measure => simp [intOf]; omega
            · have HN := Lib.hid (show flt (t.take (k + 1)) = flt (t.take k) ++ [(tx t)[k]'hkz] from flt_no t k hkl (fun e => h10 ((eq8' 10 _).1 e)))
              generalize hck : (tx t)[k]'hkz = c at *
              go_wp2_with (at_builtin; refine wl_app1 54 5 (.int .u8 0) 1 1 par_u8 Tryz.underlying54 rfl (by decide) (by decide) w7.heap.size (.slice pp n cap) n (Lib.byteCells (flt (t.take k))) rfl (HO.out.alloc _) wr.heap.size 1 [by8 c] 5 (0, 0) rfl rfl (at_last _ _) (by intro u hu; simp at hu; subst hu; rfl) (by omega) (by have := HBR.out.size; simp; omega) ?_)
              intro v' w2 ho hgr _
              obtain ⟨p', cap', rfl⟩ := own_slice ho
              have HBA := Lib.hid (below_app HBR.out (Nat.le_refl _) hgr (fun k hk => (HO.out.lt k hk).1))
              have HOO := Lib.hid ho
              clear ho hgr hck
              go_wp2
              go_roundw
              case rel => exact ⟨k + 1, p', n + 1, cap', by go_num, rfl, by omega, by omega, by rw [HN.out, ← cellsByte]; exact HOO.out, HBA.out⟩
              case measure => simp [intOf]; omega
          · obtain rfl : k = t.length := by omega
            rw [List.take_length] at hown
            have hnl : (flt t).length = n := by have := hown.1; simpa [Lib.byteCells_length] using this
            subst hnl
            have hcv := run_convW wr w7.heap.size _ (flt t) hown
            have HBW := Lib.hid (HB7.out.trans (hbl.mono HB7.out.size))
            have HQR := Lib.hid (show wr.heap[w5.heap.size]? = some (.cells (pkV q) 38 (0, 0)) from (hbl.block _ (lt_of_heap HQ7.out)).trans HQ7.out)
            clear hbl hown
            go_wp2_with (first | (refine wpList_load_row rfl 38 _ rfl w5.heap.size rfl 38 (pkV q) (0, 0) _ HQR.out Tryz.underlying38 rfl sizePk ?_) | (refine wpList_load_rowG (by rfl) 38 _ rfl w5.heap.size rfl 38 (pkV q) (0, 0) _ HQR.out Tryz.underlying38 rfl sizePk ?_))
            refine (HMQ.out _).mono ?_
            rintro e w8 ⟨rfl, hb8⟩
            have HB8 := Lib.hid (HBW.out.trans (hb8.mono HBW.out.size))
            clear hb8
            go_wp2_with fail
            refine (HTE.out _ HB8.out).mono ?_
            rintro e w9 ⟨rfl, hb9⟩
            have HB9 := Lib.hid (HB8.out.trans (hb9.mono HB8.out.size))
            clear hb9
            go_wp2
            go_ret
            exact ⟨rfl, HB9.out⟩
      · have hz := mparse_bad hq
        rw [hz]
        have hqi : ¬ (((mparseL t).2 : Nat) : Int) = 0 := by omega
        clear hz hq
        generalize (((mparseL t).2 : Nat) : Int) = E at *
        have hb5' := HBT.out.trans (hb5.mono HBT.out.size)
        have hb6 := hb5'.alloc hb5'.size (.cells pk0 38)
        have HBX := Lib.hid (show Below wb.heap.size wb ((w5.alloc (.cells pk0 38)).setRow w5.heap.size (pkV Pk.zero)) from below_setR hb6 hb5'.size _)
        have HD := Lib.hid (show (w5.alloc (.cells pk0 38)).heap[w5.heap.size]? = some (.cells pk0 38 (0, 0)) from at_last _ _)
        have HQ := Lib.hid (setRow_heap _ _ pk0 (pkV Pk.zero) _ _ HD.out)
        clear hb5 hb5' hb6
        go_wp2_with (first | (refine wpList_store_row rfl 38 _ _ rfl w5.heap.size (pkV Pk.zero) rfl rfl 38 pk0 HD.out sizePk rfl (pkv_one _) ?_) | (refine wpList_load_row rfl 38 _ rfl w5.heap.size rfl 38 (pkV Pk.zero) (0, 0) _ HQ.out Tryz.underlying38 rfl sizePk ?_))
        refine (HTE.out _ HBX.out).mono ?_
        rintro e w9 ⟨rfl, hb9⟩
        have HB9 := Lib.hid (HBX.out.trans (hb9.mono HBX.out.size))
        clear hb9
        go_wp2
        go_ret
        exact ⟨rfl, HB9.out⟩
end Go.Proofs.YtjkdhdficaacaaaGreatDoor
