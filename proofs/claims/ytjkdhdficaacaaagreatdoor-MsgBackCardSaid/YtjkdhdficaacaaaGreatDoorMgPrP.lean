/- What a packet tells is always printed (no walk). -/
import Derived.Test.YtjkdhdficaacaaaGreatDoorWrapP
import Derived.Test.YtjkdhdficaacaaaGreatDoorNuPure
import Derived.Test.YtjkdhdficaacaaaGreatDoorEdiSm
import Derived.Test.YtjkdhdficaacaaaGreatDoorEdiW9
import Derived.Laws.Concat
import Derived.Laws.IdiomStrings
import Derived.Laws.DeepStrings4
import Derived.Deep.QuietTactic
import Derived.BigQuiet
import Derived.Deep.RegionLaw
import Derived.Test.YtjkdhdficaacaaaGreatDoorMgTlW
import Derived.Test.YtjkdhdficaacaaaGreatDoorWrapBkQ
/- Two like interchanges are the same. -/
namespace Go.Proofs.YtjkdhdficaacaaaGreatDoor
open Go.RowKit Go.Edi Go.Wrap

set_option maxRecDepth 100000 in
set_option maxHeartbeats 1600000 in
theorem wsame_any (f t r : Int) (l : List Sg) (va vb : Value) (w : World) (ha : SegsF w (· < w.heap.size) va l) (hb : SegsF w (· < w.heap.size) vb l) (hfit : sane l) :
    Calls Tryz.prog 17 #[.agg #[.int .u8 f, .int .u8 t, .int .u64 r, va], .agg #[.int .u8 f, .int .u8 t, .int .u64 r, vb]] w fun e w' => e = .returned (.bool true) ∧ Below w.heap.size w w' := by
  obtain ⟨pa, ca, rfl⟩ := segs_slice ha
  obtain ⟨pb, cb, rfl⟩ := segs_slice hb
  have hw : Below w.heap.size w ((w.alloc (.cells #[.int .u8 f, .int .u8 t, .int .u64 r, .slice pa l.length ca] 41)).alloc (.cells #[.int .u8 f, .int .u8 t, .int .u64 r, .slice pb l.length cb] 41)) := ((Below.refl _ _).alloc (Nat.le_refl _) _).alloc (by rw [size_a]; omega) _
  have HQ := Lib.hid (same_any l (.slice pa l.length ca) (.slice pb l.length cb) _ (ha.kept (F' := (· < _)) (fun b hb => ⟨Nat.lt_of_lt_of_le hb hw.size, hw.block b hb⟩)) (hb.kept (F' := (· < _)) (fun b hb => ⟨Nat.lt_of_lt_of_le hb hw.size, hw.block b hb⟩)) hfit)
  have HW := Lib.hid hw
  clear hw ha hb hfit
  go_enter Tryz.func17, Tryz.ntmps17
  go_wp2_with (go_at_call 49; refine (HQ.out).mono ?_)
  first | rintro e w2 rfl hb | rintro e w2 ⟨rfl, hb⟩
  have HB := Lib.hid (HW.out.trans (hb.mono HW.out.size))
  clear hb
  go_wp2
  go_ret
  exact ⟨rfl, HB.out⟩
end Go.Proofs.YtjkdhdficaacaaaGreatDoor
/- The interchange's text by any numbers in head and tail (nothing of the statements' own functions). -/
namespace Go.Proofs.YtjkdhdficaacaaaGreatDoor
open Go.RowKit Go.Edi Go.Wrap

theorem tx_app2 (a b : Tx) : tx a ++ tx b = tx (a ++ b) := by simp [tx, ByteArray.ext_iff]
/-- the interchange's text by any numbers -/
def hdS (f t r : Nat) (l : List Sg) (c a : Nat) : List Sg := headS f t r :: (l ++ [tailS c a])
theorem mkd_digs (u : Nat) : mkd (digs u) = digs u := by
  have h : ∀ t : Tx, t.all dgt = true → mkd t = t := by
    intro t
    induction t with
    | nil => intro _; rfl
    | cons c t ih =>
      intro ht
      simp only [List.all_cons, Bool.and_eq_true] at ht
      have hs : sgn c = false := by
        have hd := ht.1
        simp only [dgt, Bool.and_eq_true, decide_eq_true_eq, UInt8.le_iff_toNat_le] at hd
        have g1 : 48 ≤ c.toNat := hd.1
        have g2 : c.toNat ≤ 57 := hd.2
        rw [sgn_int]
        simp
        omega
      simp only [mkd, hs, ih ht.2]
      simp
  apply h
  induction u using Nat.strongRecOn with
  | _ u ih =>
    by_cases hu : u < 10
    · rw [digs_small hu, List.all_cons, List.all_nil, dgt_d u hu]; rfl
    · rw [digs_big hu, List.all_append, ih (u / 10) (by omega), List.all_cons, List.all_nil, dgt_d (u % 10) (by omega)]; rfl
theorem digs_pln (u : Nat) : (digs u).all pln = true := by
  induction u using Nat.strongRecOn with
  | _ u ih =>
    have hp : ∀ d, d < 10 → pln (UInt8.ofNat (48 + d)) = true := fun d hd => by
      rw [pln_int, nat_d d hd]; simp; omega
    by_cases hu : u < 10
    · rw [digs_small hu, List.all_cons, List.all_nil, hp u hu]; rfl
    · rw [digs_big hu, List.all_append, ih (u / 10) (by omega), List.all_cons, List.all_nil, hp (u % 10) (by omega)]; rfl
theorem sgT_head (f t r : Nat) : sgT (headS f t r) = [85, 78, 66] ++ (43 :: (digs f ++ (43 :: (digs t ++ (43 :: digs r))))) := by
  show jn [43] ([85, 78, 66] :: [elT [digs f], elT [digs t], elT [digs r]]) = _
  simp [jn, jnT, elT, mkd_digs]
theorem sgT_tail (c a : Nat) : sgT (tailS c a) = [85, 78, 90] ++ (43 :: (digs c ++ (43 :: digs a))) := by
  show jn [43] ([85, 78, 90] :: [elT [digs c], elT [digs a]]) = _
  simp [jn, jnT, elT, mkd_digs]
theorem txT_hd (f t r : Nat) (l : List Sg) (c a : Nat) : txT (hdS f t r l c a) = [85, 78, 66, 43] ++ digs f ++ [43] ++ digs t ++ [43] ++ digs r ++ [39] ++ txT l ++ [85, 78, 90, 43] ++ digs c ++ [43] ++ digs a ++ [39] := by
  show sgT (headS f t r) ++ (39 :: txT (l ++ [tailS c a])) = _
  rw [txT_app, sgT_head]
  show _ ++ (39 :: (txT l ++ (sgT (tailS c a) ++ (39 :: [])))) = _
  rw [sgT_tail]
  simp
theorem num_ok (tag : Tx) (ns : List Nat) (ht : isTag tag = true) (hn : ns.length ≤ 16) (hlt : ∀ n ∈ ns, n < 18446744073709551616) : wholeS ⟨tag, numsE ns⟩ = true ∧ plainS ⟨tag, numsE ns⟩ = true ∧ shortS ⟨tag, numsE ns⟩ = true := by
  refine ⟨?_, ?_, ?_⟩
  · simp [wholeS, ht, numsE]
  · simp only [plainS, numsE, List.all_map, List.all_eq_true, Function.comp]
    intro n _ t ht c hc
    obtain rfl := List.mem_singleton.1 ht
    exact (List.all_eq_true.1 (digs_pln n)) c hc
  · simp only [shortS, numsE, List.length_map, Bool.and_eq_true, decide_eq_true_eq, List.all_map, List.all_eq_true, Function.comp]
    refine ⟨hn, fun n hm => ?_⟩
    simp only [shortE, List.length_cons, List.length_nil, List.all_cons, List.all_nil, Bool.and_true, Bool.and_eq_true, decide_eq_true_eq]
    have := digs_len n (hlt n hm)
    omega
theorem print_parts {l : List Sg} (h : (printL l).2 = 0) : l.all wholeS = true ∧ l.all plainS = true ∧ l.length ≤ 64 ∧ l.all shortS = true ∧ (txT l).length ≤ 65536 := by
  unfold printL at h
  split at h
  · rename_i h1
    split at h
    · rename_i h2
      split at h
      · rename_i h3
        rw [Bool.and_eq_true, decide_eq_true_eq] at h3
        split at h
        · cases h
        · exact ⟨h1, h2, h3.1, h3.2, by omega⟩
      · cases h
    · cases h
  · cases h
theorem print_of {l : List Sg} (h1 : l.all wholeS = true) (h2 : l.all plainS = true) (h3 : l.length ≤ 64) (h4 : l.all shortS = true) (h5 : (txT l).length ≤ 65536) : printL l = (txT l, 0) := by
  unfold printL
  rw [if_pos h1, if_pos h2, if_pos (by rw [h4]; simp; exact h3), if_neg (by omega)]
theorem print_hd {f t r c a : Nat} {l : List Sg} (h : (printL l).2 = 0) (hl : l.length ≤ 60) (ht : (txT l).length ≤ 60000) (hf : f < 18446744073709551616) (htt : t < 18446744073709551616) (hr : r < 18446744073709551616) (hc : c < 18446744073709551616) (ha : a < 18446744073709551616) :
    printL (hdS f t r l c a) = (txT (hdS f t r l c a), 0) := by
  obtain ⟨p1, p2, p3, p4, p5⟩ := print_parts h
  obtain ⟨a1, a2, a3⟩ := num_ok [85, 78, 66] [f, t, r] (by decide) (by simp) (by intro n hn; simp only [List.mem_cons, List.not_mem_nil, or_false] at hn; omega)
  obtain ⟨b1, b2, b3⟩ := num_ok [85, 78, 90] [c, a] (by decide) (by simp) (by intro n hn; simp only [List.mem_cons, List.not_mem_nil, or_false] at hn; omega)
  refine print_of ?_ ?_ (by simp [hdS]; omega) ?_ ?_
  · show (headS f t r :: (l ++ [tailS c a])).all wholeS = true
    rw [List.all_cons, List.all_append, List.all_cons, List.all_nil, p1, show wholeS (headS f t r) = true from a1, show wholeS (tailS c a) = true from b1]; rfl
  · show (headS f t r :: (l ++ [tailS c a])).all plainS = true
    rw [List.all_cons, List.all_append, List.all_cons, List.all_nil, p2, show plainS (headS f t r) = true from a2, show plainS (tailS c a) = true from b2]; rfl
  · show (headS f t r :: (l ++ [tailS c a])).all shortS = true
    rw [List.all_cons, List.all_append, List.all_cons, List.all_nil, p4, show shortS (headS f t r) = true from a3, show shortS (tailS c a) = true from b3]; rfl
  · rw [txT_hd]
    have := digs_len f hf
    have := digs_len t htt
    have := digs_len r hr
    have := digs_len c hc
    have := digs_len a ha
    simp only [List.length_append, List.length_cons, List.length_nil]
    omega
theorem wparse_hd {f t r c a : Nat} {l : List Sg} (h : (printL l).2 = 0) (hl : l.length ≤ 60) (ht : (txT l).length ≤ 60000) (hf : f < 18446744073709551616) (htt : t < 18446744073709551616) (hr : r < 18446744073709551616) (hc : c < 18446744073709551616) (ha : a < 18446744073709551616) :
    wparseL (txT (hdS f t r l c a)) = if 8 ≤ f ∨ 8 ≤ t then (Wr.nil, 40) else if c ≠ l.length then (Wr.nil, 41) else if r ≠ a then (Wr.nil, 42) else (⟨f, t, r, l⟩, 0) := by
  have hb := back _ _ (print_hd h hl ht hf htt hr hc ha)
  rw [wparse_ok (by rw [hb]), hb]
  show openL (hdS f t r l c a) = _
  have hlen : (hdS f t r l c a).length = l.length + 2 := by simp [hdS]
  have h0 : (hdS f t r l c a).getD 0 ⟨[], []⟩ = headS f t r := rfl
  have h1 : (hdS f t r l c a).getD ((hdS f t r l c a).length - 1) ⟨[], []⟩ = tailS c a := by
    rw [hlen]; simp [hdS, List.getD]
  have hm : ((hdS f t r l c a).take ((hdS f t r l c a).length - 1)).drop 1 = l := by
    rw [hlen]; simp [hdS]
  by_cases hft : 8 ≤ f ∨ 8 ≤ t
  · rw [if_pos hft]
    apply openL_head
    rw [h0]
    show headV ⟨[85, 78, 66], [[digs f], [digs t], [digs r]]⟩ = none
    simp only [headV, if_true, numL_digs]
    by_cases hf8 : f ≤ 7
    · rw [if_neg (show ¬ t ≤ 7 by omega)]
      simp
    · rw [if_neg hf8]
  · rw [if_neg hft]
    have hh := headV_head (f := f) (t := t) (by omega) (by omega) hr
    have ht2 := tailV_tail hc ha
    by_cases hcl : c = l.length
    · rw [if_neg (by omega)]
      by_cases hra : r = a
      · rw [if_neg (by omega), openL_ok (by rw [hlen]; omega) (by rw [h0]; exact hh) (by rw [h1]; exact ht2) (by rw [hlen]; omega) hra.symm, hm]
      · rw [if_pos hra, openL_ref (by rw [hlen]; omega) (by rw [h0]; exact hh) (by rw [h1]; exact ht2) (by rw [hlen]; omega) (fun e => hra e.symm)]
    · rw [if_pos hcl, openL_count (by rw [hlen]; omega) (by rw [h0]; exact hh) (by rw [h1]; exact ht2) (by rw [hlen]; omega)]
end Go.Proofs.YtjkdhdficaacaaaGreatDoor
namespace Go.Proofs.YtjkdhdficaacaaaGreatDoor
open Go.RowKit Go.Edi Go.Wrap

def okS (s : Sg) : Prop := wholeS s = true ∧ plainS s = true ∧ shortS s = true ∧ (sgT s).length ≤ 400
theorem ok_sg {tag : Tx} {ts : List Tx} (ht : isTag tag = true) (h0 : tag.length ≤ 3) (h1 : ts.length ≤ 6) (h2 : ∀ t ∈ ts, t.length ≤ 21 ∧ t.all pln = true) : okS (sgL tag ts) := by
  refine ⟨?_, ?_, ?_, ?_⟩
  · simp [wholeS, ht, sgL]
  · simp only [plainS, sgL, List.all_map, List.all_eq_true, Function.comp]
    intro t hm u hu c hc
    obtain rfl := List.mem_singleton.1 hu
    exact (List.all_eq_true.1 (h2 _ hm).2) c hc
  · simp only [shortS, sgL, List.length_map, Bool.and_eq_true, decide_eq_true_eq, List.all_map, List.all_eq_true, Function.comp]
    refine ⟨by omega, fun t hm => ?_⟩
    simp only [shortE, List.length_cons, List.length_nil, List.all_cons, List.all_nil, Bool.and_true, Bool.and_eq_true, decide_eq_true_eq]
    have := (h2 t hm).1
    omega
  · have h := jn_bound [43] (tag :: (sgL tag ts).els.map elT) 42 (by
      intro t hm
      rcases List.mem_cons.1 hm with rfl | hm
      · omega
      · obtain ⟨e, he, rfl⟩ := List.mem_map.1 hm
        obtain ⟨u, hu, rfl⟩ := List.mem_map.1 he
        have e1 : elT [u] = mkd u := by simp [elT, jn, jnT]
        have := mkd_len u
        have := (h2 u hu).1
        rw [e1]; omega)
    have e2 : (tag :: (sgL tag ts).els.map elT).length = ts.length + 1 := by simp [sgL]
    rw [e2] at h
    have h3 : (ts.length + 1) * ([43].length + 42) ≤ 7 * ([43].length + 42) := Nat.mul_le_mul (by omega) (Nat.le_refl _)
    have h4 : 7 * (([43] : Tx).length + 42) = 301 := rfl
    show (jn [43] (tag :: (sgL tag ts).els.map elT)).length ≤ 400
    omega
theorem sdig_pln (n : Int) : (sdig n).all pln = true := by
  show (Lib.itoa n).all pln = true
  unfold Lib.itoa
  split
  · show ((45 : UInt8) :: digs n.natAbs).all pln = true
    rw [List.all_cons, digs_pln]; decide
  · exact digs_pln _
theorem ok_num {n : Int} (h : i64B n) : (sdig n).length ≤ 21 ∧ (sdig n).all pln = true := ⟨sdig_len h, sdig_pln n⟩
theorem dgt_pln {l : Tx} (h : l.all Number.dgt = true) : l.all pln = true := by
  rw [List.all_eq_true] at h ⊢
  intro c hc
  have := h c hc
  simp only [Number.dgt, Bool.and_eq_true, decide_eq_true_eq] at this
  rw [pln_int]
  simp only [Bool.and_eq_true, decide_eq_true_eq]
  omega
theorem ok_told {m : Ms} (h : m.Ty) (h0 : (toldMs m).2 = 0) : (∀ s ∈ (toldMs m).1, okS s) ∧ (toldMs m).1.length ≤ 4 := by
  rw [told_shape] at *
  split at h0
  · cases h0
  · rename_i fds hf
    split at h0
    · rename_i ht
      rw [if_pos ht]
      split at h0
      · rename_i hm
        rw [if_pos hm]
        refine ⟨fun s hs => ?_, ?_⟩
        · simp only [List.mem_cons, List.mem_map] at hs
          have hk : i64B (m.kind : Int) := by have := h.kind; unfold i64B; omega
          have ha : i64B (m.at_ : Int) := by have := h.at_; unfold i64B; omega
          rcases hs with rfl | rfl | ⟨f, _, rfl⟩
          · exact ok_sg (by decide) (by decide) (by simp) (fun t ht => by rw [List.mem_singleton.1 ht]; exact ok_num hk)
          · refine ok_sg (by decide) (by decide) (by simp) (fun t ht2 => ?_)
            simp only [List.mem_cons, List.not_mem_nil, or_false] at ht2
            rcases ht2 with rfl | rfl
            · refine ⟨by have := text_len m.car m.ser; omega, dgt_pln ?_⟩
              rw [Number.text_ok] at ht
              by_cases hq : Number.may m.car m.ser
              · rw [Number.text_in hq]; exact Number.full_all m.car m.ser
              · rw [if_neg hq] at ht; cases ht
            · exact ok_num ha
          · refine ok_sg (by cases f <;> decide) (by cases f <;> decide) (by cases f <;> simp [tellL]) (fun t ht => ?_)
            obtain ⟨n, hn, rfl⟩ := List.mem_map.1 ht
            exact ok_num (tell_b h f n hn)
        · rcases fds_cases hf with rfl | rfl | rfl | rfl | rfl <;> simp
      · cases h0
    · rename_i ht; exact absurd h0 ht
theorem ok_toldL {p : Pk} (h : p.m.Ty) (h0 : (toldL p).2 = 0) : (∀ s ∈ (toldL p).1, okS s) ∧ (toldL p).1.length ≤ 4 := by
  unfold toldL at *
  split
  · rename_i hk
    rw [if_pos hk] at h0
    split
    · exact ⟨fun s hs => by rw [List.mem_singleton.1 hs]; exact ok_sg (by decide) (by decide) (by simp) (fun t ht => by cases ht), by simp⟩
    · rename_i hz; rw [if_neg hz] at h0; cases h0
  · rename_i hk
    rw [if_neg hk] at h0
    exact ok_told h h0
/-- a packet's interchange is always printed -/
theorem told_prints {p : Pk} (hp : p.Ty) (h : (mwrapL p).2 = 0) : (wprintL (mwrapL p).1).2 = 0 := by
  obtain ⟨h1, h2, h3, h4⟩ := mwrap_ok h
  rw [h4]
  obtain ⟨k1, k2⟩ := ok_toldL hp.m h3
  have hx : (txT (toldL p).1).length ≤ 60000 := by
    have := txT_bound (toldL p).1 400 (fun s hs => (k1 s hs).2.2.2)
    have : (toldL p).1.length * (400 + 1) ≤ 4 * 401 := Nat.mul_le_mul k2 (Nat.le_refl _)
    omega
  have hl : (printL (toldL p).1).2 = 0 := by
    rw [print_of (List.all_eq_true.2 fun s hs => (k1 s hs).1) (List.all_eq_true.2 fun s hs => (k1 s hs).2.1) (by omega) (List.all_eq_true.2 fun s hs => (k1 s hs).2.2.1) (by omega)]
  unfold wprintL
  rw [if_neg (by simp only; omega), if_neg (by simp only; omega)]
  have e : closeL p.from_ p.to_ p.num (toldL p).1 = hdS p.from_ p.to_ p.num (toldL p).1 (toldL p).1.length p.num := rfl
  simp only
  rw [e, print_hd hl (by omega) hx (by omega) (by omega) hp.num (by omega) hp.num]
theorem mtext_mwrap {p : Pk} (hp : p.Ty) : (mtextL p).2 = (mwrapL p).2 := by
  unfold mtextL
  split
  · rename_i h; rw [told_prints hp h, h]
  · rfl
end Go.Proofs.YtjkdhdficaacaaaGreatDoor
