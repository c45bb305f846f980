/- The plain model of a ticket's number: digits, padding, the check digit; texts and tickets are each other's. -/
import Derived.Test.YtgaoeljdlpemnaaGreatDoorWrapK
import Derived.Test.YtgaoeljdlpemnaaGreatDoorEdiW9
import Derived.Lib.ItoaNum
/- wrap.Print's contract. -/
namespace Go.Proofs.YtgaoeljdlpemnaaGreatDoor
open Go.RowKit Go.Edi Go.Wrap

def wprintL (x : Wr) : Tx × Nat := if 8 ≤ x.from_ ∨ 8 ≤ x.to_ then ([], 1) else if 62 < x.segs.length then ([], 2) else printL (closeL x.from_ x.to_ x.ref x.segs)
theorem digs_len (n : Nat) (h : n < 18446744073709551616) : (digs n).length ≤ 20 := by
  show (Lib.decDigits n).length ≤ 20
  rw [Lib.decDigits_length]
  by_cases h1 : 1 ≤ n
  · have := Lib.numDigits_eq n h1 h; split at this <;> omega
  · obtain rfl : n = 0 := by omega
    rw [show Lib.nDigits 0 = 1 from by unfold Lib.nDigits; rfl]; omega
theorem sane_nums (ns : List Nat) (hn : ns.length ≤ 1000) (hlt : ∀ n ∈ ns, n < 18446744073709551616) : (numsE ns).length ≤ 1000000000000 ∧ ∀ e ∈ numsE ns, e.length ≤ 1000000000000 ∧ ∀ t ∈ e, t.length ≤ 1000000000000 := by
  refine ⟨by simp [numsE]; omega, fun e he => ?_⟩
  obtain ⟨n, hn2, rfl⟩ := List.mem_map.1 he
  refine ⟨by simp, fun t ht => ?_⟩
  obtain rfl := List.mem_singleton.1 ht
  have := digs_len n (hlt n hn2)
  omega
theorem sane_close {f t r : Nat} {l : List Sg} (hl : sane l) (hn : l.length ≤ 1000) (hf : f < 256) (ht : t < 256) (hr : r < 18446744073709551616) : sane (closeL f t r l) := by
  refine ⟨by simp [closeL]; omega, fun s hs => ?_⟩
  simp only [closeL, List.mem_cons, List.mem_append, List.not_mem_nil, or_false] at hs
  rcases hs with rfl | hs | rfl
  · exact sane_nums _ (by simp) (by intro n hn; simp only [List.mem_cons, List.not_mem_nil, or_false] at hn; omega)
  · exact hl.2 s hs
  · exact sane_nums _ (by simp) (by intro n hn; simp only [List.mem_cons, List.not_mem_nil, or_false] at hn; omega)
set_option maxRecDepth 100000 in
set_option maxHeartbeats 6400000 in
theorem wprint_any (x : Wr) (v : Value) (B : Nat) (w : World) (hv : SegsF w (· < w.heap.size) v x.segs) (hs : sane x.segs) (hf : x.from_ < 256) (ht : x.to_ < 256) (hr : x.ref < 18446744073709551616) (htab : Tab B w) (hB : B ≤ w.heap.size) :
    Calls Tryz.prog 19 #[.agg (wrV x.from_ x.to_ x.ref v)] w fun e w' => e = .returned (.tuple #[str (wprintL x).1, .int .i64 ((wprintL x).2 : Nat)]) ∧ Below w.heap.size w w' := by
  obtain ⟨f, t, r, l⟩ := x
  simp only at hv hs hf ht hr ⊢
  obtain ⟨p, cap, rfl⟩ := segs_slice hv
  have hf0 : (0 : Int) ≤ (f : Int) := Int.natCast_nonneg _
  have ht0 : (0 : Int) ≤ (t : Int) := Int.natCast_nonneg _
  by_cases h1 : (8 : Int) ≤ (f : Int) ∨ (8 : Int) ≤ (t : Int)
  · have HW := Lib.hid (show wprintL ⟨f, t, r, l⟩ = ([], 1) by unfold wprintL; rw [if_pos (by simp only; omega)])
    have h1' : (8 : Int) ≤ (f : Int) ∨ ((f : Int) < 8 ∧ (8 : Int) ≤ (t : Int)) := by omega
    clear hv hs hf ht hr htab hB h1
    rcases h1' with h1 | ⟨h1, h2⟩
    all_goals
      go_enter Tryz.func19, Tryz.ntmps19
      go_wp2
      go_ret2
      rw [HW.out]
      exact ⟨rfl, (Below.refl _ _).alloc (Nat.le_refl _) _⟩
  · have hf8 : ¬ (8 : Int) ≤ (f : Int) := by omega
    have ht8 : ¬ (8 : Int) ≤ (t : Int) := by omega
    by_cases h2 : (62 : Int) < (l.length : Int)
    · have HW := Lib.hid (show wprintL ⟨f, t, r, l⟩ = ([], 2) by unfold wprintL; rw [if_neg (by simp only; omega), if_pos (by simp only; omega)])
      clear hv hs hf ht hr htab hB h1
      go_enter Tryz.func19, Tryz.ntmps19
      go_wp2
      go_ret2
      rw [HW.out]
      exact ⟨rfl, (Below.refl _ _).alloc (Nat.le_refl _) _⟩
    · have HW := Lib.hid (show wprintL ⟨f, t, r, l⟩ = printL (closeL f t r l) by unfold wprintL; rw [if_neg (by simp only; omega), if_neg (by simp only; omega)])
      have hb1 : Below w.heap.size w (w.alloc (.cells (wrV f t r (.slice p l.length cap)) 74)) := (Below.refl _ _).alloc (Nat.le_refl _) _
      have hc := closed_any f t r l (.slice p l.length cap) B (w.alloc (.cells (wrV f t r (.slice p l.length cap)) 74)) (hv.kept fun b hb => ⟨Nat.lt_of_lt_of_le hb hb1.size, hb1.block b hb⟩) (by omega) hf ht hr (htab.on (hb1.mono hB)) (Nat.le_trans hB hb1.size)
      have hsn := sane_close hs (by omega) hf ht hr
      have HC := Lib.hid hc
      have HB1 := Lib.hid hb1
      have HSN := Lib.hid hsn
      clear hv hs hf ht hr htab hB h1 hc hb1 hsn
      generalize closeL f t r l = cl at *
      go_enter Tryz.func19, Tryz.ntmps19
      go_wp2_with (go_at_call 32; refine (HC.out).mono ?_)
      first | rintro e w1 v rfl hsg hb | rintro e w1 ⟨v, rfl, hsg, hb⟩
      have HP := Lib.hid (print_any cl v w1 hsg HSN.out)
      have HB2 := Lib.hid (HB1.out.trans (hb.mono (by first | exact Nat.le_succ _ | exact HB1.out.size)))
      clear hsg hb
      go_wp2_with (go_at_call 31; refine (HP.out).mono ?_)
      first | rintro e w2 rfl hb | rintro e w2 ⟨rfl, hb⟩
      have HB3 := Lib.hid (HB2.out.trans (hb.mono HB2.out.size))
      clear hb
      go_wp2
      go_ret2
      rw [HW.out]
      exact ⟨rfl, HB3.out⟩
end Go.Proofs.YtgaoeljdlpemnaaGreatDoor
/- Numbers and their digits are each other's; interchanges and their texts are each other's. -/
namespace Go.Proofs.YtgaoeljdlpemnaaGreatDoor
open Go.RowKit Go.Edi Go.Wrap

theorem digs_small {u : Nat} (h : u < 10) : digs u = [UInt8.ofNat (48 + u)] := by show Lib.decDigits u = _; rw [Lib.decDigits, dif_pos h]
theorem digs_big {u : Nat} (h : ¬ u < 10) : digs u = digs (u / 10) ++ [UInt8.ofNat (48 + u % 10)] := by show Lib.decDigits u = _; rw [Lib.decDigits, dif_neg h]
theorem nat_d (d : Nat) (h : d < 10) : (UInt8.ofNat (48 + d)).toNat = 48 + d := by rw [UInt8.toNat_ofNat']; omega
theorem dgt_d (d : Nat) (h : d < 10) : dgt (UInt8.ofNat (48 + d)) = true := by
  simp only [dgt, Bool.and_eq_true, decide_eq_true_eq, UInt8.le_iff_toNat_le, nat_d d h]
  exact ⟨by show 48 ≤ _; omega, by show _ ≤ 57; omega⟩
theorem rd_digs (most : Nat) (u : Nat) : rdN most 0 (digs u) = if u ≤ most then some u else none := by
  induction u using Nat.strongRecOn with
  | _ u ih =>
    by_cases h : u < 10
    · rw [digs_small h]
      simp only [rdN, dgt_d u h, if_true, nat_d u h]
      rw [show 0 * 10 + (48 + u - 48) = u by omega]
    · rw [digs_big h, rdN_snoc, ih (u / 10) (by omega)]
      have hd := dgt_d (u % 10) (by omega)
      by_cases h2 : u / 10 ≤ most
      · rw [if_pos h2]
        simp only [Option.bind_some, hd, if_true, nat_d (u % 10) (by omega)]
        rw [show u / 10 * 10 + (48 + u % 10 - 48) = u by omega]
      · rw [if_neg h2, if_neg (by omega)]
        rfl
theorem digs_head (u : Nat) : ∃ c t, digs u = c :: t ∧ (0 < u → c ≠ 48) ∧ (u = 0 → t = []) := by
  induction u using Nat.strongRecOn with
  | _ u ih =>
    by_cases h : u < 10
    · refine ⟨_, [], digs_small h, fun h0 e => ?_, fun _ => rfl⟩
      have := congrArg UInt8.toNat e
      rw [nat_d u h] at this
      have h48 : (48 : UInt8).toNat = 48 := rfl
      omega
    · obtain ⟨c, t, e1, e2, _⟩ := ih (u / 10) (by omega)
      exact ⟨c, t ++ [UInt8.ofNat (48 + u % 10)], by rw [digs_big h, e1]; rfl, fun _ => e2 (by omega), fun e => by omega⟩
theorem lead_digs (u : Nat) : lead0 (digs u) = false := by
  obtain ⟨c, t, e1, e2, e3⟩ := digs_head u
  rw [e1]
  simp only [lead0]
  by_cases h : 0 < u
  · have := e2 h; simp [this]
  · rw [e3 (by omega)]; simp
theorem numL_digs (most u : Nat) : numL most (digs u) = if u ≤ most then some u else none := by rw [numL_run (lead_digs u), rd_digs]
theorem of_d {c : UInt8} (h : dgt c = true) : c = UInt8.ofNat (48 + (c.toNat - 48)) ∧ c.toNat - 48 < 10 := by
  simp only [dgt, Bool.and_eq_true, decide_eq_true_eq, UInt8.le_iff_toNat_le] at h
  obtain ⟨g1, g2⟩ := h
  have g1' : 48 ≤ c.toNat := g1
  have g2' : c.toNat ≤ 57 := g2
  refine ⟨?_, by omega⟩
  rw [show 48 + (c.toNat - 48) = c.toNat by omega]
  simp
theorem rd_inv (most : Nat) : ∀ (k : Nat) (t : Tx) (n : Nat), t.length = k → lead0 t = false → rdN most 0 t = some n → t = digs n := by
  intro k
  induction k with
  | zero => intro t n hk hl _; obtain rfl := List.length_eq_zero_iff.1 hk; simp [lead0] at hl
  | succ k ih =>
    intro t n hk hl hr
    obtain ⟨u, c, rfl⟩ : ∃ u c, t = u ++ [c] := ⟨t.dropLast, t.getLast (by intro e; rw [e] at hk; simp at hk), (List.dropLast_concat_getLast _).symm⟩
    rw [rdN_snoc] at hr
    cases hm : rdN most 0 u with
    | none => rw [hm] at hr; cases hr
    | some m =>
      rw [hm] at hr
      simp only [Option.bind_some] at hr
      split at hr
      · rename_i hd
        split at hr
        · obtain ⟨hc1, hc2⟩ := of_d hd
          have hn : n = m * 10 + (c.toNat - 48) := by simpa using hr.symm
          match u, hk, hl, hm with
          | [], _, _, hm =>
            have : m = 0 := by simpa [rdN] using hm.symm
            subst this
            rw [hn, show 0 * 10 + (c.toNat - 48) = c.toNat - 48 by omega, digs_small hc2, ← hc1]
            rfl
          | a :: r, hk, hl, hm =>
            have ha : a ≠ 48 := by
              intro e
              simp [lead0, e] at hl
            have hl2 : lead0 (a :: r) = false := by simp [lead0, ha]
            have hu := ih (a :: r) m (by simpa using hk) hl2 hm
            have hm0 : 0 < m := by
              rcases Nat.eq_zero_or_pos m with e | e
              · rw [e, digs_small (by omega)] at hu
                simp at hu
                exact absurd hu.1 ha
              · exact e
            rw [hu, digs_big (show ¬ n < 10 by omega), show n / 10 = m by omega, show n % 10 = c.toNat - 48 by omega, ← hc1]
        · cases hr
      · cases hr
theorem numL_inv {most n : Nat} {t : Tx} (h : numL most t = some n) : t = digs n ∧ n ≤ most := by
  unfold numL at h
  split at h
  · cases h
  · rename_i hl
    exact ⟨rd_inv most _ t n rfl (by simpa using hl) h, rdN_le most t 0 n (Nat.zero_le _) h⟩
theorem headV_head {f t r : Nat} (hf : f ≤ 7) (ht : t ≤ 7) (hr : r < 18446744073709551616) : headV (headS f t r) = some (f, t, r) := by
  show headV ⟨[85, 78, 66], [[digs f], [digs t], [digs r]]⟩ = _
  simp only [headV, if_true, numL_digs, hf, ht, show r ≤ 18446744073709551615 by omega]
theorem tailV_tail {n r : Nat} (hn : n < 18446744073709551616) (hr : r < 18446744073709551616) : tailV (tailS n r) = some (n, r) := by
  show tailV ⟨[85, 78, 90], [[digs n], [digs r]]⟩ = _
  simp only [tailV, if_true, numL_digs, show n ≤ 18446744073709551615 by omega, show r ≤ 18446744073709551615 by omega]
theorem headV_inv {s : Sg} {f t r : Nat} (h : headV s = some (f, t, r)) : s = headS f t r ∧ f ≤ 7 ∧ t ≤ 7 ∧ r < 18446744073709551616 := by
  obtain ⟨tag, els⟩ := s
  simp only [headV] at h
  split at h
  · rename_i htag
    split at h
    · rename_i a b c
      split at h
      · rename_i x y z h1 h2 h3
        simp only [Option.some.injEq, Prod.mk.injEq] at h
        obtain ⟨rfl, rfl, rfl⟩ := h
        obtain ⟨rfl, g1⟩ := numL_inv h1
        obtain ⟨rfl, g2⟩ := numL_inv h2
        obtain ⟨rfl, g3⟩ := numL_inv h3
        exact ⟨by rw [htag]; rfl, g1, g2, by omega⟩
      · cases h
    · cases h
  · cases h
theorem tailV_inv {s : Sg} {c a : Nat} (h : tailV s = some (c, a)) : s = tailS c a ∧ c < 18446744073709551616 ∧ a < 18446744073709551616 := by
  obtain ⟨tag, els⟩ := s
  simp only [tailV] at h
  split at h
  · rename_i htag
    split at h
    · rename_i x y
      split at h
      · rename_i p q h1 h2
        simp only [Option.some.injEq, Prod.mk.injEq] at h
        obtain ⟨rfl, rfl⟩ := h
        obtain ⟨rfl, g1⟩ := numL_inv h1
        obtain ⟨rfl, g2⟩ := numL_inv h2
        exact ⟨by rw [htag]; rfl, by omega, by omega⟩
      · cases h
    · cases h
  · cases h
theorem close_len (f t r : Nat) (l : List Sg) : (closeL f t r l).length = l.length + 2 := by simp [closeL]
theorem open_close {f t r : Nat} {l : List Sg} (hf : f ≤ 7) (ht : t ≤ 7) (hr : r < 18446744073709551616) (hl : l.length ≤ 1000) : openL (closeL f t r l) = (⟨f, t, r, l⟩, 0) := by
  have h1 : (closeL f t r l).getD ((closeL f t r l).length - 1) ⟨[], []⟩ = tailS l.length r := by
    rw [close_len]
    simp [closeL, List.getD]
  have h0 : (closeL f t r l).getD 0 ⟨[], []⟩ = headS f t r := rfl
  rw [openL_ok (by rw [close_len]; omega) (by rw [h0]; exact headV_head hf ht hr) (by rw [h1]; exact tailV_tail (by omega) hr) (by rw [close_len]; omega) rfl]
  congr 2
  rw [close_len]
  simp [closeL]
theorem open_inv {l : List Sg} {x : Wr} (h : openL l = (x, 0)) : l = closeL x.from_ x.to_ x.ref x.segs ∧ x.from_ ≤ 7 ∧ x.to_ ≤ 7 ∧ x.ref < 18446744073709551616 ∧ l.length = x.segs.length + 2 := by
  by_cases h2 : 2 ≤ l.length
  · cases hh : headV (l.getD 0 ⟨[], []⟩) with
    | none => rw [openL_head hh] at h; cases h
    | some v =>
      obtain ⟨f, t, r⟩ := v
      cases ht : tailV (l.getD (l.length - 1) ⟨[], []⟩) with
      | none => rw [openL_tail ht] at h; cases h
      | some v =>
        obtain ⟨c, a⟩ := v
        by_cases hc : c = l.length - 2
        · by_cases ha : a = r
          · rw [openL_ok h2 hh ht hc ha] at h
            obtain rfl := (Prod.mk.inj h).1
            obtain ⟨e1, g1, g2, g3⟩ := headV_inv hh
            obtain ⟨e2, _, _⟩ := tailV_inv ht
            have hm : ((l.take (l.length - 1)).drop 1).length = l.length - 2 := by simp; omega
            refine ⟨?_, g1, g2, g3, by rw [hm]; omega⟩
            show l = headS f t r :: (((l.take (l.length - 1)).drop 1) ++ [tailS ((l.take (l.length - 1)).drop 1).length r])
            rw [hm, ← hc, ← ha, ← e2, ← (show l.getD 0 ⟨[], []⟩ = headS f t a from by rw [ha]; exact e1)]
            apply List.ext_getElem?
            intro i
            rcases i with _ | i
            · simp [List.getD]; rw [List.getElem?_eq_getElem (by omega)]; simp
            · rw [List.getElem?_cons_succ, List.getElem?_append]
              split
              · rename_i hi
                rw [hm] at hi
                rw [List.getElem?_drop, List.getElem?_take, if_pos (by omega), show 1 + i = i + 1 by omega]
              · rename_i hi
                rw [hm] at hi ⊢
                by_cases hi2 : i + 1 = l.length - 1
                · rw [show i - (l.length - 2) = 0 by omega, hi2]
                  simp [List.getD]
                  rw [List.getElem?_eq_getElem (by omega)]
                  simp
                · rw [List.getElem?_eq_none (by omega), List.getElem?_eq_none (by simp; omega)]
          · rw [openL_ref h2 hh ht hc ha] at h; cases h
        · rw [openL_count h2 hh ht hc] at h; cases h
  · rw [openL_short h2] at h; cases h
end Go.Proofs.YtgaoeljdlpemnaaGreatDoor
namespace Go.Number
abbrev Tx := List UInt8
def dgt (c : UInt8) : Bool := decide (48 ≤ c.toNat) && decide (c.toNat ≤ 57)
def dv (c : UInt8) : Fin 10 := Fin.ofNat 10 (c.toNat - 48)
/-- the digits that a text begins with -/
def lead (l : Tx) : List (Fin 10) := (l.takeWhile dgt).map dv
def sumD (l : List (Fin 10)) : Nat := l.foldl (fun n d => n * 10 + d.1) 0
def remD (l : List (Fin 10)) : Nat := l.foldl (fun n d => (n * 10 + d.1) % 7) 0
def val (l : Tx) : Nat := sumD (l.map dv)
def chk (l : Tx) : Nat := val l % 7
def pad (k n : Nat) : Tx := List.replicate (k - (Lib.decDigits n).length) 48 ++ Lib.decDigits n
/-- the last k digits of n -/
def last : Nat → Nat → Tx
  | 0, _ => []
  | k + 1, n => last k (n / 10) ++ [UInt8.ofNat (48 + n % 10)]
def may (c s : Nat) : Prop := c < 8 ∧ 1 ≤ s ∧ s ≤ 9999999999
instance (c s : Nat) : Decidable (may c s) := by unfold may; infer_instance
def body (c s : Nat) : Tx := last 3 c ++ last 10 s
def full (c s : Nat) : Tx := body c s ++ last 1 (chk (body c s))
/-- Text's answer: the text, the error -/
def textL (c s : Nat) : Tx × Nat := if may c s then (full c s, 0) else ([], 1)
/-- Parse's answer: carrier, serial, error -/
def parseL (l : Tx) : Nat × Nat × Nat :=
  if l.length ≠ 14 ∨ l.all dgt = false then (0, 0, 90)
  else if val (l.drop 13) ≠ chk (l.take 13) then (0, 0, 70)
  else if may (val (l.take 3)) (val ((l.take 13).drop 3)) then (val (l.take 3), val ((l.take 13).drop 3), 0) else (0, 0, 1)

theorem sumD_snoc (l : List (Fin 10)) (d : Fin 10) : sumD (l ++ [d]) = sumD l * 10 + d.1 := by simp [sumD]
theorem remD_snoc (l : List (Fin 10)) (d : Fin 10) : remD (l ++ [d]) = (remD l * 10 + d.1) % 7 := by simp [remD]
theorem snoc_ind {α : Type} {P : List α → Prop} (h0 : P []) (h1 : ∀ l a, P l → P (l ++ [a])) (l : List α) : P l := by
  rw [← List.reverse_reverse l]
  induction l.reverse with
  | nil => exact h0
  | cons a t ih => rw [List.reverse_cons]; exact h1 _ _ ih
theorem sumD_lt (l : List (Fin 10)) : sumD l < 10 ^ l.length := by
  induction l using snoc_ind with
  | h0 => simp [sumD]
  | h1 l d ih =>
    rw [sumD_snoc, List.length_append, List.length_singleton, Nat.pow_succ]
    have := d.2
    omega
theorem remD_eq (l : List (Fin 10)) : remD l = sumD l % 7 := by
  induction l using snoc_ind with
  | h0 => rfl
  | h1 l d ih => rw [remD_snoc, sumD_snoc, ih]; omega
theorem remD_lt (l : List (Fin 10)) : remD l < 7 := by rw [remD_eq]; omega
theorem sumD_app (a b : List (Fin 10)) : sumD (a ++ b) = sumD a * 10 ^ b.length + sumD b := by
  induction b using snoc_ind with
  | h0 => simp [sumD]
  | h1 b d ih =>
    rw [← List.append_assoc, sumD_snoc, sumD_snoc, ih, List.length_append, List.length_singleton, Nat.pow_succ, ← Nat.mul_assoc]
    generalize sumD a * 10 ^ b.length = X
    omega
theorem val_app (a b : Tx) : val (a ++ b) = val a * 10 ^ b.length + val b := by unfold val; rw [List.map_append, sumD_app, List.length_map]
theorem val_lt (a : Tx) : val a < 10 ^ a.length := by have := sumD_lt (a.map dv); rwa [List.length_map] at this
theorem take_self {l : Tx} : l.takeWhile dgt = l ↔ l.all dgt = true := by
  induction l with
  | nil => simp
  | cons c t ih =>
    cases h : dgt c
    · simp [h]
    · simp [h, ih]
theorem lead_all {l : Tx} (h : l.all dgt = true) : lead l = l.map dv := by
  unfold lead
  rw [take_self.2 h]
theorem lead_len (l : Tx) : (lead l).length ≤ l.length := by
  unfold lead; rw [List.length_map]; exact (List.takeWhile_prefix dgt).length_le
theorem lead_full (l : Tx) : decide ((lead l).length = l.length) = l.all dgt := by
  cases h : l.all dgt
  · refine decide_eq_false fun e => ?_
    unfold lead at e
    rw [List.length_map] at e
    have := (List.takeWhile_prefix dgt (l := l)).eq_of_length e
    have h2 := take_self.1 this
    rw [h2] at h; cases h
  · rw [lead_all h]; simp
theorem lead_at {t : Tx} {k : Nat} (h : k < t.length) (ha : (t.take k).all dgt = true) (hd : dgt t[k] = false) : lead t = (t.take k).map dv := by
  have e : t = t.take k ++ t[k] :: t.drop (k + 1) := by rw [List.getElem_cons_drop, List.take_append_drop]
  have e2 : t.takeWhile dgt = t.take k := by
    conv => lhs; rw [e]
    rw [List.takeWhile_append_of_pos (by simpa using ha), List.takeWhile_cons, if_neg (by simp [hd]), List.append_nil]
  unfold lead; rw [e2]
theorem take_all {t : Tx} {k : Nat} (h : k < t.length) (ha : (t.take k).all dgt = true) (hd : dgt t[k] = true) : (t.take (k + 1)).all dgt = true := by
  rw [List.take_succ_eq_append_getElem h, List.all_append, ha]; simp [hd]
theorem take_dv {t : Tx} {k : Nat} (h : k < t.length) : (t.take (k + 1)).map dv = (t.take k).map dv ++ [dv t[k]] := by
  rw [List.take_succ_eq_append_getElem h, List.map_append]; rfl
theorem dgt_le {c : UInt8} (h : dgt c = true) : (48 : Int) ≤ (c.toNat : Int) ∧ (c.toNat : Int) ≤ 57 := by
  simp only [dgt, Bool.and_eq_true, decide_eq_true_eq] at h; omega
theorem dgt_not {c : UInt8} (h : dgt c = false) : (c.toNat : Int) < 48 ∨ (57 : Int) < (c.toNat : Int) := by
  rw [← Bool.not_eq_true] at h; simp only [dgt, Bool.and_eq_true, decide_eq_true_eq] at h; omega
theorem sum_lead {l : Tx} (h : l.all dgt = true) : sumD (lead l) = val l := by rw [lead_all h]; rfl
theorem rem_lead {l : Tx} (h : l.all dgt = true) : remD (lead l) = chk l := by rw [lead_all h, remD_eq]; rfl
theorem dv_of (d : Nat) (h : d < 10) : dv (UInt8.ofNat (48 + d)) = ⟨d, h⟩ := by
  apply Fin.ext
  show ((UInt8.ofNat (48 + d)).toNat - 48) % 10 = d
  rw [UInt8.toNat_ofNat']; omega
theorem dgt_of (d : Nat) (h : d < 10) : dgt (UInt8.ofNat (48 + d)) = true := by
  unfold dgt; rw [UInt8.toNat_ofNat']; simp; omega
theorem of_dgt {c : UInt8} (h : dgt c = true) : c = UInt8.ofNat (48 + (dv c).1) ∧ c.toNat = 48 + (dv c).1 := by
  simp only [dgt, Bool.and_eq_true, decide_eq_true_eq] at h
  have e : (dv c).1 = c.toNat - 48 := by show (c.toNat - 48) % 10 = _; omega
  refine ⟨?_, by omega⟩
  rw [e, show 48 + (c.toNat - 48) = c.toNat by omega]; simp
theorem dv_int {c : UInt8} (h : dgt c = true) : ((dv c).1 : Int) = (c.toNat : Int) - 48 := by have := (of_dgt h).2; omega
theorem last_len (k n : Nat) : (last k n).length = k := by
  induction k generalizing n with
  | zero => rfl
  | succ k ih => simp [last, ih]
theorem last_all (k n : Nat) : (last k n).all dgt = true := by
  induction k generalizing n with
  | zero => rfl
  | succ k ih => simp only [last, List.all_append, ih, List.all_cons, List.all_nil, dgt_of _ (Nat.mod_lt n (by omega : 0 < 10))]; rfl
theorem val_last (k n : Nat) : val (last k n) = n % 10 ^ k := by
  induction k generalizing n with
  | zero => simp [last, val, sumD, Nat.mod_one]
  | succ k ih =>
    rw [last, val_app, ih]
    have e : val [UInt8.ofNat (48 + n % 10)] = n % 10 := by
      show sumD [dv _] = _
      rw [dv_of _ (Nat.mod_lt n (by omega))]; simp [sumD]
    rw [e, List.length_singleton, Nat.pow_one, Nat.pow_succ, Nat.mul_comm (10 ^ k) 10, Nat.mod_mul]
    omega
theorem last_val {l : Tx} (h : l.all dgt = true) : last l.length (val l) = l := by
  induction l using snoc_ind with
  | h0 => rfl
  | h1 l c ih =>
    simp only [List.all_append, List.all_cons, List.all_nil, Bool.and_true, Bool.and_eq_true] at h
    rw [List.length_append, List.length_singleton, last, val_app]
    have e : val [c] = (dv c).1 := by show sumD [dv c] = _; simp [sumD]
    have hd := (dv c).2
    rw [e, List.length_singleton, Nat.pow_one, show (val l * 10 + (dv c).1) / 10 = val l by omega, show (val l * 10 + (dv c).1) % 10 = (dv c).1 by omega, ih h.1, ← (of_dgt h.2).1]
theorem dec_small {u : Nat} (h : u < 10) : Lib.decDigits u = [UInt8.ofNat (48 + u)] := by rw [Lib.decDigits, dif_pos h]
theorem dec_big {u : Nat} (h : ¬ u < 10) : Lib.decDigits u = Lib.decDigits (u / 10) ++ [UInt8.ofNat (48 + u % 10)] := by rw [Lib.decDigits, dif_neg h]
theorem last_zero (k : Nat) : last k 0 = List.replicate k 48 := by
  induction k with
  | zero => rfl
  | succ k ih => rw [last, Nat.zero_div, ih, ← List.replicate_append_replicate (n := k) (m := 1)]; rfl
theorem pad_last (k : Nat) : ∀ n, n < 10 ^ k → 1 ≤ k → pad k n = last k n ∧ (Lib.decDigits n).length ≤ k := by
  induction k with
  | zero => intro n _ h; omega
  | succ k ih =>
    intro n hn _
    by_cases h : n < 10
    · unfold pad
      rw [dec_small h, last, show n / 10 = 0 by omega, last_zero, show n % 10 = n by omega]
      exact ⟨rfl, by simp⟩
    · have hk : 1 ≤ k := by
        rcases k with _ | k
        · simp at hn; omega
        · omega
      rw [Nat.pow_succ] at hn
      obtain ⟨e, hl⟩ := ih (n / 10) (by omega) hk
      unfold pad at e ⊢
      rw [dec_big h, last, ← e, List.length_append, List.length_singleton, Nat.add_sub_add_right, List.append_assoc]
      exact ⟨rfl, by omega⟩

theorem body_len (c s : Nat) : (body c s).length = 13 := by unfold body; rw [List.length_append, last_len, last_len]
theorem body_all (c s : Nat) : (body c s).all dgt = true := by unfold body; rw [List.all_append, last_all, last_all]; rfl
theorem full_len (c s : Nat) : (full c s).length = 14 := by unfold full; rw [List.length_append, body_len, last_len]
theorem full_all (c s : Nat) : (full c s).all dgt = true := by unfold full; rw [List.all_append, body_all, last_all]; rfl
theorem full_take (c s : Nat) : (full c s).take 13 = body c s := by unfold full; rw [List.take_left' (body_len c s)]
theorem full_drop (c s : Nat) : (full c s).drop 13 = last 1 (chk (body c s)) := by unfold full; rw [List.drop_left' (body_len c s)]
theorem full_take3 (c s : Nat) : (full c s).take 3 = last 3 c := by
  have : (full c s).take 3 = ((full c s).take 13).take 3 := by rw [List.take_take]; rfl
  rw [this, full_take]; unfold body; rw [List.take_left' (last_len 3 c)]
theorem body_drop3 (c s : Nat) : (body c s).drop 3 = last 10 s := by unfold body; rw [List.drop_left' (last_len 3 c)]
theorem chk_lt (l : Tx) : chk l < 7 := Nat.mod_lt _ (by omega)
theorem val_body {c s : Nat} (h : may c s) : val (body c s) = c * 10000000000 + s := by
  obtain ⟨h1, h2, h3⟩ := h
  unfold body
  rw [val_app, val_last, val_last, last_len, Nat.mod_eq_of_lt (by omega), Nat.mod_eq_of_lt (by omega)]
theorem parse_full {c s : Nat} (h : may c s) : parseL (full c s) = (c, s, 0) := by
  obtain ⟨h1, h2, h3⟩ := h
  unfold parseL
  have hc := chk_lt (body c s)
  rw [full_len, full_all, if_neg (by simp), full_drop, full_take, full_take3, body_drop3, val_last, val_last, val_last, Nat.mod_eq_of_lt (by omega), if_neg (by simp), Nat.mod_eq_of_lt (by omega), Nat.mod_eq_of_lt (by omega), if_pos ⟨h1, h2, h3⟩]
theorem full_parse {l : Tx} {c s : Nat} (h : parseL l = (c, s, 0)) : may c s ∧ full c s = l := by
  unfold parseL at h
  by_cases h1 : l.length ≠ 14 ∨ l.all dgt = false
  · rw [if_pos h1] at h; simp at h
  rw [if_neg h1] at h
  by_cases h2 : val (l.drop 13) ≠ chk (l.take 13)
  · rw [if_pos h2] at h; simp at h
  rw [if_neg h2] at h
  by_cases h3 : may (val (l.take 3)) (val ((l.take 13).drop 3))
  · rw [if_pos h3] at h
    simp only [Prod.mk.injEq, and_true] at h
    obtain ⟨rfl, rfl⟩ := h
    refine ⟨h3, ?_⟩
    obtain ⟨g1, g2⟩ := not_or.1 h1
    have g1 : l.length = 14 := by omega
    have g2 : l.all dgt = true := by simpa using g2
    have h2 : val (l.drop 13) = chk (l.take 13) := by omega
    have sub : ∀ t : Tx, (∀ x ∈ t, x ∈ l) → t.all dgt = true := fun t ht => List.all_eq_true.2 fun x hx => List.all_eq_true.1 g2 x (ht x hx)
    have a1 : last 3 (val (l.take 3)) = l.take 3 := by
      have := last_val (l := l.take 3) (sub _ fun x hx => List.mem_of_mem_take hx)
      rwa [List.length_take, g1] at this
    have a2 : last 10 (val ((l.take 13).drop 3)) = (l.take 13).drop 3 := by
      have := last_val (l := (l.take 13).drop 3) (sub _ fun x hx => List.mem_of_mem_take (List.mem_of_mem_drop hx))
      rwa [List.length_drop, List.length_take, g1] at this
    have a3 : last 1 (val (l.drop 13)) = l.drop 13 := by
      have := last_val (l := l.drop 13) (sub _ fun x hx => List.mem_of_mem_drop hx)
      rwa [List.length_drop, g1] at this
    have a4 : l.take 3 = (l.take 13).take 3 := by rw [List.take_take]; rfl
    unfold full
    have a5 : body (val (l.take 3)) (val ((l.take 13).drop 3)) = l.take 13 := by unfold body; rw [a1, a2, a4, List.take_append_drop]
    rw [a5, ← h2, a3, List.take_append_drop]
  · rw [if_neg h3] at h; simp at h
theorem parse_err (l : Tx) (h : (parseL l).2.2 ≠ 0) : (parseL l).1 = 0 ∧ (parseL l).2.1 = 0 := by
  unfold parseL at h ⊢
  split
  · exact ⟨rfl, rfl⟩
  · rename_i h1
    split
    · exact ⟨rfl, rfl⟩
    · rename_i h2
      split
      · rename_i h3
        rw [if_neg h1, if_neg h2, if_pos h3] at h
        exact absurd rfl h
      · exact ⟨rfl, rfl⟩
theorem text_ok (c s : Nat) : (textL c s).2 = if may c s then 0 else 1 := by unfold textL; split <;> rfl
theorem text_in {c s : Nat} (h : may c s) : textL c s = (full c s, 0) := if_pos h
theorem text_out {c s : Nat} (h : ¬ may c s) : textL c s = ([], 1) := if_neg h
end Go.Number
