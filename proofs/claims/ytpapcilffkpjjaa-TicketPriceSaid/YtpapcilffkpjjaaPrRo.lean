/- Contract of the library's rotate (slices.SortStableFunc's family), whatever the row holds. -/
import Derived.Test.YtpapcilffkpjjaaPrSr
namespace Go.Stb
open Go.Sort
variable {α : Type} [Inhabited α]
theorem rot_more {lo m hi j : Nat} {d d1 d2 : Array α} (hj : m + j = hi) (h1 : lo + j < m) (hb : hi ≤ d.size) (h : Swr lo m j d d1) (hr : Rot (lo + j) m hi d1 d2) : Rot lo m hi d d2 := by
  have s1 : d1.size = d.size := h.perm.1
  refine ⟨permIn_trans _ _ _ lo hi (permIn_mono d d1 lo (m + j) lo hi (Nat.le_refl _) (by omega) hb h.perm) (permIn_mono d1 d2 (lo + j) hi lo hi (by omega) (Nat.le_refl _) (by omega) hr.perm), fun k hk => ?_, fun k hk => ?_⟩
  · rw [hr.perm.2.1 (lo + k) (by omega), h.get, if_pos (by omega)]
    congr 1; omega
  · by_cases c : k < j
    · have := hr.one k (by omega)
      rw [show lo + (hi - m) + k = lo + j + k by omega, this, h.get, if_neg (by omega), if_pos (by omega)]
      congr 1; omega
    · have := hr.two (k - j) (by omega)
      rw [show lo + (hi - m) + k = lo + j + (hi - m) + (k - j) by omega, this, h.get, if_neg (by omega), if_neg (by omega)]
      congr 1; omega
theorem rot_less {lo m hi i q : Nat} {d d1 d2 : Array α} (hi' : lo + i = m) (hq : q + i = hi) (h1 : m < q) (hb : hi ≤ d.size) (h : Swr lo q i d d1) (hr : Rot lo m q d1 d2) : Rot lo m hi d d2 := by
  have s1 : d1.size = d.size := h.perm.1
  refine ⟨permIn_trans _ _ _ lo hi (permIn_mono d d1 lo (q + i) lo hi (Nat.le_refl _) (by omega) hb h.perm) (permIn_mono d1 d2 lo q lo hi (Nat.le_refl _) (by omega) (by omega) hr.perm), fun k hk => ?_, fun k hk => ?_⟩
  · by_cases c : k < q - m
    · rw [hr.one k c, h.get, if_neg (by omega), if_neg (by omega)]
    · have := hr.two (k - (q - m)) (by omega)
      rw [show lo + k = lo + (q - m) + (k - (q - m)) by omega, this, h.get, if_pos (by omega)]
      congr 1; omega
  · rw [hr.perm.2.1 (lo + (hi - m) + k) (by omega), h.get, if_neg (by omega), if_pos (by omega)]
    congr 1; omega
theorem rot_same {lo m hi i : Nat} {d d' : Array α} (h1 : lo + i = m) (h2 : m + i = hi) (h : Swr lo m i d d') : Rot lo m hi d d' := by
  refine ⟨by rw [← h2]; exact h.perm, fun k hk => ?_, fun k hk => ?_⟩
  · rw [h.get, if_pos (by omega)]
    congr 1; omega
  · rw [h.get, if_neg (by omega), if_pos (by omega)]
    congr 1; omega
end Go.Stb
namespace Go.Proofs.Ytpapcilffkpjjaa
open Go.Shelf Go.RowKit Go.Lib Go.Sort Go.Stb
variable {α : Type} [Inhabited α]

set_option maxHeartbeats 1600000 in
set_option maxRecDepth 100000 in
theorem rotate_any (enc : α → Value) (hO : OneCell enc) (fv : Value) (blk off cap : Nat) (w0 : World) (d0 : Array α) (hH : Holds enc w0 blk off d0) (hsz : d0.size ≤ 4611686018427387903)
    (a md b : Nat) (d : Array α) (k : Nat) (hd : d.size = d0.size) (ham : a < md) (hmb : md < b) (hb : b ≤ d0.size) :
    Calls Try.prog 101 #[dataV blk off d0.size cap, .int .i64 a, .int .i64 md, .int .i64 b, fv] ((putRow enc w0 blk off d).drewN k) fun e w' =>
      e = .returned (.tuple #[]) ∧ ∃ d' k', w' = (putRow enc w0 blk off d').drewN k' ∧ Rot a md b d d' := by
  have HC := Lib.hid (fun a b n d k hd hab hb => swapRange_any enc hO fv blk off cap w0 d0 hH hsz a b n d k hd hab hb)
  obtain ⟨i0, hi0⟩ : ∃ i0, i0 = md - a := ⟨_, rfl⟩
  obtain ⟨j0, hj0⟩ : ∃ j0, j0 = b - md := ⟨_, rfl⟩
  have e1 : (md : Int) - (a : Int) = (i0 : Int) := by omega
  have e2 : (b : Int) - (md : Int) = (j0 : Int) := by omega
  have sz : (d0.size : Int) ≤ 4611686018427387903 := by omega
  have bb : (b : Int) ≤ 4611686018427387903 := by omega
  clear hH hO
  have B1 := Lib.hid (And.intro hi0 hj0)
  clear hi0 hj0
  go_enter Try.func101, Try.ntmps101
  go_wp2
  clear e1 e2
  go_loopg [10, 11] (i0 + j0) (fun g1 vi vj wr => ∃ (i j m : Nat) (dk : Array α), vi = .int .i64 i ∧ vj = .int .i64 j ∧ 1 ≤ i ∧ 1 ≤ j ∧ i ≤ i0 ∧ j ≤ j0 ∧ i + j ≤ g1 ∧ wr = (putRow enc w0 blk off dk).drewN m ∧ Hid (dk.size = d.size) ∧ Hid (∀ d', Rot (md - i) md (md + j) dk d' → Rot a md b d d'))
  case atStart =>
    have h1 := B1.out
    exact ⟨i0, j0, k, d, rfl, rfl, by omega, by omega, Nat.le_refl _, Nat.le_refl _, Nat.le_refl _, rfl, rfl, fun d' h => by
      have e1 : md - i0 = a := by omega
      have e2 : md + j0 = b := by omega
      rw [e1, e2] at h; exact h⟩
  case round =>
    obtain ⟨i, j, m, dk, rfl, rfl, i1, j1, i2, j2, hg1, rfl, HS, HR⟩ := hrel
    obtain ⟨lo, hlo⟩ : ∃ lo, lo = md - i := ⟨_, rfl⟩
    have hb1 := B1.out
    have el : (md : Int) - (i : Int) = (lo : Int) := by omega
    have b0 : (md : Int) ≤ 4611686018427387903 := by omega
    have b1 : (j : Int) ≤ 4611686018427387903 := by omega
    have b2 : (i : Int) ≤ 4611686018427387903 := by omega
    by_cases hij : (i : Int) = (j : Int)
    · obtain rfl : i = j := by omega
      have hc := Lib.hid (HC.out lo md i dk m (HS.out.trans hd) (by omega) (by omega))
      have HL := Lib.hid hlo
      have HI := Lib.hid (show i ≤ md by omega)
      clear hlo hb1
      go_wp2_with (go_at_call 103; refine hc.out.mono ?_; rintro e w' ⟨rfl, d1, k1, rfl, hd1⟩)
      go_end0
      refine ⟨rfl, d1, k1, rfl, HR.out d1 ?_⟩
      have e := HL.out
      have e' := HI.out
      exact rot_same (i := i) (by omega) rfl (by rw [← e]; exact hd1)
    · by_cases hlt : (j : Int) < (i : Int)
      · obtain ⟨i', hi'⟩ : ∃ i', i' = i - j := ⟨_, rfl⟩
        have ei : (i : Int) - (j : Int) = (i' : Int) := by omega
        have hc := Lib.hid (HC.out lo md j dk m (HS.out.trans hd) (by omega) (by omega))
        have HL := Lib.hid hlo
        have HI := Lib.hid hi'
        have HM := Lib.hid (show i ≤ md by omega)
        have HB := Lib.hid (show md + j ≤ d0.size by omega)
        clear hlo hi' hb1
        go_wp2_with (go_at_call 103; refine hc.out.mono ?_; rintro e w' ⟨rfl, d1, k1, rfl, hd1⟩)
        have e3 := HI.out
        have e4 := HL.out
        have e5 := HM.out
        have e6 := HB.out
        go_roundg (i' + j)
        case measure => omega
        case rel =>
          refine ⟨i', j, k1, d1, rfl, rfl, by omega, by omega, by omega, by omega, Nat.le_refl _, rfl, Lib.hid (hd1.perm.1.trans HS.out), Lib.hid fun d' h => HR.out d' ?_⟩
          rw [show md - i' = md - i + j by omega] at h
          exact rot_more rfl (by omega) (by rw [HS.out, hd]; exact e6) (by rw [← e4]; exact hd1) h
      · obtain ⟨j', hj'⟩ : ∃ j', j' = j - i := ⟨_, rfl⟩
        obtain ⟨s, hs⟩ : ∃ s, s = md + j := ⟨_, rfl⟩
        obtain ⟨q, hq⟩ : ∃ q, q = s - i := ⟨_, rfl⟩
        have ei : (j : Int) - (i : Int) = (j' : Int) := by omega
        have es : (md : Int) + (j : Int) = (s : Int) := by omega
        have eq : (s : Int) - (i : Int) = (q : Int) := by omega
        have bs : (s : Int) ≤ 4611686018427387903 := by omega
        have hc := Lib.hid (HC.out lo q i dk m (HS.out.trans hd) (by omega) (by omega))
        have HL := Lib.hid hlo
        have HI := Lib.hid (And.intro hj' (And.intro hs hq))
        have HM := Lib.hid (show i ≤ md by omega)
        have HB := Lib.hid (show md + j ≤ d0.size by omega)
        clear hlo hj' hs hq hb1
        go_wp2_with (go_at_call 103; refine hc.out.mono ?_; rintro e w' ⟨rfl, d1, k1, rfl, hd1⟩)
        obtain ⟨e3, e7, e8⟩ := HI.out
        have e4 := HL.out
        have e5 := HM.out
        have e6 := HB.out
        go_roundg (i + j')
        case measure => omega
        case rel =>
          refine ⟨i, j', k1, d1, rfl, rfl, by omega, by omega, by omega, by omega, Nat.le_refl _, rfl, Lib.hid (hd1.perm.1.trans HS.out), Lib.hid fun d' h => HR.out d' ?_⟩
          rw [show md + j' = q by omega] at h
          exact rot_less (i := i) (q := q) (by omega) (by omega) (by omega) (by rw [HS.out, hd]; exact e6) (by rw [← e4]; exact hd1) h
end Go.Proofs.Ytpapcilffkpjjaa
