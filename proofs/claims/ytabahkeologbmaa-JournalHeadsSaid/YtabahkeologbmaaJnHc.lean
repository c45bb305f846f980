/- What a commit leaves on a disk, with power and when it goes. -/
import Derived.Test.YtabahkeologbmaaJnHo
namespace Go.Proofs.Ytabahkeologbmaa.Jn
open Go.Dk Go.Jn Go.Proofs.Ytabahkeologbmaa.Dk

theorem has_j (d : Dk) {a m : Nat} (h : a + m ≤ d.n) : d.has (a : Int) ((64 * m / 64 : Nat) : Int) = true := by
  simp only [Dk.has, Bool.and_eq_true, decide_eq_true_eq]
  omega
/-- a Write that may be -/
theorem wr_on {d : Dk} (hd : d.dead = false) {a m : Nat} {b : By} (hb : b.length = 64 * m) (h : a + m ≤ d.n) : Dk.wr d (a : Int) b = if d.fuse = 0 then (120, d.burn) else (0, d.burn.wrote a b) := by
  unfold Dk.wr
  rw [if_neg (by rw [hd]; simp), if_neg (by rw [hb, has_j d h]; simp)]
  rfl
theorem sy_on {d : Dk} (hd : d.dead = false) : Dk.sy d = if d.fuse = 0 then (120, d.burn) else (0, d.burn.sync) := by
  unfold Dk.sy; rw [if_neg (by rw [hd]; simp)]
/-- the new data's sectors -/
def nwS (rs : List By) (b : By) : By := padS ((dat (rs ++ [b])).drop (64 * ((dat rs).length / 64)))
def nwM (rs : List By) (b : By) : Nat := secs ((dat (rs ++ [b])).length - 64 * ((dat rs).length / 64))
def nwA (rs : List By) : Nat := 2 + (dat rs).length / 64
/-- the sectors with the new data -/
def laD (la : Nat → By) (rs : List By) (b : By) (i : Nat) : By := (wtW (fun _ => none) (nwA rs) (nwS rs b) (nwM rs b) i).getD (la i)
def laH (la : Nat → By) (rs : List By) (b : By) : Nat → By := upd (laD la rs b) ((rs.length + 1) % 2) (headB (rs.length + 1) (dat (rs ++ [b])).length)
theorem nwS_len (rs : List By) (b : By) : (nwS rs b).length = 64 * nwM rs b := by unfold nwS nwM; rw [padS_len, List.length_drop]
theorem nw_fit {n : Nat} {rs : List By} {b : By} (h4 : 4 ≤ n) (hfit : (dat (rs ++ [b])).length ≤ 64 * (n - 2)) : nwA rs + nwM rs b ≤ n := by
  have := dat_snoc_len rs b
  unfold nwA nwM secs
  omega
theorem nwM_pos (rs : List By) (b : By) : 1 ≤ nwM rs b := by
  have := dat_snoc_len rs b
  unfold nwM secs; omega
theorem laD_len {la : Nat → By} (h : ∀ i, (la i).length = 64) (rs : List By) (b : By) : ∀ i, (laD la rs b i).length = 64 := fun i => by
  unfold laD wtW
  split
  · rename_i hi
    exact chunk_len (by rw [nwS_len]; omega)
  · exact h i
theorem laH_len {la : Nat → By} (h : ∀ i, (la i).length = 64) (rs : List By) (b : By) : ∀ i, (laH la rs b i).length = 64 := upd_len (laD_len h rs b) (headB_len _ _)
/-- a byte of the new sectors -/
theorem chunk_nw {rs : List By} {b : By} {j : Nat} (hj : j < (dat (rs ++ [b])).length) (h : (dat rs).length / 64 ≤ j / 64) : (chunk (nwS rs b) (j / 64 - (dat rs).length / 64))[j % 64]? = (dat (rs ++ [b]))[j]? := by
  unfold chunk
  rw [List.getElem?_take, if_pos (Nat.mod_lt _ (by omega)), List.getElem?_drop]
  unfold nwS padS
  rw [List.getElem?_append_left (by rw [List.length_drop]; omega), List.getElem?_drop]
  congr 1
  omega
theorem dat_pre {rs : List By} {b : By} {j : Nat} (hj : j < (dat rs).length) : (dat (rs ++ [b]))[j]? = (dat rs)[j]? := by
  rw [dat_snoc, List.getElem?_append_left hj]
theorem laD_low {la : Nat → By} {rs : List By} {b : By} {i : Nat} (h : i < nwA rs) : laD la rs b i = la i := by
  unfold laD wtW; rw [if_neg (by omega)]; rfl
/-- behind the new data -/
theorem laD_data {d : Dk} {rs : List By} (h : Hold d rs) (b : By) : ∀ j, j < (dat (rs ++ [b])).length → (laD d.la rs b (2 + j / 64))[j % 64]? = (dat (rs ++ [b]))[j]? := fun j hj => by
  by_cases hf : (dat rs).length / 64 ≤ j / 64
  · have hm : j / 64 < (dat rs).length / 64 + nwM rs b := by have := dat_snoc_len rs b; unfold nwM secs; omega
    unfold laD wtW
    rw [if_pos (by unfold nwA; omega), Option.getD_some, show 2 + j / 64 - nwA rs = j / 64 - (dat rs).length / 64 by unfold nwA; omega]
    exact chunk_nw hj hf
  · rw [laD_low (by unfold nwA; omega), dat_pre (by omega)]
    exact h.data j (by omega)
/-- any part of the new data leaves the old ones -/
theorem mix_data {d : Dk} {rs : List By} (h : Hold d rs) (b : By) (k : Nat → Nat) : ∀ j, j < (dat rs).length →
    (match wtW (fun _ => none) (nwA rs) (nwS rs b) (nwM rs b) (2 + j / 64) with | none => d.la (2 + j / 64) | some s => mix (k (2 + j / 64)) s (d.la (2 + j / 64)))[j % 64]? = (dat rs)[j]? := fun j hj => by
  have hl := dat_snoc_len rs b
  have hold := h.data j hj
  unfold wtW
  by_cases hi : nwA rs ≤ 2 + j / 64 ∧ 2 + j / 64 < nwA rs + nwM rs b
  · rw [if_pos hi]
    have hc := chunk_nw (rs := rs) (b := b) (j := j) (by omega) (by unfold nwA at hi; omega)
    rw [show j / 64 - (dat rs).length / 64 = 2 + j / 64 - nwA rs by unfold nwA; omega, dat_pre hj] at hc
    dsimp only
    unfold mix
    have h64 : (chunk (nwS rs b) (2 + j / 64 - nwA rs)).length = 64 := chunk_len (by rw [nwS_len]; omega)
    have h65 := h.la (2 + j / 64)
    by_cases hk : j % 64 < k (2 + j / 64)
    · rw [List.getElem?_append_left (by rw [List.length_take]; omega), List.getElem?_take, if_pos hk]
      exact hc
    · rw [List.getElem?_append_right (by rw [List.length_take]; omega), List.getElem?_drop, List.length_take]
      have : k (2 + j / 64) + (j % 64 - min (k (2 + j / 64)) (chunk (nwS rs b) (2 + j / 64 - nwA rs)).length) = j % 64 := by omega
      rw [this]; exact hold
  · rw [if_neg hi]; exact hold
/-- what lasts behind a Restart, where nothing waited -/
theorem hold_rst {d : Dk} {rs : List By} (h : Hold d rs) (fs : List Int) : Hold (d.rst fs) rs := by
  have e : (d.rst fs).la = d.la := by funext i; show rstL fs d.la d.wt i = d.la i; unfold rstL; rw [h.wt]
  exact ⟨h.n4, h.n5, by rw [e]; exact h.la, rfl, h.fit, by rw [e]; exact h.head, by rw [e]; exact h.oth, by rw [e]; exact h.data⟩
/-- a disk whose parts are those of one that holds -/
theorem hold_of {d d' : Dk} {rs : List By} (h : Hold d rs) (hn : d'.n = d.n) (hla : d'.la = d.la) (hwt : d'.wt = fun _ => none) : Hold d' rs :=
  ⟨by rw [hn]; exact h.n4, by rw [hn]; exact h.n5, by rw [hla]; exact h.la, hwt, by rw [hn]; exact h.fit, by rw [hla]; exact h.head, by rw [hla]; exact h.oth, by rw [hla]; exact h.data⟩
/-- with the new data, before the head -/
theorem hold_mid {d : Dk} {rs : List By} (h : Hold d rs) (b : By) : Hold { d with la := laD d.la rs b } rs :=
  ⟨h.n4, h.n5, laD_len h.la rs b, h.wt, h.fit, (laD_low (by unfold nwA; omega)).trans h.head, by
    show Tame _ (laD d.la rs b _)
    rw [laD_low (by unfold nwA; omega)]; exact h.oth, fun j hj => by
    show (laD d.la rs b _)[_]? = _
    rw [laD_data h b j (by have := dat_snoc_len rs b; omega), dat_pre hj]⟩
/-- with the new head, too -/
theorem hold_next {d : Dk} {rs : List By} (h : Hold d rs) (b : By) (hfit : (dat (rs ++ [b])).length ≤ 64 * (d.n - 2)) : Hold { d with la := laH d.la rs b } (rs ++ [b]) := by
  have hl : (rs ++ [b]).length = rs.length + 1 := by simp
  refine ⟨h.n4, h.n5, laH_len h.la rs b, h.wt, hfit, ?_, ?_, fun j hj => ?_⟩
  · show laH d.la rs b _ = _
    rw [hl]; exact upd_same _ _ _
  · show Tame _ (laH d.la rs b _)
    rw [hl]
    unfold laH
    rw [upd_other _ _ (by omega), laD_low (by unfold nwA; omega), show (rs.length + 1 + 1) % 2 = rs.length % 2 by omega, h.head]
    exact .inl ⟨rs.length, by omega, headB_end _ _⟩
  · show (laH d.la rs b _)[_]? = _
    unfold laH
    rw [upd_other _ _ (by omega)]
    exact laD_data h b j hj
/-- a fuse that burns -/
def bn (f : Int) : Int := if 0 < f then f - 1 else f
theorem bn_or (x : Int) : (0 < x ∧ bn x = x - 1) ∨ (¬ 0 < x ∧ bn x = x) := by
  unfold bn
  by_cases h : 0 < x
  · rw [if_pos h]; exact .inl ⟨h, rfl⟩
  · rw [if_neg h]; exact .inr ⟨h, rfl⟩
theorem burn_on (n : Nat) (la : Nat → By) (wt : Nat → Option By) (f : Int) (hf : f ≠ 0) : (Dk.mk n la wt false f).burn = ⟨n, la, wt, false, bn f⟩ := by
  unfold Dk.burn bn
  dsimp only
  rw [if_neg hf]
  split <;> rfl
theorem burn_off (n : Nat) (la : Nat → By) (wt : Nat → Option By) : (Dk.mk n la wt false 0).burn = ⟨n, la, wt, true, 0⟩ := by
  unfold Dk.burn
  rw [if_pos rfl]
theorem wtW_sole (a : Nat) {s : By} (hs : s.length = 64) : wtW (fun _ => none) a s (s.length / 64) = upd (fun _ => none) a (some s) := by
  rw [hs]
  funext i
  unfold wtW upd
  by_cases h : i = a
  · subst h
    rw [if_pos ⟨Nat.le_refl _, by omega⟩, if_pos rfl]
    unfold chunk
    rw [Nat.sub_self, Nat.mul_zero, List.drop_zero, List.take_of_length_le (by omega)]
  · rw [if_neg (by omega), if_neg h]
theorem wr_at (n : Nat) (la : Nat → By) (f : Int) {a m : Nat} {b : By} (hb : b.length = 64 * m) (h : a + m ≤ n) :
    Dk.wr ⟨n, la, fun _ => none, false, f⟩ (a : Int) b = if f = 0 then (120, ⟨n, la, fun _ => none, true, 0⟩) else (0, ⟨n, la, wtW (fun _ => none) a b (b.length / 64), false, bn f⟩) := by
  rw [wr_on rfl hb h]
  by_cases hf : f = 0
  · subst hf; rw [if_pos rfl, if_pos rfl, burn_off]
  · rw [if_neg hf, if_neg hf, burn_on _ _ _ _ hf]; rfl
theorem sy_at (n : Nat) (la : Nat → By) (wt : Nat → Option By) (f : Int) :
    Dk.sy ⟨n, la, wt, false, f⟩ = if f = 0 then (120, ⟨n, la, wt, true, 0⟩) else (0, ⟨n, fun i => (wt i).getD (la i), fun _ => none, false, bn f⟩) := by
  rw [sy_on rfl]
  by_cases hf : f = 0
  · subst hf; rw [if_pos rfl, if_pos rfl, burn_off]
  · rw [if_neg hf, if_neg hf, burn_on _ _ _ _ hf]; rfl
/-- the commit's answer and disk, by the fuse -/
theorem cmt_fuse {d : Dk} {rs : List By} (h : Hold d rs) (hd : d.dead = false) (b : By) (hfit : (dat (rs ++ [b])).length ≤ 64 * (d.n - 2)) :
    cmt d (2 + (((dat rs).length / 64 : Nat) : Int)) (padS ((dat (rs ++ [b])).drop (64 * ((dat rs).length / 64)))) (((rs.length + 1) % 2 : Nat) : Int) (headB (rs.length + 1) (dat (rs ++ [b])).length) =
    (if d.fuse = 0 then (120, { d with dead := true })
     else if d.fuse = 1 then (120, { d with dead := true, fuse := 0, wt := wtW (fun _ => none) (nwA rs) (nwS rs b) (nwM rs b) })
     else if d.fuse = 2 then (120, { d with dead := true, fuse := 0, la := laD d.la rs b })
     else if d.fuse = 3 then (120, { d with dead := true, fuse := 0, la := laD d.la rs b, wt := upd (fun _ => none) ((rs.length + 1) % 2) (some (headB (rs.length + 1) (dat (rs ++ [b])).length)) })
     else (0, { d with fuse := if 0 < d.fuse then d.fuse - 4 else d.fuse, la := laH d.la rs b })) := by
  obtain ⟨n, la, wt, dead, f⟩ := d
  have hd : dead = false := hd
  subst hd
  have hwt : wt = fun _ => none := h.wt
  subst hwt
  have h4 : 4 ≤ n := h.n4
  have e1 : (2 + (((dat rs).length / 64 : Nat) : Int)) = ((nwA rs : Nat) : Int) := by unfold nwA; omega
  have hw1 := wr_at n la f (nwS_len rs b) (nw_fit h4 hfit)
  have hdiv : (nwS rs b).length / 64 = nwM rs b := by rw [nwS_len]; omega
  have hh := headB_len (rs.length + 1) (dat (rs ++ [b])).length
  have hw2 := fun la f => wr_at n la f (a := (rs.length + 1) % 2) (m := 1) hh (by omega)
  have elaD : (fun i => (wtW (fun _ => none) (nwA rs) (nwS rs b) (nwM rs b) i).getD (la i)) = laD la rs b := rfl
  have elaH : (fun i => (upd (fun _ => none) ((rs.length + 1) % 2) (some (headB (rs.length + 1) (dat (rs ++ [b])).length)) i).getD (laD la rs b i)) = laH la rs b := by
    funext i
    unfold laH upd
    by_cases hi : i = (rs.length + 1) % 2
    · rw [if_pos hi, if_pos hi]; rfl
    · rw [if_neg hi, if_neg hi]; rfl
  rw [e1]
  show cmt _ _ (nwS rs b) _ _ = _
  unfold cmt
  rw [hw1, hdiv]
  dsimp only
  by_cases h0 : f = 0
  · subst h0
    rw [if_pos rfl, if_pos rfl, if_pos (show (120 : Int) ≠ 0 by decide)]
  · rw [if_neg h0, if_neg h0, if_neg (show ¬ ((0 : Int) ≠ 0) from fun h => h rfl)]
    dsimp only
    rw [sy_at]
    by_cases h1 : f = 1
    · subst h1
      have hb : bn 1 = 0 := rfl
      rw [if_pos hb, if_pos rfl, if_pos (show (120 : Int) ≠ 0 by decide)]
    · have hb1 : bn f ≠ 0 := by have := bn_or f; omega
      rw [if_neg hb1, if_neg h1, if_neg (show ¬ ((0 : Int) ≠ 0) from fun h => h rfl)]
      dsimp only
      rw [elaD, hw2]
      by_cases h2 : f = 2
      · subst h2
        have hb : bn (bn 2) = 0 := rfl
        rw [if_pos hb, if_pos rfl, if_pos (show (120 : Int) ≠ 0 by decide)]
      · have hb2 : bn (bn f) ≠ 0 := by have := bn_or f; have := bn_or (bn f); omega
        rw [if_neg hb2, if_neg h2, if_neg (show ¬ ((0 : Int) ≠ 0) from fun h => h rfl)]
        dsimp only
        rw [sy_at, wtW_sole _ hh]
        by_cases h3 : f = 3
        · subst h3
          have hb : bn (bn (bn 3)) = 0 := rfl
          rw [if_pos hb, if_pos rfl]
        · have hb3 : bn (bn (bn f)) ≠ 0 := by have := bn_or f; have := bn_or (bn f); have := bn_or (bn (bn f)); omega
          rw [if_neg hb3, if_neg h3, elaH]
          have : bn (bn (bn (bn f))) = if 0 < f then f - 4 else f := by
            have := bn_or f; have := bn_or (bn f); have := bn_or (bn (bn f)); have := bn_or (bn (bn (bn f)))
            split <;> omega
          rw [this]
/-- behind a commit: it lies there, with power; or the power is gone, and whatever comes of what waited the old records lie there, or the new ones -/
def Cmt (d : Dk) (rs : List By) (b : By) (r : Int × Dk) : Prop :=
  r.2.n = d.n ∧ ((r.1 = 0 ∧ r.2.dead = false ∧ Hold r.2 (rs ++ [b]) ∧ r.2 = { d with fuse := if 0 < d.fuse then d.fuse - 4 else d.fuse, la := laH d.la rs b }) ∨
    (r.1 = 120 ∧ r.2.dead = true ∧ ∀ fs, Hold (r.2.rst fs) rs ∨ Hold (r.2.rst fs) (rs ++ [b])))
theorem cmt_cases {d : Dk} {rs : List By} (h : Hold d rs) (hd : d.dead = false) (b : By) (hfit : (dat (rs ++ [b])).length ≤ 64 * (d.n - 2)) {r : Int × Dk}
    (hr : cmt d (2 + (((dat rs).length / 64 : Nat) : Int)) (padS ((dat (rs ++ [b])).drop (64 * ((dat rs).length / 64)))) (((rs.length + 1) % 2 : Nat) : Int) (headB (rs.length + 1) (dat (rs ++ [b])).length) = r) : Cmt d rs b r := by
  rw [cmt_fuse h hd b hfit] at hr
  subst hr
  unfold Cmt
  by_cases h0 : d.fuse = 0
  · rw [if_pos h0]
    exact ⟨rfl, .inr ⟨rfl, rfl, fun fs => .inl (hold_rst (hold_of h rfl rfl h.wt) fs)⟩⟩
  rw [if_neg h0]
  by_cases h1 : d.fuse = 1
  · rw [if_pos h1]
    refine ⟨rfl, .inr ⟨rfl, rfl, fun fs => .inl ?_⟩⟩
    refine ⟨h.n4, h.n5, fun i => ?_, rfl, h.fit, ?_, ?_, fun j hj => ?_⟩
    · show (rstL fs d.la (wtW (fun _ => none) (nwA rs) (nwS rs b) (nwM rs b)) i).length = 64
      unfold rstL
      cases hw : wtW (fun _ => none) (nwA rs) (nwS rs b) (nwM rs b) i with
      | none => exact h.la i
      | some s =>
        have hs : s.length = 64 := by
          unfold wtW at hw
          split at hw
          · obtain rfl := Option.some.inj hw
            exact chunk_len (by rw [nwS_len]; omega)
          · cases hw
        exact mix_len hs (h.la i) (fateN_le _ _)
    · show rstL fs d.la (wtW (fun _ => none) (nwA rs) (nwS rs b) (nwM rs b)) (rs.length % 2) = _
      unfold rstL
      have : wtW (fun _ => none) (nwA rs) (nwS rs b) (nwM rs b) (rs.length % 2) = none := by unfold wtW; rw [if_neg (by unfold nwA; omega)]
      rw [this]; exact h.head
    · show Tame _ (rstL fs d.la (wtW (fun _ => none) (nwA rs) (nwS rs b) (nwM rs b)) ((rs.length + 1) % 2))
      unfold rstL
      have : wtW (fun _ => none) (nwA rs) (nwS rs b) (nwM rs b) ((rs.length + 1) % 2) = none := by unfold wtW; rw [if_neg (by unfold nwA; omega)]
      rw [this]; exact h.oth
    · exact mix_data h b (fun i => fateN fs (keysW (wtW (fun _ => none) (nwA rs) (nwS rs b) (nwM rs b)) i).length) j hj
  rw [if_neg h1]
  by_cases h2 : d.fuse = 2
  · rw [if_pos h2]
    exact ⟨rfl, .inr ⟨rfl, rfl, fun fs => .inl (hold_rst (hold_of (hold_mid h b) rfl rfl h.wt) fs)⟩⟩
  rw [if_neg h2]
  by_cases h3 : d.fuse = 3
  · rw [if_pos h3]
    refine ⟨rfl, .inr ⟨rfl, rfl, fun fs => ?_⟩⟩
    have hm := hold_mid h b
    have ela : ∀ i, rstL fs (laD d.la rs b) (upd (fun _ => none) ((rs.length + 1) % 2) (some (headB (rs.length + 1) (dat (rs ++ [b])).length))) i = upd (laD d.la rs b) ((rs.length + 1) % 2) (mix (fateN fs (keysW (upd (fun _ => none) ((rs.length + 1) % 2) (some (headB (rs.length + 1) (dat (rs ++ [b])).length))) ((rs.length + 1) % 2)).length) (headB (rs.length + 1) (dat (rs ++ [b])).length) (laD d.la rs b ((rs.length + 1) % 2))) i := fun i => by
      unfold rstL
      by_cases hi : i = (rs.length + 1) % 2
      · subst hi; rw [upd_same, upd_same]
      · rw [upd_other _ _ hi, upd_other _ _ hi]
    have hk := fateN_le fs (keysW (upd (fun _ => none) ((rs.length + 1) % 2) (some (headB (rs.length + 1) (dat (rs ++ [b])).length))) ((rs.length + 1) % 2)).length
    generalize fateN fs (keysW (upd (fun _ => none) ((rs.length + 1) % 2) (some (headB (rs.length + 1) (dat (rs ++ [b])).length))) ((rs.length + 1) % 2)).length = k at *
    have elaF : rstL fs (laD d.la rs b) (upd (fun _ => none) ((rs.length + 1) % 2) (some (headB (rs.length + 1) (dat (rs ++ [b])).length))) = upd (laD d.la rs b) ((rs.length + 1) % 2) (mix k (headB (rs.length + 1) (dat (rs ++ [b])).length) (laD d.la rs b ((rs.length + 1) % 2))) := funext ela
    rcases torn (len := (dat (rs ++ [b])).length) (hm.la ((rs.length + 1) % 2)) hk hm.oth with ht | ht
    · right
      refine hold_of (hold_next h b hfit) rfl ?_ rfl
      show rstL fs (laD d.la rs b) _ = laH d.la rs b
      rw [elaF]
      exact congrArg (upd (laD d.la rs b) ((rs.length + 1) % 2)) ht
    · left
      refine ⟨h.n4, h.n5, fun i => ?_, rfl, h.fit, ?_, ?_, fun j hj => ?_⟩
      · show (rstL fs (laD d.la rs b) _ i).length = 64
        rw [elaF]
        exact upd_len hm.la (mix_len (headB_len _ _) (hm.la _) hk) i
      · show rstL fs (laD d.la rs b) _ _ = _
        rw [elaF, upd_other _ _ (by omega)]; exact hm.head
      · show Tame _ (rstL fs (laD d.la rs b) _ _)
        rw [elaF, upd_same]; exact ht
      · show (rstL fs (laD d.la rs b) _ _)[_]? = _
        rw [elaF, upd_other _ _ (by omega)]; exact hm.data j hj
  rw [if_neg h3]
  exact ⟨rfl, .inl ⟨rfl, hd, hold_of (hold_next h b hfit) rfl rfl h.wt, rfl⟩⟩
end Go.Proofs.Ytabahkeologbmaa.Jn
