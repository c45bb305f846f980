/- CodecBack's pure half: what is put is just what may be and is not long. -/
import Derived.Test.YtjdfdihopgceoaaCdSn
import Derived.Test.YtjdfdihopgceoaaCdLo
namespace Go.Proofs.Ytjdfdihopgceoaa.Cd
open Go.RowKit Go.Shelf Go.Dk Go.Jn Go.Cod

theorem long_fit (r : Rc) : longL r = false ↔ fitCm r.cmd := by
  unfold longL fitCm
  simp only [Bool.or_eq_false_iff, decide_eq_false_iff_not, List.any_eq_false, longT, decide_eq_true_eq]
  constructor
  · rintro ⟨⟨⟨h1, h2⟩, h3⟩, h4⟩
    exact ⟨by omega, by omega, by omega, fun x hx => by have := h4 x hx; omega⟩
  · rintro ⟨h1, h2, h3, h4⟩
    exact ⟨⟨⟨by omega, by omega⟩, by omega⟩, fun x hx => by have := h4 x hx; omega⟩
theorem fit_z : fitCm zCmd := ⟨by decide, by decide, by decide, fun x hx => by simp [zCmd] at hx⟩
theorem put_iff {r : Rc} (h : OkRc true r) : (putL r).1 = 0 ↔ mayB r = true ∧ longL r = false := by
  rw [put_zero h, long_fit]
  constructor
  · rintro ⟨h1, h2⟩
    refine ⟨h1, ?_⟩
    obtain ⟨hk, hb⟩ := (may_iff r).1 h1
    rcases hk with hk | hk | hk
    · exact h2 hk
    · rw [hb.2.1 hk]; exact fit_z
    · rw [(hb.2.2 hk).1]; exact fit_z
  · rintro ⟨h1, h2⟩
    exact ⟨h1, fun _ => h2⟩
theorem put_same {b : By} {r : Rc} (h : getL b = some r) : putL r = (0, b) := by
  obtain ⟨h1, h2, h3⟩ := get_inv h
  have h4 := put_enc h1 h2
  rw [h3] at h4
  rw [← h4, ← h2]
end Go.Proofs.Ytjdfdihopgceoaa.Cd
