/- Contract of the library's swapRange (slices.SortStableFunc's family), whatever the row holds. -/
import Derived.Test.YtpapcilffkpjjaaPrStb
import Derived.Test.YtpapcilffkpjjaaPrIns
import Derived.KernelRfl
import Derived.Lib.Hide
namespace Go.Stb
open Go.Sort
variable {α : Type} [Inhabited α]
structure Swr (a b n : Nat) (d d' : Array α) : Prop where
  perm : PermIn a (b + n) d d'
  get : ∀ k, d'[k]! = if a ≤ k ∧ k < a + n then d[k - a + b]! else if b ≤ k ∧ k < b + n then d[k - b + a]! else d[k]!
theorem Swr.zero (a b : Nat) (d : Array α) : Swr a b 0 d d := ⟨permIn_refl d a (b + 0), fun k => by rw [if_neg (by omega), if_neg (by omega)]⟩
theorem Swr.next {a b i : Nat} {d dk : Array α} (h : Swr a b i d dk) (hab : a + i < b) (hb : b + i < d.size) : Swr a b (i + 1) d (swp dk (a + i) (b + i)) := by
  have hs : dk.size = d.size := h.perm.1
  refine ⟨permIn_trans _ _ _ _ _ (permIn_mono d dk a (b + i) a (b + (i + 1)) (Nat.le_refl _) (by omega) (by omega) h.perm) (swp_permIn dk a (b + (i + 1)) (a + i) (b + i) (by omega) (by omega) (by omega) (by omega) (by omega)), fun k => ?_⟩
  rw [swp_get dk (by omega) (by omega), h.get k, h.get (a + i), h.get (b + i)]
  by_cases h1 : k = b + i
  · rw [if_pos h1, if_neg (by omega), if_neg (by omega), if_neg (by omega), if_pos (by omega)]
    congr 1; omega
  · rw [if_neg h1]
    by_cases h2 : k = a + i
    · rw [if_pos h2, if_neg (by omega), if_neg (by omega), if_pos (by omega)]
      congr 1; omega
    · rw [if_neg h2]
      by_cases h3 : a ≤ k ∧ k < a + i
      · rw [if_pos h3, if_pos (by omega)]
      · by_cases h4 : b ≤ k ∧ k < b + i
        · rw [if_neg h3, if_pos h4, if_neg (by omega), if_pos (by omega)]
        · rw [if_neg h3, if_neg h4, if_neg (by omega), if_neg (by omega)]
end Go.Stb
namespace Go.Proofs.Ytpapcilffkpjjaa
open Go.Shelf Go.RowKit Go.Lib Go.Sort Go.Stb
variable {α : Type} [Inhabited α]

abbrev dataV (blk off n cap : Nat) : Value := .slice (some ⟨blk, off, none⟩) n cap
set_option maxHeartbeats 1600000 in
set_option maxRecDepth 100000 in
theorem swapRange_any (enc : α → Value) (hO : OneCell enc) (fv : Value) (blk off cap : Nat) (w0 : World) (d0 : Array α) (hH : Holds enc w0 blk off d0) (hsz : d0.size ≤ 4611686018427387903)
    (a b n : Nat) (d : Array α) (k : Nat) (hd : d.size = d0.size) (hab : a + n ≤ b) (hb : b + n ≤ d0.size) :
    Calls Try.prog 103 #[dataV blk off d0.size cap, .int .i64 a, .int .i64 b, .int .i64 n, fv] ((putRow enc w0 blk off d).drewN k) fun e w' =>
      e = .returned (.tuple #[]) ∧ ∃ d' k', w' = (putRow enc w0 blk off d').drewN k' ∧ Swr a b n d d' := by
  have mixed := Try.laysIns.mixed
  have hcl0 := hO.cells
  simp only [Value.cells] at hcl0
  have hst := hO.store Try.prog
  have HH : Hid (Holds enc w0 blk off d0) := hH
  clear hH
  go_enter Try.func103, Try.ntmps103
  go_wp2
  go_loopg [10] n (fun g1 vi wr => ∃ (i m : Nat) (dk : Array α), vi = .int .i64 i ∧ i ≤ n ∧ n - i ≤ g1 ∧ wr = (putRow enc w0 blk off dk).drewN m ∧ Hid (Swr a b i d dk))
  case atStart => exact ⟨0, k, d, rfl, Nat.zero_le _, Nat.le_refl _, rfl, Swr.zero a b d⟩
  case round =>
    obtain ⟨i, m, dk, rfl, hin, hg1, rfl, HS⟩ := hrel
    have hsk : dk.size = d0.size := HS.out.perm.1.trans hd
    by_cases hlt : (i : Int) < (n : Int)
    · obtain ⟨p, hp⟩ : ∃ p, p = a + i := ⟨_, rfl⟩
      obtain ⟨q, hq⟩ : ∃ q, q = b + i := ⟨_, rfl⟩
      have hHj := holds_putRow enc w0 blk off d0 dk HH.out hsk
      obtain ⟨xp, hxp⟩ : ∃ x, dk[p]! = x := ⟨_, rfl⟩
      obtain ⟨xq, hxq⟩ : ∃ x, dk[q]! = x := ⟨_, rfl⟩
      obtain ⟨cp, fp⟩ := hHj p (by omega)
      obtain ⟨cq, fq⟩ := hHj q (by omega)
      rw [hxp] at cp
      rw [hxq] at cq
      have ep : (a : Int) + (i : Int) = (p : Int) := by omega
      have eq : (b : Int) + (i : Int) = (q : Int) := by omega
      have lp : (p : Int) < (d0.size : Int) := by omega
      have lq : (q : Int) < (d0.size : Int) := by omega
      have sz : (d0.size : Int) ≤ 4611686018427387903 := by omega
      have EP := Lib.hid hp
      have EQ := Lib.hid hq
      have cp' : ((putRow enc w0 blk off dk).drewN m).cell? ⟨blk, off + p, none⟩ = some (enc xp) := cp
      have cq' : ((putRow enc w0 blk off dk).drewN m).cell? ⟨blk, off + q, none⟩ = some (enc xq) := cq
      have fp' : ((putRow enc w0 blk off dk).drewN m).frozen? ⟨blk, off + p, none⟩ = false := fp
      have fq' : ((putRow enc w0 blk off dk).drewN m).frozen? ⟨blk, off + q, none⟩ = false := fq
      have HX := Lib.hid (And.intro hxp hxq)
      have HK := Lib.hid hsk
      clear cp cq fp fq hHj hp hq hxp hxq hsk
      have ne : p ≠ q := by have := EP.out; have := EQ.out; omega
      generalize hwq : (putRow enc w0 blk off dk).drewN m = wq at cp' cq' fp' fq' ⊢
      have HW : Hid (wq = (putRow enc w0 blk off dk).drewN m) := hwq.symm
      clear hwq
      go_wp2_with fail
      go_big_region_o
      all_goals go_wp2
      go_roundg (n - (i + 1))
      case measure => omega
      case rel =>
        refine ⟨i + 1, m + 1, swp dk p q, by go_num, by omega, Nat.le_refl _, ?_, (show Hid _ from ?_)⟩
        · have hx := HX.out
          have h1 := EP.out
          have h2 := EQ.out
          rw [HW.out, ← hx.1, ← hx.2]
          exact swap_worldC enc w0 blk off dk m p q (by have := HK.out; omega) (by have := HK.out; omega)
        · show Swr _ _ _ _ _
          rw [EP.out, EQ.out]
          exact HS.out.next (by omega) (by omega)
    · go_wp2
      go_end0
      have e : i = n := by omega
      subst e
      exact ⟨rfl, dk, ⟨m, rfl⟩, HS.out⟩
end Go.Proofs.Ytpapcilffkpjjaa
