/- Contract of the library's symMerge (slices.SortStableFunc's family): one ahead of many, many ahead of one. -/
import Derived.Test.YtpapcilffkpjjaaPrRo
namespace Go.Stb
open Go.Sort
variable {α : Type} [Inhabited α]
theorem Up.start (a : Nat) (d : Array α) : Up a (a + 1) d d := ⟨permIn_refl d a (a + 1), fun t h1 h2 => by omega, by rw [Nat.add_sub_cancel]⟩
theorem Up.next {a k : Nat} {d dk : Array α} (h : Up a (k + 1) d dk) (hk : a ≤ k) (hb : k + 1 < d.size) : Up a (k + 2) d (swp dk k (k + 1)) := by
  have hs : dk.size = d.size := h.perm.1
  have hl := h.last
  rw [Nat.add_sub_cancel] at hl
  refine ⟨permIn_trans _ _ _ _ _ (permIn_mono d dk a (k + 1) a (k + 2) (Nat.le_refl _) (by omega) (by omega) h.perm) (swp_permIn dk a (k + 2) k (k + 1) hk (by omega) (by omega) (by omega) (by omega)), fun t h1 h2 => ?_, ?_⟩
  · rw [swp_get dk (by omega) (by omega), if_neg (by omega)]
    by_cases c : t = k
    · rw [if_pos c, c, h.perm.2.1 (k + 1) (by omega)]
    · rw [if_neg c]; exact h.go t h1 (by omega)
  · rw [swp_get dk (by omega) (by omega), if_pos (by omega)]
    exact hl
theorem Dn.start (m : Nat) (d : Array α) : Dn m m d d := ⟨permIn_refl d m (m + 1), fun t h1 h2 => by omega, rfl⟩
theorem Dn.next {k m : Nat} {d dk : Array α} (h : Dn (k + 1) m d dk) (hk : k < m) (hb : m < d.size) : Dn k m d (swp dk (k + 1) k) := by
  have hs : dk.size = d.size := h.perm.1
  refine ⟨permIn_trans _ _ _ _ _ (permIn_mono d dk (k + 1) (m + 1) k (m + 1) (by omega) (Nat.le_refl _) (by omega) h.perm) (swp_permIn dk k (m + 1) (k + 1) k (by omega) (by omega) (by omega) (by omega) (by omega)), fun t h1 h2 => ?_, ?_⟩
  · rw [swp_get dk (by omega) (by omega), if_neg (by omega)]
    by_cases c : t = k + 1
    · rw [if_pos c, c, h.perm.2.1 k (by omega), Nat.add_sub_cancel]
    · rw [if_neg c]; exact h.go t (by omega) h2
  · rw [swp_get dk (by omega) (by omega), if_pos rfl]
    exact h.first
end Go.Stb
namespace Go.Proofs.Ytpapcilffkpjjaa
open Go.Shelf Go.RowKit Go.Lib Go.Sort Go.Stb
variable {α : Type} [Inhabited α]

/-- what the family asks: of cmp, of the row, of the order -/
structure Ask (enc : α → Value) (cf : α → α → Int) (g : Nat) (cb : Array Value) (blk off : Nat) (w0 : World) (d0 : Array α) (R : α → α → Bool) (ix : α → Nat) : Prop where
  one : OneCell enc
  eg : ∀ args w, (callFunc g args).run Try.prog w = .ok (.enter g args) w
  cmp : CmpReads Try.prog g cb enc cf blk off d0.size w0
  row : Holds enc w0 blk off d0
  size : d0.size ≤ 4611686018427387903
  odr : Odr R (ltOf cf) ix
theorem Ask.call {enc : α → Value} {cf : α → α → Int} {g : Nat} {cb : Array Value} {blk off : Nat} {w0 : World} {d0 : Array α} {R : α → α → Bool} {ix : α → Nat} (h : Ask enc cf g cb blk off w0 d0 R ix) (X : Array α) (x y : α) (hX : X.size = d0.size) (m n : Nat) :
    Calls Try.prog g (#[enc x, enc y] ++ cb) (((putRow enc w0 blk off X).drewN m).drewN n) fun e w' => e = .returned (.int .i64 (cf x y)) ∧ ∃ q, w' = (((putRow enc w0 blk off X).drewN m).drewN n).drewN q := by
  have := h.cmp (m + n) #[] X hX x y
  rw [sortWorld_none, ← World.drewN_drewN] at this
  exact this
theorem Ask.cell {enc : α → Value} {cf : α → α → Int} {g : Nat} {cb : Array Value} {blk off : Nat} {w0 : World} {d0 : Array α} {R : α → α → Bool} {ix : α → Nat} (h : Ask enc cf g cb blk off w0 d0 R ix) (X : Array α) (hX : X.size = d0.size) (m j : Nat) (hj : j < d0.size) :
    ((putRow enc w0 blk off X).drewN m).cell? ⟨blk, off + j, none⟩ = some (enc X[j]!) ∧ ((putRow enc w0 blk off X).drewN m).frozen? ⟨blk, off + j, none⟩ = false :=
  holds_putRow enc w0 blk off d0 X h.row hX j (by omega)
omit [Inhabited α] in
theorem ask_t {cf : α → α → Int} {R : α → α → Bool} {ix : α → Nat} (h : Odr R (ltOf cf) ix) {x y : α} (hx : ix x < ix y) (hc : cf y x < 0) : R y x = true := by
  rw [← h.ok x y hx]; exact decide_eq_true hc
omit [Inhabited α] in
theorem ask_f {cf : α → α → Int} {R : α → α → Bool} {ix : α → Nat} (h : Odr R (ltOf cf) ix) {x y : α} (hx : ix x < ix y) (hc : 0 ≤ cf y x) : R y x = false := by
  rw [← h.ok x y hx]; exact decide_eq_false (Int.not_lt.2 hc)

set_option maxHeartbeats 1600000 in
set_option maxRecDepth 100000 in
theorem sym1_any (enc : α → Value) (cf : α → α → Int) (g : Nat) (cb : Array Value) (blk off cap : Nat) (w0 : World) (d0 : Array α) (R : α → α → Bool) (ix : α → Nat) (hA : Ask enc cf g cb blk off w0 d0 R ix)
    (a b : Nat) (d : Array α) (k : Nat) (hd : d.size = d0.size) (hab : a + 1 < b) (hb : b ≤ d0.size) (hT : Two R ix a (a + 1) b d) :
    Calls Try.prog 94 #[dataV blk off d0.size cap, .int .i64 a, .int .i64 ((a + 1 : Nat) : Int), .int .i64 b, .func (.func g) #[] cb] ((putRow enc w0 blk off d).drewN k) fun e w' =>
      e = .returned (.tuple #[]) ∧ ∃ d' k', w' = (putRow enc w0 blk off d').drewN k' ∧ Mg R a b d d' := by
  have mixed := Try.laysIns.mixed
  have hcl0 := hA.one.cells
  simp only [Value.cells] at hcl0
  have hst := hA.one.store Try.prog
  have eg := hA.eg
  have HA : Hid (Ask enc cf g cb blk off w0 d0 R ix) := hA
  have HT := Lib.hid hT
  have HD := Lib.hid hd
  have sz : (d0.size : Int) ≤ 4611686018427387903 := by have := hA.size; omega
  have bb : (b : Int) ≤ 4611686018427387903 := by have := hA.size; omega
  have la : (a : Int) < (d0.size : Int) := by omega
  have a0 : (0 : Int) ≤ (a : Int) := Int.natCast_nonneg _
  clear hA hT hd
  obtain ⟨md, hm⟩ : ∃ md, md = a + 1 := ⟨_, rfl⟩
  rw [← hm]
  have em : (md : Int) - (a : Int) = 1 := by omega
  have HM := Lib.hid hm
  clear hm
  go_enter Try.func94, Try.ntmps94
  go_wp2
  clear em
  go_loopg [10, 11] b (fun g1 vi vj wr => ∃ (i j m : Nat), vi = .int .i64 i ∧ vj = .int .i64 j ∧ a + 1 ≤ i ∧ i ≤ j ∧ j ≤ b ∧ j - i ≤ g1 ∧ wr = (putRow enc w0 blk off d).drewN m ∧ Hid ((a + 1 < i → R d[i - 1]! d[a]! = true) ∧ (j < b → R d[j]! d[a]! = false)))
  case atStart => exact ⟨md, b, k, rfl, rfl, by have := HM.out; omega, by have := HM.out; omega, Nat.le_refl _, by omega, rfl, ⟨fun h => by have := HM.out; omega, fun h => by omega⟩⟩
  case round =>
    obtain ⟨i, j, m, rfl, rfl, i1, ij, j2, hg1, rfl, HI⟩ := hrel
    by_cases hlt : (i : Int) < (j : Int)
    · obtain ⟨s, hs⟩ : ∃ s, s = i + j := ⟨_, rfl⟩
      obtain ⟨h, hh⟩ : ∃ h, h = s / 2 := ⟨_, rfl⟩
      have es : (i : Int) + (j : Int) = (s : Int) := by omega
      have eh : (s : Int) / 2 = (h : Int) := by omega
      have s0 : (0 : Int) ≤ (s : Int) := Int.natCast_nonneg _
      have s1 : (s : Int) ≤ 9223372036854775807 := by omega
      have h0 : (0 : Int) ≤ (h : Int) := Int.natCast_nonneg _
      have h1 : (h : Int) < (d0.size : Int) := by omega
      have HS := Lib.hid (And.intro hs hh)
      obtain ⟨ca, _⟩ := HA.out.cell d HD.out m a (by omega)
      obtain ⟨ch, _⟩ := HA.out.cell d HD.out m h (by omega)
      obtain ⟨xa, hxa⟩ : ∃ x, d[a]! = x := ⟨_, rfl⟩
      obtain ⟨xh, hxh⟩ : ∃ x, d[h]! = x := ⟨_, rfl⟩
      rw [hxa] at ca
      rw [hxh] at ch
      have hc := HA.out.call d xh xa HD.out m
      have hix := Lib.hid (show ix xa < ix xh by rw [← hxa, ← hxh]; exact HT.out.ix a h (Nat.le_refl _) (by omega) (by omega) (by omega))
      have HX := Lib.hid (And.intro hxa hxh)
      clear hs hh hxa hxh
      generalize hwq : (putRow enc w0 blk off d).drewN m = wq at ca ch hc ⊢
      have HW : Hid (wq = (putRow enc w0 blk off d).drewN m) := hwq.symm
      clear hwq
      by_cases hlv : cf xh xa < 0
      · go_wp2_with fail
        go_quiet_o (first | (go_at_fn g; refine Calls.quiet_of (hc _)))
        go_wp2
        have hs' := HS.out
        have hx' := HX.out
        go_roundg (j - (h + 1))
        case measure => omega
        case rel => exact ⟨h + 1, j, m + nq, by go_num, rfl, by omega, by omega, j2, Nat.le_refl _, by rw [HW.out, World.drewN_drewN], ⟨fun _ => by rw [Nat.add_sub_cancel, hx'.1, hx'.2]; exact ask_t HA.out.odr hix.out hlv, HI.out.2⟩⟩
      · go_wp2_with fail
        go_quiet_o (first | (go_at_fn g; refine Calls.quiet_of (hc _)))
        go_wp2
        have hs' := HS.out
        have hx' := HX.out
        go_roundg (h - i)
        case measure => omega
        case rel => exact ⟨i, h, m + nq, rfl, rfl, i1, by omega, by omega, Nat.le_refl _, by rw [HW.out, World.drewN_drewN], ⟨HI.out.1, fun _ => by rw [hx'.1, hx'.2]; exact ask_f HA.out.odr hix.out hlv⟩⟩
    · obtain rfl : i = j := by omega
      obtain ⟨ip, rfl⟩ : ∃ ip, i = ip + 1 := ⟨i - 1, by omega⟩
      have HJ := Lib.hid j2
      have eip : ((ip : Int) + 1) - 1 = (ip : Int) := by omega
      go_wp2
      go_loopg [13] b (fun g1 vk wr => ∃ (k m : Nat) (dk : Array α), vk = .int .i64 k ∧ a ≤ k ∧ k ≤ ip ∧ ip - k ≤ g1 ∧ wr = (putRow enc w0 blk off dk).drewN m ∧ Hid (Up a (k + 1) d dk))
      case atStart => exact ⟨a, m, d, rfl, Nat.le_refl _, by omega, by have := HJ.out; omega, rfl, Up.start a d⟩
      case round =>
        obtain ⟨k, m, dk, rfl, ak, kip, hg1, rfl, HU⟩ := hrel
        have hsk : dk.size = d0.size := HU.out.perm.1.trans HD.out
        by_cases hlt : (k : Int) < (ip : Int)
        · obtain ⟨q, hq⟩ : ∃ q, q = k + 1 := ⟨_, rfl⟩
          have eq : (k : Int) + 1 = (q : Int) := by omega
          have hj2 := HJ.out
          have lp : (k : Int) < (d0.size : Int) := by omega
          have lq : (q : Int) < (d0.size : Int) := by omega
          obtain ⟨cp, fp⟩ := HA.out.cell dk hsk m k (by omega)
          obtain ⟨cq, fq⟩ := HA.out.cell dk hsk m q (by omega)
          obtain ⟨xp, hxp⟩ : ∃ x, dk[k]! = x := ⟨_, rfl⟩
          obtain ⟨xq, hxq⟩ : ∃ x, dk[q]! = x := ⟨_, rfl⟩
          rw [hxp] at cp
          rw [hxq] at cq
          have HX := Lib.hid (And.intro hxp hxq)
          have HK := Lib.hid hsk
          have HQ := Lib.hid hq
          have ne : k ≠ q := by omega
          clear hq hxp hxq hsk hj2
          generalize hwq : (putRow enc w0 blk off dk).drewN m = wq at cp cq fp fq ⊢
          have HW : Hid (wq = (putRow enc w0 blk off dk).drewN m) := hwq.symm
          clear hwq
          go_wp2_with fail
          go_big_region_o
          all_goals go_wp2
          go_roundg (ip - (k + 1))
          case measure => omega
          case rel =>
            have hj2 := HJ.out
            have hq := HQ.out
            refine ⟨k + 1, m + 1, swp dk k q, by first | go_num | (congr 1; omega), by omega, by omega, Nat.le_refl _, ?_, (show Hid _ from ?_)⟩
            · have hx := HX.out
              rw [HW.out, ← hx.1, ← hx.2]
              exact swap_worldC enc w0 blk off dk m k q (by have := HK.out; omega) (by have := HK.out; omega)
            · rw [hq]
              exact HU.out.next ak (by rw [HD.out]; omega)
        · obtain rfl : k = ip := by omega
          go_wp2
          ((try simp only [Exit.inBlock, Exit.then]); refine bodyPost_ret (results_none rfl _ _ _) rfl ?_)
          refine ⟨rfl, dk, ⟨m, rfl⟩, ?_⟩
          exact up_merged HA.out.odr HT.out (by rw [HD.out]; exact hb) (by omega) HJ.out HI.out.1 HI.out.2 HU.out
end Go.Proofs.Ytpapcilffkpjjaa
