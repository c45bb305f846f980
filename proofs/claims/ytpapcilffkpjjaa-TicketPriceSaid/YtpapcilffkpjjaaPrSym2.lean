/- Contract of the library's symMerge: many ahead of one. -/
import Derived.Test.YtpapcilffkpjjaaPrSym1
namespace Go.Proofs.Ytpapcilffkpjjaa
open Go.Shelf Go.RowKit Go.Lib Go.Sort Go.Stb
variable {α : Type} [Inhabited α]

set_option maxHeartbeats 1600000 in
set_option maxRecDepth 100000 in
theorem sym2_any (enc : α → Value) (cf : α → α → Int) (g : Nat) (cb : Array Value) (blk off cap : Nat) (w0 : World) (d0 : Array α) (R : α → α → Bool) (ix : α → Nat) (hA : Ask enc cf g cb blk off w0 d0 R ix)
    (a md : Nat) (d : Array α) (k : Nat) (hd : d.size = d0.size) (hab : a + 1 < md) (hb : md + 1 ≤ d0.size) (hT : Two R ix a md (md + 1) d) :
    Calls Try.prog 94 #[dataV blk off d0.size cap, .int .i64 a, .int .i64 md, .int .i64 ((md + 1 : Nat) : Int), .func (.func g) #[] cb] ((putRow enc w0 blk off d).drewN k) fun e w' =>
      e = .returned (.tuple #[]) ∧ ∃ d' k', w' = (putRow enc w0 blk off d').drewN k' ∧ Mg R a (md + 1) d d' := by
  have mixed := Try.laysIns.mixed
  have hcl0 := hA.one.cells
  simp only [Value.cells] at hcl0
  have hst := hA.one.store Try.prog
  have eg := hA.eg
  have HA : Hid (Ask enc cf g cb blk off w0 d0 R ix) := hA
  have HT := Lib.hid hT
  have HD := Lib.hid hd
  have sz : (d0.size : Int) ≤ 4611686018427387903 := by have := hA.size; omega
  have lm : (md : Int) < (d0.size : Int) := by omega
  have m0 : (0 : Int) ≤ (md : Int) := Int.natCast_nonneg _
  clear hA hT hd
  obtain ⟨b, hbm⟩ : ∃ b, b = md + 1 := ⟨_, rfl⟩
  obtain ⟨ma, hma⟩ : ∃ ma, ma = md - a := ⟨_, rfl⟩
  rw [← hbm] at hb ⊢
  have em : (b : Int) - (md : Int) = 1 := by omega
  have ea : (md : Int) - (a : Int) = (ma : Int) := by omega
  have na : ((ma : Int) == 1) = false := by rw [beq_eq_false_iff_ne]; omega
  have HM := Lib.hid hbm
  clear hbm hma
  go_enter Try.func94, Try.ntmps94
  go_wp2
  clear em ea na
  go_loopg [14, 15] b (fun g1 vi vj wr => ∃ (i j m : Nat), vi = .int .i64 i ∧ vj = .int .i64 j ∧ a ≤ i ∧ i ≤ j ∧ j ≤ md ∧ j - i ≤ g1 ∧ wr = (putRow enc w0 blk off d).drewN m ∧ Hid ((a < i → R d[md]! d[i - 1]! = false) ∧ (j < md → R d[md]! d[j]! = true)))
  case atStart => exact ⟨a, md, k, rfl, rfl, Nat.le_refl _, by omega, Nat.le_refl _, by have := HM.out; omega, rfl, ⟨fun h => by omega, fun h => by omega⟩⟩
  case round =>
    obtain ⟨i, j, m, rfl, rfl, i1, ij, j2, hg1, rfl, HI⟩ := hrel
    by_cases hlt : (i : Int) < (j : Int)
    · obtain ⟨s, hs⟩ : ∃ s, s = i + j := ⟨_, rfl⟩
      obtain ⟨h, hh⟩ : ∃ h, h = s / 2 := ⟨_, rfl⟩
      have es : (i : Int) + (j : Int) = (s : Int) := by omega
      have eh : (s : Int) / 2 = (h : Int) := by omega
      have s0 : (0 : Int) ≤ (s : Int) := Int.natCast_nonneg _
      have s1 : (s : Int) ≤ 9223372036854775807 := by omega
      have h0 : (0 : Int) ≤ (h : Int) := Int.natCast_nonneg _
      have h1 : (h : Int) < (d0.size : Int) := by omega
      have HS := Lib.hid (And.intro hs hh)
      obtain ⟨ca, _⟩ := HA.out.cell d HD.out m md (by omega)
      obtain ⟨ch, _⟩ := HA.out.cell d HD.out m h (by omega)
      obtain ⟨xa, hxa⟩ : ∃ x, d[md]! = x := ⟨_, rfl⟩
      obtain ⟨xh, hxh⟩ : ∃ x, d[h]! = x := ⟨_, rfl⟩
      rw [hxa] at ca
      rw [hxh] at ch
      have hc := HA.out.call d xa xh HD.out m
      have hix := Lib.hid (show ix xh < ix xa by rw [← hxa, ← hxh]; exact HT.out.ix h md (by omega) (by omega) (Nat.le_refl _) (by omega))
      have HX := Lib.hid (And.intro hxa hxh)
      clear hs hh hxa hxh
      generalize hwq : (putRow enc w0 blk off d).drewN m = wq at ca ch hc ⊢
      have HW : Hid (wq = (putRow enc w0 blk off d).drewN m) := hwq.symm
      clear hwq
      by_cases hlv : cf xa xh < 0
      · go_wp2_with fail
        go_quiet_o (first | (go_at_fn g; refine Calls.quiet_of (hc _)))
        go_wp2
        have hs' := HS.out
        have hx' := HX.out
        go_roundg (h - i)
        case measure => omega
        case rel => exact ⟨i, h, m + nq, rfl, rfl, i1, by omega, by omega, Nat.le_refl _, by rw [HW.out, World.drewN_drewN], ⟨HI.out.1, fun _ => by rw [hx'.1, hx'.2]; exact ask_t HA.out.odr hix.out hlv⟩⟩
      · have hlf : decide (cf xa xh < 0) = false := decide_eq_false hlv
        have HLV := Lib.hid (Int.not_lt.1 hlv)
        clear hlv
        go_wp2_with fail
        go_quiet_o (first | (go_at_fn g; refine Calls.quiet_of (hc _)))
        go_wp2
        have hs' := HS.out
        have hx' := HX.out
        go_roundg (j - (h + 1))
        case measure => omega
        case rel => exact ⟨h + 1, j, m + nq, by go_num, rfl, by omega, by omega, j2, Nat.le_refl _, by rw [HW.out, World.drewN_drewN], ⟨fun _ => by rw [Nat.add_sub_cancel, hx'.1, hx'.2]; exact ask_f HA.out.odr hix.out HLV.out, HI.out.2⟩⟩
    · obtain rfl : i = j := by omega
      have HJ := Lib.hid j2
      go_wp2
      go_loopg [17] b (fun g1 vk wr => ∃ (k m : Nat) (dk : Array α), vk = .int .i64 k ∧ i ≤ k ∧ k ≤ md ∧ k ≤ g1 ∧ wr = (putRow enc w0 blk off dk).drewN m ∧ Hid (Dn k md d dk))
      case atStart => exact ⟨md, m, d, rfl, j2, Nat.le_refl _, by have := HM.out; omega, rfl, Dn.start md d⟩
      case round =>
        obtain ⟨k, m, dk, rfl, ak, kip, hg1, rfl, HU⟩ := hrel
        have hsk : dk.size = d0.size := HU.out.perm.1.trans HD.out
        by_cases hlt : (i : Int) < (k : Int)
        · obtain ⟨q, hq⟩ : ∃ q, q = k - 1 := ⟨_, rfl⟩
          have eq : (k : Int) - 1 = (q : Int) := by omega
          have lp : (k : Int) < (d0.size : Int) := by omega
          have lq : (q : Int) < (d0.size : Int) := by omega
          obtain ⟨cp, fp⟩ := HA.out.cell dk hsk m k (by omega)
          obtain ⟨cq, fq⟩ := HA.out.cell dk hsk m q (by omega)
          obtain ⟨xp, hxp⟩ : ∃ x, dk[k]! = x := ⟨_, rfl⟩
          obtain ⟨xq, hxq⟩ : ∃ x, dk[q]! = x := ⟨_, rfl⟩
          rw [hxp] at cp
          rw [hxq] at cq
          have HX := Lib.hid (And.intro hxp hxq)
          have HK := Lib.hid hsk
          have ne : k ≠ q := by omega
          have HQ := Lib.hid hq
          clear hq hxp hxq hsk
          generalize hwq : (putRow enc w0 blk off dk).drewN m = wq at cp cq fp fq ⊢
          have HW : Hid (wq = (putRow enc w0 blk off dk).drewN m) := hwq.symm
          clear hwq
          go_wp2_with fail
          go_big_region_o
          all_goals go_wp2
          go_roundg q
          case measure => have hq := HQ.out; omega
          case rel =>
            have hq := HQ.out
            refine ⟨q, m + 1, swp dk k q, by first | rfl | go_num | (congr 1; omega), by omega, by omega, Nat.le_refl _, ?_, (show Hid _ from ?_)⟩
            · have hx := HX.out
              rw [HW.out, ← hx.1, ← hx.2]
              exact swap_worldC enc w0 blk off dk m k q (by have := HK.out; omega) (by have := HK.out; omega)
            · obtain rfl : k = q + 1 := by omega
              exact HU.out.next (by omega) (by rw [HD.out]; omega)
        · obtain rfl : i = k := by omega
          go_wp2
          ((try simp only [Exit.inBlock, Exit.then]); refine bodyPost_ret (results_none rfl _ _ _) rfl ?_)
          refine ⟨rfl, dk, ⟨m, rfl⟩, ?_⟩
          have hb' := HM.out
          have hb2 := hb
          rw [hb'] at hb2 ⊢
          exact dn_merged HA.out.odr HT.out (by rw [HD.out]; exact hb2) i1 HJ.out HI.out.1 HI.out.2 HU.out
end Go.Proofs.Ytpapcilffkpjjaa
