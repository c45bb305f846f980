/- Contract of the library's symMerge: many against many, and the whole (written by pr-sym3.py). -/
import Derived.Test.YtpapcilffkpjjaaPrSym2
namespace Go.Proofs.Ytpapcilffkpjjaa
open Go.Shelf Go.RowKit Go.Lib Go.Sort Go.Stb
variable {α : Type} [Inhabited α]

def SymDoes (enc : α → Value) (cf : α → α → Int) (g : Nat) (cb : Array Value) (blk off cap : Nat) (w0 : World) (d0 : Array α) (R : α → α → Bool) (a md b : Nat) (d : Array α) (k : Nat) : Prop :=
  Calls Try.prog 94 #[dataV blk off d0.size cap, .int .i64 a, .int .i64 md, .int .i64 b, .func (.func g) #[] cb] ((putRow enc w0 blk off d).drewN k) fun e w' =>
      e = .returned (.tuple #[]) ∧ ∃ d' k', w' = (putRow enc w0 blk off d').drewN k' ∧ Mg R a b d d'
set_option maxHeartbeats 3200000 in
set_option maxRecDepth 100000 in
theorem sym3a_any (enc : α → Value) (cf : α → α → Int) (g : Nat) (cb : Array Value) (blk off cap : Nat) (w0 : World) (d0 : Array α) (R : α → α → Bool) (ix : α → Nat) (hA : Ask enc cf g cb blk off w0 d0 R ix) (N : Nat)
    (hIH : ∀ (a md b : Nat) (d : Array α) (k : Nat), d.size = d0.size → a < md → md < b → b ≤ d0.size → b - a ≤ N → Two R ix a md b d → SymDoes enc cf g cb blk off cap w0 d0 R a md b d k)
    (a md b : Nat) (d : Array α) (k : Nat) (hd : d.size = d0.size) (h1 : a + 1 < md) (h2 : md + 1 < b) (hb : b ≤ d0.size) (hN : b - a ≤ N + 1) (hT : Two R ix a md b d) (hmm : (a + b) / 2 < md) : SymDoes enc cf g cb blk off cap w0 d0 R a md b d k := by
  unfold SymDoes at *
  have mixed := Try.laysIns.mixed
  have hcl0 := hA.one.cells
  simp only [Value.cells] at hcl0
  have hst := hA.one.store Try.prog
  have eg := hA.eg
  have HRo := Lib.hid (fun a md b d k hd ham hmb hb => rotate_any enc hA.one (.func (.func g) #[] cb) blk off cap w0 d0 hA.row hA.size a md b d k hd ham hmb hb)
  have HIH := Lib.hid hIH
  have HA : Hid (Ask enc cf g cb blk off w0 d0 R ix) := hA
  have HT := Lib.hid hT
  have HD := Lib.hid hd
  have sz : (d0.size : Int) ≤ 4611686018427387903 := by have := hA.size; omega
  clear hA hT hd hIH
  obtain ⟨ma, hma⟩ : ∃ ma, ma = md - a := ⟨_, rfl⟩
  obtain ⟨mb, hmb⟩ : ∃ mb, mb = b - md := ⟨_, rfl⟩
  obtain ⟨s0, hs0⟩ : ∃ s0, s0 = a + b := ⟨_, rfl⟩
  obtain ⟨mid, hmid⟩ : ∃ mid, mid = s0 / 2 := ⟨_, rfl⟩
  obtain ⟨n, hn⟩ : ∃ n, n = mid + md := ⟨_, rfl⟩
  obtain ⟨p, hp⟩ : ∃ p, p = n - 1 := ⟨_, rfl⟩
  obtain ⟨lo, hlo⟩ : ∃ lo, lo = n - b := ⟨_, rfl⟩
  obtain ⟨hi, hhi⟩ : ∃ hi, hi = mid := ⟨_, rfl⟩
  have e1 : (md : Int) - (a : Int) = (ma : Int) := by omega
  have e2 : (b : Int) - (md : Int) = (mb : Int) := by omega
  have n1 : ((ma : Int) == 1) = false := by rw [beq_eq_false_iff_ne]; omega
  have n2 : ((mb : Int) == 1) = false := by rw [beq_eq_false_iff_ne]; omega
  have e3 : (a : Int) + (b : Int) = (s0 : Int) := by omega
  have e4 : (s0 : Int) / 2 = (mid : Int) := by omega
  have e5 : (mid : Int) + (md : Int) = (n : Int) := by omega
  have e6 : (n : Int) - 1 = (p : Int) := by omega
  have s00 : (0 : Int) ≤ (s0 : Int) := Int.natCast_nonneg _
  have s01 : (s0 : Int) ≤ 9223372036854775807 := by omega
  have mi0 : (0 : Int) ≤ (mid : Int) := Int.natCast_nonneg _
  have mi1 : (mid : Int) ≤ 4611686018427387903 := by omega
  have md1 : (md : Int) ≤ 4611686018427387903 := by omega
  have nn1 : (n : Int) ≤ 9223372036854775807 := by omega
  have hmx : (mid : Int) < (md : Int) := by omega
  have hq : (n : Int) - (b : Int) = (lo : Int) := by omega
  have NUM := Lib.hid (show a + 1 < md ∧ md + 1 < b ∧ b ≤ d0.size ∧ s0 = a + b ∧ mid = s0 / 2 ∧ n = mid + md ∧ p = n - 1 ∧ lo = n - b ∧ hi = mid ∧ mid < md from ⟨h1, h2, hb, hs0, hmid, hn, hp, hlo, hhi, by omega⟩)
  clear hma hmb hs0 hmid hn hp hmm h1 h2 hb
  clear hlo hhi
  go_enter Try.func94, Try.ntmps94
  go_wp2
  clear e1 e2 n1 n2 e3 e4 e5 e6 hq
  go_loopg [20, 21] b (fun g1 vi vj wr => ∃ (i j m : Nat), vi = .int .i64 i ∧ vj = .int .i64 j ∧ lo ≤ i ∧ i ≤ j ∧ j ≤ hi ∧ j - i ≤ g1 ∧ wr = (putRow enc w0 blk off d).drewN m ∧ Hid ((lo < i → R d[n - i]! d[i - 1]! = false) ∧ (j < hi → R d[n - j - 1]! d[j]! = true)))
  case atStart =>
    obtain ⟨h1, h2, hb, hs0, hmid, hn, hp, hlo, hhi, hmm⟩ := NUM.out
    exact ⟨lo, mid, k, by first | rfl | (rw [hlo]) , by first | rfl | (rw [hhi]), by omega, by omega, by omega, by omega, rfl, ⟨fun h => by omega, fun h => by omega⟩⟩
  case round =>
    obtain ⟨i, j, m, rfl, rfl, i1, ij, j2, hg1, rfl, HI⟩ := hrel
    by_cases hlt : (i : Int) < (j : Int)
    · obtain ⟨h1, h2, hb, hs0, hmid, hn, hp, hlo, hhi, hmm⟩ := NUM.out
      obtain ⟨s, hs⟩ : ∃ s, s = i + j := ⟨_, rfl⟩
      obtain ⟨c, hc⟩ : ∃ c, c = s / 2 := ⟨_, rfl⟩
      obtain ⟨q, hq⟩ : ∃ q, q = p - c := ⟨_, rfl⟩
      have es : (i : Int) + (j : Int) = (s : Int) := by omega
      have ec : (s : Int) / 2 = (c : Int) := by omega
      have hpq : p = q + c := by omega
      clear hq hp
      subst hpq
      have hp : q + c = n - 1 := by have := NUM.out; omega
      have hwp : IntKind.i64.wrap (q : Int) = (q : Int) := by rw [IntKind.wrap_i64]; omega
      have s1 : (0 : Int) ≤ (s : Int) := Int.natCast_nonneg _
      have s2 : (s : Int) ≤ 9223372036854775807 := by omega
      have c0 : (0 : Int) ≤ (c : Int) := Int.natCast_nonneg _
      have c1 : (c : Int) < (d0.size : Int) := by omega
      have q0 : (0 : Int) ≤ (q : Int) := Int.natCast_nonneg _
      have q1 : (q : Int) < (d0.size : Int) := by omega
      have HS := Lib.hid (show i ≤ c ∧ c < j ∧ q = n - c - 1 ∧ n - (c + 1) = q from ⟨by omega, by omega, by omega, by omega⟩)
      obtain ⟨ca, _⟩ := HA.out.cell d HD.out m q (by omega)
      obtain ⟨ch, _⟩ := HA.out.cell d HD.out m c (by omega)
      obtain ⟨xa, hxa⟩ : ∃ x, d[q]! = x := ⟨_, rfl⟩
      obtain ⟨xh, hxh⟩ : ∃ x, d[c]! = x := ⟨_, rfl⟩
      rw [hxa] at ca
      rw [hxh] at ch
      have hcall := HA.out.call d xa xh HD.out m
      have hix := Lib.hid (show ix xh < ix xa by rw [← hxa, ← hxh]; exact HT.out.ix c q (by omega) (by omega) (by omega) (by omega))
      have HX := Lib.hid (And.intro hxa hxh)
      clear hs hc hxa hxh h1 h2 hb hs0 hmid hn hp hlo hhi hmm
      generalize hwq : (putRow enc w0 blk off d).drewN m = wq at ca ch hcall ⊢
      have HW : Hid (wq = (putRow enc w0 blk off d).drewN m) := hwq.symm
      clear hwq
      by_cases hlv : cf xa xh < 0
      · go_wp2_with fail
        go_quiet_o (first | (go_at_fn g; refine Calls.quiet_of (hcall _)))
        go_wp2
        obtain ⟨f1, f2, f3, f4⟩ := HS.out
        have hx' := HX.out
        go_roundg (c - i)
        case measure => omega
        case rel => exact ⟨i, c, m + nq, rfl, rfl, i1, f1, by omega, Nat.le_refl _, by rw [HW.out, World.drewN_drewN], ⟨HI.out.1, fun _ => by rw [← f3, hx'.1, hx'.2]; exact ask_t HA.out.odr hix.out hlv⟩⟩
      · have hlf : decide (cf xa xh < 0) = false := decide_eq_false hlv
        have HLV := Lib.hid (Int.not_lt.1 hlv)
        clear hlv
        go_wp2_with fail
        go_quiet_o (first | (go_at_fn g; refine Calls.quiet_of (hcall _)))
        go_wp2
        obtain ⟨f1, f2, f3, f4⟩ := HS.out
        have hx' := HX.out
        go_roundg (j - (c + 1))
        case measure => omega
        case rel => exact ⟨c + 1, j, m + nq, by go_num, rfl, by omega, by omega, j2, Nat.le_refl _, by rw [HW.out, World.drewN_drewN], ⟨fun _ => by rw [f4, Nat.add_sub_cancel, hx'.1, hx'.2]; exact ask_f HA.out.odr hix.out HLV.out, HI.out.2⟩⟩
    · obtain ⟨st, rfl⟩ : ∃ st, st = i := ⟨_, rfl⟩
      obtain rfl : st = j := by omega
      obtain ⟨en, hen⟩ : ∃ en, en = n - st := ⟨_, rfl⟩
      obtain ⟨h1, h2, hb, hs0, hmid, hn, hp, hlo, hhi, hmm⟩ := NUM.out
      have HL : Hid ((a < st → en < b → R d[en]! d[st - 1]! = false) ∧ (md < en → st < md → R d[en - 1]! d[st]! = true)) :=
        ⟨fun g1 g2 => by rw [hen]; exact HI.out.1 (by omega), fun g1 g2 => by rw [hen]; exact HI.out.2 (by omega)⟩
      have een : (n : Int) - (st : Int) = (en : Int) := by omega
      have F := Lib.hid (show a ≤ st ∧ st ≤ mid ∧ st ≤ md ∧ md ≤ en ∧ en ≤ b ∧ mid + md = st + en ∧ a < mid ∧ mid < b ∧ b ≤ d0.size ∧ a + 1 < md ∧ md + 1 < b from ⟨by omega, by omega, by omega, by omega, by omega, by omega, by omega, by omega, hb, h1, h2⟩)
      have en1 : (en : Int) ≤ 4611686018427387903 := by omega
      have hbb : b - a ≤ N + 1 := hN
      clear h1 h2 hb hs0 hmid hn hp hlo hhi hmm hen
      obtain ⟨f1, f2, f3, f4, f5, f6, f7, f8, f9, f10, f11⟩ := F.out
      by_cases x1 : (st : Int) < (md : Int)
      · have x1' : (mid : Int) < (en : Int) := by omega
        by_cases x2 : (md : Int) < (en : Int)
        · have x2' : (st : Int) < (mid : Int) := by omega
          by_cases x3 : (a : Int) < (st : Int)
          · by_cases x4 : (en : Int) < (b : Int)
            · go_wp2_with fail
              refine (HRo.out st md en d m HD.out (by omega) (by omega) (by omega)).mono ?_
              rintro e w' ⟨rfl, d1, k1, rfl, hr⟩
              have sp := split_of (mid := mid) HA.out.odr HT.out (by rw [HD.out]; omega) (by omega) (by omega) (by omega) (by omega) (by omega) (by omega) HL.out.1 HL.out.2 hr
              have HR1 := Lib.hid hr
              have SP := Lib.hid sp
              have Z1 : Hid (d1.size = d0.size) := hr.perm.1.trans HD.out
              clear hr sp
              go_wp2_with fail
              refine (HIH.out a st mid d1 k1 Z1.out (by omega) (by omega) (by omega) (by omega) (SP.out.one (by omega) (by omega))).mono ?_
              rintro e w' ⟨rfl, d2, k2, rfl, hg1⟩
              have G1 := Lib.hid hg1
              have Z2 : Hid (d2.size = d0.size) := hg1.1.1.trans Z1.out
              have T2 : Hid (mid < en → en < b → Two R ix mid en b d2) := fun h1 h2 => by
                have t := SP.out.two h1 h2
                exact ⟨fun i j i1 i2 i3 => by rw [hg1.1.2.1 i (by omega), hg1.1.2.1 j (by omega)]; exact t.left i j i1 i2 i3, fun i j i1 i2 i3 => by rw [hg1.1.2.1 i (by omega), hg1.1.2.1 j (by omega)]; exact t.right i j i1 i2 i3, fun p q p1 p2 q1 q2 => by rw [hg1.1.2.1 p (by omega), hg1.1.2.1 q (by omega)]; exact t.ix p q p1 p2 q1 q2⟩
              have S2 : Hid (¬ (mid < en ∧ en < b) → SortedIn R mid b d2) := fun h1 i j i1 i2 i3 => by
                rw [hg1.1.2.1 i (by omega), hg1.1.2.1 j (by omega)]; exact SP.out.two' h1 i j i1 i2 i3
              clear hg1
              go_wp2_with fail
              refine (HIH.out mid en b d2 k2 Z2.out (by omega) (by omega) (by omega) (by omega) (T2.out (by omega) (by omega))).mono ?_
              rintro e w' ⟨rfl, d3, k3, rfl, hg2⟩
              have G2 := Lib.hid hg2
              clear hg2
              go_wp2_with fail
              go_end0
              have hj := join_of (ix := ix) (mid := mid) (by rw [HD.out]; omega) (by omega) (by omega) (by omega) (by omega) HR1.out SP.out G1.out.1 G1.out.2 G2.out.1 G2.out.2
              first | exact ⟨rfl, d3, k3, rfl, hj⟩ | exact ⟨rfl, d3, ⟨k3, rfl⟩, hj⟩
            · have x4b : decide ((en : Int) < (b : Int)) = false := decide_eq_false x4
              go_wp2_with fail
              refine (HRo.out st md en d m HD.out (by omega) (by omega) (by omega)).mono ?_
              rintro e w' ⟨rfl, d1, k1, rfl, hr⟩
              have sp := split_of (mid := mid) HA.out.odr HT.out (by rw [HD.out]; omega) (by omega) (by omega) (by omega) (by omega) (by omega) (by omega) HL.out.1 HL.out.2 hr
              have HR1 := Lib.hid hr
              have SP := Lib.hid sp
              have Z1 : Hid (d1.size = d0.size) := hr.perm.1.trans HD.out
              clear hr sp
              go_wp2_with fail
              refine (HIH.out a st mid d1 k1 Z1.out (by omega) (by omega) (by omega) (by omega) (SP.out.one (by omega) (by omega))).mono ?_
              rintro e w' ⟨rfl, d2, k2, rfl, hg1⟩
              have G1 := Lib.hid hg1
              have Z2 : Hid (d2.size = d0.size) := hg1.1.1.trans Z1.out
              have T2 : Hid (mid < en → en < b → Two R ix mid en b d2) := fun h1 h2 => by
                have t := SP.out.two h1 h2
                exact ⟨fun i j i1 i2 i3 => by rw [hg1.1.2.1 i (by omega), hg1.1.2.1 j (by omega)]; exact t.left i j i1 i2 i3, fun i j i1 i2 i3 => by rw [hg1.1.2.1 i (by omega), hg1.1.2.1 j (by omega)]; exact t.right i j i1 i2 i3, fun p q p1 p2 q1 q2 => by rw [hg1.1.2.1 p (by omega), hg1.1.2.1 q (by omega)]; exact t.ix p q p1 p2 q1 q2⟩
              have S2 : Hid (¬ (mid < en ∧ en < b) → SortedIn R mid b d2) := fun h1 i j i1 i2 i3 => by
                rw [hg1.1.2.1 i (by omega), hg1.1.2.1 j (by omega)]; exact SP.out.two' h1 i j i1 i2 i3
              clear hg1
              go_wp2_with fail
              have hg2 : Mg R mid b d2 d2 := merged_none (S2.out (by omega))
              have G2 := Lib.hid hg2
              clear hg2
              go_end0
              have hj := join_of (ix := ix) (mid := mid) (by rw [HD.out]; omega) (by omega) (by omega) (by omega) (by omega) HR1.out SP.out G1.out.1 G1.out.2 G2.out.1 G2.out.2
              first | exact ⟨rfl, d2, k2, rfl, hj⟩ | exact ⟨rfl, d2, ⟨k2, rfl⟩, hj⟩
          · have x3b : decide ((a : Int) < (st : Int)) = false := decide_eq_false x3
            by_cases x4 : (en : Int) < (b : Int)
            · go_wp2_with fail
              refine (HRo.out st md en d m HD.out (by omega) (by omega) (by omega)).mono ?_
              rintro e w' ⟨rfl, d1, k1, rfl, hr⟩
              have sp := split_of (mid := mid) HA.out.odr HT.out (by rw [HD.out]; omega) (by omega) (by omega) (by omega) (by omega) (by omega) (by omega) HL.out.1 HL.out.2 hr
              have HR1 := Lib.hid hr
              have SP := Lib.hid sp
              have Z1 : Hid (d1.size = d0.size) := hr.perm.1.trans HD.out
              clear hr sp
              go_wp2_with fail
              have hg1 : Mg R a mid d1 d1 := merged_none (SP.out.one' (by omega))
              have G1 := Lib.hid hg1
              have Z2 : Hid (d1.size = d0.size) := hg1.1.1.trans Z1.out
              have T2 : Hid (mid < en → en < b → Two R ix mid en b d1) := fun h1 h2 => by
                have t := SP.out.two h1 h2
                exact ⟨fun i j i1 i2 i3 => by rw [hg1.1.2.1 i (by omega), hg1.1.2.1 j (by omega)]; exact t.left i j i1 i2 i3, fun i j i1 i2 i3 => by rw [hg1.1.2.1 i (by omega), hg1.1.2.1 j (by omega)]; exact t.right i j i1 i2 i3, fun p q p1 p2 q1 q2 => by rw [hg1.1.2.1 p (by omega), hg1.1.2.1 q (by omega)]; exact t.ix p q p1 p2 q1 q2⟩
              have S2 : Hid (¬ (mid < en ∧ en < b) → SortedIn R mid b d1) := fun h1 i j i1 i2 i3 => by
                rw [hg1.1.2.1 i (by omega), hg1.1.2.1 j (by omega)]; exact SP.out.two' h1 i j i1 i2 i3
              clear hg1
              refine (HIH.out mid en b d1 k1 Z2.out (by omega) (by omega) (by omega) (by omega) (T2.out (by omega) (by omega))).mono ?_
              rintro e w' ⟨rfl, d3, k3, rfl, hg2⟩
              have G2 := Lib.hid hg2
              clear hg2
              go_wp2_with fail
              go_end0
              have hj := join_of (ix := ix) (mid := mid) (by rw [HD.out]; omega) (by omega) (by omega) (by omega) (by omega) HR1.out SP.out G1.out.1 G1.out.2 G2.out.1 G2.out.2
              first | exact ⟨rfl, d3, k3, rfl, hj⟩ | exact ⟨rfl, d3, ⟨k3, rfl⟩, hj⟩
            · have x4b : decide ((en : Int) < (b : Int)) = false := decide_eq_false x4
              go_wp2_with fail
              refine (HRo.out st md en d m HD.out (by omega) (by omega) (by omega)).mono ?_
              rintro e w' ⟨rfl, d1, k1, rfl, hr⟩
              have sp := split_of (mid := mid) HA.out.odr HT.out (by rw [HD.out]; omega) (by omega) (by omega) (by omega) (by omega) (by omega) (by omega) HL.out.1 HL.out.2 hr
              have HR1 := Lib.hid hr
              have SP := Lib.hid sp
              have Z1 : Hid (d1.size = d0.size) := hr.perm.1.trans HD.out
              clear hr sp
              go_wp2_with fail
              have hg1 : Mg R a mid d1 d1 := merged_none (SP.out.one' (by omega))
              have G1 := Lib.hid hg1
              have Z2 : Hid (d1.size = d0.size) := hg1.1.1.trans Z1.out
              have T2 : Hid (mid < en → en < b → Two R ix mid en b d1) := fun h1 h2 => by
                have t := SP.out.two h1 h2
                exact ⟨fun i j i1 i2 i3 => by rw [hg1.1.2.1 i (by omega), hg1.1.2.1 j (by omega)]; exact t.left i j i1 i2 i3, fun i j i1 i2 i3 => by rw [hg1.1.2.1 i (by omega), hg1.1.2.1 j (by omega)]; exact t.right i j i1 i2 i3, fun p q p1 p2 q1 q2 => by rw [hg1.1.2.1 p (by omega), hg1.1.2.1 q (by omega)]; exact t.ix p q p1 p2 q1 q2⟩
              have S2 : Hid (¬ (mid < en ∧ en < b) → SortedIn R mid b d1) := fun h1 i j i1 i2 i3 => by
                rw [hg1.1.2.1 i (by omega), hg1.1.2.1 j (by omega)]; exact SP.out.two' h1 i j i1 i2 i3
              clear hg1
              have hg2 : Mg R mid b d1 d1 := merged_none (S2.out (by omega))
              have G2 := Lib.hid hg2
              clear hg2
              go_end0
              have hj := join_of (ix := ix) (mid := mid) (by rw [HD.out]; omega) (by omega) (by omega) (by omega) (by omega) HR1.out SP.out G1.out.1 G1.out.2 G2.out.1 G2.out.2
              first | exact ⟨rfl, d1, k1, rfl, hj⟩ | exact ⟨rfl, d1, ⟨k1, rfl⟩, hj⟩
        · have x2b : decide ((md : Int) < (en : Int)) = false := decide_eq_false x2
          have x2c : decide ((st : Int) < (mid : Int)) = false := decide_eq_false (by omega)
          by_cases x3 : (a : Int) < (st : Int)
          · by_cases x4 : (en : Int) < (b : Int)
            · go_wp2_with fail
              have hr : Rot st md en d d := Rot.none (by omega) (by omega) (by omega)
              have sp := split_of (mid := mid) HA.out.odr HT.out (by rw [HD.out]; omega) (by omega) (by omega) (by omega) (by omega) (by omega) (by omega) HL.out.1 HL.out.2 hr
              have HR1 := Lib.hid hr
              have SP := Lib.hid sp
              have Z1 : Hid (d.size = d0.size) := hr.perm.1.trans HD.out
              clear hr sp
              have hg1 : Mg R a mid d d := merged_none (SP.out.one' (by omega))
              have G1 := Lib.hid hg1
              have Z2 : Hid (d.size = d0.size) := hg1.1.1.trans Z1.out
              have T2 : Hid (mid < en → en < b → Two R ix mid en b d) := fun h1 h2 => by
                have t := SP.out.two h1 h2
                exact ⟨fun i j i1 i2 i3 => by rw [hg1.1.2.1 i (by omega), hg1.1.2.1 j (by omega)]; exact t.left i j i1 i2 i3, fun i j i1 i2 i3 => by rw [hg1.1.2.1 i (by omega), hg1.1.2.1 j (by omega)]; exact t.right i j i1 i2 i3, fun p q p1 p2 q1 q2 => by rw [hg1.1.2.1 p (by omega), hg1.1.2.1 q (by omega)]; exact t.ix p q p1 p2 q1 q2⟩
              have S2 : Hid (¬ (mid < en ∧ en < b) → SortedIn R mid b d) := fun h1 i j i1 i2 i3 => by
                rw [hg1.1.2.1 i (by omega), hg1.1.2.1 j (by omega)]; exact SP.out.two' h1 i j i1 i2 i3
              clear hg1
              refine (HIH.out mid en b d m Z2.out (by omega) (by omega) (by omega) (by omega) (T2.out (by omega) (by omega))).mono ?_
              rintro e w' ⟨rfl, d3, k3, rfl, hg2⟩
              have G2 := Lib.hid hg2
              clear hg2
              go_wp2_with fail
              go_end0
              have hj := join_of (ix := ix) (mid := mid) (by rw [HD.out]; omega) (by omega) (by omega) (by omega) (by omega) HR1.out SP.out G1.out.1 G1.out.2 G2.out.1 G2.out.2
              first | exact ⟨rfl, d3, k3, rfl, hj⟩ | exact ⟨rfl, d3, ⟨k3, rfl⟩, hj⟩
            · have x4b : decide ((en : Int) < (b : Int)) = false := decide_eq_false x4
              exfalso; omega
          · have x3b : decide ((a : Int) < (st : Int)) = false := decide_eq_false x3
            by_cases x4 : (en : Int) < (b : Int)
            · exfalso; omega
            · have x4b : decide ((en : Int) < (b : Int)) = false := decide_eq_false x4
              exfalso; omega
      · have x1b : decide ((st : Int) < (md : Int)) = false := decide_eq_false x1
        have x1c : decide ((mid : Int) < (en : Int)) = false := decide_eq_false (by omega)
        by_cases x2 : (md : Int) < (en : Int)
        · have x2' : (st : Int) < (mid : Int) := by omega
          by_cases x3 : (a : Int) < (st : Int)
          · by_cases x4 : (en : Int) < (b : Int)
            · exfalso; omega
            · have x4b : decide ((en : Int) < (b : Int)) = false := decide_eq_false x4
              exfalso; omega
          · have x3b : decide ((a : Int) < (st : Int)) = false := decide_eq_false x3
            by_cases x4 : (en : Int) < (b : Int)
            · exfalso; omega
            · have x4b : decide ((en : Int) < (b : Int)) = false := decide_eq_false x4
              exfalso; omega
        · have x2b : decide ((md : Int) < (en : Int)) = false := decide_eq_false x2
          have x2c : decide ((st : Int) < (mid : Int)) = false := decide_eq_false (by omega)
          by_cases x3 : (a : Int) < (st : Int)
          · by_cases x4 : (en : Int) < (b : Int)
            · exfalso; omega
            · have x4b : decide ((en : Int) < (b : Int)) = false := decide_eq_false x4
              exfalso; omega
          · have x3b : decide ((a : Int) < (st : Int)) = false := decide_eq_false x3
            by_cases x4 : (en : Int) < (b : Int)
            · exfalso; omega
            · have x4b : decide ((en : Int) < (b : Int)) = false := decide_eq_false x4
              exfalso; omega
set_option maxHeartbeats 3200000 in
set_option maxRecDepth 100000 in
theorem sym3b_any (enc : α → Value) (cf : α → α → Int) (g : Nat) (cb : Array Value) (blk off cap : Nat) (w0 : World) (d0 : Array α) (R : α → α → Bool) (ix : α → Nat) (hA : Ask enc cf g cb blk off w0 d0 R ix) (N : Nat)
    (hIH : ∀ (a md b : Nat) (d : Array α) (k : Nat), d.size = d0.size → a < md → md < b → b ≤ d0.size → b - a ≤ N → Two R ix a md b d → SymDoes enc cf g cb blk off cap w0 d0 R a md b d k)
    (a md b : Nat) (d : Array α) (k : Nat) (hd : d.size = d0.size) (h1 : a + 1 < md) (h2 : md + 1 < b) (hb : b ≤ d0.size) (hN : b - a ≤ N + 1) (hT : Two R ix a md b d) (hmm : md ≤ (a + b) / 2) : SymDoes enc cf g cb blk off cap w0 d0 R a md b d k := by
  unfold SymDoes at *
  have mixed := Try.laysIns.mixed
  have hcl0 := hA.one.cells
  simp only [Value.cells] at hcl0
  have hst := hA.one.store Try.prog
  have eg := hA.eg
  have HRo := Lib.hid (fun a md b d k hd ham hmb hb => rotate_any enc hA.one (.func (.func g) #[] cb) blk off cap w0 d0 hA.row hA.size a md b d k hd ham hmb hb)
  have HIH := Lib.hid hIH
  have HA : Hid (Ask enc cf g cb blk off w0 d0 R ix) := hA
  have HT := Lib.hid hT
  have HD := Lib.hid hd
  have sz : (d0.size : Int) ≤ 4611686018427387903 := by have := hA.size; omega
  clear hA hT hd hIH
  obtain ⟨ma, hma⟩ : ∃ ma, ma = md - a := ⟨_, rfl⟩
  obtain ⟨mb, hmb⟩ : ∃ mb, mb = b - md := ⟨_, rfl⟩
  obtain ⟨s0, hs0⟩ : ∃ s0, s0 = a + b := ⟨_, rfl⟩
  obtain ⟨mid, hmid⟩ : ∃ mid, mid = s0 / 2 := ⟨_, rfl⟩
  obtain ⟨n, hn⟩ : ∃ n, n = mid + md := ⟨_, rfl⟩
  obtain ⟨p, hp⟩ : ∃ p, p = n - 1 := ⟨_, rfl⟩
  obtain ⟨lo, hlo⟩ : ∃ lo, lo = a := ⟨_, rfl⟩
  obtain ⟨hi, hhi⟩ : ∃ hi, hi = md := ⟨_, rfl⟩
  have e1 : (md : Int) - (a : Int) = (ma : Int) := by omega
  have e2 : (b : Int) - (md : Int) = (mb : Int) := by omega
  have n1 : ((ma : Int) == 1) = false := by rw [beq_eq_false_iff_ne]; omega
  have n2 : ((mb : Int) == 1) = false := by rw [beq_eq_false_iff_ne]; omega
  have e3 : (a : Int) + (b : Int) = (s0 : Int) := by omega
  have e4 : (s0 : Int) / 2 = (mid : Int) := by omega
  have e5 : (mid : Int) + (md : Int) = (n : Int) := by omega
  have e6 : (n : Int) - 1 = (p : Int) := by omega
  have s00 : (0 : Int) ≤ (s0 : Int) := Int.natCast_nonneg _
  have s01 : (s0 : Int) ≤ 9223372036854775807 := by omega
  have mi0 : (0 : Int) ≤ (mid : Int) := Int.natCast_nonneg _
  have mi1 : (mid : Int) ≤ 4611686018427387903 := by omega
  have md1 : (md : Int) ≤ 4611686018427387903 := by omega
  have nn1 : (n : Int) ≤ 9223372036854775807 := by omega
  have hmx : decide ((md : Int) > (mid : Int)) = false := decide_eq_false (by omega)
  have hmy : ¬ (mid : Int) < (md : Int) := by omega
  have hq : True := trivial
  have NUM := Lib.hid (show a + 1 < md ∧ md + 1 < b ∧ b ≤ d0.size ∧ s0 = a + b ∧ mid = s0 / 2 ∧ n = mid + md ∧ p = n - 1 ∧ lo = a ∧ hi = md ∧ md ≤ mid from ⟨h1, h2, hb, hs0, hmid, hn, hp, hlo, hhi, by omega⟩)
  clear hma hmb hs0 hmid hn hp hmm h1 h2 hb
  clear hlo hhi
  go_enter Try.func94, Try.ntmps94
  go_wp2
  clear e1 e2 n1 n2 e3 e4 e5 e6 hq
  go_loopg [20, 21] b (fun g1 vi vj wr => ∃ (i j m : Nat), vi = .int .i64 i ∧ vj = .int .i64 j ∧ lo ≤ i ∧ i ≤ j ∧ j ≤ hi ∧ j - i ≤ g1 ∧ wr = (putRow enc w0 blk off d).drewN m ∧ Hid ((lo < i → R d[n - i]! d[i - 1]! = false) ∧ (j < hi → R d[n - j - 1]! d[j]! = true)))
  case atStart =>
    obtain ⟨h1, h2, hb, hs0, hmid, hn, hp, hlo, hhi, hmm⟩ := NUM.out
    exact ⟨a, md, k, by first | rfl | (rw [hlo]) , by first | rfl | (rw [hhi]), by omega, by omega, by omega, by omega, rfl, ⟨fun h => by omega, fun h => by omega⟩⟩
  case round =>
    obtain ⟨i, j, m, rfl, rfl, i1, ij, j2, hg1, rfl, HI⟩ := hrel
    by_cases hlt : (i : Int) < (j : Int)
    · obtain ⟨h1, h2, hb, hs0, hmid, hn, hp, hlo, hhi, hmm⟩ := NUM.out
      obtain ⟨s, hs⟩ : ∃ s, s = i + j := ⟨_, rfl⟩
      obtain ⟨c, hc⟩ : ∃ c, c = s / 2 := ⟨_, rfl⟩
      obtain ⟨q, hq⟩ : ∃ q, q = p - c := ⟨_, rfl⟩
      have es : (i : Int) + (j : Int) = (s : Int) := by omega
      have ec : (s : Int) / 2 = (c : Int) := by omega
      have hpq : p = q + c := by omega
      clear hq hp
      subst hpq
      have hp : q + c = n - 1 := by have := NUM.out; omega
      have hwp : IntKind.i64.wrap (q : Int) = (q : Int) := by rw [IntKind.wrap_i64]; omega
      have s1 : (0 : Int) ≤ (s : Int) := Int.natCast_nonneg _
      have s2 : (s : Int) ≤ 9223372036854775807 := by omega
      have c0 : (0 : Int) ≤ (c : Int) := Int.natCast_nonneg _
      have c1 : (c : Int) < (d0.size : Int) := by omega
      have q0 : (0 : Int) ≤ (q : Int) := Int.natCast_nonneg _
      have q1 : (q : Int) < (d0.size : Int) := by omega
      have HS := Lib.hid (show i ≤ c ∧ c < j ∧ q = n - c - 1 ∧ n - (c + 1) = q from ⟨by omega, by omega, by omega, by omega⟩)
      obtain ⟨ca, _⟩ := HA.out.cell d HD.out m q (by omega)
      obtain ⟨ch, _⟩ := HA.out.cell d HD.out m c (by omega)
      obtain ⟨xa, hxa⟩ : ∃ x, d[q]! = x := ⟨_, rfl⟩
      obtain ⟨xh, hxh⟩ : ∃ x, d[c]! = x := ⟨_, rfl⟩
      rw [hxa] at ca
      rw [hxh] at ch
      have hcall := HA.out.call d xa xh HD.out m
      have hix := Lib.hid (show ix xh < ix xa by rw [← hxa, ← hxh]; exact HT.out.ix c q (by omega) (by omega) (by omega) (by omega))
      have HX := Lib.hid (And.intro hxa hxh)
      clear hs hc hxa hxh h1 h2 hb hs0 hmid hn hp hlo hhi hmm
      generalize hwq : (putRow enc w0 blk off d).drewN m = wq at ca ch hcall ⊢
      have HW : Hid (wq = (putRow enc w0 blk off d).drewN m) := hwq.symm
      clear hwq
      by_cases hlv : cf xa xh < 0
      · go_wp2_with fail
        go_quiet_o (first | (go_at_fn g; refine Calls.quiet_of (hcall _)))
        go_wp2
        obtain ⟨f1, f2, f3, f4⟩ := HS.out
        have hx' := HX.out
        go_roundg (c - i)
        case measure => omega
        case rel => exact ⟨i, c, m + nq, rfl, rfl, i1, f1, by omega, Nat.le_refl _, by rw [HW.out, World.drewN_drewN], ⟨HI.out.1, fun _ => by rw [← f3, hx'.1, hx'.2]; exact ask_t HA.out.odr hix.out hlv⟩⟩
      · have hlf : decide (cf xa xh < 0) = false := decide_eq_false hlv
        have HLV := Lib.hid (Int.not_lt.1 hlv)
        clear hlv
        go_wp2_with fail
        go_quiet_o (first | (go_at_fn g; refine Calls.quiet_of (hcall _)))
        go_wp2
        obtain ⟨f1, f2, f3, f4⟩ := HS.out
        have hx' := HX.out
        go_roundg (j - (c + 1))
        case measure => omega
        case rel => exact ⟨c + 1, j, m + nq, by go_num, rfl, by omega, by omega, j2, Nat.le_refl _, by rw [HW.out, World.drewN_drewN], ⟨fun _ => by rw [f4, Nat.add_sub_cancel, hx'.1, hx'.2]; exact ask_f HA.out.odr hix.out HLV.out, HI.out.2⟩⟩
    · obtain ⟨st, rfl⟩ : ∃ st, st = i := ⟨_, rfl⟩
      obtain rfl : st = j := by omega
      obtain ⟨en, hen⟩ : ∃ en, en = n - st := ⟨_, rfl⟩
      obtain ⟨h1, h2, hb, hs0, hmid, hn, hp, hlo, hhi, hmm⟩ := NUM.out
      have HL : Hid ((a < st → en < b → R d[en]! d[st - 1]! = false) ∧ (md < en → st < md → R d[en - 1]! d[st]! = true)) :=
        ⟨fun g1 g2 => by rw [hen]; exact HI.out.1 (by omega), fun g1 g2 => by rw [hen]; exact HI.out.2 (by omega)⟩
      have een : (n : Int) - (st : Int) = (en : Int) := by omega
      have F := Lib.hid (show a ≤ st ∧ st ≤ mid ∧ st ≤ md ∧ md ≤ en ∧ en ≤ b ∧ mid + md = st + en ∧ a < mid ∧ mid < b ∧ b ≤ d0.size ∧ a + 1 < md ∧ md + 1 < b from ⟨by omega, by omega, by omega, by omega, by omega, by omega, by omega, by omega, hb, h1, h2⟩)
      have en1 : (en : Int) ≤ 4611686018427387903 := by omega
      have hbb : b - a ≤ N + 1 := hN
      clear h1 h2 hb hs0 hmid hn hp hlo hhi hmm hen
      obtain ⟨f1, f2, f3, f4, f5, f6, f7, f8, f9, f10, f11⟩ := F.out
      by_cases x1 : (st : Int) < (md : Int)
      · have x1' : (mid : Int) < (en : Int) := by omega
        by_cases x2 : (md : Int) < (en : Int)
        · have x2' : (st : Int) < (mid : Int) := by omega
          by_cases x3 : (a : Int) < (st : Int)
          · by_cases x4 : (en : Int) < (b : Int)
            · go_wp2_with fail
              refine (HRo.out st md en d m HD.out (by omega) (by omega) (by omega)).mono ?_
              rintro e w' ⟨rfl, d1, k1, rfl, hr⟩
              have sp := split_of (mid := mid) HA.out.odr HT.out (by rw [HD.out]; omega) (by omega) (by omega) (by omega) (by omega) (by omega) (by omega) HL.out.1 HL.out.2 hr
              have HR1 := Lib.hid hr
              have SP := Lib.hid sp
              have Z1 : Hid (d1.size = d0.size) := hr.perm.1.trans HD.out
              clear hr sp
              go_wp2_with fail
              refine (HIH.out a st mid d1 k1 Z1.out (by omega) (by omega) (by omega) (by omega) (SP.out.one (by omega) (by omega))).mono ?_
              rintro e w' ⟨rfl, d2, k2, rfl, hg1⟩
              have G1 := Lib.hid hg1
              have Z2 : Hid (d2.size = d0.size) := hg1.1.1.trans Z1.out
              have T2 : Hid (mid < en → en < b → Two R ix mid en b d2) := fun h1 h2 => by
                have t := SP.out.two h1 h2
                exact ⟨fun i j i1 i2 i3 => by rw [hg1.1.2.1 i (by omega), hg1.1.2.1 j (by omega)]; exact t.left i j i1 i2 i3, fun i j i1 i2 i3 => by rw [hg1.1.2.1 i (by omega), hg1.1.2.1 j (by omega)]; exact t.right i j i1 i2 i3, fun p q p1 p2 q1 q2 => by rw [hg1.1.2.1 p (by omega), hg1.1.2.1 q (by omega)]; exact t.ix p q p1 p2 q1 q2⟩
              have S2 : Hid (¬ (mid < en ∧ en < b) → SortedIn R mid b d2) := fun h1 i j i1 i2 i3 => by
                rw [hg1.1.2.1 i (by omega), hg1.1.2.1 j (by omega)]; exact SP.out.two' h1 i j i1 i2 i3
              clear hg1
              go_wp2_with fail
              refine (HIH.out mid en b d2 k2 Z2.out (by omega) (by omega) (by omega) (by omega) (T2.out (by omega) (by omega))).mono ?_
              rintro e w' ⟨rfl, d3, k3, rfl, hg2⟩
              have G2 := Lib.hid hg2
              clear hg2
              go_wp2_with fail
              go_end0
              have hj := join_of (ix := ix) (mid := mid) (by rw [HD.out]; omega) (by omega) (by omega) (by omega) (by omega) HR1.out SP.out G1.out.1 G1.out.2 G2.out.1 G2.out.2
              first | exact ⟨rfl, d3, k3, rfl, hj⟩ | exact ⟨rfl, d3, ⟨k3, rfl⟩, hj⟩
            · have x4b : decide ((en : Int) < (b : Int)) = false := decide_eq_false x4
              go_wp2_with fail
              refine (HRo.out st md en d m HD.out (by omega) (by omega) (by omega)).mono ?_
              rintro e w' ⟨rfl, d1, k1, rfl, hr⟩
              have sp := split_of (mid := mid) HA.out.odr HT.out (by rw [HD.out]; omega) (by omega) (by omega) (by omega) (by omega) (by omega) (by omega) HL.out.1 HL.out.2 hr
              have HR1 := Lib.hid hr
              have SP := Lib.hid sp
              have Z1 : Hid (d1.size = d0.size) := hr.perm.1.trans HD.out
              clear hr sp
              go_wp2_with fail
              refine (HIH.out a st mid d1 k1 Z1.out (by omega) (by omega) (by omega) (by omega) (SP.out.one (by omega) (by omega))).mono ?_
              rintro e w' ⟨rfl, d2, k2, rfl, hg1⟩
              have G1 := Lib.hid hg1
              have Z2 : Hid (d2.size = d0.size) := hg1.1.1.trans Z1.out
              have T2 : Hid (mid < en → en < b → Two R ix mid en b d2) := fun h1 h2 => by
                have t := SP.out.two h1 h2
                exact ⟨fun i j i1 i2 i3 => by rw [hg1.1.2.1 i (by omega), hg1.1.2.1 j (by omega)]; exact t.left i j i1 i2 i3, fun i j i1 i2 i3 => by rw [hg1.1.2.1 i (by omega), hg1.1.2.1 j (by omega)]; exact t.right i j i1 i2 i3, fun p q p1 p2 q1 q2 => by rw [hg1.1.2.1 p (by omega), hg1.1.2.1 q (by omega)]; exact t.ix p q p1 p2 q1 q2⟩
              have S2 : Hid (¬ (mid < en ∧ en < b) → SortedIn R mid b d2) := fun h1 i j i1 i2 i3 => by
                rw [hg1.1.2.1 i (by omega), hg1.1.2.1 j (by omega)]; exact SP.out.two' h1 i j i1 i2 i3
              clear hg1
              go_wp2_with fail
              have hg2 : Mg R mid b d2 d2 := merged_none (S2.out (by omega))
              have G2 := Lib.hid hg2
              clear hg2
              go_end0
              have hj := join_of (ix := ix) (mid := mid) (by rw [HD.out]; omega) (by omega) (by omega) (by omega) (by omega) HR1.out SP.out G1.out.1 G1.out.2 G2.out.1 G2.out.2
              first | exact ⟨rfl, d2, k2, rfl, hj⟩ | exact ⟨rfl, d2, ⟨k2, rfl⟩, hj⟩
          · have x3b : decide ((a : Int) < (st : Int)) = false := decide_eq_false x3
            by_cases x4 : (en : Int) < (b : Int)
            · go_wp2_with fail
              refine (HRo.out st md en d m HD.out (by omega) (by omega) (by omega)).mono ?_
              rintro e w' ⟨rfl, d1, k1, rfl, hr⟩
              have sp := split_of (mid := mid) HA.out.odr HT.out (by rw [HD.out]; omega) (by omega) (by omega) (by omega) (by omega) (by omega) (by omega) HL.out.1 HL.out.2 hr
              have HR1 := Lib.hid hr
              have SP := Lib.hid sp
              have Z1 : Hid (d1.size = d0.size) := hr.perm.1.trans HD.out
              clear hr sp
              go_wp2_with fail
              have hg1 : Mg R a mid d1 d1 := merged_none (SP.out.one' (by omega))
              have G1 := Lib.hid hg1
              have Z2 : Hid (d1.size = d0.size) := hg1.1.1.trans Z1.out
              have T2 : Hid (mid < en → en < b → Two R ix mid en b d1) := fun h1 h2 => by
                have t := SP.out.two h1 h2
                exact ⟨fun i j i1 i2 i3 => by rw [hg1.1.2.1 i (by omega), hg1.1.2.1 j (by omega)]; exact t.left i j i1 i2 i3, fun i j i1 i2 i3 => by rw [hg1.1.2.1 i (by omega), hg1.1.2.1 j (by omega)]; exact t.right i j i1 i2 i3, fun p q p1 p2 q1 q2 => by rw [hg1.1.2.1 p (by omega), hg1.1.2.1 q (by omega)]; exact t.ix p q p1 p2 q1 q2⟩
              have S2 : Hid (¬ (mid < en ∧ en < b) → SortedIn R mid b d1) := fun h1 i j i1 i2 i3 => by
                rw [hg1.1.2.1 i (by omega), hg1.1.2.1 j (by omega)]; exact SP.out.two' h1 i j i1 i2 i3
              clear hg1
              refine (HIH.out mid en b d1 k1 Z2.out (by omega) (by omega) (by omega) (by omega) (T2.out (by omega) (by omega))).mono ?_
              rintro e w' ⟨rfl, d3, k3, rfl, hg2⟩
              have G2 := Lib.hid hg2
              clear hg2
              go_wp2_with fail
              go_end0
              have hj := join_of (ix := ix) (mid := mid) (by rw [HD.out]; omega) (by omega) (by omega) (by omega) (by omega) HR1.out SP.out G1.out.1 G1.out.2 G2.out.1 G2.out.2
              first | exact ⟨rfl, d3, k3, rfl, hj⟩ | exact ⟨rfl, d3, ⟨k3, rfl⟩, hj⟩
            · have x4b : decide ((en : Int) < (b : Int)) = false := decide_eq_false x4
              go_wp2_with fail
              refine (HRo.out st md en d m HD.out (by omega) (by omega) (by omega)).mono ?_
              rintro e w' ⟨rfl, d1, k1, rfl, hr⟩
              have sp := split_of (mid := mid) HA.out.odr HT.out (by rw [HD.out]; omega) (by omega) (by omega) (by omega) (by omega) (by omega) (by omega) HL.out.1 HL.out.2 hr
              have HR1 := Lib.hid hr
              have SP := Lib.hid sp
              have Z1 : Hid (d1.size = d0.size) := hr.perm.1.trans HD.out
              clear hr sp
              go_wp2_with fail
              have hg1 : Mg R a mid d1 d1 := merged_none (SP.out.one' (by omega))
              have G1 := Lib.hid hg1
              have Z2 : Hid (d1.size = d0.size) := hg1.1.1.trans Z1.out
              have T2 : Hid (mid < en → en < b → Two R ix mid en b d1) := fun h1 h2 => by
                have t := SP.out.two h1 h2
                exact ⟨fun i j i1 i2 i3 => by rw [hg1.1.2.1 i (by omega), hg1.1.2.1 j (by omega)]; exact t.left i j i1 i2 i3, fun i j i1 i2 i3 => by rw [hg1.1.2.1 i (by omega), hg1.1.2.1 j (by omega)]; exact t.right i j i1 i2 i3, fun p q p1 p2 q1 q2 => by rw [hg1.1.2.1 p (by omega), hg1.1.2.1 q (by omega)]; exact t.ix p q p1 p2 q1 q2⟩
              have S2 : Hid (¬ (mid < en ∧ en < b) → SortedIn R mid b d1) := fun h1 i j i1 i2 i3 => by
                rw [hg1.1.2.1 i (by omega), hg1.1.2.1 j (by omega)]; exact SP.out.two' h1 i j i1 i2 i3
              clear hg1
              have hg2 : Mg R mid b d1 d1 := merged_none (S2.out (by omega))
              have G2 := Lib.hid hg2
              clear hg2
              go_end0
              have hj := join_of (ix := ix) (mid := mid) (by rw [HD.out]; omega) (by omega) (by omega) (by omega) (by omega) HR1.out SP.out G1.out.1 G1.out.2 G2.out.1 G2.out.2
              first | exact ⟨rfl, d1, k1, rfl, hj⟩ | exact ⟨rfl, d1, ⟨k1, rfl⟩, hj⟩
        · have x2b : decide ((md : Int) < (en : Int)) = false := decide_eq_false x2
          have x2c : decide ((st : Int) < (mid : Int)) = false := decide_eq_false (by omega)
          by_cases x3 : (a : Int) < (st : Int)
          · by_cases x4 : (en : Int) < (b : Int)
            · exfalso; omega
            · have x4b : decide ((en : Int) < (b : Int)) = false := decide_eq_false x4
              exfalso; omega
          · have x3b : decide ((a : Int) < (st : Int)) = false := decide_eq_false x3
            by_cases x4 : (en : Int) < (b : Int)
            · exfalso; omega
            · have x4b : decide ((en : Int) < (b : Int)) = false := decide_eq_false x4
              exfalso; omega
      · have x1b : decide ((st : Int) < (md : Int)) = false := decide_eq_false x1
        have x1c : decide ((mid : Int) < (en : Int)) = false := decide_eq_false (by omega)
        by_cases x2 : (md : Int) < (en : Int)
        · have x2' : (st : Int) < (mid : Int) := by omega
          by_cases x3 : (a : Int) < (st : Int)
          · by_cases x4 : (en : Int) < (b : Int)
            · go_wp2_with fail
              have hr : Rot st md en d d := Rot.none (by omega) (by omega) (by omega)
              have sp := split_of (mid := mid) HA.out.odr HT.out (by rw [HD.out]; omega) (by omega) (by omega) (by omega) (by omega) (by omega) (by omega) HL.out.1 HL.out.2 hr
              have HR1 := Lib.hid hr
              have SP := Lib.hid sp
              have Z1 : Hid (d.size = d0.size) := hr.perm.1.trans HD.out
              clear hr sp
              refine (HIH.out a st mid d m Z1.out (by omega) (by omega) (by omega) (by omega) (SP.out.one (by omega) (by omega))).mono ?_
              rintro e w' ⟨rfl, d2, k2, rfl, hg1⟩
              have G1 := Lib.hid hg1
              have Z2 : Hid (d2.size = d0.size) := hg1.1.1.trans Z1.out
              have T2 : Hid (mid < en → en < b → Two R ix mid en b d2) := fun h1 h2 => by
                have t := SP.out.two h1 h2
                exact ⟨fun i j i1 i2 i3 => by rw [hg1.1.2.1 i (by omega), hg1.1.2.1 j (by omega)]; exact t.left i j i1 i2 i3, fun i j i1 i2 i3 => by rw [hg1.1.2.1 i (by omega), hg1.1.2.1 j (by omega)]; exact t.right i j i1 i2 i3, fun p q p1 p2 q1 q2 => by rw [hg1.1.2.1 p (by omega), hg1.1.2.1 q (by omega)]; exact t.ix p q p1 p2 q1 q2⟩
              have S2 : Hid (¬ (mid < en ∧ en < b) → SortedIn R mid b d2) := fun h1 i j i1 i2 i3 => by
                rw [hg1.1.2.1 i (by omega), hg1.1.2.1 j (by omega)]; exact SP.out.two' h1 i j i1 i2 i3
              clear hg1
              go_wp2_with fail
              have hg2 : Mg R mid b d2 d2 := merged_none (S2.out (by omega))
              have G2 := Lib.hid hg2
              clear hg2
              go_end0
              have hj := join_of (ix := ix) (mid := mid) (by rw [HD.out]; omega) (by omega) (by omega) (by omega) (by omega) HR1.out SP.out G1.out.1 G1.out.2 G2.out.1 G2.out.2
              first | exact ⟨rfl, d2, k2, rfl, hj⟩ | exact ⟨rfl, d2, ⟨k2, rfl⟩, hj⟩
            · have x4b : decide ((en : Int) < (b : Int)) = false := decide_eq_false x4
              exfalso; omega
          · have x3b : decide ((a : Int) < (st : Int)) = false := decide_eq_false x3
            by_cases x4 : (en : Int) < (b : Int)
            · exfalso; omega
            · have x4b : decide ((en : Int) < (b : Int)) = false := decide_eq_false x4
              exfalso; omega
        · have x2b : decide ((md : Int) < (en : Int)) = false := decide_eq_false x2
          have x2c : decide ((st : Int) < (mid : Int)) = false := decide_eq_false (by omega)
          by_cases x3 : (a : Int) < (st : Int)
          · by_cases x4 : (en : Int) < (b : Int)
            · go_wp2_with fail
              have hr : Rot st md en d d := Rot.none (by omega) (by omega) (by omega)
              have sp := split_of (mid := mid) HA.out.odr HT.out (by rw [HD.out]; omega) (by omega) (by omega) (by omega) (by omega) (by omega) (by omega) HL.out.1 HL.out.2 hr
              have HR1 := Lib.hid hr
              have SP := Lib.hid sp
              have Z1 : Hid (d.size = d0.size) := hr.perm.1.trans HD.out
              clear hr sp
              have hg1 : Mg R a mid d d := merged_none (SP.out.one' (by omega))
              have G1 := Lib.hid hg1
              have Z2 : Hid (d.size = d0.size) := hg1.1.1.trans Z1.out
              have T2 : Hid (mid < en → en < b → Two R ix mid en b d) := fun h1 h2 => by
                have t := SP.out.two h1 h2
                exact ⟨fun i j i1 i2 i3 => by rw [hg1.1.2.1 i (by omega), hg1.1.2.1 j (by omega)]; exact t.left i j i1 i2 i3, fun i j i1 i2 i3 => by rw [hg1.1.2.1 i (by omega), hg1.1.2.1 j (by omega)]; exact t.right i j i1 i2 i3, fun p q p1 p2 q1 q2 => by rw [hg1.1.2.1 p (by omega), hg1.1.2.1 q (by omega)]; exact t.ix p q p1 p2 q1 q2⟩
              have S2 : Hid (¬ (mid < en ∧ en < b) → SortedIn R mid b d) := fun h1 i j i1 i2 i3 => by
                rw [hg1.1.2.1 i (by omega), hg1.1.2.1 j (by omega)]; exact SP.out.two' h1 i j i1 i2 i3
              clear hg1
              have hg2 : Mg R mid b d d := merged_none (S2.out (by omega))
              have G2 := Lib.hid hg2
              clear hg2
              go_end0
              have hj := join_of (ix := ix) (mid := mid) (by rw [HD.out]; omega) (by omega) (by omega) (by omega) (by omega) HR1.out SP.out G1.out.1 G1.out.2 G2.out.1 G2.out.2
              first | exact ⟨rfl, d, m, rfl, hj⟩ | exact ⟨rfl, d, ⟨m, rfl⟩, hj⟩
            · have x4b : decide ((en : Int) < (b : Int)) = false := decide_eq_false x4
              exfalso; omega
          · have x3b : decide ((a : Int) < (st : Int)) = false := decide_eq_false x3
            by_cases x4 : (en : Int) < (b : Int)
            · exfalso; omega
            · have x4b : decide ((en : Int) < (b : Int)) = false := decide_eq_false x4
              exfalso; omega
theorem symMerge_any (enc : α → Value) (cf : α → α → Int) (g : Nat) (cb : Array Value) (blk off cap : Nat) (w0 : World) (d0 : Array α) (R : α → α → Bool) (ix : α → Nat) (hA : Ask enc cf g cb blk off w0 d0 R ix) : ∀ (N a md b : Nat) (d : Array α) (k : Nat), d.size = d0.size → a < md → md < b → b ≤ d0.size → b - a ≤ N → Two R ix a md b d → SymDoes enc cf g cb blk off cap w0 d0 R a md b d k := by
  intro N
  induction N with
  | zero => intro a md b d k hd h1 h2 hb hN; omega
  | succ N ih =>
    intro a md b d k hd h1 h2 hb hN hT
    by_cases c1 : md = a + 1
    · subst c1
      exact sym1_any enc cf g cb blk off cap w0 d0 R ix hA a b d k hd h2 hb hT
    · by_cases c2 : b = md + 1
      · subst c2
        exact sym2_any enc cf g cb blk off cap w0 d0 R ix hA a md d k hd (by omega) hb hT
      · by_cases c3 : (a + b) / 2 < md
        · exact sym3a_any enc cf g cb blk off cap w0 d0 R ix hA N ih a md b d k hd (by omega) (by omega) hb hN hT c3
        · exact sym3b_any enc cf g cb blk off cap w0 d0 R ix hA N ih a md b d k hd (by omega) (by omega) hb hN hT (by omega)
end Go.Proofs.Ytpapcilffkpjjaa
