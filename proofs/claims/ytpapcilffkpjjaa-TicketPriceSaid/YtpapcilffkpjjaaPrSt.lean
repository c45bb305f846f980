/- Contract of the library's stable sort by a closure: slices.SortStableFunc over a row whose places ascend. -/
import Derived.Test.YtpapcilffkpjjaaPrSym3
namespace Go.Stb
open Go.Sort
variable {α : Type} [Inhabited α]
/-- the first t blocks of twenty are sorted, the rest lies as it lay -/
structure Ini (R : α → α → Bool) (ix : α → Nat) (n t : Nat) (d0 d : Array α) : Prop where
  perm : PermIn 0 n d0 d
  srt : ∀ s, s < t → SortedIn R (s * 20) (s * 20 + 20) d
  far : ∀ k, t * 20 ≤ k → d[k]! = d0[k]!
  bnd : ∀ s, Bnd ix n (s * 20) d
def Asc (ix : α → Nat) (n : Nat) (d : Array α) : Prop := ∀ p q, p < q → q < n → ix d[p]! < ix d[q]!
theorem ini_start {R : α → α → Bool} {ix : α → Nat} {n : Nat} {d : Array α} (h : Asc ix n d) : Ini R ix n 0 d d :=
  ⟨permIn_refl d 0 n, fun s hs => absurd hs (Nat.not_lt_zero _), fun _ _ => rfl, fun s p q h1 h2 h3 => h p q (by omega) h3⟩
theorem ini_asc {R : α → α → Bool} {ix : α → Nat} {n t : Nat} {d0 d : Array α} (h : Ini R ix n t d0 d) (ha : Asc ix n d0) : ∀ p q, t * 20 ≤ p → p < q → q < n → ix d[p]! < ix d[q]! :=
  fun p q h1 h2 h3 => by rw [h.far p h1, h.far q (by omega)]; exact ha p q h2 h3
theorem ini_next {R : α → α → Bool} {ix : α → Nat} {n t : Nat} {d0 d d' : Array α} (h : Ini R ix n t d0 d) (hn : n ≤ d0.size) (ht : t * 20 + 20 ≤ n) (hm : Mg R (t * 20) (t * 20 + 20) d d') : Ini R ix n (t + 1) d0 d' := by
  have hs : d.size = d0.size := h.perm.1
  refine ⟨permIn_trans _ _ _ 0 n h.perm (permIn_mono d d' _ _ 0 n (Nat.zero_le _) ht (by omega) hm.1), fun s hs' => ?_, fun k hk => ?_, fun s => ?_⟩
  · by_cases c : s = t
    · subst c; exact hm.2
    · intro i j i1 i2 i3
      rw [hm.1.2.1 i (by omega), hm.1.2.1 j (by omega)]
      exact h.srt s (by omega) i j i1 i2 i3
  · rw [hm.1.2.1 k (by omega)]; exact h.far k (by omega)
  · exact (h.bnd s).perm hm.1 (by omega) ht (by omega)
theorem ini_end {R : α → α → Bool} {ix : α → Nat} {n t : Nat} {d0 d d' : Array α} (h : Ini R ix n t d0 d) (hn : n ≤ d0.size) (h1 : t * 20 ≤ n) (h2 : n < t * 20 + 20) (hm : Mg R (t * 20) n d d') : Blks R ix n 20 d0 d' := by
  have hs : d.size = d0.size := h.perm.1
  refine ⟨permIn_trans _ _ _ 0 n h.perm (permIn_mono d d' _ _ 0 n (Nat.zero_le _) (Nat.le_refl _) (by omega) hm.1), fun s => ?_, fun s => ?_⟩
  · intro i j i1 i2 i3
    by_cases c : s < t
    · rw [hm.1.2.1 i (by omega), hm.1.2.1 j (by omega)]
      exact h.srt s c i j i1 i2 (by omega)
    · exact hm.2 i j (by omega) i2 (by omega)
  · by_cases c : s ≤ t
    · exact (h.bnd s).perm hm.1 (by omega) (Nat.le_refl _) (by omega)
    · exact (h.bnd s).perm hm.1 (by omega) (Nat.le_refl _) (by omega)
end Go.Stb
namespace Go.Proofs.Ytpapcilffkpjjaa
open Go.Shelf Go.RowKit Go.Lib Go.Sort Go.Stb
variable {α : Type} [Inhabited α]

theorem ins_any (enc : α → Value) (cf : α → α → Int) (g : Nat) (cb : Array Value) (blk off cap : Nat) (w0 : World) (d0 : Array α) (R : α → α → Bool) (ix : α → Nat) (hA : Ask enc cf g cb blk off w0 d0 R ix) (hlow : blk < w0.heap.size)
    (a b : Nat) (d : Array α) (k : Nat) (hd : d.size = d0.size) (hab : a ≤ b) (hb : b ≤ d0.size) (hx : ∀ p q, a ≤ p → p < q → q < b → ix d[p]! < ix d[q]!) :
    Calls Try.prog 93 #[dataV blk off d0.size cap, .int .i64 a, .int .i64 b, .func (.func g) #[] cb] ((putRow enc w0 blk off d).drewN k) fun e w' =>
      e = .returned (.tuple #[]) ∧ ∃ d' k', w' = (putRow enc w0 blk off d').drewN k' ∧ Mg R a b d d' := by
  have hcmp : CmpReads Try.prog g cb enc cf blk off d.size ((putRow enc w0 blk off d).drewN k) := by
    intro m os dk hdk x y
    have e : sortWorld enc ((putRow enc w0 blk off d).drewN k) blk off m dk os = sortWorld enc w0 blk off (k + m) dk os := by
      have := sortWorld_on enc w0 blk off k m d dk #[] os hlow hdk
      rw [sortWorld_none] at this
      rw [this]
      congr 1
      simp
    rw [e]
    exact hA.cmp (k + m) os dk (hdk.trans hd) x y
  have hH : Holds enc ((putRow enc w0 blk off d).drewN k) blk off d := fun j hj => hA.cell d hd k j (by omega)
  have hsz := hA.size
  have h := Any.insertionSortCmpFunc_one Try.laysIns enc hA.one cf g cb blk off cap a b d _ hA.eg hcmp hH hab (by omega) (by omega)
  rw [hd] at h
  refine Calls.mono (show Calls Try.prog 93 _ _ _ from h) ?_
  rintro e w' ⟨rfl, n, rfl⟩
  have hm := ins_all hA.odr a b d hab (by omega) hx
  refine ⟨rfl, insertionSort (ltOf cf) d a b, k + n, ?_, hm⟩
  rw [← World.drewN_drewN]
  show ((putRow enc (putRow enc w0 blk off d) blk off _).drewN k).drewN n = _
  rw [putRow_putRow enc w0 blk off d _ hm.1.1]

set_option maxHeartbeats 1600000 in
set_option maxRecDepth 100000 in
theorem stable_any (enc : α → Value) (cf : α → α → Int) (g : Nat) (cb : Array Value) (blk off cap : Nat) (w0 : World) (d0 : Array α) (R : α → α → Bool) (ix : α → Nat) (hA : Ask enc cf g cb blk off w0 d0 R ix) (hlow : blk < w0.heap.size) (hasc : Asc ix d0.size d0) :
    Calls Try.prog 76 #[dataV blk off d0.size cap, .int .i64 d0.size, .func (.func g) #[] cb] w0 fun e w' =>
      e = .returned (.tuple #[]) ∧ ∃ d' k', w' = (putRow enc w0 blk off d').drewN k' ∧ Mg R 0 d0.size d0 d' := by
  have HI := Lib.hid (fun a b d k hd hab hb hx => ins_any enc cf g cb blk off cap w0 d0 R ix hA hlow a b d k hd hab hb hx)
  have HM := Lib.hid (fun a md b d k hd h1 h2 hb hT => by have := symMerge_any enc cf g cb blk off cap w0 d0 R ix hA (b - a) a md b d k hd h1 h2 hb (Nat.le_refl _) hT; unfold SymDoes at this; exact this)
  have HA : Hid (Asc ix d0.size d0) := hasc
  have H0 : Hid (w0 = (putRow enc w0 blk off d0).drewN 0) := (putRow_self enc w0 blk off d0 hA.row).symm
  obtain ⟨n, hn⟩ : ∃ n, n = d0.size := ⟨_, rfl⟩
  have sz : (n : Int) ≤ 4611686018427387903 := by have := hA.size; omega
  have sz0 : (0 : Int) ≤ (n : Int) := Int.natCast_nonneg _
  rw [← hn] at HI HM HA ⊢
  have HN := Lib.hid (show n ≤ d0.size by omega)
  have hn' := hn
  have HE := Lib.hid hn'
  clear hA hasc hlow hn hn'
  go_enter Try.func76, Try.ntmps76
  go_wp2
  go_loopg [7, 8] n (fun g1 va vb wr => ∃ (t A B m : Nat) (dk : Array α), va = .int .i64 A ∧ vb = .int .i64 B ∧ Hid (A = t * 20) ∧ Hid (B = A + 20) ∧ A ≤ n ∧ n - A ≤ g1 ∧ wr = (putRow enc w0 blk off dk).drewN m ∧ Hid (Ini R ix n t d0 dk))
  case atStart => exact ⟨0, 0, 20, 0, d0, rfl, rfl, rfl, rfl, Nat.zero_le _, by omega, H0.out, ini_start HA.out⟩
  case round =>
    obtain ⟨t, A, B, m, dk, rfl, rfl, hAt, hB, hAn, hg1, rfl, HS⟩ := hrel
    have e1 := hAt.out
    have e2 := hB.out
    have hs : dk.size = n := HS.out.perm.1.trans HE.out.symm
    by_cases hlt : (B : Int) ≤ (n : Int)
    · have hc := Lib.hid (HI.out A B dk m hs (by omega) (by omega) (fun p q h1 h2 h3 => ini_asc HS.out HA.out p q (by omega) h2 (by omega)))
      obtain ⟨C, hC⟩ : ∃ C, C = B + 20 := ⟨_, rfl⟩
      have eC : (B : Int) + 20 = (C : Int) := by omega
      have HC := Lib.hid hC
      clear e1 e2 hC hs
      go_wp2_with (go_at_call 93; refine hc.out.mono ?_; rintro e w' ⟨rfl, d1, k1, rfl, hm⟩)
      have e1 := hAt.out
      have e2 := hB.out
      have e3 := HC.out
      go_roundg (n - B)
      case measure => omega
      case rel =>
        refine ⟨t + 1, B, C, k1, d1, rfl, rfl, Lib.hid (by omega), Lib.hid (by omega), by omega, Nat.le_refl _, rfl, Lib.hid ?_⟩
        rw [e1] at hm
        rw [e2, e1] at hm
        exact ini_next HS.out HN.out (by omega) hm
    · have hc := Lib.hid (HI.out A n dk m hs hAn (Nat.le_refl _) (fun p q h1 h2 h3 => ini_asc HS.out HA.out p q (by omega) h2 h3))
      have HB := Lib.hid (show n < t * 20 + 20 by omega)
      clear e1 e2 hs
      go_wp2_with (go_at_call 93; refine hc.out.mono ?_; rintro e w' ⟨rfl, d1, k1, rfl, hm⟩)
      have hb20 : Hid (Blks R ix n 20 d0 d1) := by
        have e1 := hAt.out
        rw [e1] at hm
        exact ini_end HS.out HN.out (by omega) HB.out hm
      clear hm
      go_loopg [6, 7, 8, 9] n (fun g1 vs _ _ _ wr => ∃ (bs m : Nat) (dk : Array α), vs = .int .i64 bs ∧ 20 ≤ bs ∧ n - bs ≤ g1 ∧ wr = (putRow enc w0 blk off dk).drewN m ∧ Hid (Blks R ix n bs d0 dk))
      case atStart => exact ⟨20, k1, d1, rfl, Nat.le_refl _, by omega, rfl, hb20⟩
      case round =>
        obtain ⟨bs, m, dk, rfl, hbs, hg1, rfl, HS2⟩ := hrel
        clear HS hc HB hb20
        by_cases hlt : (bs : Int) < (n : Int)
        · obtain ⟨c, hc⟩ : ∃ c, c = 2 * bs := ⟨_, rfl⟩
          have ec : 2 * (bs : Int) = (c : Int) := by omega
          have ec' : (bs : Int) * 2 = (c : Int) := by omega
          have c1 : (c : Int) ≤ 9223372036854775806 := by omega
          have HC := Lib.hid hc
          clear hc
          go_wp2
          go_loopg [7, 8] n (fun g1 va vb wr => ∃ (u A B m : Nat) (dk : Array α), va = .int .i64 A ∧ vb = .int .i64 B ∧ Hid (A = u * (2 * bs)) ∧ Hid (B = A + 2 * bs) ∧ A ≤ n ∧ n - A ≤ g1 ∧ wr = (putRow enc w0 blk off dk).drewN m ∧ Hid (Blks2 R ix n bs u d0 dk))
          case atStart => exact ⟨0, 0, c, m, dk, rfl, rfl, Lib.hid (by omega), Lib.hid (by have := HC.out; omega), Nat.zero_le _, by omega, rfl, blks2_start HS2.out⟩
          case round =>
            obtain ⟨u, A, B, m, dk, rfl, rfl, hAt, hB, hAn, hg1, rfl, HS3⟩ := hrel
            have e1 := hAt.out
            have e2 := hB.out
            have e3 := HC.out
            have hs : dk.size = n := HS3.out.perm.1.trans HE.out.symm
            have hT := blks2_two HS3.out
            rw [← e1, ← e2] at hT
            obtain ⟨M, hM⟩ : ∃ M, M = A + bs := ⟨_, rfl⟩
            have eM : (A : Int) + (bs : Int) = (M : Int) := by omega
            rw [← hM] at hT
            have M1 : (M : Int) ≤ 9223372036854775807 := by omega
            by_cases hlt2 : (B : Int) ≤ (n : Int)
            · rw [Nat.min_eq_left (by omega), Nat.min_eq_left (by omega)] at hT
              have hcall := Lib.hid (HM.out A M B dk m hs (by omega) (by omega) (by omega) hT)
              obtain ⟨B', hB'⟩ : ∃ B', B' = B + c := ⟨_, rfl⟩
              have eB : (B : Int) + (c : Int) = (B' : Int) := by omega
              have B1 : (B' : Int) ≤ 9223372036854775807 := by omega
              have HX := Lib.hid (And.intro hM hB')
              clear e1 e2 e3 hM hB' hs hT
              go_wp2_with (go_at_call 94; refine hcall.out.mono ?_; rintro e w' ⟨rfl, d2, k2, rfl, hm⟩)
              have e1 := hAt.out
              have e2 := hB.out
              have e3 := HC.out
              have hx := HX.out
              go_roundg (n - B)
              case measure => omega
              case rel =>
                refine ⟨u + 1, B, B', k2, d2, rfl, rfl, Lib.hid (by rw [Nat.add_mul, Nat.one_mul, ← e1]; exact e2), Lib.hid (by omega), by omega, Nat.le_refl _, rfl, Lib.hid ?_⟩
                refine blks2_next HS3.out HN.out ?_
                rw [← e1, ← e2, Nat.min_eq_left (by omega)]
                exact hm
            · by_cases hlt3 : (M : Int) < (n : Int)
              · rw [Nat.min_eq_left (by omega), Nat.min_eq_right (by omega)] at hT
                have hcall := Lib.hid (HM.out A M n dk m hs (by omega) (by omega) (Nat.le_refl _) hT)
                have HX := Lib.hid hM
                clear e1 e2 e3 hM hs hT
                go_wp2_with (go_at_call 94; refine hcall.out.mono ?_; rintro e w' ⟨rfl, d2, k2, rfl, hm⟩)
                have e1 := hAt.out
                have e2 := hB.out
                have e3 := HC.out
                have hx := HX.out
                go_roundg (n - c)
                case measure => omega
                case rel =>
                  refine ⟨c, k2, d2, rfl, by omega, Nat.le_refl _, rfl, Lib.hid ?_⟩
                  rw [e3]
                  refine blks2_end (u := u + 1) (blks2_next HS3.out HN.out ?_) ?_
                  · rw [← e1, ← e2, Nat.min_eq_right (by omega)]
                    exact hm
                  · rw [Nat.add_mul, Nat.one_mul, ← e1]; omega
              · have HX := Lib.hid hM
                clear e1 e2 e3 hM hs hT
                go_wp2
                have e1 := hAt.out
                have e2 := hB.out
                have e3 := HC.out
                have hx := HX.out
                go_roundg (n - c)
                case measure => omega
                case rel =>
                  refine ⟨c, m, dk, rfl, by omega, Nat.le_refl _, rfl, Lib.hid ?_⟩
                  rw [e3]
                  exact blks2_end HS3.out (by rw [← e1]; omega)
        · go_wp2
          go_end0
          first | exact ⟨rfl, dk, m, rfl, blks_all HS2.out (by omega)⟩ | exact ⟨rfl, dk, ⟨m, rfl⟩, blks_all HS2.out (by omega)⟩
theorem sortStable_any (enc : α → Value) (cf : α → α → Int) (g : Nat) (cb : Array Value) (blk off cap : Nat) (w0 : World) (d0 : Array α) (R : α → α → Bool) (ix : α → Nat) (hA : Ask enc cf g cb blk off w0 d0 R ix) (hlow : blk < w0.heap.size) (hasc : Asc ix d0.size d0) :
    Calls Try.prog 62 #[dataV blk off d0.size cap, .func (.func g) #[] cb] w0 fun e w' =>
      e = .returned (.tuple #[]) ∧ ∃ d' k', w' = (putRow enc w0 blk off d').drewN k' ∧ Mg R 0 d0.size d0 d' := by
  have HS := Lib.hid (stable_any enc cf g cb blk off cap w0 d0 R ix hA hlow hasc)
  clear hA hasc
  go_enter Try.func62, Try.ntmps62
  go_wp2_with (go_at_call 76; refine HS.out.mono ?_; rintro e w' ⟨rfl, d2, k2, rfl, hm⟩)
  go_end0
  first | exact ⟨rfl, d2, k2, rfl, hm⟩ | exact ⟨rfl, d2, ⟨k2, rfl⟩, hm⟩
end Go.Proofs.Ytpapcilffkpjjaa
