/- The walk of EdiSigns: a segment's text has no byte too many. -/
import Derived.Test.YtihcpoigfhnceaaEdiRd
import Derived.Test.YtihcpoigfhnceaaEdiHv
namespace Go.Proofs.Ytihcpoigfhnceaa
open Go.RowKit Go.Edi

/-- how many bytes components, elements and segments take in a text -/
def cT : List Tx → Nat
  | [] => 0
  | t :: r => (mkd t).length + cT r
def cE : List (List Tx) → Nat
  | [] => 0
  | e :: r => (e.length + cT e) + cE r
def cS : List Sg → Nat
  | [] => 0
  | s :: r => (4 + cE s.els) + cS r
theorem cT_app (a b : List Tx) : cT (a ++ b) = cT a + cT b := by
  induction a with
  | nil => simp [cT]
  | cons t r ih => simp [cT, ih]; omega
theorem cE_app (a b : List (List Tx)) : cE (a ++ b) = cE a + cE b := by
  induction a with
  | nil => simp [cE]
  | cons t r ih => simp [cE, ih]; omega
theorem cS_app (a b : List Sg) : cS (a ++ b) = cS a + cS b := by
  induction a with
  | nil => simp [cS]
  | cons t r ih => simp [cS, ih]; omega
theorem cT_snoc (l : List Tx) (k : Nat) (h : k < l.length) : cT (l.take (k + 1)) = cT (l.take k) + (mkd l[k]).length := by
  rw [← List.take_append_getElem h, cT_app]; simp [cT]
theorem cE_snoc (l : List (List Tx)) (k : Nat) (h : k < l.length) : cE (l.take (k + 1)) = cE (l.take k) + (l[k].length + cT l[k]) := by
  rw [← List.take_append_getElem h, cE_app]; simp [cE]
theorem cS_snoc (l : List Sg) (k : Nat) (h : k < l.length) : cS (l.take (k + 1)) = cS (l.take k) + (4 + cE l[k].els) := by
  rw [← List.take_append_getElem h, cS_app]; simp [cS]
theorem cT_le (l : List Tx) (k : Nat) : cT (l.take k) ≤ cT l := by
  have := cT_app (l.take k) (l.drop k); rw [List.take_append_drop] at this; omega
theorem cE_le (l : List (List Tx)) (k : Nat) : cE (l.take k) ≤ cE l := by
  have := cE_app (l.take k) (l.drop k); rw [List.take_append_drop] at this; omega
theorem cS_le (l : List Sg) (k : Nat) : cS (l.take k) ≤ cS l := by
  have := cS_app (l.take k) (l.drop k); rw [List.take_append_drop] at this; omega
theorem jnT_one (x : UInt8) (l : List Tx) : (jnT [x] (l.map mkd)).length = l.length + cT l := by
  induction l with
  | nil => rfl
  | cons t r ih => simp [jnT, cT, ih]; omega
theorem elT_len (e : List Tx) (h : 0 < e.length) : (elT e).length + 1 = e.length + cT e := by
  match e, h with
  | t :: r, _ => simp [elT, jn, cT, jnT_one]; omega
theorem els_len (els : List (List Tx)) (h : ∀ e ∈ els, 0 < e.length) : (jnT [43] (els.map elT)).length = cE els := by
  induction els with
  | nil => rfl
  | cons e r ih =>
    have h1 := elT_len e (h e (List.mem_cons_self ..))
    have h2 := ih (fun x hx => h x (List.mem_cons_of_mem _ hx))
    simp [jnT, cE, h2]; omega
theorem txT_cS (l : List Sg) (h : l.all wholeS = true) : (txT l).length = cS l := by
  induction l with
  | nil => rfl
  | cons s r ih =>
    simp only [List.all_cons, Bool.and_eq_true] at h
    have h1 := ih h.2
    have hw := h.1
    simp only [wholeS, Bool.and_eq_true, List.all_eq_true, decide_eq_true_eq] at hw
    have h3 : s.tag.length = 3 := by
      have := hw.1
      unfold isTag at this
      split at this
      · rename_i e; rw [e]; rfl
      · simp at this
    have h4 := els_len s.els hw.2
    simp [txT, cS, sgT, jn, h1, h4, h3]; omega
theorem printL_whole {l : List Sg} (h : (printL l).2 = 0) : l.all wholeS = true ∧ (txT l).length ≤ 65536 := by
  unfold printL at h
  split at h
  · rename_i h1
    split at h
    · split at h
      · split at h
        · simp at h
        · rename_i h4; exact ⟨h1, by omega⟩
      · simp at h
    · simp at h
  · simp at h
theorem txT_last (l : List Sg) (h : 0 < (txT l).length) (h' : (txT l).length - 1 < (txT l).length) : (txT l)[(txT l).length - 1]'h' = 39 := by
  have key : ∀ l : List Sg, l ≠ [] → ∃ a, txT l = a ++ [39] := by
    intro l
    induction l with
    | nil => intro h; exact absurd rfl h
    | cons s r ih =>
      intro _
      by_cases hr : r = []
      · subst hr; exact ⟨sgT s, by simp [txT]⟩
      · obtain ⟨a, ha⟩ := ih hr
        exact ⟨sgT s ++ 39 :: a, by simp [txT, ha]⟩
  have hne : l ≠ [] := by rintro rfl; simp [txT] at h
  obtain ⟨a, ha⟩ := key l hne
  have : (txT l)[(txT l).length - 1]? = some 39 := by rw [ha]; simp
  rw [List.getElem?_eq_getElem h'] at this
  exact Option.some.inj this
theorem mkd_take_le (t : Tx) (q : Nat) : (mkd (t.take q)).length ≤ (mkd t).length := by
  have := mkd_app (t.take q) (t.drop q); rw [List.take_append_drop] at this; rw [this]; simp
set_option maxRecDepth 100000 in
set_option maxHeartbeats 6400000 in
theorem signs_walk (l : List Sg) (v : Value) (w : World) (hv : SegsF w (· < w.heap.size) v l) :
    Calls Try.prog 9 #[v] w fun e w' => e = .returned (.bool true) ∧ Below w.heap.size w w' := by
  have HV := Lib.hid hv
  have HH := Lib.hid (heavy_any l v w hv)
  clear hv
  go_enter Try.func9, Try.ntmps9
  go_wp2_with (go_at_call 10; refine (HH.out).mono ?_)
  rintro e w1 hh
  obtain ⟨⟨r, rfl, hli⟩, hb1⟩ := hh
  have HB1 := Lib.hid hb1
  clear hb1
  cases r with
  | true =>
    go_wp2
    go_ret
    exact ⟨rfl, HB1.out⟩
  | false =>
    have HLI := Lib.hid (hli rfl)
    clear hli
    have HPR := Lib.hid (print_any l v w1 (HV.out.later HB1.out) HLI.out.sane)
    go_wp2_with (go_at_call 12; refine (HPR.out).mono ?_)
    first | rintro e w2 rfl hb2 | rintro e w2 ⟨rfl, hb2⟩
    have HB2 := Lib.hid (HB1.out.trans (hb2.mono HB1.out.size))
    clear hb2
    by_cases hpr : (((printL l).2 : Nat) : Int) = 0
    · have hpo := printL_ok l (by omega)
      have hw := printL_whole (l := l) (by omega)
      have HCS := Lib.hid (txT_cS l hw.1)
      have HTL := Lib.hid hw.2
      rw [hpo]
      have HLG := Lib.hid HLI.out.1
      obtain ⟨xa, ⟨pa, capa, rfl, hna, hpa⟩, hxa⟩ := HV.out
      have HPA := Lib.hid hpa
      have HXA := Lib.hid hxa
      have hbz : (l.length : Int) ≤ 80 := by have := HLI.out.1; omega
      clear hpr hpo hw hpa hxa HPR HH
      go_wp2
      go_loopw [5, 6] (fun u i wr => ∃ (k n : Nat), i = .int .i64 k ∧ u = .int .i64 n ∧ Hid (n = cS (l.take k)) ∧ k ≤ l.length ∧ Below w.heap.size w wr) (fun _ i _ => l.length - (intOf i).toNat)
      case atStart => exact ⟨0, 0, rfl, rfl, Lib.hid rfl, Nat.zero_le _, HB2.out⟩
      case round =>
        obtain ⟨k, n, rfl, rfl, HN, hk, hbl⟩ := hrel
        have HB := Lib.hid hbl
        have hn0 : (0 : Int) ≤ (n : Int) := Int.natCast_nonneg _
        by_cases hlt : (k : Int) < (l.length : Int)
        · have hkl : k < l.length := by omega
          have hk0 : (0 : Int) ≤ (k : Int) := Int.natCast_nonneg _
          obtain ⟨ba, oa, rfl, hFa, hca⟩ := HPA.out (by omega)
          obtain ⟨_, pea, capea, ysa, a2, _, rowa, ela⟩ := seg_cells (wr := wr) hca HXA.out (hbl.block ba hFa) hkl
          have A2 : ∀ wz : World, Below w.heap.size w wz → wz.cell? ⟨ba, oa + k * 2 + 1, none⟩ = some (.slice pea (l[k]'hkl).els.length capea) := fun wz hz =>
            (World.cell?_of_block (a := ⟨ba, oa + k * 2 + 1, none⟩) ((hz.block ba hFa).trans (hbl.block ba hFa).symm)).trans a2
          have HSN := Lib.hid (cS_snoc l k hkl)
          have HSL := Lib.hid (HLI.out.2 _ (List.getElem_mem hkl))
          generalize l[k]'hkl = y at *
          have HTOT := Lib.hid (show n + (4 + cE y.els) ≤ 65536 by have h1 := HN.out; have h2 := HSN.out; have h3 := cS_le l (k + 1); have h4 := HCS.out; have h5 := HTL.out; omega)
          have HA2 := Lib.hid A2
          have HRA := Lib.hid rowa
          have HEA := Lib.hid ela
          have hn5 : (n : Int) ≤ 65536 := by have := HTOT.out; omega
          have hbe : (y.els.length : Int) ≤ 40 := by have := HSL.out.2.1; omega
          clear hbl hca rowa ela A2
          go_wp2
          go_loopw [5, 7] (fun u i wr => ∃ (j n2 : Nat), i = .int .i64 j ∧ u = .int .i64 n2 ∧ Hid (n2 = n + 4 + cE (y.els.take j)) ∧ j ≤ y.els.length ∧ Below w.heap.size w wr) (fun _ i _ => y.els.length - (intOf i).toNat)
          case atStart => exact ⟨0, n + 4, rfl, by simp, Lib.hid rfl, Nat.zero_le _, HB.out⟩
          case round =>
            obtain ⟨j, n2, rfl, rfl, HN2, hj, hbl⟩ := hrel
            have HBJ := Lib.hid hbl
            have a2 := HA2.out _ hbl
            have hn20 : (0 : Int) ≤ (n2 : Int) := Int.natCast_nonneg _
            by_cases hlt2 : (j : Int) < (y.els.length : Int)
            · have hjl : j < y.els.length := by omega
              have hj0 : (0 : Int) ≤ (j : Int) := Int.natCast_nonneg _
              obtain ⟨pr, capr, hre, _, hpr⟩ := HRA.out
              simp only [Value.slice.injEq, true_and] at hre
              obtain ⟨rfl, rfl⟩ := hre
              obtain ⟨b2a, o2a, rfl, hF2a, hc3a⟩ := hpr (by omega)
              obtain ⟨pja, capja, hcja, _, hsta⟩ := el_cell (wr := wr) hc3a HEA.out (hbl.block b2a hF2a) hjl
              have J2 : ∀ wz : World, Below w.heap.size w wz → wz.cell? ⟨b2a, o2a + j, none⟩ = some (.slice pja (y.els[j]'hjl).length capja) := fun wz hz =>
                (World.cell?_of_block (a := ⟨b2a, o2a + j, none⟩) ((hz.block b2a hF2a).trans (hbl.block b2a hF2a).symm)).trans hcja
              have HSE := Lib.hid (cE_snoc y.els j hjl)
              have HEL := Lib.hid (HSL.out.2.2 _ (List.getElem_mem hjl))
              generalize y.els[j]'hjl = z at *
              have HTO2 := Lib.hid (show n2 + (z.length + cT z) ≤ 65536 by have h1 := HN2.out; have h2 := HSE.out; have h3 := cE_le y.els (j + 1); have h4 := HTOT.out; omega)
              have HSTA := Lib.hid hsta
              have HJ2 := Lib.hid J2
              have hn25 : (n2 : Int) + (z.length : Int) ≤ 65536 := by have := HTO2.out; omega
              have hz0 : (0 : Int) ≤ (z.length : Int) := Int.natCast_nonneg _
              clear hbl hc3a hsta J2
              go_wp2
              go_loopw [5, 8] (fun u i wr => ∃ (m n3 : Nat), i = .int .i64 m ∧ u = .int .i64 n3 ∧ Hid (n3 = n2 + z.length + cT (z.take m)) ∧ m ≤ z.length ∧ Below w.heap.size w wr) (fun _ i _ => z.length - (intOf i).toNat)
              case atStart => exact ⟨0, n2 + z.length, rfl, by simp, Lib.hid rfl, Nat.zero_le _, HBJ.out⟩
              case round =>
                obtain ⟨m, n3, rfl, rfl, HN3, hm, hbl⟩ := hrel
                have HBM := Lib.hid hbl
                have a2 := HA2.out _ hbl
                have j2 := HJ2.out _ hbl
                have hn30 : (0 : Int) ≤ (n3 : Int) := Int.natCast_nonneg _
                by_cases hlt3 : (m : Int) < (z.length : Int)
                · have hml : m < z.length := by omega
                  have hm0 : (0 : Int) ≤ (m : Int) := Int.natCast_nonneg _
                  obtain ⟨pq, capq, hqe, _, hpq⟩ := HSTA.out
                  simp only [Value.slice.injEq, true_and] at hqe
                  obtain ⟨rfl, rfl⟩ := hqe
                  obtain ⟨b3a, o3a, rfl, hF3a, hc4a⟩ := hpq (by omega)
                  have hcka : wr.cell? ⟨b3a, o3a + m, none⟩ = some (str (z[m]'hml)) := (World.cell?_of_block (a := ⟨b3a, o3a + m, none⟩) (hbl.block b3a hF3a)).trans (hc4a m _ (by rw [List.getElem?_map, List.getElem?_eq_getElem hml]; rfl))
                  have HST := Lib.hid (cT_snoc z m hml)
                  have HLT := Lib.hid (HEL.out.2 _ (List.getElem_mem hml))
                  generalize z[m]'hml = t at *
                  have hszt : (tx t).size = t.length := by simp [tx, ByteArray.size]
                  have HTO3 := Lib.hid (show n3 + (mkd t).length ≤ 65536 by have h1 := HN3.out; have h2 := HST.out; have h3 := cT_le z (m + 1); have h4 := HTO2.out; omega)
                  have hbt : (t.length : Int) ≤ 3000 := by have := HLT.out; omega
                  clear hbl hc4a
                  go_wp2
                  go_loopw [5, 10] (fun u i wr => ∃ (q n4 : Nat), i = .int .i64 q ∧ u = .int .i64 n4 ∧ Hid (n4 = n3 + (mkd (t.take q)).length) ∧ q ≤ t.length ∧ Below w.heap.size w wr) (fun _ i _ => t.length - (intOf i).toNat)
                  case atStart => exact ⟨0, n3, rfl, rfl, Lib.hid rfl, Nat.zero_le _, HBM.out⟩
                  case round =>
                    obtain ⟨q, n4, rfl, rfl, HN4, hq, hbl⟩ := hrel
                    have HBQ := Lib.hid hbl
                    have hn40 : (0 : Int) ≤ (n4 : Int) := Int.natCast_nonneg _
                    have hn45 : (n4 : Int) ≤ 65536 := by have h1 := HN4.out; have h2 := mkd_take_le t q; have h3 := HTO3.out; omega
                    clear hbl
                    by_cases hlt4 : (q : Int) < (t.length : Int)
                    · have hql : q < t.length := by omega
                      have hq0 : (0 : Int) ≤ (q : Int) := Int.natCast_nonneg _
                      have hqz : q < (tx t).size := by omega
                      have hq8 := rSign_any ((tx t)[q]'hqz)
                      have hmk : mkd (t.take (q + 1)) = mkd (t.take q) ++ mkd [(tx t)[q]'hqz] := by rw [take_at t q hql, mkd_app]; rfl
                      by_cases hs : sgn ((tx t)[q]'hqz) = true
                      · rw [hs] at hq8
                        have HM := Lib.hid (show (mkd (t.take (q + 1))).length = (mkd (t.take q)).length + 2 by rw [hmk]; simp [mkd, hs])
                        clear hmk
                        go_wp2_with (go_at_call 18; refine (hq8 _).mono ?_; rintro e w' ⟨rfl, rfl⟩)
                        go_roundw
                        case rel => exact ⟨q + 1, n4 + 2, by go_num, by go_num, Lib.hid (by have h1 := HN4.out; have h2 := HM.out; omega), by omega, HBQ.out⟩
                        case measure => simp [intOf]; omega
                      · rw [show sgn ((tx t)[q]'hqz) = false by simpa using hs] at hq8
                        have HM := Lib.hid (show (mkd (t.take (q + 1))).length = (mkd (t.take q)).length + 1 by rw [hmk]; simp [mkd, hs])
                        clear hmk
                        go_wp2_with (go_at_call 18; refine (hq8 _).mono ?_; rintro e w' ⟨rfl, rfl⟩)
                        go_roundw
                        case rel => exact ⟨q + 1, n4 + 1, by go_num, by go_num, Lib.hid (by have h1 := HN4.out; have h2 := HM.out; omega), by omega, HBQ.out⟩
                        case measure => simp [intOf]; omega
                    · obtain rfl : q = t.length := by omega
                      have HE4 := Lib.hid (show n4 = n2 + z.length + cT (z.take (m + 1)) by have h1 := HN4.out; rw [List.take_length] at h1; have h2 := HN3.out; have h3 := HST.out; omega)
                      go_wp2
                      go_roundw
                      case rel => exact ⟨m + 1, n4, by go_num, rfl, HE4, by omega, HBQ.out⟩
                      case measure => simp [intOf]; omega
                · obtain rfl : m = z.length := by omega
                  have HE3 := Lib.hid (show n3 = n + 4 + cE (y.els.take (j + 1)) by have h1 := HN3.out; rw [List.take_length] at h1; have h2 := HN2.out; have h3 := HSE.out; omega)
                  clear hbl
                  go_wp2
                  go_roundw
                  case rel => exact ⟨j + 1, n3, by go_num, rfl, HE3, by omega, HBM.out⟩
                  case measure => simp [intOf]; omega
            · obtain rfl : j = y.els.length := by omega
              have HE2 := Lib.hid (show n2 = cS (l.take (k + 1)) by have h1 := HN2.out; rw [List.take_length] at h1; have h2 := HN.out; have h3 := HSN.out; omega)
              clear hbl
              go_wp2
              go_roundw
              case rel => exact ⟨k + 1, n2, by go_num, rfl, HE2, by omega, HBJ.out⟩
              case measure => simp [intOf]; omega
        · obtain rfl : k = l.length := by omega
          have hnl : n = (txT l).length := by have h1 := HN.out; rw [List.take_length] at h1; have h2 := HCS.out; omega
          have HRD := Lib.hid (reads_any wr)
          have htl := txT_last l
          have hcap := HTL.out
          generalize txT l = T at *
          subst hnl
          have hszT : (tx T).size = T.length := by simp [tx, ByteArray.size]
          clear hbl
          by_cases hT : T = []
          · subst hT
            have e0 : tx [] = { data := #[] } := rfl
            go_wp2_with (go_at_call 15; refine (HRD.out).mono ?_)
            first | rintro e w7 rfl hb7 | rintro e w7 ⟨rfl, hb7⟩
            have HB7 := Lib.hid (HB.out.trans (hb7.mono HB.out.size))
            clear hb7
            go_wp2
            go_ret
            exact ⟨rfl, HB7.out⟩
          · have hpos : 0 < T.length := by cases T with | nil => exact absurd rfl hT | cons a b => simp
            have hne : ¬ tx T = { data := #[] } := fun e => by have := congrArg ByteArray.size e; rw [hszT] at this; simp [ByteArray.size] at this; exact hT this
            have hlast := htl hpos (by omega)
            have HLAST := Lib.hid hlast
            obtain ⟨d, hd⟩ : ∃ d, T.length = d + 1 := ⟨T.length - 1, by omega⟩
            have hd2 : (T.length : Int) = (d : Int) + 1 := by omega
            have hdl : d < (tx T).size := by omega
            have hdv : (((tx T)[d]'hdl).toNat : Int) = 39 := by
              have e : T[T.length - 1]'(by omega) = (tx T)[d]'hdl := by simp only [hd]; rfl
              rw [← e, hlast]; rfl
            have hd0 : (0 : Int) ≤ (d : Int) := Int.natCast_nonneg _
            have hd5 : (d : Int) ≤ 65536 := by omega
            clear hlast htl
            have hne2 : ¬ (tx T).toList = [] := by
              rw [show (tx T).toList = T by simp [tx]]; exact hT
            have hdd : (d : Int) < (d : Int) + 1 := by omega
            go_wp2_with (go_at_call 15; refine (HRD.out).mono ?_)
            first | rintro e w7 rfl hb7 | rintro e w7 ⟨rfl, hb7⟩
            have HB7 := Lib.hid (HB.out.trans (hb7.mono HB.out.size))
            clear hb7
            go_wp2
            go_ret
            exact ⟨rfl, HB7.out⟩
    · have hpb := printL_bad l (by omega)
      rw [hpb]
      have e0 : tx [] = { data := #[] } := rfl
      have HRD := Lib.hid (reads_any w2)
      clear hpb
      go_wp2_with (go_at_call 15; refine (HRD.out).mono ?_)
      first | rintro e w7 rfl hb7 | rintro e w7 ⟨rfl, hb7⟩
      have HB7 := Lib.hid (HB2.out.trans (hb7.mono HB2.out.size))
      clear hb7
      go_wp2
      go_ret
      exact ⟨rfl, HB7.out⟩
end Go.Proofs.Ytihcpoigfhnceaa
