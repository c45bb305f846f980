/- isRead's contract, for whatever readers: the caller says what holds when so many have read. -/
import Derived.Test.YtjlifjgljejabaaGreatDoorWrapC
import Derived.Test.YtjlifjgljejabaaGreatDoorEdiW6
namespace Go.Proofs.YtjlifjgljejabaaGreatDoor
open Go.RowKit Go.Edi Go.Wrap

structure Rdr where
  big : Bool
  p : Nat
  a : Addr
def Rdr.most (r : Rdr) : Nat := if r.big then 18446744073709551615 else 7
def Rdr.fn (r : Rdr) : Nat := if r.big then 94 else 92
def Rdr.kd (r : Rdr) : IntKind := if r.big then .u64 else .u8
def Rdr.val (r : Rdr) : Value := .func (.func r.fn) #[] #[.pointer (some ⟨r.p, 0, none⟩)]
def oneN (most : Nat) : List Tx → Bool
  | [t] => (numL most t).isSome
  | _ => false
def goodAt (rs : List Rdr) (els : List (List Tx)) (i : Nat) : Bool := match rs[i]?, els[i]? with
  | some r, some e => oneN r.most e
  | _, _ => false
theorem rd_any (r : Rdr) (t : Tx) (old : Value) (w : World) (hl : t.length ≤ 1000000000000) (hp : w.cell? ⟨r.p, 0, none⟩ = some (.pointer (some r.a))) (ha : w.cell? r.a = some old) (hf : w.frozen? r.a = false) :
    Calls Tryz.prog r.fn #[str t, .pointer (some ⟨r.p, 0, none⟩)] w fun e w' => e = .returned (.bool (numL r.most t).isSome) ∧ w' = (w.setCell r.a (.int r.kd (((numL r.most t).getD 0 : Nat) : Int))).drew := by
  obtain ⟨big, p, a⟩ := r
  cases big
  · exact carrier1_any t p a old w hl hp ha hf
  · exact whole1_any t p a old w hl hp ha hf
theorem rd_enter (r : Rdr) : ∀ args w, (callFunc r.fn args).run Tryz.prog w = .ok (.enter r.fn args) w := by
  obtain ⟨big, p, a⟩ := r
  cases big
  · exact enters_of Tryz.func92 (by kernel_rfl) rfl
  · exact enters_of Tryz.func94 (by kernel_rfl) rfl
def AllGood (rs : List Rdr) (tag want : Tx) (els : List (List Tx)) : Prop := tag = want ∧ els.length = rs.length ∧ ∀ i < rs.length, goodAt rs els i = true
theorem tx_inj {a b : Tx} (h : (tx a).toList = (tx b).toList) : a = b := by simpa [tx, ByteArray.toList_eq] using h
set_option maxRecDepth 100000 in
set_option maxHeartbeats 1600000 in
theorem isRead_any (rs : List Rdr) (tag want : Tx) (v : Value) (els : List (List Tx)) (w : World) (F : Nat → Prop) (q : Nat) (Inv : Nat → World → Prop) (Out : World → Prop)
    (hn : rs.length ≤ 1000) (hen : els.length ≤ 1000000000000) (hlen : ∀ e ∈ els, ∀ t ∈ e, t.length ≤ 1000000000000)
    (hv : ElsF w F v els)
    (hbase : ∀ k W, Inv k W → ElsF W F v els ∧ (∀ i r, rs[i]? = some r → W.cell? ⟨q, i, none⟩ = some r.val) ∧ W.cell? ⟨w.heap.size, 1, none⟩ = some v ∧ Out W)
    (h0 : Inv 0 (w.alloc (.cells #[str tag, v] 59 (0, 0))))
    (hstep : ∀ k r t W, rs[k]? = some r → els[k]? = some [t] → Inv k W → W.cell? ⟨r.p, 0, none⟩ = some (.pointer (some r.a)) ∧ (∃ old, W.cell? r.a = some old) ∧ W.frozen? r.a = false ∧
      (∀ m, numL r.most t = some m → Inv (k + 1) (W.setCell r.a (.int r.kd (m : Int))).drew) ∧ Out (W.setCell r.a (.int r.kd 0)).drew) :
    Calls Tryz.prog 65 #[.agg #[str tag, v], str want, .slice (some ⟨q, 0, none⟩) rs.length rs.length] w fun e w' =>
      ∃ ok, e = .returned (.bool ok) ∧ (ok = true → AllGood rs tag want els ∧ Inv rs.length w') ∧ (ok = false → ¬ AllGood rs tag want els) ∧ Out w' := by
  obtain ⟨ys, ⟨pv, cap, rfl, hnc, _⟩, _⟩ := hv
  have HB := Lib.hid hbase
  have HS := Lib.hid hstep
  have H0 := Lib.hid h0
  have HO := Lib.hid (hbase _ _ h0).2.2.2
  have HL := Lib.hid hlen
  have hnI : (rs.length : Int) ≤ 1000 := by omega
  have henI : (els.length : Int) ≤ 1000000000000 := by omega
  clear hbase hstep h0 hlen hn hen
  by_cases htg : (tx tag).toList = (tx want).toList
  rotate_left
  · go_enter Tryz.func65, Tryz.ntmps65
    go_wp2
    go_ret
    refine ⟨false, ?_, nofun, fun _ hg => ?_, HO.out⟩
    · rw [beq_eq_false_iff_ne.2 htg]; rfl
    · exact htg (by rw [hg.1])
  have HT := Lib.hid (tx_inj htg)
  by_cases hle : (els.length : Int) = (rs.length : Int)
  rotate_left
  · go_enter Tryz.func65, Tryz.ntmps65
    go_wp2
    go_ret
    exact ⟨false, rfl, nofun, fun _ hg => hle (by rw [hg.2.1]), HO.out⟩
  have HLE := Lib.hid (show els.length = rs.length by omega)
  go_enter Tryz.func65, Tryz.ntmps65
  go_wp2
  go_loopw [23] (fun i wr => ∃ k : Nat, i = .int .i64 k ∧ k ≤ rs.length ∧ (∀ j < k, goodAt rs els j = true) ∧ Inv k wr) (fun i _ => rs.length - (intOf i).toNat)
  case atStart => exact ⟨0, rfl, Nat.zero_le _, fun j hj => absurd hj (Nat.not_lt_zero j), H0.out⟩
  case round =>
    obtain ⟨k, rfl, hk, hgd, hinv⟩ := hrel
    have HG := Lib.hid hgd
    have HI := Lib.hid hinv
    obtain ⟨hve, hfn, hc1, hout⟩ := HB.out k wr hinv
    have HOU := Lib.hid hout
    clear hgd hinv hout
    by_cases hlt : (k : Int) < (rs.length : Int)
    · have hkl : k < rs.length := by omega
      have hke : k < els.length := by have := HLE.out; omega
      have hkeI : (k : Int) < (els.length : Int) := by omega
      have hk0 : (0 : Int) ≤ (k : Int) := Int.natCast_nonneg _
      obtain ⟨r, hr⟩ : ∃ r, rs[k]? = some r := ⟨rs[k], List.getElem?_eq_getElem hkl⟩
      have hcf := hfn k r hr
      obtain ⟨ys2, ⟨pv2, cap2, he2, _, hrow⟩, hel⟩ := hve
      simp only [Value.slice.injEq, true_and] at he2
      obtain ⟨rfl, rfl⟩ := he2
      obtain ⟨b, o, rfl, _, hcc⟩ := hrow (by omega)
      obtain ⟨y, hy1, hy2⟩ := ElC.get hel k hke
      have hcy := hcc k y hy1
      obtain ⟨ps, cs, rfl, _, hps⟩ := hy2
      have hge : els[k]? = some els[k] := List.getElem?_eq_getElem hke
      have hga : goodAt rs els k = oneN r.most els[k] := by simp only [goodAt, hr, hge]
      have hlx := fun t ht => HL.out _ (List.getElem_mem hke) t ht
      have HR := Lib.hid hr
      have hst := fun t (e : els[k] = [t]) => HS.out k r t wr hr (by rw [hge, e]) HI.out
      clear hfn hrow hel hcc hy1 hr hge
      generalize els[k] = e at *
      by_cases h1 : (e.length : Int) = 1
      · obtain ⟨t, rfl⟩ := List.length_eq_one_iff.1 (show e.length = 1 by omega)
        obtain ⟨b2, o2, rfl, _, hc2⟩ := hps (by simp)
        have hct := hc2 0 (str t) rfl
        simp only [Nat.add_zero] at hct
        obtain ⟨hp1, ⟨old, hp2⟩, hp3, hp4, hp5⟩ := hst t rfl
        have hrd := rd_any r t old wr (hlx t (List.mem_singleton_self _)) hp1 hp2 hp3
        have hfe := rd_enter r
        have HP4 := Lib.hid hp4
        have HP5 := Lib.hid hp5
        have HGA := Lib.hid hga
        have HRD := Lib.hid hrd
        clear hst hc2 hps hp1 hp2 hp3 hp4 hp5 hga hlx hrd
        simp only [Rdr.val] at hcf
        cases hnum : numL r.most t with
        | none =>
          simp only [oneN, hnum] at HRD HGA
          go_wp2_with (go_simp; refine (HRD.out).mono ?_; rintro e w' ⟨rfl, rfl⟩)
          go_ret
          exact ⟨false, rfl, nofun, fun _ hg => absurd (hg.2.2 k hkl) (by rw [HGA.out]; nofun), HP5.out⟩
        | some m =>
          simp only [oneN, hnum] at HRD HGA
          go_wp2_with (go_simp; refine (HRD.out).mono ?_; rintro e w' ⟨rfl, rfl⟩)
          go_roundw
          case rel =>
            refine ⟨k + 1, by go_num, by omega, fun j hj => ?_, HP4.out m hnum⟩
            rcases Nat.lt_succ_iff_lt_or_eq.1 hj with h | rfl
            · exact HG.out j h
            · exact HGA.out
          case measure => simp [intOf]; omega
      · have HGA := Lib.hid (show goodAt rs els k = false by
          rw [hga]
          match e, h1 with
          | [], _ => rfl
          | [t], h1 => exact absurd rfl h1
          | _ :: _ :: _, _ => rfl)
        clear hst hps hga hlx
        go_wp2
        go_ret
        exact ⟨false, rfl, nofun, fun _ hg => absurd (hg.2.2 k hkl) (by rw [HGA.out]; nofun), HOU.out⟩
    · obtain rfl : k = rs.length := by omega
      go_wp2
      go_ret
      exact Or.inr ⟨rfl, ⟨⟨HT.out, HLE.out, HG.out⟩, HI.out⟩, HOU.out⟩
end Go.Proofs.YtjlifjgljejabaaGreatDoor
