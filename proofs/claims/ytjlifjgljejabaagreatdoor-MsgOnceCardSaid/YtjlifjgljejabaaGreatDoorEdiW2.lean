/- Contracts of edi.marked and edi.joined. -/
import Derived.Test.YtjlifjgljejabaaGreatDoorEdiW
namespace Go.Proofs.YtjlifjgljejabaaGreatDoor
open Go.RowKit Go.Edi

theorem mkd_len (t : Tx) : (mkd t).length ≤ 2 * t.length := by
  induction t with
  | nil => simp [mkd]
  | cons c t ih => simp only [mkd]; split <;> simp <;> omega
theorem mkd_app' (x y : Tx) : mkd (x ++ y) = mkd x ++ mkd y := mkd_app x y
theorem take_at (t : Tx) (k : Nat) (h : k < t.length) : t.take (k + 1) = t.take k ++ [t[k]] := by rw [List.take_append_getElem h]
set_option maxRecDepth 100000 in
set_option maxHeartbeats 1600000 in
theorem marked_any (t : Tx) (w : World) (hl : t.length ≤ 100000) : Calls Tryz.prog 133 #[str t] w fun e w' => e = .returned (str (mkd t)) ∧ Below w.heap.size w w' := by
  have hsz : (tx t).size = t.length := by simp [tx, ByteArray.size]
  have HL := Lib.hid hl
  have hbz : (t.length : Int) ≤ 100000 := by omega
  clear hl
  go_enter Tryz.func133, Tryz.ntmps133
  go_wp2
  go_loopw [7] (fun i wr => ∃ k : Nat, i = .int .i64 k ∧ k ≤ t.length ∧ Bu w.heap.size w.heap.size (mkd (t.take k)) wr ∧ Below w.heap.size w wr) (fun i _ => t.length - (intOf i).toNat)
  case atStart => exact ⟨0, rfl, Nat.zero_le _, bu_new w, (Below.refl _ _).alloc (Nat.le_refl _) _⟩
  case round =>
    obtain ⟨k, rfl, hk, hbu, hb⟩ := hrel
    by_cases hlt : (k : Int) < (t.length : Int)
    · have hk0 : (0 : Int) ≤ (k : Int) := Int.natCast_nonneg _
      have hlen : (mkd (t.take k)).length ≤ 500000 := by have := mkd_len (t.take k); have := HL.out; have : (t.take k).length ≤ t.length := List.length_take_le' _ _; omega
      by_cases hs : sgn t[k] = true
      · have hq := isSign_any t[k]
        rw [hs] at hq
        have HN := Lib.hid (show mkd (t.take (k + 1)) = mkd (t.take k) ++ [63] ++ [t[k]] by rw [take_at t k (by omega), mkd_app]; simp [mkd, hs])
        have H1 := Lib.hid (writeByte_any w.heap.size w.heap.size _ 63 wr hbu (by omega) hb.size)
        have HLEN := Lib.hid hlen
        have HB := Lib.hid hb
        clear hbu hb hlen
        go_wp2_with (first
          | (go_at_call 151; refine (hq _).mono ?_; rintro e w' ⟨rfl, rfl⟩)
          | (go_at_call 152; refine (H1.out).mono ?_))
        first | rintro e w1 rfl hbu hb1 | rintro e w1 ⟨rfl, hbu, hb1⟩
        have H2 := Lib.hid (writeByte_any w.heap.size w.heap.size _ t[k] w1 hbu (by have := HLEN.out; simp; omega) (HB.out.trans hb1).size)
        have HB1 := Lib.hid hb1
        clear hbu hb1
        go_wp2_with (go_at_call 152; refine (H2.out).mono ?_)
        first | rintro e w2 rfl hbu hb2 | rintro e w2 ⟨rfl, hbu, hb2⟩
        have HBU := Lib.hid hbu
        have HB2 := Lib.hid hb2
        clear hbu hb2
        go_wp2
        go_roundw
        case rel => exact ⟨k + 1, by go_num, by omega, by rw [HN.out]; exact HBU.out, HB.out.trans (HB1.out.trans HB2.out)⟩
        case measure => simp [intOf]; omega
      · have hq := isSign_any t[k]
        rw [show sgn t[k] = false by simpa using hs] at hq
        have HN := Lib.hid (show mkd (t.take (k + 1)) = mkd (t.take k) ++ [t[k]] by rw [take_at t k (by omega), mkd_app]; simp [mkd, hs])
        have H1 := Lib.hid (writeByte_any w.heap.size w.heap.size _ t[k] wr hbu (by omega) hb.size)
        have HB := Lib.hid hb
        clear hbu hb hlen
        go_wp2_with (first
          | (go_at_call 151; refine (hq _).mono ?_; rintro e w' ⟨rfl, rfl⟩)
          | (go_at_call 152; refine (H1.out).mono ?_))
        first | rintro e w1 rfl hbu hb1 | rintro e w1 ⟨rfl, hbu, hb1⟩
        have HBU := Lib.hid hbu
        have HB1 := Lib.hid hb1
        clear hbu hb1
        go_wp2
        go_roundw
        case rel => exact ⟨k + 1, by go_num, by omega, by rw [HN.out]; exact HBU.out, HB.out.trans HB1.out⟩
        case measure => simp [intOf]; omega
    · obtain rfl : k = t.length := by omega
      rw [List.take_length] at hbu
      have H1 := Lib.hid (string_any w.heap.size w.heap.size _ wr hbu hb.size)
      have HB := Lib.hid hb
      clear hbu hb
      go_wp2_with (go_at_call 118; refine (H1.out).mono ?_)
      first | rintro e w1 rfl hb1 | rintro e w1 ⟨rfl, hb1⟩
      have HB1 := Lib.hid hb1
      clear hb1
      go_wp2
      go_ret
      exact ⟨rfl, HB.out.trans HB1.out⟩
theorem jnT_app' (x : Tx) (a b : List Tx) : jnT x (a ++ b) = jnT x a ++ jnT x b := jnT_app x a b
theorem jn_take_zero (x : Tx) (l : List Tx) : jn x (l.take 0) = [] := rfl
theorem jn_snoc (x : Tx) (a : List Tx) (y : Tx) (h : 0 < a.length) : jn x (a ++ [y]) = jn x a ++ x ++ y := by
  match a, h with
  | z :: r, _ => simp [jn, jnT_app, jnT]
theorem jn_one (x : Tx) (l : List Tx) (h : 0 < l.length) : jn x (l.take (0 + 1)) = jn x (l.take 0) ++ l[0] := by
  match l, h with
  | y :: r, _ => simp [jn, jnT]
theorem jn_len_take (x : Tx) (l : List Tx) (k : Nat) : (jn x (l.take k)).length ≤ (jn x l).length := by
  match l, k with
  | [], _ => simp
  | y :: r, 0 => simp [jn]
  | y :: r, k + 1 =>
    have : jn x ((y :: r).take (k + 1) ++ (y :: r).drop (k + 1)) = jn x ((y :: r).take (k + 1)) ++ jnT x (r.drop k) := by
      simp only [List.take_succ_cons, List.drop_succ_cons, List.cons_append, jn, jnT_app, List.append_assoc]
    rw [List.take_append_drop] at this
    rw [this]; simp
/-- texts in memory, apart from what a call makes -/
theorem StrsF.below {w w' : World} {v : Value} {l : List Tx} (h : StrsF w (· < w.heap.size) v l) (hb : Below w.heap.size w w') : StrsF w' (· < w'.heap.size) v l :=
  h.kept (fun b hb2 => ⟨by have := hb.size; show b < _; omega, hb.block b hb2⟩)
set_option maxRecDepth 100000 in
set_option maxHeartbeats 1600000 in
theorem joined_any (x : Tx) (l : List Tx) (v : Value) (w : World) (hv : StrsF w (· < w.heap.size) v l) (hl : (jn x l).length ≤ 100000000) (hn : l.length ≤ 100000) : Calls Tryz.prog 88 #[str x, v] w fun e w' => e = .returned (str (jn x l)) ∧ Below w.heap.size w w' := by
  have HV := Lib.hid hv
  have HL := Lib.hid hl
  obtain ⟨p, cap, rfl, hnc, hp⟩ := hv
  have HP := Lib.hid hp
  have hbz : (l.length : Int) ≤ 100000 := by omega
  clear hl hp hn
  go_enter Tryz.func88, Tryz.ntmps88
  go_wp2
  go_loopw [10] (fun i wr => ∃ k : Nat, i = .int .i64 k ∧ k ≤ l.length ∧ Bu w.heap.size w.heap.size (jn x (l.take k)) wr ∧ Below w.heap.size w wr) (fun i _ => l.length - (intOf i).toNat)
  case atStart => exact ⟨0, rfl, Nat.zero_le _, bu_new w, (Below.refl _ _).alloc (Nat.le_refl _) _⟩
  case round =>
    obtain ⟨k, rfl, hk, hbu, hb⟩ := hrel
    by_cases hlt : (k : Int) < (l.length : Int)
    · have hk0 : (0 : Int) ≤ (k : Int) := Int.natCast_nonneg _
      obtain ⟨b, o, rfl, hF, hc⟩ := HP.out (by omega)
      have hlen := jn_len_take x l (k + 1)
      have hck : wr.cell? ⟨b, o + k, none⟩ = some (str l[k]) := (World.cell?_of_block (a := ⟨b, o + k, none⟩) (hb.block b hF)).trans (hc k _ (by rw [List.getElem?_map, List.getElem?_eq_getElem (by omega)]; rfl))
      by_cases hk1 : (0 : Int) < (k : Int)
      · have hN : jn x (l.take (k + 1)) = jn x (l.take k) ++ x ++ l[k] := by rw [← List.take_append_getElem (show k < l.length by omega), jn_snoc x _ _ (by rw [List.length_take]; omega)]
        have hlen2 := congrArg List.length hN
        simp only [List.length_append] at hlen2
        have HN := Lib.hid hN
        have H1 := Lib.hid (writeString_any w.heap.size w.heap.size _ x wr hbu (by have := HL.out; omega) hb.size)
        have HB := Lib.hid hb
        have HLEN := Lib.hid hlen2
        have HLN := Lib.hid hlen
        clear hbu hb hlen hlen2 hN hc
        go_wp2_with (go_at_call 117; refine (H1.out).mono ?_)
        first | rintro e w1 rfl hbu hb1 | rintro e w1 ⟨rfl, hbu, hb1⟩
        have H2 := Lib.hid (writeString_any w.heap.size w.heap.size _ l[k] w1 hbu (by have := HLEN.out; have := HLN.out; have := HL.out; simp; omega) (HB.out.trans hb1).size)
        have HB1 := Lib.hid hb1
        clear hbu hb1
        go_wp2_with (go_at_call 117; refine (H2.out).mono ?_)
        first | rintro e w2 rfl hbu hb2 | rintro e w2 ⟨rfl, hbu, hb2⟩
        have HBU := Lib.hid hbu
        have HB2 := Lib.hid hb2
        clear hbu hb2
        go_wp2
        go_roundw
        case rel => exact ⟨k + 1, by go_num, by omega, by rw [HN.out]; exact HBU.out, HB.out.trans (HB1.out.trans HB2.out)⟩
        case measure => simp [intOf]; omega
      · obtain rfl : k = 0 := by omega
        rw [Nat.add_zero] at hck
        have hN : jn x (l.take (0 + 1)) = jn x (l.take 0) ++ l[0] := jn_one x l (by omega)
        have hlen2 := congrArg List.length hN
        simp only [List.length_append] at hlen2
        have HN := Lib.hid hN
        have H1 := Lib.hid (writeString_any w.heap.size w.heap.size _ l[0] wr hbu (by have := HL.out; omega) hb.size)
        have HB := Lib.hid hb
        clear hbu hb hlen hlen2 hN hc
        go_wp2_with (go_at_call 117; refine (H1.out).mono ?_)
        first | rintro e w1 rfl hbu hb1 | rintro e w1 ⟨rfl, hbu, hb1⟩
        have HBU := Lib.hid hbu
        have HB1 := Lib.hid hb1
        clear hbu hb1
        go_wp2
        go_roundw
        case rel => exact ⟨1, by go_num, by omega, by rw [show (1 : Nat) = 0 + 1 from rfl, HN.out]; exact HBU.out, HB.out.trans HB1.out⟩
        case measure => simp [intOf]; omega
    · obtain rfl : k = l.length := by omega
      rw [List.take_length] at hbu
      have H1 := Lib.hid (string_any w.heap.size w.heap.size _ wr hbu hb.size)
      have HB := Lib.hid hb
      clear hbu hb
      go_wp2_with (go_at_call 118; refine (H1.out).mono ?_)
      first | rintro e w1 rfl hb1 | rintro e w1 ⟨rfl, hb1⟩
      have HB1 := Lib.hid hb1
      clear hb1
      go_wp2
      go_ret
      exact ⟨rfl, HB.out.trans HB1.out⟩
end Go.Proofs.YtjlifjgljejabaaGreatDoor
