/- Contracts: numbers' fields, tickets, legs, coupons, messages, a packet's head. -/
import Derived.Test.YtjdfdihopgceoaaCdG
import Derived.Test.YtjdfdihopgceoaaCdQ
namespace Go.Proofs.Ytjdfdihopgceoaa.Cd
open Go.RowKit Go.Shelf Go.Dk Go.Jn Go.Cod

theorem wrap_cases (v : Nat) (hv : v < 18446744073709551616) : wrap64 (v : Int) = v ∨ wrap64 (v : Int) = (v : Int) - 18446744073709551616 := by
  unfold wrap64
  omega
theorem wrap_bd (x : Int) : -9223372036854775808 ≤ wrap64 x ∧ wrap64 x ≤ 9223372036854775807 := by
  unfold wrap64
  omega
theorem wrap_sh (v a : Nat) (hv : v < 18446744073709551616) (ha : a < 8) : wrap64 (v : Int) / 2 ^ (8 * a) % 256 = ((v / 256 ^ a % 256 : Nat) : Int) := by
  have h1 := nat_sh v a
  rw [← h1]
  rcases wrap_cases v hv with h | h <;> rw [h]
  have : a = 0 ∨ a = 1 ∨ a = 2 ∨ a = 3 ∨ a = 4 ∨ a = 5 ∨ a = 6 ∨ a = 7 := by omega
  rcases this with rfl | rfl | rfl | rfl | rfl | rfl | rfl | rfl <;> simp <;> omega
theorem fc_u64 : FC 51 [.int .i64 8] [.u64] := fun m B wb rb T ty i n s cs w0 w vs h ha hv hn => by
  obtain ⟨v, rfl⟩ : ∃ v, vs = [v] := List.length_eq_one_iff.1 hv.1
  have hv0 : v < 18446744073709551616 := hv.2 0 .u64 v rfl rfl
  have hx : cs[i]? = some (.int .u64 (v : Int)) := ha 0 _ rfl
  refine (num_u64 (k := 8) (v := v) h.wk h.cells hx (by omega) (by omega) (fun a _ => nat_sh v a) (by omega) (by simpa [tot, K.sz] using hn) h.ty h.bT (Nat.le_trans h.b0 h.fr.size)).mono ?_
  rintro e w' ⟨rfl, h1, h2, h3⟩
  exact ⟨rfl, h1, h2, h.fr.trans h3, h.ty, h.bT, h.b0⟩
theorem fc_i64 : FC 49 [.int .i64 8] [.i64] := fun m B wb rb T ty i n s cs w0 w vs h ha hv hn => by
  obtain ⟨v, rfl⟩ : ∃ v, vs = [v] := List.length_eq_one_iff.1 hv.1
  have hv0 : v < 18446744073709551616 := hv.2 0 .i64 v rfl rfl
  have hx : cs[i]? = some (.int .i64 (wrap64 (v : Int))) := ha 0 _ rfl
  refine (num_i64 (k := 8) (v := v) h.wk h.cells hx (wrap_bd _).1 (wrap_bd _).2 (fun a ha => wrap_sh v a hv0 ha) (by omega) (by simpa [tot, K.sz] using hn) h.ty h.bT (Nat.le_trans h.b0 h.fr.size)).mono ?_
  rintro e w' ⟨rfl, h1, h2, h3⟩
  exact ⟨rfl, h1, h2, h.fr.trans h3, h.ty, h.bT, h.b0⟩
theorem fc_err : FC 53 [.int .i64 8] [.i64] := fun m B wb rb T ty i n s cs w0 w vs h ha hv hn => by
  obtain ⟨v, rfl⟩ : ∃ v, vs = [v] := List.length_eq_one_iff.1 hv.1
  have hv0 : v < 18446744073709551616 := hv.2 0 .i64 v rfl rfl
  have hx : cs[i]? = some (.int .i64 (wrap64 (v : Int))) := ha 0 _ rfl
  refine (num_err (k := 8) (v := v) h.wk h.cells hx (wrap_bd _).1 (wrap_bd _).2 (fun a ha => wrap_sh v a hv0 ha) (by omega) (by simpa [tot, K.sz] using hn) h.ty h.bT (Nat.le_trans h.b0 h.fr.size)).mono ?_
  rintro e w' ⟨rfl, h1, h2, h3⟩
  exact ⟨rfl, h1, h2, h.fr.trans h3, h.ty, h.bT, h.b0⟩
theorem fc_u32 : FC 60 [.int .i64 4] [.u32] := fun m B wb rb T ty i n s cs w0 w vs h ha hv hn => by
  obtain ⟨v, rfl⟩ : ∃ v, vs = [v] := List.length_eq_one_iff.1 hv.1
  have hv0 : v < 4294967296 := hv.2 0 .u32 v rfl rfl
  have hx : cs[i]? = some (.int .u32 (v : Int)) := ha 0 _ rfl
  refine (num_u32 (k := 4) (v := v) h.wk h.cells hx (by omega) (by omega) (fun a _ => nat_sh v a) (by omega) (by simpa [tot, K.sz] using hn) h.ty h.bT (Nat.le_trans h.b0 h.fr.size)).mono ?_
  rintro e w' ⟨rfl, h1, h2, h3⟩
  exact ⟨rfl, h1, h2, h.fr.trans h3, h.ty, h.bT, h.b0⟩
theorem fc_u16 : FC 63 [.int .i64 2] [.u16] := fun m B wb rb T ty i n s cs w0 w vs h ha hv hn => by
  obtain ⟨v, rfl⟩ : ∃ v, vs = [v] := List.length_eq_one_iff.1 hv.1
  have hv0 : v < 65536 := hv.2 0 .u16 v rfl rfl
  have hx : cs[i]? = some (.int .u16 (v : Int)) := ha 0 _ rfl
  refine (num_u16 (k := 2) (v := v) h.wk h.cells hx (by omega) (by omega) (fun a _ => nat_sh v a) (by omega) (by simpa [tot, K.sz] using hn) h.ty h.bT (Nat.le_trans h.b0 h.fr.size)).mono ?_
  rintro e w' ⟨rfl, h1, h2, h3⟩
  exact ⟨rfl, h1, h2, h.fr.trans h3, h.ty, h.bT, h.b0⟩
theorem fc_u8 : FC 32 [.int .i64 1] [.u8] := fun m B wb rb T ty i n s cs w0 w vs h ha hv hn => by
  obtain ⟨v, rfl⟩ : ∃ v, vs = [v] := List.length_eq_one_iff.1 hv.1
  have hv0 : v < 256 := hv.2 0 .u8 v rfl rfl
  have hx : cs[i]? = some (.int .u8 (v : Int)) := ha 0 _ rfl
  refine (num_u8 (k := 1) (v := v) h.wk h.cells hx (by omega) (by omega) (fun a _ => nat_sh v a) (by omega) (by simpa [tot, K.sz] using hn) h.ty h.bT (Nat.le_trans h.b0 h.fr.size)).mono ?_
  rintro e w' ⟨rfl, h1, h2, h3⟩
  exact ⟨rfl, h1, h2, h.fr.trans h3, h.ty, h.bT, h.b0⟩
theorem fc_st : FC 59 [.int .i64 1] [.u8] := fun m B wb rb T ty i n s cs w0 w vs h ha hv hn => by
  obtain ⟨v, rfl⟩ : ∃ v, vs = [v] := List.length_eq_one_iff.1 hv.1
  have hv0 : v < 256 := hv.2 0 .u8 v rfl rfl
  have hx : cs[i]? = some (.int .u8 (v : Int)) := ha 0 _ rfl
  refine (num_st (k := 1) (v := v) h.wk h.cells hx (by omega) (by omega) (fun a _ => nat_sh v a) (by omega) (by simpa [tot, K.sz] using hn) h.ty h.bT (Nat.le_trans h.b0 h.fr.size)).mono ?_
  rintro e w' ⟨rfl, h1, h2, h3⟩
  exact ⟨rfl, h1, h2, h.fr.trans h3, h.ty, h.bT, h.b0⟩
abbrev legK : List K := [.u8, .u16, .u32]
set_option maxRecDepth 100000 in
set_option maxHeartbeats 1600000 in
theorem fc_leg : FC 56 [] legK := fun m B wb rb T ty i n s cs w0 w vs h ha hv hn => by
  have H0 := Lib.hid (PG.zero h ha hv hn)
  clear h ha hv hn
  go_enter Try.func56, Try.ntmps56
  go_wp2_with fail
  refine (fc_u8.at' (H0.out) (by rfl) _ (by first | rfl | omega) (by decide)).mono ?_
  rintro e w1 ⟨rfl, h1⟩
  have H1 := Lib.hid h1
  clear h1 H0
  go_wp2_with fail
  refine (fc_u16.at' (H1.out) (by rfl) _ (by first | rfl | omega) (by decide)).mono ?_
  rintro e w2 ⟨rfl, h2⟩
  have H2 := Lib.hid h2
  clear h2 H1
  go_wp2_with fail
  refine (fc_u32.at' (H2.out) (by rfl) _ (by first | rfl | omega) (by decide)).mono ?_
  rintro e w3 ⟨rfl, h3⟩
  have H3 := Lib.hid h3
  clear h3 H2
  go_wp2_with fail
  go_end0
  exact ⟨rfl, H3.out.all (by decide)⟩
abbrev ticketK : List K := [.u8, .u64]
set_option maxRecDepth 100000 in
set_option maxHeartbeats 1600000 in
theorem fc_ticket : FC 48 [] ticketK := fun m B wb rb T ty i n s cs w0 w vs h ha hv hn => by
  have H0 := Lib.hid (PG.zero h ha hv hn)
  clear h ha hv hn
  go_enter Try.func48, Try.ntmps48
  go_wp2_with fail
  refine (fc_u8.at' (H0.out) (by rfl) _ (by first | rfl | omega) (by decide)).mono ?_
  rintro e w1 ⟨rfl, h1⟩
  have H1 := Lib.hid h1
  clear h1 H0
  go_wp2_with fail
  refine (fc_u64.at' (H1.out) (by rfl) _ (by first | rfl | omega) (by decide)).mono ?_
  rintro e w2 ⟨rfl, h2⟩
  have H2 := Lib.hid h2
  clear h2 H1
  go_wp2_with fail
  go_end0
  exact ⟨rfl, H2.out.all (by decide)⟩
abbrev couponK : List K := [.u8, .u16, .u32, .i64, .u8, .u32]
set_option maxRecDepth 100000 in
set_option maxHeartbeats 1600000 in
theorem fc_coupon : FC 52 [] couponK := fun m B wb rb T ty i n s cs w0 w vs h ha hv hn => by
  have H0 := Lib.hid (PG.zero h ha hv hn)
  clear h ha hv hn
  go_enter Try.func52, Try.ntmps52
  go_wp2_with fail
  refine (fc_leg.at' (H0.out) (by rfl) _ (by first | rfl | omega) (by decide)).mono ?_
  rintro e w1 ⟨rfl, h1⟩
  have H1 := Lib.hid h1
  clear h1 H0
  go_wp2_with fail
  refine (fc_i64.at' (H1.out) (by rfl) _ (by first | rfl | omega) (by decide)).mono ?_
  rintro e w2 ⟨rfl, h2⟩
  have H2 := Lib.hid h2
  clear h2 H1
  go_wp2_with fail
  refine (fc_st.at' (H2.out) (by rfl) _ (by first | rfl | omega) (by decide)).mono ?_
  rintro e w3 ⟨rfl, h3⟩
  have H3 := Lib.hid h3
  clear h3 H2
  go_wp2_with fail
  refine (fc_u32.at' (H3.out) (by rfl) _ (by first | rfl | omega) (by decide)).mono ?_
  rintro e w4 ⟨rfl, h4⟩
  have H4 := Lib.hid h4
  clear h4 H3
  go_wp2_with fail
  go_end0
  exact ⟨rfl, H4.out.all (by decide)⟩
set_option maxRecDepth 100000 in
set_option maxHeartbeats 1600000 in
theorem fc_message : FC 35 [] messageK := fun m B wb rb T ty i n s cs w0 w vs h ha hv hn => by
  have H0 := Lib.hid (PG.zero h ha hv hn)
  clear h ha hv hn
  go_enter Try.func35, Try.ntmps35
  go_wp2_with fail
  refine (fc_u8.at' (H0.out) (by rfl) _ (by first | rfl | omega) (by decide)).mono ?_
  rintro e w1 ⟨rfl, h1⟩
  have H1 := Lib.hid h1
  clear h1 H0
  go_wp2_with fail
  refine (fc_ticket.at' (H1.out) (by rfl) _ (by first | rfl | omega) (by decide)).mono ?_
  rintro e w2 ⟨rfl, h2⟩
  have H2 := Lib.hid h2
  clear h2 H1
  go_wp2_with fail
  refine (fc_u8.at' (H2.out) (by rfl) _ (by first | rfl | omega) (by decide)).mono ?_
  rintro e w3 ⟨rfl, h3⟩
  have H3 := Lib.hid h3
  clear h3 H2
  go_wp2_with fail
  refine (fc_coupon.at' (H3.out) (by rfl) _ (by first | rfl | omega) (by decide)).mono ?_
  rintro e w4 ⟨rfl, h4⟩
  have H4 := Lib.hid h4
  clear h4 H3
  go_wp2_with fail
  refine (fc_i64.at' (H4.out) (by rfl) _ (by first | rfl | omega) (by decide)).mono ?_
  rintro e w5 ⟨rfl, h5⟩
  have H5 := Lib.hid h5
  clear h5 H4
  go_wp2_with fail
  refine (fc_err.at' (H5.out) (by rfl) _ (by first | rfl | omega) (by decide)).mono ?_
  rintro e w6 ⟨rfl, h6⟩
  have H6 := Lib.hid h6
  clear h6 H5
  go_wp2_with fail
  go_end0
  exact ⟨rfl, H6.out.all (by decide)⟩
end Go.Proofs.Ytjdfdihopgceoaa.Cd
