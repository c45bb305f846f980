/- Contracts: command, a packet's head, over a record. -/
import Derived.Test.YtjdfdihopgceoaaCdS
namespace Go.Proofs.Ytjdfdihopgceoaa.Cd
open Go.RowKit Go.Shelf Go.Dk Go.Jn Go.Cod

theorem FC.two {fn : FuncId} {ex : List Value} {k l : K} (hc : FC fn ex [k, l]) {m : Bool} {B wb rb T : Nat} {ty : TypeId} {i n : Nat} {s : St} {cs : Array Value} {w0 w : World} (h : Sg m B wb rb T ty n s cs w0 w) (v u : Nat) (hv : v < 256 ^ k.sz) (hu : u < 256 ^ l.sz) (hx : cs[i]? = some (cellK k v)) (hy : cs[i + 1]? = some (cellK l u)) (q r : Nat) (hq : q = k.sz) (hr : r = l.sz) (hn : n + (q + r) ≤ 1000000) :
    Calls Try.prog fn (.pointer (some ⟨wb, 0, none⟩) :: .pointer (some ⟨T, i, none⟩) :: ex).toArray w fun e w' => e = .returned (.tuple #[]) ∧ Sg m B wb rb T ty (n + (q + r)) (nuM m (nuM m s q v).1 r u).1 ((cs.setIfInBounds i (cellK k (nuM m s q v).2)).setIfInBounds (i + 1) (cellK l (nuM m (nuM m s q v).1 r u).2)) w0 w' := by
  subst hq hr
  have := hc m B wb rb T ty i n s cs w0 w [v, u] h (fun j z hz => by
    match j with
    | 0 => simp only [cellsK, List.getElem?_cons_zero, Option.some.injEq] at hz; subst hz; exact hx
    | 1 => simp only [cellsK, List.getElem?_cons_zero, List.getElem?_cons_succ, Option.some.injEq] at hz; subst hz; exact hy
    | j + 2 => simp [cellsK] at hz) (vld2 hv hu) (by simpa [tot] using hn)
  simpa [tot, nusM, cellsK, putC] using this
theorem Sg.set2 {m : Bool} {B wb rb T : Nat} {ty : TypeId} {n i j : Nat} {s : St} {l l' : List Value} {v u : Value} {w0 w : World} (h : Sg m B wb rb T ty n s ((l.toArray.setIfInBounds i v).setIfInBounds j u) w0 w) (hl : l' = (l.set i v).set j u) : Sg m B wb rb T ty n s l'.toArray w0 w := by
  rw [hl]
  rw [List.setIfInBounds_toArray, List.setIfInBounds_toArray] at h
  exact h
def CmdP (m : Bool) (B wb rb qb n : Nat) (s : St) (r : Rc) (w0 w : World) (e : Ending) (w' : World) : Prop :=
  e = .returned (.tuple #[]) ∧ ∃ lv tv, Sg m B wb rb qb 44 (n + 262) (cmM m s r.cmd).1 (recC { r with cmd := (cmM m s r.cmd).2 } lv tv).toArray w0 w' ∧
    OwnL 36 3 w.heap.size w' lv (cmM m s r.cmd).2.legs.length (flt lgC (cmM m s r.cmd).2.legs) ∧ OwnL 58 2 w.heap.size w' tv (cmM m s r.cmd).2.taxes.length (flt txC (cmM m s r.cmd).2.taxes)
set_option maxRecDepth 100000 in
set_option maxHeartbeats 3200000 in
theorem command_any {m : Bool} {B wb rb qb n : Nat} {s : St} {r : Rc} {lp tp : Option Addr} {lc tc : Nat} {w0 w : World} (h : Sg m B wb rb qb 44 n s (recC r (.slice lp r.cmd.legs.length lc) (.slice tp r.cmd.taxes.length tc)).toArray w0 w)
    (hl : RowF w (· < B) (.slice lp r.cmd.legs.length lc) r.cmd.legs.length (flt lgC r.cmd.legs)) (ht : RowF w (· < B) (.slice tp r.cmd.taxes.length tc) r.cmd.taxes.length (flt txC r.cmd.taxes)) (hok : OkCmd m r.cmd) (hn : n + 262 ≤ 1000000) (hm : r.msg.length = 12) :
    Calls Try.prog 33 #[pt wb, .pointer (some ⟨qb, 1, none⟩)] w (CmdP m B wb rb qb n s r w0 w) := by
  have hB : B ≤ w.heap.size := Nat.le_trans h.b0 h.fr.size
  obtain ⟨lv0, hlv0⟩ : ∃ v, Value.slice lp r.cmd.legs.length lc = v := ⟨_, rfl⟩
  obtain ⟨tv0, htv0⟩ : ∃ v, Value.slice tp r.cmd.taxes.length tc = v := ⟨_, rfl⟩
  have H0 := Lib.hid h
  have HOK := Lib.hid hok
  have HL := Lib.hid hl
  have HT := Lib.hid ht
  have HM := Lib.hid hm
  have HLV := Lib.hid hlv0
  have HTV := Lib.hid htv0
  rw [hlv0, htv0] at h
  have HN1 := Lib.hid (fc_u8.one (i := 1) h.start r.cmd.kind hok.kind (by simp [recC, cellK]) 1 rfl (by omega))
  clear h hok hl ht hm hlv0 htv0
  go_enter Try.func33, Try.ntmps33
  go_wp2_with fail
  refine (HN1.out).mono ?_
  rintro e w1 ⟨rfl, h1⟩
  obtain ⟨a1, ha1⟩ : ∃ a1, nuM m s 1 r.cmd.kind = a1 := ⟨_, rfl⟩
  rw [ha1] at h1
  have h1' := Sg.set1 (l' := recC { r with cmd := { r.cmd with kind := a1.2 } } lv0 tv0) (i := 1) (v := .int .u8 (a1.2 : Int)) h1 rfl
  have HN2 := Lib.hid (fc_ticket.two (i := 2) h1' r.cmd.car r.cmd.ser HOK.out.car HOK.out.ser (by simp [recC, cellK]) (by simp [recC, cellK]) 1 8 rfl rfl (by omega))
  have HA1 := Lib.hid ha1
  clear h1 h1' HN1 ha1
  go_wp2_with fail
  refine (HN2.out).mono ?_
  rintro e w2 ⟨rfl, h2⟩
  obtain ⟨a2, ha2⟩ : ∃ a2, nuM m a1.1 1 r.cmd.car = a2 := ⟨_, rfl⟩
  rw [ha2] at h2
  obtain ⟨a3, ha3⟩ : ∃ a3, nuM m a2.1 8 r.cmd.ser = a3 := ⟨_, rfl⟩
  rw [ha3] at h2
  have h2' := Sg.set2 (l' := recC { r with cmd := { r.cmd with kind := a1.2, car := a2.2, ser := a3.2 } } lv0 tv0) (i := 2) (j := 3) (v := .int .u8 (a2.2 : Int)) (u := .int .u64 (a3.2 : Int)) h2 rfl
  have HN3 := Lib.hid (fc_u8.one (i := 4) h2' r.cmd.pos HOK.out.pos (by simp [recC, cellK]) 1 rfl (by omega))
  have HA2 := Lib.hid ha2
  have HA3 := Lib.hid ha3
  clear h2 h2' HN2 ha2 ha3
  go_wp2_with fail
  refine (HN3.out).mono ?_
  rintro e w3 ⟨rfl, h3⟩
  obtain ⟨a4, ha4⟩ : ∃ a4, nuM m a3.1 1 r.cmd.pos = a4 := ⟨_, rfl⟩
  rw [ha4] at h3
  have h3' := Sg.set1 (l' := recC { r with cmd := { r.cmd with kind := a1.2, car := a2.2, ser := a3.2, pos := a4.2 } } lv0 tv0) (i := 4) (v := .int .u8 (a4.2 : Int)) h3 rfl
  have HN4 := Lib.hid (fc_i64.one (i := 10) h3' r.cmd.am HOK.out.am (by simp [recC, cellK]) 8 rfl (by omega))
  have HA4 := Lib.hid ha4
  clear h3 h3' HN3 ha4
  go_wp2_with fail
  refine (HN4.out).mono ?_
  rintro e w4 ⟨rfl, h4⟩
  obtain ⟨a5, ha5⟩ : ∃ a5, nuM m a4.1 8 r.cmd.am = a5 := ⟨_, rfl⟩
  rw [ha5] at h4
  have h4' := Sg.set1 (l' := recC { r with cmd := { r.cmd with kind := a1.2, car := a2.2, ser := a3.2, pos := a4.2, am := a5.2 } } lv0 tv0) (i := 10) (v := .int .i64 (wrap64 (a5.2 : Int))) h4 rfl
  rw [← HLV.out, ← HTV.out] at h4'
  have hok5 : OkCmd m { r.cmd with kind := a1.2, car := a2.2, ser := a3.2, pos := a4.2, am := a5.2 } := ⟨by rw [← HA1.out]; exact nuM_lt m s 1 _, by rw [← HA2.out]; exact nuM_lt m _ 1 _, by rw [← HA3.out]; exact nuM_lt m _ 8 _, by rw [← HA4.out]; exact nuM_lt m _ 1 _, HOK.out.fare, HOK.out.pen, by rw [← ha5]; exact nuM_lt m _ 8 _, HOK.out.name, HOK.out.legs, HOK.out.taxes⟩
  have hF4 := h4.fr
  have HN5 := Lib.hid (sale_any (r := { r with cmd := { r.cmd with kind := a1.2, car := a2.2, ser := a3.2, pos := a4.2, am := a5.2 } }) h4' (HL.out.kept (fun b hb => ⟨hb, hF4.low b hb⟩)) (HT.out.kept (fun b hb => ⟨hb, hF4.low b hb⟩)) hok5 (by omega) HM.out)
  have HF4 := Lib.hid hF4
  have HA5 := Lib.hid ha5
  clear h4 h4' HN4 ha5 hF4 hok5
  go_wp2_with fail
  refine (HN5.out).mono ?_
  rintro e w5 ⟨rfl, lv, tv, h5, ho, hp⟩
  have H5 := Lib.hid h5
  have HO := Lib.hid ho
  have HP := Lib.hid hp
  clear h5 ho hp HN5
  go_wp2_with fail
  go_end0
  have es : cmM m s r.cmd = saM m a5.1 { r.cmd with kind := a1.2, car := a2.2, ser := a3.2, pos := a4.2, am := a5.2 } := by
    unfold cmM saM
    simp only [HA1.out, HA2.out, HA3.out, HA4.out, HA5.out]
  refine ⟨rfl, lv, tv, ?_, ?_, ?_⟩
  · rw [es]
    exact ((H5.out).le (by omega)).from H0.out.fr H0.out.b0
  · rw [es]; exact HO.out.lo HF4.out.size
  · rw [es]; exact HP.out.lo HF4.out.size
set_option maxRecDepth 100000 in
set_option maxHeartbeats 3200000 in
theorem numbered_any {m : Bool} {B wb rb qb n : Nat} {s : St} {r : Rc} {lv tv : Value} {w0 w : World} (h : Sg m B wb rb qb 44 n s (recC r lv tv).toArray w0 w) (hf : r.frm < 256) (hu : r.num < 18446744073709551616) (hn : n + 9 ≤ 1000000) :
    Calls Try.prog 34 #[pt wb, .pointer (some ⟨qb, 0, none⟩)] w fun e w' => e = .returned (.tuple #[]) ∧ Sg m B wb rb qb 44 (n + 9) (nuM m (nuM m s 1 r.frm).1 8 r.num).1 (recC { r with frm := (nuM m s 1 r.frm).2, num := (nuM m (nuM m s 1 r.frm).1 8 r.num).2 } lv tv).toArray w0 w' := by
  have HN1 := Lib.hid (fc_u8.one (i := 11) h r.frm hf (by simp [recC, cellK]) 1 rfl (by omega))
  have HU := Lib.hid hu
  clear h hf hu
  go_enter Try.func34, Try.ntmps34
  go_wp2_with fail
  refine (HN1.out).mono ?_
  rintro e w1 ⟨rfl, h1⟩
  have h1' := Sg.set1 (l' := recC { r with frm := (nuM m s 1 r.frm).2 } lv tv) (i := 11) (v := .int .u8 ((nuM m s 1 r.frm).2 : Int)) h1 rfl
  have HN2 := Lib.hid (fc_u64.one (i := 12) h1' r.num HU.out (by simp [recC, cellK]) 8 rfl (by omega))
  clear h1 h1' HN1
  go_wp2_with fail
  refine (HN2.out).mono ?_
  rintro e w2 ⟨rfl, h2⟩
  have H2 := Lib.hid (Sg.set1 (l' := recC { r with frm := (nuM m s 1 r.frm).2, num := (nuM m (nuM m s 1 r.frm).1 8 r.num).2 } lv tv) (i := 12) (v := .int .u64 ((nuM m (nuM m s 1 r.frm).1 8 r.num).2 : Int)) h2 rfl)
  clear h2 HN2
  go_wp2_with fail
  go_end0
  exact ⟨rfl, H2.out⟩
end Go.Proofs.Ytjdfdihopgceoaa.Cd
