/- Contracts: what an interchange's segments say into a packet; the packet of an interchange. -/
import Derived.Test.YtgaoeljdlpemnaaGreatDoorEdiM
import Derived.Test.YtgaoeljdlpemnaaGreatDoorMgAr
import Derived.Laws.ResultCell
/- Parts of a list of segments in memory: its beginning, its end. -/
namespace Go.Proofs.YtgaoeljdlpemnaaGreatDoor
open Go.RowKit Go.Edi

theorem SgC.tk {w : World} {F : Nat → Prop} : ∀ {l : List Sg} {xs : List Value}, SgC w F l xs → ∀ m, SgC w F (l.take m) (xs.take (m * 2))
  | [], [], _, m => by simp; trivial
  | _ :: _, _ :: _ :: _, h, 0 => by simp; trivial
  | s :: r, a :: v :: t, h, m + 1 => by
    rw [List.take_succ_cons, show (m + 1) * 2 = m * 2 + 1 + 1 by omega, List.take_succ_cons, List.take_succ_cons]
    exact ⟨h.1, h.2.1, SgC.tk h.2.2 m⟩
  | [], _ :: _, h, _ => h.elim
  | _ :: _, [], h, _ => h.elim
  | _ :: _, [_], h, _ => h.elim
theorem SgC.dp {w : World} {F : Nat → Prop} : ∀ {l : List Sg} {xs : List Value}, SgC w F l xs → ∀ m, SgC w F (l.drop m) (xs.drop (m * 2))
  | [], [], _, m => by simp; trivial
  | _ :: _, _ :: _ :: _, h, 0 => by simpa using h
  | s :: r, a :: v :: t, h, m + 1 => by
    rw [List.drop_succ_cons, show (m + 1) * 2 = m * 2 + 1 + 1 by omega, List.drop_succ_cons, List.drop_succ_cons]
    exact SgC.dp h.2.2 m
  | [], _ :: _, h, _ => h.elim
  | _ :: _, [], h, _ => h.elim
  | _ :: _, [_], h, _ => h.elim
theorem RowF.tk {w : World} {F : Nat → Prop} {p : Option Addr} {cap n m size : Nat} {xs : List Value} (h : RowF w F (.slice p n cap) n xs) (hm : m ≤ n) : RowF w F (.slice p m cap) m (xs.take (m * size)) := by
  obtain ⟨p', cap', e, hn, hp⟩ := h
  simp only [Value.slice.injEq, true_and] at e
  obtain ⟨rfl, rfl⟩ := e
  refine ⟨_, _, rfl, by omega, fun h0 => ?_⟩
  obtain ⟨b, o, rfl, hF, hc⟩ := hp (by omega)
  refine ⟨b, o, rfl, hF, fun j u hu => hc j u ?_⟩
  rw [List.getElem?_take] at hu
  split at hu
  · exact hu
  · cases hu
theorem RowF.dp {w : World} {F : Nat → Prop} {b o : Nat} {cap c n m size : Nat} {xs : List Value} (h : RowF w F (.slice (some ⟨b, o, none⟩) n cap) n xs) (hm : m < n) (hc : n - m ≤ c) : RowF w F (.slice (some ⟨b, o + m * size, none⟩) (n - m) c) (n - m) (xs.drop (m * size)) := by
  obtain ⟨p', cap', e, hn, hp⟩ := h
  simp only [Value.slice.injEq, true_and] at e
  obtain ⟨rfl, rfl⟩ := e
  refine ⟨_, _, rfl, hc, fun _ => ?_⟩
  obtain ⟨b', o', e, hF, hcc⟩ := hp (by omega)
  simp only [Option.some.injEq, Addr.mk.injEq, and_true] at e
  obtain ⟨rfl, rfl⟩ := e
  refine ⟨b, o + m * size, rfl, hF, fun j u hu => ?_⟩
  rw [List.getElem?_drop] at hu
  have := hcc (m * size + j) u hu
  rw [Nat.add_assoc]; exact this
theorem RowF.no {w : World} {F : Nat → Prop} (p : Option Addr) (c : Nat) : RowF w F (.slice p 0 c) 0 [] := ⟨p, c, rfl, Nat.zero_le _, fun h => absurd h (by simp)⟩
theorem SegsF.tk {w : World} {F : Nat → Prop} {p : Option Addr} {cap m : Nat} {l : List Sg} (h : SegsF w F (.slice p l.length cap) l) (hm : m ≤ l.length) : SegsF w F (.slice p m cap) (l.take m) := by
  obtain ⟨xs, h1, h2⟩ := h
  refine ⟨xs.take (m * 2), ?_, h2.tk m⟩
  rw [List.length_take, Nat.min_eq_left hm]
  exact h1.tk hm
theorem SegsF.dp {w : World} {F : Nat → Prop} {b o : Nat} {cap c m : Nat} {l : List Sg} (h : SegsF w F (.slice (some ⟨b, o, none⟩) l.length cap) l) (hm : m < l.length) (hc : l.length - m ≤ c) : SegsF w F (.slice (some ⟨b, o + m * 2, none⟩) (l.length - m) c) (l.drop m) := by
  obtain ⟨xs, h1, h2⟩ := h
  refine ⟨xs.drop (m * 2), ?_, h2.dp m⟩
  rw [List.length_drop]
  exact h1.dp hm hc
end Go.Proofs.YtgaoeljdlpemnaaGreatDoor
/- Contract: what a message's segments say. -/
namespace Go.Proofs.YtgaoeljdlpemnaaGreatDoor
open Go.RowKit Go.Edi Go.Wrap Go.Lib

theorem rm_kind {m : Ms} {s : Sg} {l : List Sg} (h : kindOf s = none) : readMs m s l = (none, 100) := by unfold readMs; rw [h]
theorem rm_nil {m : Ms} {s : Sg} {k : Nat} {fds : List Fd} (h : kindOf s = some (k, fds)) : readMs m s [] = (none, 101) := by unfold readMs; rw [h]
theorem rm_cons {m : Ms} {s y : Sg} {r : List Sg} {k : Nat} {fds : List Fd} (h : kindOf s = some (k, fds)) : readMs m s (y :: r) = (match keyOf' { m with kind := k } y with
      | (some a, _) => (match arRead a fds r with | some b => (some b, 0) | none => (none, 101))
      | (none, e) => (none, e)) := by unfold readMs; rw [h]; rfl
theorem kind_fds {s : Sg} {k : Nat} {fds : List Fd} (h : kindOf s = some (k, fds)) : fdsL k = some fds := by
  unfold kindOf at h
  split at h
  · rename_i n hn
    split at h
    · cases hq : fdsL n.toNat with
      | none => rw [hq] at h; cases h
      | some g =>
        rw [hq] at h
        obtain ⟨h1, h2⟩ := Prod.mk.inj (Option.some.inj h)
        rw [← h1, ← h2]; exact hq
    · cases h
  · cases h
theorem key_zero {m a : Ms} {s : Sg} {e : Nat} (h : keyOf' m s = (some a, e)) : e = 0 := by
  unfold keyOf' at h
  repeat' split at h
  all_goals first | (cases h; rfl) | cases h
theorem key_ne {m : Ms} {s : Sg} {e : Nat} (h : keyOf' m s = (none, e)) : e ≠ 0 := by
  unfold keyOf' at h
  repeat' split at h
  all_goals first | (cases h; decide) | (have := (Prod.mk.inj h).2; omega) | cases h
structure SgIn (w : World) (b : Nat) (s : Sg) (ve : Value) : Prop where
  el : ElsF w (· < b) ve s.els
  ln : s.els.length ≤ 1000
  sz : ∀ e ∈ s.els, ∀ t ∈ e, t.length ≤ 281474976710656
structure SgsIn (w : World) (b : Nat) (l : List Sg) (vs : Value) : Prop where
  sg : SegsF w (· < b) vs l
  ln : l.length ≤ 1000
  el : ∀ s ∈ l, s.els.length ≤ 1000
  sz : ∀ s ∈ l, ∀ e ∈ s.els, ∀ t ∈ e, t.length ≤ 281474976710656
theorem kp_grown {w w' : World} {b : Nat} (h : w.grownBy w' (some b)) (hb : b < w.heap.size) : Kp (· < b) (· < b) w w' := fun j hj => ⟨hj, h.block j (by omega) (fun e => by
  have : j = b := by simpa using e
  omega)⟩
theorem SgIn.keep {w w' : World} {b : Nat} {s : Sg} {ve : Value} (h : SgIn w b s ve) (hg : w.grownBy w' (some b)) (hb : b < w.heap.size) : SgIn w' b s ve := ⟨h.el.kept (kp_grown hg hb), h.ln, h.sz⟩
theorem SgsIn.keep {w w' : World} {b : Nat} {l : List Sg} {vs : Value} (h : SgsIn w b l vs) (hg : w.grownBy w' (some b)) (hb : b < w.heap.size) : SgsIn w' b l vs := ⟨h.sg.kept (kp_grown hg hb), h.ln, h.el, h.sz⟩
theorem SgIn.els {w : World} {b : Nat} {s : Sg} {ve : Value} (h : SgIn w b s ve) (hb : b < w.heap.size) : ElsF w (· < w.heap.size) ve s.els := h.el.kept (fun _j hj => ⟨Nat.lt_trans hj hb, rfl⟩)
theorem SgsIn.head {w : World} {b : Nat} {y : Sg} {r : List Sg} {p : Option Addr} {c : Nat} (h : SgsIn w b (y :: r) (.slice p (y :: r).length c)) :
    ∃ sb so ve, p = some ⟨sb, so, none⟩ ∧ sb < b ∧ w.cell? ⟨sb, so, none⟩ = some (str y.tag) ∧ w.cell? ⟨sb, so + 1, none⟩ = some ve ∧ SgIn w b y ve := by
  obtain ⟨xs, ⟨p', c', e, _, hp⟩, hx⟩ := h.sg
  simp only [Value.slice.injEq] at e
  obtain ⟨rfl, _, rfl⟩ := e
  obtain ⟨sb, so, h1, h2, h3⟩ := hp (by simp)
  obtain ⟨h4, ve, h5, h6⟩ := hx.get 0 (by simp)
  exact ⟨sb, so, ve, h1, h2, h3 0 _ h4, h3 1 _ h5, h6, h.ln |> fun _ => h.el y (by simp), h.sz y (by simp)⟩
theorem SgsIn.nil (w : World) (b : Nat) (p : Option Addr) (c : Nat) : SgsIn w b [] (.slice p 0 c) := ⟨⟨[], RowF.no p c, True.intro⟩, by simp, (fun s hs => by cases hs), (fun s hs => by cases hs)⟩
theorem SgsIn.tail {w : World} {b : Nat} {y : Sg} {r : List Sg} {sb so c : Nat} (h : SgsIn w b (y :: r) (.slice (some ⟨sb, so, none⟩) (y :: r).length c)) (hr : 0 < r.length) (hc : r.length ≤ c - 1) : SgsIn w b r (.slice (some ⟨sb, so + 2, none⟩) r.length (c - 1)) := by
  have h1 := SegsF.dp h.sg (m := 1) (by simp; omega) (c := c - 1) (by simpa using hc)
  refine ⟨?_, by have := h.ln; simp at this; omega, fun s hs => h.el s (by simp [hs]), fun s hs => h.sz s (by simp [hs])⟩
  simpa using h1
/-- a call that fills a message in -/
abbrev FillP (o : Option Ms × Nat) (b : Nat) (ty : TypeId) (pre : List Value) (w : World) (e : Ending) (w' : World) : Prop := RyP o b ty pre w e w'
set_option maxRecDepth 100000 in
set_option maxHeartbeats 3200000 in
theorem readMessage_any (s : Sg) (ve : Value) (l : List Sg) (p : Option Addr) (c : Nat) (b : Nat) (ty : TypeId) (pre : List Value) (m : Ms) (B : Nat) (w : World) (hm : MsgAt w b ty pre m) (hs : SgIn w b s ve) (hl : SgsIn w b l (.slice p l.length c)) (hcap : l.length ≤ c) (he : Env B w) (hB : B ≤ w.heap.size) (hbB : B ≤ b) :
    Calls Tryz.prog 66 #[.pointer (some ⟨b, pre.length, none⟩), .agg #[str s.tag, ve], .slice p l.length c] w (FillP (readMs m s l) b ty pre w) := by
  obtain ⟨R, hR⟩ : ∃ R, R = readMs m s l := ⟨_, rfl⟩
  rw [← hR]
  obtain ⟨w0, hw0⟩ : ∃ w0, w0 = w.alloc (.cells #[str s.tag, ve] 112) := ⟨_, rfl⟩
  have hb0 : Below w.heap.size w w0 := by rw [hw0]; exact (Below.refl _ _).alloc (Nat.le_refl _) _
  have hs0 : w0.heap.size = w.heap.size + 1 := by rw [hw0, size_a]
  have hbl := hm.lt
  have hg0 : w.grownBy w0 (some b) := grown_below hb0
  have HRK := Lib.hid (readKind_any s ve b ty pre m B w0 (hm.keep hb0) ((hs.keep hg0 hbl).els (by omega)) hs.ln hs.sz (he.on (hb0.mono hB)) (by omega))
  have HG0 := Lib.hid hg0
  have HS := Lib.hid hs
  have HL := Lib.hid hl
  have HE := Lib.hid he
  have HBB := Lib.hid hB
  have HBb := Lib.hid hbB
  have HBL := Lib.hid hbl
  have HC := Lib.hid hcap
  have c0 : w0.cell? ⟨w.heap.size, 0, none⟩ = some (str s.tag) := by rw [hw0]; exact cell_of_arr (at_last _ _) 0
  have c1 : w0.cell? ⟨w.heap.size, 1, none⟩ = some ve := by rw [hw0]; exact cell_of_arr (at_last _ _) 1
  rcases hK : kindOf s with _ | ⟨k, fds⟩
  · rw [rm_kind hK] at hR
    rw [hK] at HRK
    have HR := Lib.hid hR
    clear hm hs hl he hB hbB hR hb0 hs0 hbl hg0 hK hcap
    go_enter Tryz.func66, Tryz.ntmps66
    go_wp2_with fail
    rw [← hw0]
    clear hw0
    refine (HRK.out).mono ?_
    rintro e w1 ⟨hg1, ⟨k, fds, v, hx, _⟩ | ⟨_, v, rfl⟩⟩
    · cases hx
    · have HG1 := Lib.hid (grown_trans HG0.out hg1)
      clear hg1
      go_wp2
      go_ret
      exact ⟨HG1.out, by rw [HR.out]; rfl, fun m' h => by rw [HR.out] at h; cases h⟩
  · rw [hK] at HRK
    rcases l with _ | ⟨y, r⟩
    · rw [rm_nil hK] at hR
      have HR := Lib.hid hR
      clear hm hs hl he hB hbB hR hb0 hs0 hbl hg0 hK hcap
      simp only [List.length_nil]
      go_enter Tryz.func66, Tryz.ntmps66
      go_wp2_with fail
      rw [← hw0]
      clear hw0
      refine (HRK.out).mono ?_
      rintro e w1 ⟨hg1, ⟨k, fds, v, hx, rfl, _⟩ | ⟨hx, _⟩⟩
      · have HG1 := Lib.hid (grown_trans HG0.out hg1)
        clear hg1 hx
        go_wp2
        go_ret
        exact ⟨HG1.out, by rw [HR.out]; rfl, fun m' h => by rw [HR.out] at h; cases h⟩
      · cases hx
    · rw [rm_cons hK] at hR
      have HR := Lib.hid hR
      obtain ⟨sb, so, vy, rfl, hsb, _, _, _⟩ := hl.head
      obtain ⟨n, hn⟩ : ∃ n, n = (y :: r).length := ⟨_, rfl⟩
      have HN := Lib.hid (show n = r.length + 1 by rw [hn]; rfl)
      have hn1 : (1 : Int) ≤ (n : Int) := by rw [hn]; simp; omega
      have hn2 : (n : Int) ≤ 1000 := by rw [hn]; have := hl.ln; omega
      have hnc : (n : Int) ≤ (c : Int) := by rw [hn]; omega
      rw [← hn]
      have HKF := Lib.hid (fds_cases (kind_fds hK))
      clear hm hs hl he hB hbB hR hb0 hs0 hbl hg0 hK hcap hn
      go_enter Tryz.func66, Tryz.ntmps66
      go_wp2_with fail
      rw [← hw0]
      clear hw0
      refine (HRK.out).mono ?_
      rintro e w1 ⟨hg1, ⟨k1, fds1, v, hx, rfl, hfl, hm1⟩ | ⟨hx, _⟩⟩
      rotate_left
      · cases hx
      obtain ⟨rfl, rfl⟩ := Prod.mk.inj (Option.some.inj hx)
      have HG1 := Lib.hid (grown_trans HG0.out hg1)
      have hl1 := HL.out.keep HG1.out HBL.out
      obtain ⟨sb1, so1, vy1, e1, _, t0, t1, hy⟩ := hl1.head
      simp only [Option.some.injEq, Addr.mk.injEq] at e1
      obtain ⟨rfl, rfl, _⟩ := e1
      have HL1 := Lib.hid hl1
      have HM1 := Lib.hid hm1
      have HF1 := Lib.hid hfl
      have HB1 := Lib.hid (below_of_grown HG1.out HBb.out HBB.out)
      have hry := readKey_any y vy1 b ty pre _ B w1 hm1 (hy.els hm1.lt) hy.ln hy.sz (HE.out.on HB1.out) (Nat.le_trans HBB.out HB1.out.size) HBb.out
      have HW0 := Lib.hid (show w.heap.size ≤ w0.heap.size from HG0.out.size)
      clear hg1 hx hl1 hm1 hfl hy
      obtain ⟨EI, hEI⟩ : ∃ EI : Int, EI = ((keyOf' { m with kind := k } y).2 : Int) := ⟨_, rfl⟩
      have hry2 : Calls Tryz.prog 88 #[.pointer (some ⟨b, pre.length, none⟩), .agg #[str y.tag, vy1]] w1 fun e w' => e = .returned (.int .i64 EI) ∧ w1.grownBy w' (some b) ∧ ∀ m', (keyOf' { m with kind := k } y).1 = some m' → MsgAt w' b ty pre m' := hry.mono fun e w' ⟨h1, h2, h3⟩ => ⟨by rw [h2, hEI], h1, h3⟩
      have HRY := Lib.hid hry2
      clear hry hry2
      rcases hq : keyOf' { m with kind := k } y with ⟨_ | a, E⟩
      · have hE := key_ne hq
        have HR1 := Lib.hid (show R = (none, E) by rw [HR.out, hq])
        rw [hq] at hEI
        have HEI := Lib.hid hEI
        have hE0 : ¬ EI = 0 := by rw [hEI]; simp only; omega
        clear hq hE hEI
        go_wp2_with (go_at_call 88; refine (HRY.out).mono ?_; rintro e w2 ⟨rfl, hg2, _⟩
                     have HG2 := Lib.hid (grown_trans HG1.out hg2)
                     clear hg2)
        go_ret
        exact ⟨HG2.out, by rw [HR1.out, HEI.out]; rfl, fun m' h => by rw [HR1.out] at h; cases h⟩
      · have hE := key_zero hq
        subst hE
        have HR1 := Lib.hid (show R = (match arRead a fds r with | some b => (some b, 0) | none => (none, 101)) by rw [HR.out, hq])
        rw [hq] at hEI HRY
        obtain rfl : EI = 0 := by rw [hEI]; rfl
        clear hq hEI
        go_wp2_with fail
        refine (HRY.out).mono ?_
        rintro e w2 ⟨rfl, hg2, hm2⟩
        have hm2' := hm2 a rfl
        have HG2 := Lib.hid (grown_trans HG1.out hg2)
        have HB2 := Lib.hid (below_of_grown HG2.out HBb.out HBB.out)
        have HF2 := Lib.hid (HF1.out.grown (F' := fun j => j < w2.heap.size ∧ j ≠ b) hg2 (fun j hj => ⟨hj.2, by have := hj.1; have := HBL.out; have := HW0.out; omega, Nat.lt_of_lt_of_le hj.2 hg2.size, by have := hj.1; have := HBL.out; have := HW0.out; omega⟩))
        have HL2 := Lib.hid (HL.out.keep HG2.out HBL.out)
        have HM2 := Lib.hid hm2'
        have HAR := Lib.hid (fun vs (h : SgsIn w2 b r vs) => areRead_any fds v r vs b ty pre a B _ w2 hm2' HF2.out (fun j hj => hj) h.sg (by rcases HKF.out with h | h | h | h | h <;> rw [h] <;> decide) h.ln h.el h.sz (HE.out.on HB2.out) (Nat.le_trans HBB.out HB2.out.size) HBb.out)
        clear hg2 hm2 hm2' t0 t1
        by_cases hc1 : (c : Int) = 1
        · have hn0 : n = 1 := by omega
          subst hn0
          obtain rfl : c = 1 := by omega
          have hr0 : r = [] := by
            have := HN.out
            exact List.length_eq_zero_iff.1 (by omega)
          subst hr0
          have HA := Lib.hid (HAR.out (.slice (some ⟨sb, so, none⟩) 0 0) (SgsIn.nil _ _ _ _))
          cases har : arRead a fds [] with
          | none =>
            have HR2 := Lib.hid (show R = (none, 101) by rw [HR1.out, har])
            rw [har] at HA
            clear har HAR
            go_wp2_with (go_at_call 89; refine (HA.out).mono ?_; rintro e w3 ⟨hg3, rfl, _⟩
                         have HG3 := Lib.hid (grown_trans HG2.out hg3)
                         clear hg3)
            go_ret
            exact ⟨HG3.out, by rw [HR2.out]; rfl, fun m' h => by rw [HR2.out] at h; cases h⟩
          | some q =>
            have HR2 := Lib.hid (show R = (some q, 0) by rw [HR1.out, har])
            rw [har] at HA
            clear har HAR
            go_wp2_with (go_at_call 89; refine (HA.out).mono ?_; rintro e w3 ⟨hg3, rfl, hm3⟩
                         have HG3 := Lib.hid (grown_trans HG2.out hg3)
                         have HM3 := Lib.hid (hm3 q rfl)
                         clear hg3 hm3)
            go_ret
            exact ⟨HG3.out, by rw [HR2.out]; rfl, fun m' h => by rw [HR2.out] at h; cases h; exact HM3.out⟩
        · have hcn : ¬ (c = 1) := by omega
          have hv : SgsIn w2 b r (.slice (some ⟨sb, so + 2, none⟩) (n - 1) (c - 1)) := by
            have hr : n - 1 = r.length := by have := HN.out; omega
            rw [hr]
            by_cases h0 : 0 < r.length
            · have h := HL2.out
              exact SgsIn.tail (c := c) (y := y) h h0 (by have := HC.out; simp at this; omega)
            · have : r = [] := List.length_eq_zero_iff.1 (by omega)
              subst this
              exact SgsIn.nil _ _ _ _
          have HA := Lib.hid (HAR.out _ hv)
          have hc0 : (0 : Int) ≤ (c : Int) := Int.natCast_nonneg _
          cases har : arRead a fds r with
          | none =>
            have HR2 := Lib.hid (show R = (none, 101) by rw [HR1.out, har])
            rw [har] at HA
            clear har HAR hv
            go_wp2_with (go_at_call 89; refine (HA.out).mono ?_; rintro e w3 ⟨hg3, rfl, _⟩
                         have HG3 := Lib.hid (grown_trans HG2.out hg3)
                         clear hg3)
            go_ret
            exact ⟨HG3.out, by rw [HR2.out]; rfl, fun m' h => by rw [HR2.out] at h; cases h⟩
          | some q =>
            have HR2 := Lib.hid (show R = (some q, 0) by rw [HR1.out, har])
            rw [har] at HA
            clear har HAR hv
            go_wp2_with (go_at_call 89; refine (HA.out).mono ?_; rintro e w3 ⟨hg3, rfl, hm3⟩
                         have HG3 := Lib.hid (grown_trans HG2.out hg3)
                         have HM3 := Lib.hid (hm3 q rfl)
                         clear hg3 hm3)
            go_ret
            exact ⟨HG3.out, by rw [HR2.out]; rfl, fun m' h => by rw [HR2.out] at h; cases h; exact HM3.out⟩
end Go.Proofs.YtgaoeljdlpemnaaGreatDoor
namespace Go.Proofs.YtgaoeljdlpemnaaGreatDoor
open Go.RowKit Go.Edi Go.Wrap Go.Lib

abbrev preV (f t : Nat) (a : Bool) (n : Nat) : List Value := [.int .u8 (f : Int), .int .u8 (t : Int), .bool a, .int .u64 (n : Int)]
def pkV (p : Pk) : Array Value := (preV p.from_ p.to_ p.ack p.num ++ msV p.m).toArray
/-- what segments say: an Ack, or a message -/
def rdL (l : List Sg) : Option (Bool × Ms) × Nat :=
  match l with
  | [] => (none, 100)
  | s :: r =>
    if s.tag = ackT then (if s.els = [] then (match r with | [] => (some (true, .zero), 0) | _ :: _ => (none, 101)) else (none, 100))
    else match readMs .zero s r with
      | (some m, _) => (some (false, m), 0)
      | (none, e) => (none, e)
theorem pack_rd (x : Wr) : packL x = if 8 ≤ x.from_ ∨ 8 ≤ x.to_ then (.zero, 1) else match rdL x.segs with | (some (a, m), _) => (⟨x.from_, x.to_, x.ref, a, m⟩, 0) | (none, e) => (.zero, e) := by
  obtain ⟨f, t, n, l⟩ := x
  unfold packL
  simp only
  by_cases h : 8 ≤ f ∨ 8 ≤ t
  · rw [if_pos h, if_pos h]
  · rw [if_neg h, if_neg h]
    cases l with
    | nil => rfl
    | cons s r =>
      by_cases h1 : s.tag = ackT
      · by_cases h2 : s.els = []
        · cases r <;> simp [rdL, h1, h2]
        · simp [rdL, h1, h2]
      · simp only [rdL, if_neg h1]
        rcases readMs .zero s r with ⟨_ | m, e⟩ <;> rfl
def ReadP (o : Option (Bool × Ms) × Nat) (b f t n : Nat) (w : World) (e : Ending) (w' : World) : Prop :=
  w.grownBy w' (some b) ∧ e = .returned (.int .i64 ((o.2 : Nat) : Int)) ∧ ∀ a m, o.1 = some (a, m) → MsgAt w' b 38 (preV f t a n) m
theorem rm_zero {m a : Ms} {s : Sg} {l : List Sg} {e : Nat} (h : readMs m s l = (some a, e)) : e = 0 := by
  unfold readMs at h
  repeat' split at h
  all_goals first | (cases h; rfl) | cases h
set_option maxRecDepth 100000 in
set_option maxHeartbeats 3200000 in
theorem read_any (l : List Sg) (p : Option Addr) (c : Nat) (b f t n : Nat) (B : Nat) (w : World) (hm : MsgAt w b 38 (preV f t false n) .zero) (hl : SgsIn w b l (.slice p l.length c)) (hcap : l.length ≤ c) (he : Env B w) (hB : B ≤ w.heap.size) (hbB : B ≤ b) :
    Calls Tryz.prog 40 #[.pointer (some ⟨b, 0, none⟩), .slice p l.length c] w (ReadP (rdL l) b f t n w) := by
  obtain ⟨R, hR⟩ : ∃ R, R = rdL l := ⟨_, rfl⟩
  rw [← hR]
  rcases l with _ | ⟨s, r⟩
  · have HR := Lib.hid (show R = (none, 100) from hR)
    simp only [List.length_nil]
    clear hm hl hcap he hB hbB hR
    go_enter Tryz.func40, Tryz.ntmps40
    go_wp2
    go_ret
    exact ⟨grown_refl _ _, by rw [HR.out]; rfl, fun a m h => by rw [HR.out] at h; cases h⟩
  · obtain ⟨sb, so, ve, rfl, hsb, t0, t1, hsg⟩ := hl.head
    obtain ⟨N, hN⟩ : ∃ N, N = (s :: r).length := ⟨_, rfl⟩
    have HN := Lib.hid (show N = r.length + 1 by rw [hN]; rfl)
    have hn1 : (1 : Int) ≤ (N : Int) := by rw [hN]; simp; omega
    have hn2 : (N : Int) ≤ 1000 := by rw [hN]; have := hl.ln; omega
    have hN0 : ¬ N = 0 := by rw [hN]; simp
    have hnc : (N : Int) ≤ (c : Int) := by rw [hN]; omega
    have hc0 : (0 : Int) ≤ (c : Int) := Int.natCast_nonneg _
    have HL := Lib.hid hl
    have HC := Lib.hid hcap
    have HSG := Lib.hid hsg
    have HM := Lib.hid hm
    have HE := Lib.hid he
    have HBB := Lib.hid hB
    have HBb := Lib.hid hbB
    have HNE := Lib.hid (show sb ≠ b by omega)
    rw [← hN]
    by_cases htag : s.tag = ackT
    · have hne : (tx s.tag).toList = [65, 67, 75] := by rw [txl, htag]; rfl
      have hRk : R = if s.els = [] then (match r with | [] => (some (true, .zero), 0) | _ :: _ => (none, 101)) else (none, 100) := by
        rw [hR]
        show (if s.tag = ackT then _ else _) = _
        rw [if_pos htag]
      obtain ⟨ys, ⟨pe, ce, rfl, _, _⟩, _⟩ := hsg.el
      by_cases hels : s.els = []
      · have hel0 : ((s.els.length : Nat) : Int) = 0 := by rw [hels]; rfl
        by_cases hr0 : r = []
        · have hN1 : N = 1 := by rw [HN.out, hr0]; rfl
          subst hN1
          have HR := Lib.hid (show R = (some (true, .zero), 0) by rw [hRk, if_pos hels, hr0])
          have f2 := frozen_of_arr hm 2
          have c2 : w.cell? ⟨b, 2, none⟩ = some (.bool false) := cell_of_arr hm 2
          clear hm hl hcap he hB hbB hR hN hsg hRk htag hels hr0
          go_enter Tryz.func40, Tryz.ntmps40
          go_wp2
          go_ret
          refine ⟨grown_set _ _ _ _, by rw [HR.out]; rfl, fun a m h => ?_⟩
          rw [HR.out] at h
          obtain ⟨rfl, rfl⟩ := Prod.mk.inj (Option.some.inj h)
          have := heap_setCell_same w b 2 _ 38 (.bool true) HM.out
          exact this
        · have hN2 : ¬ (N : Int) ≤ 1 := by
            have := HN.out
            have : r.length ≠ 0 := fun h => hr0 (List.length_eq_zero_iff.1 h)
            omega
          have HR := Lib.hid (show R = (none, 101) by
            rw [hRk, if_pos hels]
            cases r with
            | nil => exact absurd rfl hr0
            | cons y q => rfl)
          clear hm hl hcap he hB hbB hR hN hsg hRk htag hels hr0
          go_enter Tryz.func40, Tryz.ntmps40
          go_wp2
          go_ret
          exact ⟨grown_refl _ _, by rw [HR.out]; rfl, fun a m h => by rw [HR.out] at h; cases h⟩
      · have hel1 : (1 : Int) ≤ ((s.els.length : Nat) : Int) := by
          have : s.els.length ≠ 0 := fun h => hels (List.length_eq_zero_iff.1 h)
          omega
        have HR := Lib.hid (show R = (none, 100) by rw [hRk, if_neg hels])
        clear hm hl hcap he hB hbB hR hN hsg hRk htag hels
        go_enter Tryz.func40, Tryz.ntmps40
        go_wp2
        go_ret
        exact ⟨grown_refl _ _, by rw [HR.out]; rfl, fun a m h => by rw [HR.out] at h; cases h⟩
    · have hne : ((tx s.tag).toList == [65, 67, 75]) = false := by rw [txl]; simpa [ackT] using htag
      have hRk : R = match readMs .zero s r with | (some m, _) => (some (false, m), 0) | (none, e) => (none, e) := by
        rw [hR]
        show (if s.tag = ackT then _ else _) = _
        rw [if_neg htag]
      obtain ⟨E, hE⟩ : ∃ E : Int, E = ((readMs .zero s r).2 : Int) := ⟨_, rfl⟩
      have HRE := Lib.hid (show ((R.2 : Nat) : Int) = E ∧ ∀ a m, R.1 = some (a, m) → a = false ∧ (readMs .zero s r).1 = some m by
        rw [hRk, hE]
        rcases hq : readMs .zero s r with ⟨_ | q, e⟩
        · exact ⟨rfl, fun a m h => by cases h⟩
        · have := rm_zero hq
          subst this
          exact ⟨rfl, fun a m h => by cases h; exact ⟨rfl, rfl⟩⟩)
      have HRMM := Lib.hid (fun p c (h : SgsIn w.drew b r (.slice p r.length c)) (hc : r.length ≤ c) => show Calls Tryz.prog 66 #[.pointer (some ⟨b, 4, none⟩), .agg #[str s.tag, ve], .slice p r.length c] w.drew (fun e w' => e = .returned (.int .i64 E) ∧ w.drew.grownBy w' (some b) ∧ ∀ m', (readMs .zero s r).1 = some m' → MsgAt w' b 38 (preV f t false n) m') from
        (readMessage_any s ve r p c b 38 (preV f t false n) .zero B w.drew hm (hsg.keep (grown_drew _ _) hm.lt) h hc (he.on (Below.refl _ _).drew) hB hbB).mono fun e w' ⟨h1, h2, h3⟩ => ⟨by rw [h2, hE], h1, h3⟩)
      have HT := Lib.hid (And.intro t0 t1)
      clear hm hl hcap he hB hbB hR hN hsg hRk htag hE
      by_cases hc1 : (c : Int) = 1
      · obtain rfl : N = 1 := by omega
        obtain rfl : c = 1 := by omega
        have hr0 : r = [] := List.length_eq_zero_iff.1 (by have := HN.out; omega)
        subst hr0
        have HRM := Lib.hid (HRMM.out (some ⟨sb, so, none⟩) 0 (SgsIn.nil _ _ _ _) (Nat.le_refl _))
        clear HRMM
        simp only [List.length_nil] at HRM
        go_enter Tryz.func40, Tryz.ntmps40
        go_upto_region 4 with fail
        refine wp_region_held (S := fun w' => w'.cell? ⟨sb, so, none⟩ = some (str s.tag) ∧ w'.cell? ⟨sb, so + 1, none⟩ = some ve) (by kernel_rfl) ?_
        change wpAnyH _ _ _ _ _ _ _ _ (World.drew _)
        have HS2 := Lib.hid (show w.drew.cell? ⟨sb, so, none⟩ = some (str s.tag) ∧ w.drew.cell? ⟨sb, so + 1, none⟩ = some ve from HT.out)
        refine tkH (i := 0) (oi := ⟨some 15, .move (.tmp 0), _, _, _, none⟩) (v := .pointer (some ⟨b, 0, none⟩)) rfl qs HS2.out ?_
        simp only [Act.put, zs1, zs2, zs3]
        refine tkH (i := 1) (oi := ⟨some 16, .nilCheck (.tmp 15), _, _, _, none⟩) (v := .pointer (some ⟨b, 0, none⟩)) rfl qs HS2.out ?_
        simp only [Act.put, zs1, zs2, zs3]
        refine tkH (i := 2) (oi := ⟨some 17, .fieldAddr 38 (.tmp 16) 4, _, _, _, none⟩) (v := .pointer (some ⟨b, 4, none⟩)) rfl qs HS2.out ?_
        simp only [Act.put, zs1, zs2, zs3]
        refine tkH (i := 3) (oi := ⟨some 18, .move (.tmp 1), _, _, _, none⟩) (v := .slice (some ⟨sb, so, none⟩) 1 1) rfl qs HS2.out ?_
        simp only [Act.put, zs1, zs2, zs3]
        refine tkH (i := 4) (oi := ⟨some 19, .indexAddr 72 (.tmp 18) (.const (.int .i64 0)), _, _, _, none⟩) (v := .pointer (some ⟨sb, so, none⟩)) rfl qs HS2.out ?_
        simp only [Act.put, zs1, zs2, zs3]
        refine tkH (i := 5) (oi := ⟨some 20, .load 112 (.tmp 19), _, _, _, none⟩) (v := .agg #[str s.tag, ve]) rfl (Or.inl ⟨by rfl, fun w' hS => by have c0 := hS.1; have c1 := hS.2; go_simp⟩) HS2.out ?_
        simp only [Act.put, zs1, zs2, zs3]
        refine tkH (i := 6) (oi := ⟨some 21, .move (.tmp 1), _, _, _, none⟩) (v := .slice (some ⟨sb, so, none⟩) 1 1) rfl qs HS2.out ?_
        simp only [Act.put, zs1, zs2, zs3]
        refine tkH (i := 7) (oi := ⟨some 22, .slice 72 (.tmp 21) (some (.const (.int .i64 1))) none none, _, _, _, none⟩) (v := .slice (some ⟨sb, so, none⟩) 0 0) rfl qs HS2.out ?_
        simp only [Act.put, zs1, zs2, zs3]
        refine wpAnyH_ready (rs := [8]) (by kernel_rfl) (by simp) (AllReadyH.cons (o := ⟨some 23, .call ⟨.value (.func 66), #[.tmp 17, .tmp 20, .tmp 22], _⟩, _, _, _, none⟩) rfl (fun K hK => ?_) AllReadyH.nil)
        go_simp
        refine (HRM.out).mono ?_
        rintro e w3 ⟨rfl, hg3, hm3⟩
        have HG3 := Lib.hid (grown_trans (grown_drew w (some b)) hg3)
        have HM3 := Lib.hid hm3
        have HS3 := Lib.hid (show w3.cell? ⟨sb, so, none⟩ = some (str s.tag) ∧ w3.cell? ⟨sb, so + 1, none⟩ = some ve from ⟨grown_cell hg3 HNE.out HS2.out.1, grown_cell hg3 HNE.out HS2.out.2⟩)
        clear hg3 hm3
        refine hK.out _ _ HS3.out (fun _ => ?_)
        clear hK K
        refine tkH (i := 9) (oi := ⟨some 4, .assign (.tmp 23), _, _, _, none⟩) (v := .int .i64 E) rfl qs HS3.out ?_
        simp only [Act.put, zs1, zs2, zs3]
        refine wpAnyH_done (by kernel_rfl) ?_ _
        go_wp2
        go_ret
        refine ⟨HG3.out, by rw [HRE.out.1]; rfl, fun a m h => ?_⟩
        obtain ⟨rfl, h2⟩ := HRE.out.2 a m h
        exact HM3.out m h2
      · have hcn : ¬ (c = 1) := by omega
        have hv : SgsIn w.drew b r (.slice (some ⟨sb, so + 2, none⟩) r.length (c - 1)) := by
          by_cases h0 : 0 < r.length
          · exact SgsIn.tail (c := c) (y := s) (HL.out.keep (grown_drew _ _) HM.out.lt) h0 (by have := HC.out; simp at this; omega)
          · have : r = [] := List.length_eq_zero_iff.1 (by omega)
            subst this
            exact SgsIn.nil _ _ _ _
        have HRM1 := HRMM.out _ _ hv (by have := HC.out; simp at this; omega)
        have hr : r.length = N - 1 := by have := HN.out; omega
        rw [hr] at HRM1
        have HRM := Lib.hid HRM1
        clear HRMM HRM1 hv hr
        go_enter Tryz.func40, Tryz.ntmps40
        go_upto_region 4 with fail
        refine wp_region_held (S := fun w' => w'.cell? ⟨sb, so, none⟩ = some (str s.tag) ∧ w'.cell? ⟨sb, so + 1, none⟩ = some ve) (by kernel_rfl) ?_
        change wpAnyH _ _ _ _ _ _ _ _ (World.drew _)
        have HS2 := Lib.hid (show w.drew.cell? ⟨sb, so, none⟩ = some (str s.tag) ∧ w.drew.cell? ⟨sb, so + 1, none⟩ = some ve from HT.out)
        refine tkH (i := 0) (oi := ⟨some 15, .move (.tmp 0), _, _, _, none⟩) (v := .pointer (some ⟨b, 0, none⟩)) rfl qs HS2.out ?_
        simp only [Act.put, zs1, zs2, zs3]
        refine tkH (i := 1) (oi := ⟨some 16, .nilCheck (.tmp 15), _, _, _, none⟩) (v := .pointer (some ⟨b, 0, none⟩)) rfl qs HS2.out ?_
        simp only [Act.put, zs1, zs2, zs3]
        refine tkH (i := 2) (oi := ⟨some 17, .fieldAddr 38 (.tmp 16) 4, _, _, _, none⟩) (v := .pointer (some ⟨b, 4, none⟩)) rfl qs HS2.out ?_
        simp only [Act.put, zs1, zs2, zs3]
        refine tkH (i := 3) (oi := ⟨some 18, .move (.tmp 1), _, _, _, none⟩) (v := .slice (some ⟨sb, so, none⟩) N c) rfl qs HS2.out ?_
        simp only [Act.put, zs1, zs2, zs3]
        refine tkH (i := 4) (oi := ⟨some 19, .indexAddr 72 (.tmp 18) (.const (.int .i64 0)), _, _, _, none⟩) (v := .pointer (some ⟨sb, so, none⟩)) rfl qs HS2.out ?_
        simp only [Act.put, zs1, zs2, zs3]
        refine tkH (i := 5) (oi := ⟨some 20, .load 112 (.tmp 19), _, _, _, none⟩) (v := .agg #[str s.tag, ve]) rfl (Or.inl ⟨by rfl, fun w' hS => by have c0 := hS.1; have c1 := hS.2; go_simp⟩) HS2.out ?_
        simp only [Act.put, zs1, zs2, zs3]
        refine tkH (i := 6) (oi := ⟨some 21, .move (.tmp 1), _, _, _, none⟩) (v := .slice (some ⟨sb, so, none⟩) N c) rfl qs HS2.out ?_
        simp only [Act.put, zs1, zs2, zs3]
        refine tkH (i := 7) (oi := ⟨some 22, .slice 72 (.tmp 21) (some (.const (.int .i64 1))) none none, _, _, _, none⟩) (v := .slice (some ⟨sb, so + 2, none⟩) (N - 1) (c - 1)) rfl qs HS2.out ?_
        simp only [Act.put, zs1, zs2, zs3]
        refine wpAnyH_ready (rs := [8]) (by kernel_rfl) (by simp) (AllReadyH.cons (o := ⟨some 23, .call ⟨.value (.func 66), #[.tmp 17, .tmp 20, .tmp 22], _⟩, _, _, _, none⟩) rfl (fun K hK => ?_) AllReadyH.nil)
        go_simp
        refine (HRM.out).mono ?_
        rintro e w3 ⟨rfl, hg3, hm3⟩
        have HG3 := Lib.hid (grown_trans (grown_drew w (some b)) hg3)
        have HM3 := Lib.hid hm3
        have HS3 := Lib.hid (show w3.cell? ⟨sb, so, none⟩ = some (str s.tag) ∧ w3.cell? ⟨sb, so + 1, none⟩ = some ve from ⟨grown_cell hg3 HNE.out HS2.out.1, grown_cell hg3 HNE.out HS2.out.2⟩)
        clear hg3 hm3
        refine hK.out _ _ HS3.out (fun _ => ?_)
        clear hK K
        refine tkH (i := 9) (oi := ⟨some 4, .assign (.tmp 23), _, _, _, none⟩) (v := .int .i64 E) rfl qs HS3.out ?_
        simp only [Act.put, zs1, zs2, zs3]
        refine wpAnyH_done (by kernel_rfl) ?_ _
        go_wp2
        go_ret
        refine ⟨HG3.out, by rw [HRE.out.1]; rfl, fun a m h => ?_⟩
        obtain ⟨rfl, h2⟩ := HRE.out.2 a m h
        exact HM3.out m h2
end Go.Proofs.YtgaoeljdlpemnaaGreatDoor
