/- Contract: whether a message may be told. -/
import Derived.Test.YtgaoeljdlpemnaaGreatDoorMgPk
import Derived.Laws.Tables
import Derived.Laws.StructEq
/- Contract: the packet of an interchange. -/
namespace Go.Proofs.YtgaoeljdlpemnaaGreatDoor
open Go.RowKit Go.Edi Go.Wrap Go.Lib

theorem areC_any (f t : Nat) (hf : f < 256) (ht : t < 256) (w : World) : Calls Tryz.prog 29 #[.int .u8 (f : Int), .int .u8 (t : Int)] w fun e w' => e = .returned (.bool (decide (f < 8) && decide (t < 8))) ∧ w = w' := by
  have h1 : (0 : Int) ≤ (f : Int) := Int.natCast_nonneg _
  have h2 : (0 : Int) ≤ (t : Int) := Int.natCast_nonneg _
  by_cases a : f < 8
  · have a' : (f : Int) < 8 := by omega
    have a2 : decide (f < 8) = true := by simpa using a
    rw [a2]
    by_cases b : t < 8
    · have b' : (t : Int) < 8 := by omega
      have b2 : decide (t < 8) = true := by simpa using b
      rw [b2]
      clear a b a2 b2 hf ht
      go_enter Tryz.func29, Tryz.ntmps29
      go_wp2
      go_ret
      exact ⟨rfl, rfl⟩
    · have b' : ¬ (t : Int) < 8 := by omega
      have b2 : decide (t < 8) = false := by simpa using b
      rw [b2]
      clear a b a2 b2 hf ht
      go_enter Tryz.func29, Tryz.ntmps29
      go_wp2
      go_ret
      exact ⟨rfl, rfl⟩
  · have a' : ¬ (f : Int) < 8 := by omega
    have a2 : decide (f < 8) = false := by simpa using a
    rw [a2]
    clear a a2 hf ht
    go_enter Tryz.func29, Tryz.ntmps29
    go_wp2
    go_ret
    exact ⟨rfl, rfl⟩
abbrev pk0 : Array Value := #[.int .u8 0, .int .u8 0, .bool false, .int .u64 0, .int .u8 0, .int .u8 0, .int .u64 0, .int .u8 0, .int .u8 0, .int .u16 0, .int .u32 0, .int .i64 0, .int .u8 0, .int .u32 0, .int .i64 0, .int .i64 0]
theorem pk0_zero : pkV .zero = pk0 := rfl
theorem sizePk : (Tryz.prog.info? 38).map (·.size) = some 16 := by kernel_rfl
theorem pk0_one : pk0.all (·.oneCell') = true := by decide +kernel
theorem pkv_one (p : Pk) : (pkV p).all (·.oneCell') = true := by
  unfold pkV msV
  simp [Value.oneCell']
theorem rm_ne {m : Ms} {s : Sg} {l : List Sg} {e : Nat} (h : readMs m s l = (none, e)) : e ≠ 0 := by
  unfold readMs at h
  split at h
  · cases h; decide
  · split at h
    · cases h; decide
    · split at h
      · split at h
        · cases h
        · cases h; decide
      · rename_i hk
        have := (Prod.mk.inj h).2
        subst this
        exact key_ne hk
theorem rd_ne {l : List Sg} {e : Nat} (h : rdL l = (none, e)) : e ≠ 0 := by
  unfold rdL at h
  split at h
  · cases h; decide
  · split at h
    · split at h
      · split at h
        · cases h
        · cases h; decide
      · cases h; decide
    · split at h
      · cases h
      · rename_i hr
        have := (Prod.mk.inj h).2
        subst this
        exact rm_ne hr
theorem rd_zero {l : List Sg} {q : Bool × Ms} {e : Nat} (h : rdL l = (some q, e)) : e = 0 := by
  unfold rdL at h
  split at h
  · cases h
  · split at h
    · split at h
      · split at h
        · cases h; rfl
        · cases h
      · cases h
    · split at h
      · cases h; rfl
      · cases h
theorem below_setR {B g : Nat} {w0 w : World} (h : Below B w0 w) (hB : B ≤ g) (cs : Array Value) : Below B w0 (w.setRow g cs) :=
  ⟨h.os, h.tape, h.output, by rw [size_setRow]; exact h.size, fun k hk => by
    show (w.heap.modify g _)[k]? = _
    rw [Array.getElem?_modify, if_neg (by omega)]; exact h.block k hk⟩
def PackP (o : Pk × Nat) (w : World) (e : Ending) (w' : World) : Prop :=
  e = .returned (.tuple #[.agg (pkV o.1), .int .i64 ((o.2 : Nat) : Int)]) ∧ Below w.heap.size w w'
set_option maxRecDepth 100000 in
set_option maxHeartbeats 3200000 in
theorem packet_any (x : Wr) (v : Value) (B : Nat) (w : World) (hf : x.from_ < 256) (ht : x.to_ < 256) (hv : SegsF w (· < w.heap.size) v x.segs) (hln : x.segs.length ≤ 1000) (hel : ∀ s ∈ x.segs, s.els.length ≤ 1000) (hsz : ∀ s ∈ x.segs, ∀ e ∈ s.els, ∀ t ∈ e, t.length ≤ 281474976710656) (he : Env B w) (hB : B ≤ w.heap.size) :
    Calls Tryz.prog 26 #[.agg (wrV x.from_ x.to_ x.ref v)] w (PackP (packL x) w) := by
  obtain ⟨f, t, n, l⟩ := x
  simp only at hf ht hv hln hel hsz ⊢
  obtain ⟨R, hR⟩ : ∃ R, R = packL ⟨f, t, n, l⟩ := ⟨_, rfl⟩
  rw [← hR]
  rw [pack_rd] at hR
  simp only at hR
  have HA := Lib.hid (fun W => areC_any f t hf ht W)
  have hf0 : (0 : Int) ≤ (f : Int) := Int.natCast_nonneg _
  have ht0 : (0 : Int) ≤ (t : Int) := Int.natCast_nonneg _
  by_cases h8 : 8 ≤ f ∨ 8 ≤ t
  · rw [if_pos h8] at hR
    have HR := Lib.hid hR
    have hb : (decide (f < 8) && decide (t < 8)) = false := by
      rcases h8 with h | h
      · have : decide (f < 8) = false := by simp; omega
        rw [this]; rfl
      · have : decide (t < 8) = false := by simp; omega
        rw [this, Bool.and_false]
    rw [hb] at HA
    have HD := Lib.hid (show ((w.alloc (.cells (wrV f t n v) 74)).alloc (.cells pk0 38)).heap[w.heap.size + 1]? = some (.cells pk0 38 (0, 0)) from heap_new _ _ _ (by simp only [size_a]))
    have HB0 := Lib.hid (show Below w.heap.size w ((w.alloc (.cells (wrV f t n v) 74)).alloc (.cells pk0 38)) from ((Below.refl _ _).alloc (Nat.le_refl _) _).alloc (by simp only [size_a]; omega) _)
    clear hf ht hv hln hel hsz he hB h8 hb hR
    go_enter Tryz.func26, Tryz.ntmps26
    go_wp2_with (first
      | (go_at_call 29; refine (HA.out _).mono ?_; rintro e w2 ⟨rfl, rfl⟩)
      | (refine wpList_store_row rfl 38 _ _ rfl (w.heap.size + 1) pk0 rfl rfl 38 pk0 HD.out sizePk rfl pk0_one ?_))
    refine bodyPost_ret (results_cell_tmp_row rfl _ _ (w.heap.size + 1) 38 pk0 (0, 0) _ rfl (setRow_heap _ _ _ _ _ _ HD.out) Tryz.underlying38 rfl sizePk) rfl ?_
    exact ⟨by rw [HR.out]; rfl, below_setR HB0.out (by omega) _⟩
  · rw [if_neg h8] at hR
    have HR := Lib.hid hR
    have hb : (decide (f < 8) && decide (t < 8)) = true := by
      have h1 : decide (f < 8) = true := by simp; omega
      have h2 : decide (t < 8) = true := by simp; omega
      rw [h1, h2]; rfl
    rw [hb] at HA
    obtain ⟨p, cap, rfl⟩ := segs_slice hv
    obtain ⟨w3, hw3⟩ : ∃ w3, w3 = ((w.alloc (.cells (wrV f t n (.slice p l.length cap)) 74)).alloc (.cells pk0 38)).alloc (.cells (pkV ⟨f, t, n, false, .zero⟩) 38) := ⟨_, rfl⟩
    have hs3 : w3.heap.size = w.heap.size + 1 + 1 + 1 := by rw [hw3]; simp only [size_a]
    have hb3 : Below w.heap.size w w3 := by rw [hw3]; exact (((Below.refl _ _).alloc (Nat.le_refl _) _).alloc (by simp only [size_a]; omega) _).alloc (by simp only [size_a]; omega) _
    have hd3 : w3.heap[w.heap.size + 1]? = some (.cells pk0 38 (0, 0)) := by rw [hw3]; exact heap_past _ _ _ (by simp only [size_a]; omega) (heap_new _ _ _ (by simp only [size_a]))
    have hm3 : MsgAt w3 (w.heap.size + 1 + 1) 38 (preV f t false n) .zero := by rw [hw3]; exact heap_new _ _ _ (by simp only [size_a])
    have hx3 : w3.heap[w.heap.size]? = some (.cells (wrV f t n (.slice p l.length cap)) 74 (0, 0)) := by rw [hw3]; exact heap_past _ _ _ (by simp only [size_a]; omega) (heap_past _ _ _ (by simp only [size_a]; omega) (heap_new _ _ _ rfl))
    have hcap : l.length ≤ cap := by
      obtain ⟨xs, ⟨p', c', e, h, _⟩, _⟩ := hv
      simp only [Value.slice.injEq] at e
      obtain ⟨_, _, rfl⟩ := e
      exact h
    have hsg : SgsIn w3 (w.heap.size + 1 + 1) l (.slice p l.length cap) := ⟨hv.kept (fun j hj => ⟨by omega, hb3.block j hj⟩), hln, hel, hsz⟩
    have HRD := Lib.hid (read_any l p cap (w.heap.size + 1 + 1) f t n B w3 hm3 hsg hcap (he.on (hb3.mono hB)) (by omega) (by omega))
    have HD3 := Lib.hid hd3
    have HB3 := Lib.hid hb3
    have HS3 := Lib.hid hs3
    have c3 : w3.cell? ⟨w.heap.size, 3, none⟩ = some (.slice p l.length cap) := cell_of_arr hx3 3
    clear hf ht hv hln hel hsz he hB h8 hb hR hs3 hb3 hd3 hm3 hx3 hcap hsg
    go_enter Tryz.func26, Tryz.ntmps26
    go_upto_region 4 with (go_at_call 29; refine (HA.out _).mono ?_; rintro e w2 ⟨rfl, rfl⟩)
    have hw3' : ((w.alloc (.cells (wrV f t n (.slice p l.length cap)) 74)).alloc (.cells pk0 38)).alloc (.cells #[.int .u8 (f : Int), .int .u8 (t : Int), .bool false, .int .u64 (n : Int), .int .u8 0, .int .u8 0, .int .u64 0, .int .u8 0, .int .u8 0, .int .u16 0, .int .u32 0, .int .i64 0, .int .u8 0, .int .u32 0, .int .i64 0, .int .i64 0] 38) = w3 := hw3.symm
    rw [hw3']
    clear hw3 hw3'
    obtain ⟨E, hE⟩ : ∃ E : Int, E = ((rdL l).2 : Int) := ⟨_, rfl⟩
    have HRE := Lib.hid (HRD.out.mono (R' := fun e w' => e = .returned (.int .i64 E) ∧ w3.grownBy w' (some (w.heap.size + 1 + 1)) ∧ ∀ a m, (rdL l).1 = some (a, m) → MsgAt w' (w.heap.size + 1 + 1) 38 (preV f t a n) m) (fun e w' ⟨h1, h2, h3⟩ => ⟨by rw [h2, hE], h1, h3⟩))
    clear HRD
    rcases hq : rdL l with ⟨_ | ⟨a, m⟩, e⟩
    · have hne := rd_ne hq
      have HR1 := Lib.hid (show R = (.zero, e) by rw [HR.out, hq])
      rw [hq] at hE
      have HEE := Lib.hid hE
      have hE0 : ¬ E = 0 := by rw [hE]; simp only; omega
      clear hq hne hE
      go_wp2_with (first
        | (go_at_call 40; refine (HRE.out).mono ?_; rintro e w4 ⟨rfl, hg4, _⟩
           have HG4 := Lib.hid hg4
           have HD4 := Lib.hid ((hg4.block _ (lt_of_heap HD3.out) (by simp)).trans HD3.out)
           clear hg4)
        | (refine wpList_store_row rfl 38 _ _ rfl (w.heap.size + 1) pk0 rfl rfl 38 pk0 HD4.out sizePk rfl pk0_one ?_))
      refine bodyPost_ret (results_cell_tmp_row rfl _ _ (w.heap.size + 1) 38 pk0 (0, 0) _ rfl (setRow_heap _ _ _ _ _ _ HD4.out) Tryz.underlying38 rfl sizePk) rfl ?_
      exact ⟨by rw [HR1.out]; show _ = Ending.returned (.tuple #[.agg pk0, .int .i64 (e : Int)]); rw [← show E = (e : Int) from HEE.out]; rfl, below_setR (HB3.out.grown HG4.out HB3.out.size (fun k hk => by cases hk; omega)) (by omega) _⟩
    · have he0 := rd_zero hq
      subst he0
      have HR1 := Lib.hid (show R = (⟨f, t, n, a, m⟩, 0) by rw [HR.out, hq])
      rw [hq] at hE HRE
      obtain rfl : E = 0 := by rw [hE]; rfl
      clear hq hE
      go_wp2_with (first
        | (go_at_call 40; refine (HRE.out).mono ?_; rintro e w4 ⟨rfl, hg4, hm4⟩
           have HG4 := Lib.hid hg4
           have HM4 := Lib.hid (show w4.heap[w.heap.size + 1 + 1]? = some (.cells (pkV ⟨f, t, n, a, m⟩) 38 (0, 0)) from hm4 a m rfl)
           have HD4 := Lib.hid ((hg4.block _ (lt_of_heap HD3.out) (by simp)).trans HD3.out)
           clear hg4 hm4)
        | (refine wpList_load_row rfl 38 _ rfl (w.heap.size + 1 + 1) rfl 38 (pkV ⟨f, t, n, a, m⟩) (0, 0) _ HM4.out Tryz.underlying38 rfl sizePk ?_)
        | (refine wpList_store_row rfl 38 _ _ rfl (w.heap.size + 1) (pkV ⟨f, t, n, a, m⟩) rfl rfl 38 pk0 HD4.out sizePk rfl (pkv_one _) ?_))
      refine bodyPost_ret (results_cell_tmp_row rfl _ _ (w.heap.size + 1) 38 (pkV ⟨f, t, n, a, m⟩) (0, 0) _ rfl (setRow_heap _ _ _ _ _ _ HD4.out) Tryz.underlying38 rfl sizePk) rfl ?_
      exact ⟨by rw [HR1.out]; rfl, below_setR (HB3.out.grown HG4.out HB3.out.size (fun k hk => by cases hk; omega)) (by omega) _⟩
end Go.Proofs.YtgaoeljdlpemnaaGreatDoor
/- Messages and packets are compared cell by cell. -/
namespace Go.Proofs.YtgaoeljdlpemnaaGreatDoor
open Go.RowKit Go.Edi Go.Wrap Go.Lib

theorem Pk.ext' {a b : Pk} (h1 : a.from_ = b.from_) (h2 : a.to_ = b.to_) (h3 : a.num = b.num) (h4 : a.ack = b.ack) (h5 : a.m = b.m) : a = b := by
  obtain ⟨a1, a2, a3, a4, a5⟩ := a
  obtain ⟨b1, b2, b3, b4, b5⟩ := b
  simp only at *
  subst h1 h2 h3 h4 h5
  rfl
instance : DecidableEq Pk := fun a b =>
  if h : a.from_ = b.from_ ∧ a.to_ = b.to_ ∧ a.num = b.num ∧ a.ack = b.ack ∧ a.m = b.m then .isTrue (Pk.ext' h.1 h.2.1 h.2.2.1 h.2.2.2.1 h.2.2.2.2)
  else .isFalse (fun e => h (by subst e; exact ⟨rfl, rfl, rfl, rfl, rfl⟩))
theorem eql_ms (a m : Ms) (w : World) : (binOp .eql 36 (.agg ((msV a).toArray)) (.agg ((msV m).toArray))).run Tryz.prog w = .ok (.bool (decide (a = m))) w := by
  have hS : Tryz.prog.underlying 36 = some (.struct (Tryz.prog.fieldsOf 36)) := by kernel_rfl
  have hp : Tryz.prog.stoodInHeld 36 = false := by kernel_rfl
  rw [run_eql_struct, show (10000 : Nat) = 9999 + 1 from rfl, run_equalIn_agg w 9999 36 _ _ hS hp]
  simp only [Program.fieldsOf, Tryz.underlying36, msV]
  by_cases e : a = m
  · subst e
    go_simp
    try simp
  · have hd : decide (a = m) = false := decide_eq_false e
    rw [hd]
    clear hd hS hp
    go_simp
    intros
    try intro _
    try exfalso
    apply e
    apply Ms.ext' <;> first | assumption | omega
theorem eql_pk (a m : Pk) (w : World) : (binOp .eql 38 (.agg (pkV a)) (.agg (pkV m))).run Tryz.prog w = .ok (.bool (decide (a = m))) w := by
  have hS : Tryz.prog.underlying 38 = some (.struct (Tryz.prog.fieldsOf 38)) := by kernel_rfl
  have hp : Tryz.prog.stoodInHeld 38 = false := by kernel_rfl
  rw [run_eql_struct, show (10000 : Nat) = 9999 + 1 from rfl, run_equalIn_agg w 9999 38 _ _ hS hp]
  simp only [Program.fieldsOf, Tryz.underlying38, pkV, msV, List.cons_append, List.nil_append]
  by_cases e : a = m
  · subst e
    go_simp
    try simp
  · have hd : decide (a = m) = false := decide_eq_false e
    rw [hd]
    clear hd hS hp
    go_simp
    intros
    try intro _
    try exfalso
    apply e
    refine Pk.ext' (by omega) (by omega) (by omega) (by first | assumption | simp_all) (Ms.ext' ?_ ?_ ?_ ?_ ?_ ?_ ?_ ?_ ?_ ?_ ?_ ?_) <;> first | assumption | omega
theorem neq_ms (a m : Ms) (w : World) : (binOp .neq 36 (.agg ((msV a).toArray)) (.agg ((msV m).toArray))).run Tryz.prog w = .ok (.bool (!decide (a = m))) w := by
  have hS : Tryz.prog.underlying 36 = some (.struct (Tryz.prog.fieldsOf 36)) := by kernel_rfl
  have hp : Tryz.prog.stoodInHeld 36 = false := by kernel_rfl
  rw [run_neq_struct, show (10000 : Nat) = 9999 + 1 from rfl, run_equalIn_agg w 9999 36 _ _ hS hp]
  simp only [Program.fieldsOf, Tryz.underlying36, msV]
  by_cases e : a = m
  · subst e
    go_simp
    try simp
  · have hd : decide (a = m) = false := decide_eq_false e
    rw [hd]
    clear hd hS hp
    go_simp
    intros
    try intro _
    try exfalso
    apply e
    apply Ms.ext' <;> first | assumption | omega
theorem neq_pk (a m : Pk) (w : World) : (binOp .neq 38 (.agg (pkV a)) (.agg (pkV m))).run Tryz.prog w = .ok (.bool (!decide (a = m))) w := by
  have hS : Tryz.prog.underlying 38 = some (.struct (Tryz.prog.fieldsOf 38)) := by kernel_rfl
  have hp : Tryz.prog.stoodInHeld 38 = false := by kernel_rfl
  rw [run_neq_struct, show (10000 : Nat) = 9999 + 1 from rfl, run_equalIn_agg w 9999 38 _ _ hS hp]
  simp only [Program.fieldsOf, Tryz.underlying38, pkV, msV, List.cons_append, List.nil_append]
  by_cases e : a = m
  · subst e
    go_simp
    try simp
  · have hd : decide (a = m) = false := decide_eq_false e
    rw [hd]
    clear hd hS hp
    go_simp
    intros
    try intro _
    try exfalso
    apply e
    refine Pk.ext' (by omega) (by omega) (by omega) (by first | assumption | simp_all) (Ms.ext' ?_ ?_ ?_ ?_ ?_ ?_ ?_ ?_ ?_ ?_ ?_ ?_) <;> first | assumption | omega
end Go.Proofs.YtgaoeljdlpemnaaGreatDoor
namespace Go.Proofs.YtgaoeljdlpemnaaGreatDoor
open Go.RowKit Go.Edi Go.Wrap Go.Lib

theorem tell_enter (f : Fd) : ∀ args w, (callFunc (tellFn f) args).run Tryz.prog w = .ok (.enter (tellFn f) args) w := by
  cases f
  · exact enters_of Tryz.func110 (by kernel_rfl) rfl
  · exact enters_of Tryz.func116 (by kernel_rfl) rfl
  · exact enters_of Tryz.func118 (by kernel_rfl) rfl
theorem tell_any (m : Ms) (f : Fd) (w : World) (hm : m.Ty) : Calls Tryz.prog (tellFn f) #[.agg (msV m).toArray] w (TellP m f w) := by
  cases f
  · exact tell_cpn m w hm
  · exact tell_amt m w
  · exact tell_cod m w hm
theorem sizeMs : (Tryz.prog.info? 36).map (·.size) = some 12 := by kernel_rfl
def MayP (o : Bool) (w : World) (e : Ending) (w' : World) : Prop := e = .returned (.bool o) ∧ Below w.heap.size w w'
theorem may_at {m : Ms} {fds : List Fd} (h : ¬ m.at_ < 4) : mayL m fds = false := by
  unfold mayL
  have : decide (m.at_ < 4) = false := decide_eq_false h
  rw [this, Bool.false_and]
theorem may_reb {m : Ms} {fds : List Fd} (h : m.at_ < 4) : mayL m fds = match rebL m (bareL m) fds with | some a => decide (a = m) | none => false := by
  unfold mayL
  have : decide (m.at_ < 4) = true := decide_eq_true h
  rw [this, Bool.true_and]
  rfl
/-- a message that is being put together again -/
def begL (m : Ms) : Ms := ⟨m.kind, m.car, m.ser, 0, 0, 0, 0, 0, 0, 0, 0, 0⟩
set_option maxRecDepth 100000 in
set_option maxHeartbeats 3200000 in
theorem mayBe_any (m : Ms) (fds : List Fd) (vf : Value) (w : World) (hm : m.Ty) (hf : FldsF w (· < w.heap.size) vf fds) (hfl : fds.length ≤ 10) :
    Calls Tryz.prog 69 #[.agg (msV m).toArray, vf] w (MayP (mayL m fds) w) := by
  obtain ⟨pf, cf, rfl, hcf, hpf⟩ := hf
  have lF : (fds.length : Int) ≤ 10 := by omega
  obtain ⟨R, hR⟩ : ∃ R, R = mayL m fds := ⟨_, rfl⟩
  rw [← hR]
  have HPF := Lib.hid hpf
  have HMT := Lib.hid hm
  have ha0 : (0 : Int) ≤ (m.at_ : Int) := Int.natCast_nonneg _
  have ha1 : (m.at_ : Int) ≤ 255 := by have := hm.at_; omega
  obtain ⟨w1, hw1⟩ : ∃ w1, w1 = (w.alloc (.cells (msV m).toArray 36)).alloc (.cells (msV (begL m)).toArray 36) := ⟨_, rfl⟩
  have hs1 : w1.heap.size = w.heap.size + 1 + 1 := by rw [hw1]; simp only [size_a]
  have hb1 : Below w.heap.size w w1 := by rw [hw1]; exact ((Below.refl _ _).alloc (Nat.le_refl _) _).alloc (by simp only [size_a]; omega) _
  have hM1 : w1.heap[w.heap.size]? = some (.cells (msV m).toArray 36 (0, 0)) := by rw [hw1]; exact heap_past _ _ _ (by simp only [size_a]; omega) (heap_new _ _ _ rfl)
  have hA1 : MsgAt w1 (w.heap.size + 1) 36 [] (begL m) := by rw [hw1]; exact heap_new _ _ _ (by simp only [size_a])
  have HTA := Lib.hid (takeAt_any (m.at_ : Int) (w.heap.size + 1) 36 [] (begL m) w1 hA1)
  have a3 : w1.cell? ⟨w.heap.size, 3, none⟩ = some (.int .u8 (m.at_ : Int)) := cell_of_arr hM1 3
  have HB1 := Lib.hid hb1
  have HM1 := Lib.hid hM1
  have HS1 := Lib.hid hs1
  have hw1' : (w.alloc (.cells #[.int .u8 (m.kind : Int), .int .u8 (m.car : Int), .int .u64 (m.ser : Int), .int .u8 (m.at_ : Int), .int .u8 (m.lc : Int), .int .u16 (m.lf : Int), .int .u32 (m.lw : Int), .int .i64 m.val, .int .u8 (m.st : Int), .int .u32 (m.non : Int), .int .i64 m.am, .int .i64 m.code] 36)).alloc (.cells #[.int .u8 (m.kind : Int), .int .u8 (m.car : Int), .int .u64 (m.ser : Int), .int .u8 0, .int .u8 0, .int .u16 0, .int .u32 0, .int .i64 0, .int .u8 0, .int .u32 0, .int .i64 0, .int .i64 0] 36) = w1 := hw1.symm
  have HW1 := Lib.hid hw1'
  by_cases hat : m.at_ < 4
  · rw [may_reb hat] at hR
    have HR := Lib.hid hR
    have hin : inB (m.at_ : Int) 0 3 = true := (inB_iff _ _ _).2 (by omega)
    rw [hin] at HTA
    clear hpf hm hR hs1 hb1 hM1 hA1 hw1 hw1' hat hin hfl hcf
    simp only [msV, List.length_nil] at *
    go_enter Tryz.func69, Tryz.ntmps69
    go_upto_region 2 with fail
    rw [HW1.out]
    go_wp2_with fail
    refine (HTA.out).mono ?_
    rintro e w2 ⟨rfl, hg2, hm2⟩
    have hm2' : MsgAt w2 (w.heap.size + 1) 36 [] (bareL m) := hm2 (by first | rfl | trivial)
    have HM2 := Lib.hid hm2'
    have HX2 := Lib.hid ((hg2.block w.heap.size (by have := HS1.out; omega) (by simp)).trans HM1.out)
    have HB2 := Lib.hid (HB1.out.grown hg2 HB1.out.size (fun k hk => by cases hk; omega))
    have HS2 := Lib.hid (show w.heap.size + 1 < w2.heap.size from hm2'.lt)
    clear hg2 hm2 hm2' a3
    go_wp2
    go_loopw [7, 23] (fun _ i wr => ∃ (k : Nat) (ak : Ms), i = .int .i64 k ∧ k ≤ fds.length ∧ Hid (MsgAt wr (w.heap.size + 1) 36 [] ak) ∧ Hid (rebL m (bareL m) fds = rebL m ak (fds.drop k)) ∧ Hid (wr.heap[w.heap.size]? = some (.cells (msV m).toArray 36 (0, 0))) ∧ Hid (Below w.heap.size w wr)) (fun _ i _ => fds.length - (intOf i).toNat)
    case atStart => exact ⟨0, bareL m, rfl, Nat.zero_le _, HM2.out, rfl, HX2.out, HB2.out⟩
    case round =>
      obtain ⟨k, ak, rfl, hk, hmk, hrk, hxk, hbk⟩ := hrel
      have HMK := Lib.hid hmk.out
      have HRK := Lib.hid hrk.out
      have HXK := Lib.hid hxk.out
      have HBK := Lib.hid hbk.out
      clear hmk hrk hxk hbk
      by_cases hlt : (k : Int) < (fds.length : Int)
      · have hkl : k < fds.length := by omega
        have hk0 : (0 : Int) ≤ (k : Int) := Int.natCast_nonneg _
        obtain ⟨fb, fo, rfl, hFb, hfc⟩ := HPF.out (by omega)
        have FC : ∀ i u, (fdV fds[k])[i]? = some u → wr.cell? ⟨fb, fo + k * 3 + i, none⟩ = some u := fun i u hu => by
          have h := hfc (k * 3 + i) u (fdv_at hkl hu)
          rw [← Nat.add_assoc] at h
          exact (World.cell?_of_block (a := ⟨fb, fo + k * 3 + i, none⟩) (HBK.out.block fb hFb)).trans h
        have hR2 := HRK.out
        rw [drop_cons hkl, reb_step] at hR2
        obtain ⟨fd, hfd⟩ : ∃ fd, fd = fds[k] := ⟨_, rfl⟩
        rw [← hfd] at FC hR2
        have f0 := FC 0 _ (fdv_0 fd)
        have f1 := FC 1 _ (fdv_1 fd)
        have f2 := FC 2 _ (fdv_2 fd)
        rw [Nat.add_zero] at f0
        have HR2 := Lib.hid hR2
        have hent := take_enter fd
        have hent2 := tell_enter fd
        have HTL := Lib.hid (fun W => tell_any m fd W HMT.out)
        have HTK := Lib.hid (fun v W F (h1 : MsgAt W (w.heap.size + 1) 36 [] ak) (h2 : I64R W F v (tellL m fd)) (h3 : ∀ nb, F nb → nb ≠ w.heap.size + 1) => take_any fd (tellL m fd) (w.heap.size + 1) 36 [] ak F v W h1 h2 h3)
        clear hfc hR2 FC hFb hfd hkl
        generalize takeFn fd = FT at *
        generalize tellFn fd = FG at *
        obtain ⟨tg, htg⟩ : ∃ tg, tg = tagL fd := ⟨_, rfl⟩
        rw [← htg] at f0
        clear htg
        go_upto_region 7 with fail
        obtain ⟨w4, hw4⟩ : ∃ w4, w4 = wr.alloc (.cells #[str tg, .func (.func FG) #[] #[], .func (.func FT) #[] #[]] 153) := ⟨_, rfl⟩
        rw [← hw4]
        have hb4 : Below wr.heap.size wr w4 := by rw [hw4]; exact (Below.refl _ _).alloc (Nat.le_refl _) _
        have hfr : w4.heap[wr.heap.size]? = some (.cells #[str tg, .func (.func FG) #[] #[], .func (.func FT) #[] #[]] 153 (0, 0)) := by rw [hw4]; exact at_last _ _
        have hx4 := (hb4.block w.heap.size (lt_of_heap HXK.out)).trans HXK.out
        have HFR := Lib.hid hfr
        have HB4 := Lib.hid hb4
        have HX4 := Lib.hid hx4
        have HLT := Lib.hid hlt
        clear hw4 hb4 hfr hx4 f0 f1 f2
        refine wp_region_held (S := fun w' => w'.heap[wr.heap.size]? = some (.cells #[str tg, .func (.func FG) #[] #[], .func (.func FT) #[] #[]] 153 (0, 0)) ∧ w'.heap[w.heap.size]? = some (.cells (msV m).toArray 36 (0, 0))) (by kernel_rfl) ?_
        change wpAnyH _ _ _ _ _ _ _ _ (World.drew _)
        have HS4 := Lib.hid (show w4.drew.heap[wr.heap.size]? = some (.cells #[str tg, .func (.func FG) #[] #[], .func (.func FT) #[] #[]] 153 (0, 0)) ∧ w4.drew.heap[w.heap.size]? = some (.cells (msV m).toArray 36 (0, 0)) from ⟨HFR.out, HX4.out⟩)
        refine tkH (i := 0) (oi := ⟨some 27, .fieldAddr 153 (.tmp 7) 2, _, _, _, none⟩) (v := .pointer (some ⟨wr.heap.size, 2, none⟩)) rfl qs HS4.out ?_
        simp only [Act.put, zs1, zs2, zs3]
        refine tkH (i := 1) (oi := ⟨some 28, .load 151 (.tmp 27), _, _, _, none⟩) (v := .func (.func FT) #[] #[]) rfl (Or.inl ⟨by rfl, fun w' hS => by have c := cell_of_arr hS.1 2; go_simp⟩) HS4.out ?_
        simp only [Act.put, zs1, zs2, zs3]
        refine tkH (i := 2) (oi := ⟨some 29, .fieldAddr 153 (.tmp 7) 1, _, _, _, none⟩) (v := .pointer (some ⟨wr.heap.size, 1, none⟩)) rfl qs HS4.out ?_
        simp only [Act.put, zs1, zs2, zs3]
        refine tkH (i := 3) (oi := ⟨some 30, .load 150 (.tmp 29), _, _, _, none⟩) (v := .func (.func FG) #[] #[]) rfl (Or.inl ⟨by rfl, fun w' hS => by have c := cell_of_arr hS.1 1; go_simp⟩) HS4.out ?_
        simp only [Act.put, zs1, zs2, zs3]
        refine tkH (i := 4) (oi := ⟨some 31, .load 36 (.tmp 2), _, _, _, none⟩) (v := .agg #[.int .u8 (m.kind : Int), .int .u8 (m.car : Int), .int .u64 (m.ser : Int), .int .u8 (m.at_ : Int), .int .u8 (m.lc : Int), .int .u16 (m.lf : Int), .int .u32 (m.lw : Int), .int .i64 m.val, .int .u8 (m.st : Int), .int .u32 (m.non : Int), .int .i64 m.am, .int .i64 m.code]) rfl (Or.inl ⟨by rfl, fun w' hS => by have c0 := cell_of_arr hS.2 0; have c1 := cell_of_arr hS.2 1; have c2 := cell_of_arr hS.2 2; have c3 := cell_of_arr hS.2 3; have c4 := cell_of_arr hS.2 4; have c5 := cell_of_arr hS.2 5; have c6 := cell_of_arr hS.2 6; have c7 := cell_of_arr hS.2 7; have c8 := cell_of_arr hS.2 8; have c9 := cell_of_arr hS.2 9; have c10 := cell_of_arr hS.2 10; have c11 := cell_of_arr hS.2 11; simp only [msV, List.getElem?_toArray, List.getElem?_cons_zero, List.getElem?_cons_succ] at c0 c1 c2 c3 c4 c5 c6 c7 c8 c9 c10 c11; go_simp⟩) HS4.out ?_
        simp only [Act.put, zs1, zs2, zs3]
        refine wpAnyH_ready (rs := [5]) (by kernel_rfl) (by simp) (AllReadyH.cons (o := ⟨some 32, .call ⟨.value (.tmp 30), #[.tmp 31], _⟩, _, _, _, none⟩) rfl (fun K hK => ?_) AllReadyH.nil)
        go_simp
        refine (HTL.out _).mono ?_
        rintro e w5 ⟨v, Fv, rfl, hrow, hfv, hb5⟩
        have hmk5 : MsgAt w5 (w.heap.size + 1) 36 [] ak := (hb5.block _ (show w.heap.size + 1 < w4.drew.heap.size from Nat.lt_of_lt_of_le HMK.out.lt HB4.out.size)).trans ((HB4.out.block _ HMK.out.lt).trans HMK.out)
        have HT5 := Lib.hid (HTK.out v w5 Fv hmk5 hrow (fun nb hnb e => by have h1 := (hfv nb hnb).1; have h2 : w.heap.size + 1 < w4.drew.heap.size := Nat.lt_of_lt_of_le HMK.out.lt HB4.out.size; omega))
        have HB5 := Lib.hid (show Below w.heap.size w w5 from (HBK.out.trans (HB4.out.mono HBK.out.size)).trans ((show Below w4.heap.size w4 w5 from (Below.refl _ _).drew.trans hb5).mono (Nat.le_trans HBK.out.size HB4.out.size)))
        have HS5 := Lib.hid (show w5.heap[wr.heap.size]? = some (.cells #[str tg, .func (.func FG) #[] #[], .func (.func FT) #[] #[]] 153 (0, 0)) ∧ w5.heap[w.heap.size]? = some (.cells (msV m).toArray 36 (0, 0)) from ⟨(hb5.block _ (show wr.heap.size < w4.drew.heap.size from lt_of_heap HFR.out)).trans HS4.out.1, (hb5.block _ (show w.heap.size < w4.drew.heap.size from lt_of_heap HX4.out)).trans HS4.out.2⟩)
        clear hrow hfv hb5 hmk5
        refine hK.out _ _ HS5.out (fun _ => ?_)
        clear hK K
        cases htk : takeL ak fd (tellL m fd) with
        | some a2 =>
          have HT6 := Lib.hid (HT5.out.mono (R' := fun e w' => e = .returned (.bool true) ∧ w5.grownBy w' (some (w.heap.size + 1)) ∧ MsgAt w' (w.heap.size + 1) 36 [] a2) (fun e w' ⟨h1, h2, h3⟩ => ⟨by rw [h1, htk]; rfl, h2, h3 a2 htk⟩))
          refine wpAnyH_ready (rs := [6]) (by kernel_rfl) (by simp) (AllReadyH.cons (o := ⟨some 33, .call ⟨.value (.tmp 28), #[.tmp 5, .tmp 32], _⟩, _, _, _, none⟩) rfl (fun K hK => ?_) AllReadyH.nil)
          go_simp
          refine (HT6.out).mono ?_
          rintro e w6 ⟨rfl, hg6, hm6⟩
          have HG6 := Lib.hid hg6
          have HM6 := Lib.hid hm6
          have HS6 := Lib.hid (show w6.heap[wr.heap.size]? = some (.cells #[str tg, .func (.func FG) #[] #[], .func (.func FT) #[] #[]] 153 (0, 0)) ∧ w6.heap[w.heap.size]? = some (.cells (msV m).toArray 36 (0, 0)) from ⟨(hg6.block _ (lt_of_heap HS5.out.1) (fun e => by
            have h1 : wr.heap.size = w.heap.size + 1 := by simpa using e
            have := HMK.out.lt
            omega)).trans HS5.out.1, (hg6.block _ (lt_of_heap HS5.out.2) (by simp)).trans HS5.out.2⟩)
          clear hg6 hm6
          refine hK.out _ _ HS6.out (fun _ => ?_)
          clear hK K
          refine tkH (i := 7) (oi := ⟨some 34, .unOp .not 4 (.tmp 33), _, _, _, none⟩) (v := .bool false) rfl qs HS6.out ?_
          simp only [Act.put, zs1, zs2, zs3]
          refine wpAnyH_done (by kernel_rfl) ?_ _
          have hR3 := HR2.out
          rw [htk] at hR3
          simp only at hR3
          have HR3 := Lib.hid hR3
          have HB6 := Lib.hid (HB5.out.grown HG6.out HB5.out.size (fun k hk => by cases hk; omega))
          clear hR3 htk HT5 HT6
          go_wp2
          go_roundw
          case rel => exact ⟨k + 1, a2, by go_num, by have := HLT.out; omega, HM6.out, HR3.out, HS6.out.2, HB6.out⟩
          case measure => simp [intOf]; have := HLT.out; omega
        | none =>
          have HT6 := Lib.hid (HT5.out.mono (R' := fun e w' => e = .returned (.bool false) ∧ w5.grownBy w' (some (w.heap.size + 1))) (fun e w' ⟨h1, h2, h3⟩ => ⟨by rw [h1, htk]; rfl, h2⟩))
          refine wpAnyH_ready (rs := [6]) (by kernel_rfl) (by simp) (AllReadyH.cons (o := ⟨some 33, .call ⟨.value (.tmp 28), #[.tmp 5, .tmp 32], _⟩, _, _, _, none⟩) rfl (fun K hK => ?_) AllReadyH.nil)
          go_simp
          refine (HT6.out).mono ?_
          rintro e w6 ⟨rfl, hg6⟩
          have HG6 := Lib.hid hg6
          have HS6 := Lib.hid (show w6.heap[wr.heap.size]? = some (.cells #[str tg, .func (.func FG) #[] #[], .func (.func FT) #[] #[]] 153 (0, 0)) ∧ w6.heap[w.heap.size]? = some (.cells (msV m).toArray 36 (0, 0)) from ⟨(hg6.block _ (lt_of_heap HS5.out.1) (fun e => by
            have h1 : wr.heap.size = w.heap.size + 1 := by simpa using e
            have := HMK.out.lt
            omega)).trans HS5.out.1, (hg6.block _ (lt_of_heap HS5.out.2) (by simp)).trans HS5.out.2⟩)
          clear hg6
          refine hK.out _ _ HS6.out (fun _ => ?_)
          clear hK K
          refine tkH (i := 7) (oi := ⟨some 34, .unOp .not 4 (.tmp 33), _, _, _, none⟩) (v := .bool true) rfl qs HS6.out ?_
          simp only [Act.put, zs1, zs2, zs3]
          refine wpAnyH_done (by kernel_rfl) ?_ _
          have hR3 := HR2.out
          rw [htk] at hR3
          simp only at hR3
          have HR3 := Lib.hid hR3
          have HB6 := Lib.hid (HB5.out.grown HG6.out HB5.out.size (fun k hk => by cases hk; omega))
          clear hR3 htk HT5 HT6
          go_wp2
          go_ret
          exact ⟨by rw [HR.out, HR3.out]; rfl, HB6.out⟩
      · obtain rfl : k = fds.length := by omega
        have hR2 := HRK.out
        rw [List.drop_length, reb_nil] at hR2
        have HR2 := Lib.hid hR2
        have heq := eql_ms ak m
        have HAK := Lib.hid (show wr.heap[w.heap.size + 1]? = some (.cells (msV ak).toArray 36 (0, 0)) from HMK.out)
        clear hR2
        go_wp2_with (first
          | (refine wpList_load_row rfl 36 _ rfl (w.heap.size + 1) rfl 36 (msV ak).toArray (0, 0) _ HAK.out Tryz.underlying36 rfl sizeMs ?_)
          | (refine wpList_load_row rfl 36 _ rfl w.heap.size rfl 36 (msV m).toArray (0, 0) _ HXK.out Tryz.underlying36 rfl sizeMs ?_))
        go_ret
        exact ⟨by rw [HR.out, HR2.out]; rfl, HBK.out⟩
  · have hRf : R = false := by rw [hR, may_at hat]
    have HR := Lib.hid hRf
    have hin : inB (m.at_ : Int) 0 3 = false := by
      cases hq : inB (m.at_ : Int) 0 3 with
      | false => rfl
      | true => exact absurd ((inB_iff _ _ _).1 hq) (by omega)
    rw [hin] at HTA
    clear hpf hm hR hs1 hb1 hM1 hA1 hw1 hw1' hat hin hfl hcf hRf
    simp only [msV, List.length_nil] at *
    go_enter Tryz.func69, Tryz.ntmps69
    go_upto_region 2 with fail
    rw [HW1.out]
    go_wp2_with fail
    refine (HTA.out).mono ?_
    rintro e w2 ⟨rfl, hg2, _⟩
    have HB2 := Lib.hid (HB1.out.grown hg2 HB1.out.size (fun k hk => by cases hk; omega))
    clear hg2
    go_wp2
    go_ret
    exact ⟨by rw [HR.out]; rfl, HB2.out⟩
end Go.Proofs.YtgaoeljdlpemnaaGreatDoor
