/- Contracts of every, at legs, taxes and bytes: by the library's search for an element. -/
import Derived.Test.YtpapcilffkpjjaaTkW
import Derived.Test.YtpapcilffkpjjaaTkShelf
import Derived.Laws.EntriesVeiled
namespace Go.Proofs.Ytpapcilffkpjjaa
open Go.Shelf Go.RowKit Go.Lib Go.Money Go.Tick

/-- a row of things of k cells in memory -/
structure Row {α : Type} [Inhabited α] (w : World) (k : Nat) (enc : α → List Value) (p : Option Addr) (l : List α) : Prop where
  at_ : 0 < l.length → ∃ b o, p = some ⟨b, o, none⟩ ∧ b < w.heap.size ∧ ∀ j, j < l.length → ∀ i v, (enc l[j]!)[i]? = some v → w.cell? ⟨b, o + j * k + i, none⟩ = some v
theorem Row.keep {α : Type} [Inhabited α] {w w' : World} {k : Nat} {enc : α → List Value} {p : Option Addr} {l : List α} (h : Row w k enc p l) (hb : Below w.heap.size w w') : Row w' k enc p l :=
  ⟨fun h0 => by
    obtain ⟨b, o, h1, h2, h3⟩ := h.at_ h0
    exact ⟨b, o, h1, Nat.lt_of_lt_of_le h2 hb.size, fun j hj i v hi => (hb.cell (p := ⟨b, o + j * k + i, none⟩) h2).trans (h3 j hj i v hi)⟩⟩
def lgC (l : Lg) : List Value := [.int .u8 (l.c.toNat : Int), .int .u16 (l.f : Int), .int .u32 (l.wt : Int)]
def txC (x : Tax) : List Value := [str x.code, iv x.am]
def bvC (c : UInt8) : Value := .int .u8 (c.toNat : Int)
/-- a function value that tells of each thing whether p, and turns nothing that lay there -/
def PredW {α : Type} (g : Nat) (lb : Array Value) (enc : α → Value) (p : α → Bool) (w : World) : Prop :=
  ∀ (W : World) (x : α), Below w.heap.size w W → Calls Try.prog g (#[enc x] ++ lb) W fun e w' => e = .returned (.bool (p x)) ∧ Below W.heap.size W w'
theorem PredW.below {α : Type} {g : Nat} {lb : Array Value} {enc : α → Value} {p : α → Bool} {w w1 : World} (h : PredW g lb enc p w) (hb : Below w.heap.size w w1) : PredBelow Try.prog g lb enc p w1 := fun W x hW =>
  (h W x (hb.trans (hW.mono hb.size))).mono fun _ _ ⟨he, h2⟩ => ⟨he, hW.trans (h2.mono hW.size)⟩
theorem not_any {α : Type} (p : α → Bool) (l : List α) : (!l.any fun x => !p x) = l.all p := by
  induction l with
  | nil => rfl
  | cons a l ih => simp only [List.any_cons, List.all_cons, Bool.not_or, Bool.not_not, ih]
theorem evleg1_pred (p : Lg → Bool) (g : Nat) (lb : Array Value) (eg : ∀ args w, (callFunc g args).run Try.prog w = .ok (.enter g args) w) (w : World) (hp : PredW g lb (fun x => .agg (lgC x).toArray) p w) (w1 : World) (h1 : w.heap.size < w1.heap.size) (hb1 : Below w.heap.size w w1)
    (hc : w1.cell? ⟨w.heap.size, 0, none⟩ = some (.func (.func g) #[] lb)) :
    PredW 69 #[.pointer (some ⟨w.heap.size, 0, none⟩)] (fun x => .agg (lgC x).toArray) (fun x => !p x) w1 := by
  intro W x hb
  have hcW : W.cell? ⟨w.heap.size, 0, none⟩ = some (.func (.func g) #[] lb) := (hb.cell (p := ⟨w.heap.size, 0, none⟩) h1).trans hc
  have hBW : w.heap.size < W.heap.size := Nat.lt_of_lt_of_le h1 hb.size
  have hbw : Below w.heap.size w W := hb1.trans (hb.mono hb1.size)
  have HP := Lib.hid (hp (W.alloc (.cells #[.int .u8 (x.c.toNat : Int), .int .u16 (x.f : Int), .int .u32 (x.wt : Int)] 58)) x (hbw.alloc hbw.size _))
  clear hp hb hbw
  show Calls Try.prog 69 #[.agg #[.int .u8 (x.c.toNat : Int), .int .u16 (x.f : Int), .int .u32 (x.wt : Int)], .pointer (some ⟨w.heap.size, 0, none⟩)] W _
  obtain ⟨b, hpx⟩ : ∃ b, p x = b := ⟨_, rfl⟩
  rw [hpx] at HP
  have HX := Lib.hid hpx
  clear hpx
  generalize hB : w.heap.size = B at *
  go_enter Try.func69, Try.ntmps69
  go_wp2_with (go_at_fn g; refine (HP.out).mono ?_; rintro e w2 ⟨rfl, hb2⟩)
  go_ret
  rw [HX.out]
  exact ⟨rfl, ((Below.refl _ W).alloc (Nat.le_refl _) _).trans (hb2.mono (by simp))⟩
theorem evleg1_enter : ∀ args w, (callFunc 69 args).run Try.prog w = .ok (.enter 69 args) w := enters_of Try.func69 (by kernel_rfl) rfl
theorem evleg_ix0 (a : Option Addr) (c : Nat) (fv : Value) (w : World) : Calls Try.prog 80 #[.slice a 0 c, fv] w fun e w' => e = .returned (iv (-1)) ∧ w = w' := by
  go_enter Try.func80, Try.ntmps80
  go_wp2
  go_loopw [5, 8] (fun _ i wr => i = .int .i64 0 ∧ w = wr) (fun _ _ _ => 0)
  case atStart => exact ⟨rfl, rfl⟩
  case round =>
    obtain ⟨rfl, rfl⟩ := hrel
    go_wp2
    go_ret
    exact ⟨rfl, rfl⟩
theorem evleg_cf0 (a : Option Addr) (c : Nat) (fv : Value) (w : World) : Calls Try.prog 68 #[.slice a 0 c, fv] w fun e w' => e = .returned (.bool false) ∧ w = w' := by
  have H := Lib.hid (evleg_ix0 a c fv)
  go_enter Try.func68, Try.ntmps68
  go_wp2_with (go_at_call 80; refine (H.out _).mono ?_; rintro e w2 ⟨rfl, rfl⟩)
  go_ret
  exact ⟨rfl, rfl⟩
theorem evleg_cf (p : Lg → Bool) (g : Nat) (lb : Array Value) (eg : ∀ args w, (callFunc g args).run Try.prog w = .ok (.enter g args) w) (pt : Option Addr) (l : List Lg) (cap : Nat) (w : World) (hR : Row w 3 lgC pt l) (hl : l.length ≤ 9223372036854775807) (hp : PredW g lb (fun x => .agg (lgC x).toArray) p w) :
    Calls Try.prog 68 #[.slice pt l.length cap, .func (.func g) #[] lb] w fun e w' => e = .returned (.bool (l.any p)) ∧ Below w.heap.size w w' := by
  by_cases h0 : 0 < l.length
  · obtain ⟨b, o, rfl, hb, hc⟩ := hR.at_ h0
    have := AnyQ.slices_ContainsFunc Try.tkCfL 3 Try.isAgg58 Try.sizeOf58 lgC (fun _ => rfl) p g lb eg b o l.length cap l w (hp.below (Below.refl _ _)) (Nat.le_refl _) hl hb hc
    rw [List.take_length] at this
    exact this
  · have e : l = [] := List.eq_nil_of_length_eq_zero (by omega)
    subst e
    refine (evleg_cf0 pt cap _ w).mono ?_
    rintro e w' ⟨rfl, rfl⟩
    exact ⟨rfl, Below.refl _ _⟩
theorem evleg_any (p : Lg → Bool) (g : Nat) (lb : Array Value) (eg : ∀ args w, (callFunc g args).run Try.prog w = .ok (.enter g args) w) (pt : Option Addr) (l : List Lg) (cap : Nat) (w : World) (hR : Row w 3 lgC pt l) (hl : l.length ≤ 9223372036854775807) (hp : PredW g lb (fun x => .agg (lgC x).toArray) p w) :
    Calls Try.prog 47 #[.slice pt l.length cap, .func (.func g) #[] lb] w fun e w' => e = .returned (.bool (l.all p)) ∧ Below w.heap.size w w' := by
  have hb1 : Below w.heap.size w (w.alloc (.cells #[.func (.func g) #[] lb] 88)) := (Below.refl _ _).alloc (Nat.le_refl _) _
  have hz : w.heap.size < (w.alloc (.cells #[.func (.func g) #[] lb] 88)).heap.size := by simp
  have H := Lib.hid (evleg_cf (fun x => !p x) 69 #[.pointer (some ⟨w.heap.size, 0, none⟩)] evleg1_enter pt l cap (w.alloc (.cells #[.func (.func g) #[] lb] 88)) (hR.keep hb1) hl (evleg1_pred p g lb eg w hp _ hz hb1 (World.cell?_alloc_at _ _ _ _ rfl)))
  have HB := Lib.hid hb1
  have HS := Lib.hid (Nat.le_of_lt hz)
  rw [← not_any]
  clear hR hp hl hb1 hz
  generalize (l.any fun x => !p x) = b at *
  generalize l.length = n at *
  go_enter Try.func47, Try.ntmps47
  go_wp2_with (go_at_call 68; refine (H.out).mono ?_; rintro e w2 ⟨rfl, hb2⟩)
  go_ret
  exact ⟨rfl, HB.out.trans (hb2.mono HS.out)⟩
theorem evtax1_pred (p : Tax → Bool) (g : Nat) (lb : Array Value) (eg : ∀ args w, (callFunc g args).run Try.prog w = .ok (.enter g args) w) (w : World) (hp : PredW g lb (fun x => .agg (txC x).toArray) p w) (w1 : World) (h1 : w.heap.size < w1.heap.size) (hb1 : Below w.heap.size w w1)
    (hc : w1.cell? ⟨w.heap.size, 0, none⟩ = some (.func (.func g) #[] lb)) :
    PredW 71 #[.pointer (some ⟨w.heap.size, 0, none⟩)] (fun x => .agg (txC x).toArray) (fun x => !p x) w1 := by
  intro W x hb
  have hcW : W.cell? ⟨w.heap.size, 0, none⟩ = some (.func (.func g) #[] lb) := (hb.cell (p := ⟨w.heap.size, 0, none⟩) h1).trans hc
  have hBW : w.heap.size < W.heap.size := Nat.lt_of_lt_of_le h1 hb.size
  have hbw : Below w.heap.size w W := hb1.trans (hb.mono hb1.size)
  have HP := Lib.hid (hp (W.alloc (.cells #[str x.code, iv x.am] 48)) x (hbw.alloc hbw.size _))
  clear hp hb hbw
  show Calls Try.prog 71 #[.agg #[str x.code, iv x.am], .pointer (some ⟨w.heap.size, 0, none⟩)] W _
  obtain ⟨b, hpx⟩ : ∃ b, p x = b := ⟨_, rfl⟩
  rw [hpx] at HP
  have HX := Lib.hid hpx
  clear hpx
  generalize hB : w.heap.size = B at *
  go_enter Try.func71, Try.ntmps71
  go_wp2_with (go_at_fn g; refine (HP.out).mono ?_; rintro e w2 ⟨rfl, hb2⟩)
  go_ret
  rw [HX.out]
  exact ⟨rfl, ((Below.refl _ W).alloc (Nat.le_refl _) _).trans (hb2.mono (by simp))⟩
theorem evtax1_enter : ∀ args w, (callFunc 71 args).run Try.prog w = .ok (.enter 71 args) w := enters_of Try.func71 (by kernel_rfl) rfl
theorem evtax_ix0 (a : Option Addr) (c : Nat) (fv : Value) (w : World) : Calls Try.prog 81 #[.slice a 0 c, fv] w fun e w' => e = .returned (iv (-1)) ∧ w = w' := by
  go_enter Try.func81, Try.ntmps81
  go_wp2
  go_loopw [5, 8] (fun _ i wr => i = .int .i64 0 ∧ w = wr) (fun _ _ _ => 0)
  case atStart => exact ⟨rfl, rfl⟩
  case round =>
    obtain ⟨rfl, rfl⟩ := hrel
    go_wp2
    go_ret
    exact ⟨rfl, rfl⟩
theorem evtax_cf0 (a : Option Addr) (c : Nat) (fv : Value) (w : World) : Calls Try.prog 70 #[.slice a 0 c, fv] w fun e w' => e = .returned (.bool false) ∧ w = w' := by
  have H := Lib.hid (evtax_ix0 a c fv)
  go_enter Try.func70, Try.ntmps70
  go_wp2_with (go_at_call 81; refine (H.out _).mono ?_; rintro e w2 ⟨rfl, rfl⟩)
  go_ret
  exact ⟨rfl, rfl⟩
theorem evtax_cf (p : Tax → Bool) (g : Nat) (lb : Array Value) (eg : ∀ args w, (callFunc g args).run Try.prog w = .ok (.enter g args) w) (pt : Option Addr) (l : List Tax) (cap : Nat) (w : World) (hR : Row w 2 txC pt l) (hl : l.length ≤ 9223372036854775807) (hp : PredW g lb (fun x => .agg (txC x).toArray) p w) :
    Calls Try.prog 70 #[.slice pt l.length cap, .func (.func g) #[] lb] w fun e w' => e = .returned (.bool (l.any p)) ∧ Below w.heap.size w w' := by
  by_cases h0 : 0 < l.length
  · obtain ⟨b, o, rfl, hb, hc⟩ := hR.at_ h0
    have := AnyQ.slices_ContainsFunc Try.tkCfT 2 Try.isAgg48 Try.sizeOf48 txC (fun _ => rfl) p g lb eg b o l.length cap l w (hp.below (Below.refl _ _)) (Nat.le_refl _) hl hb hc
    rw [List.take_length] at this
    exact this
  · have e : l = [] := List.eq_nil_of_length_eq_zero (by omega)
    subst e
    refine (evtax_cf0 pt cap _ w).mono ?_
    rintro e w' ⟨rfl, rfl⟩
    exact ⟨rfl, Below.refl _ _⟩
theorem evtax_any (p : Tax → Bool) (g : Nat) (lb : Array Value) (eg : ∀ args w, (callFunc g args).run Try.prog w = .ok (.enter g args) w) (pt : Option Addr) (l : List Tax) (cap : Nat) (w : World) (hR : Row w 2 txC pt l) (hl : l.length ≤ 9223372036854775807) (hp : PredW g lb (fun x => .agg (txC x).toArray) p w) :
    Calls Try.prog 53 #[.slice pt l.length cap, .func (.func g) #[] lb] w fun e w' => e = .returned (.bool (l.all p)) ∧ Below w.heap.size w w' := by
  have hb1 : Below w.heap.size w (w.alloc (.cells #[.func (.func g) #[] lb] 90)) := (Below.refl _ _).alloc (Nat.le_refl _) _
  have hz : w.heap.size < (w.alloc (.cells #[.func (.func g) #[] lb] 90)).heap.size := by simp
  have H := Lib.hid (evtax_cf (fun x => !p x) 71 #[.pointer (some ⟨w.heap.size, 0, none⟩)] evtax1_enter pt l cap (w.alloc (.cells #[.func (.func g) #[] lb] 90)) (hR.keep hb1) hl (evtax1_pred p g lb eg w hp _ hz hb1 (World.cell?_alloc_at _ _ _ _ rfl)))
  have HB := Lib.hid hb1
  have HS := Lib.hid (Nat.le_of_lt hz)
  rw [← not_any]
  clear hR hp hl hb1 hz
  generalize (l.any fun x => !p x) = b at *
  generalize l.length = n at *
  go_enter Try.func53, Try.ntmps53
  go_wp2_with (go_at_call 70; refine (H.out).mono ?_; rintro e w2 ⟨rfl, hb2⟩)
  go_ret
  exact ⟨rfl, HB.out.trans (hb2.mono HS.out)⟩
end Go.Proofs.Ytpapcilffkpjjaa
