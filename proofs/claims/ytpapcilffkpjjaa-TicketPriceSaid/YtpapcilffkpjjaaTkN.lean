/- Contracts of every at bytes, of isName and isCode. -/
import Derived.Test.YtpapcilffkpjjaaTkE
import Derived.Laws.BytesString
namespace Go.Proofs.Ytpapcilffkpjjaa
open Go.Shelf Go.RowKit Go.Lib Go.Money Go.Tick

/-- a function value that tells of each byte whether p, and touches nothing -/
def PredQ (g : Nat) (p : UInt8 → Bool) : Prop := ∀ (W : World) (x : UInt8), Calls Try.prog g #[bvC x] W fun e w' => e = .returned (.bool (p x)) ∧ W = w'
instance : Inhabited UInt8 := ⟨0⟩
theorem evbyte1_pred (p : UInt8 → Bool) (g : Nat) (eg : ∀ args w, (callFunc g args).run Try.prog w = .ok (.enter g args) w) (hp : PredQ g p) (B : Nat) (w1 : World) (h1 : B < w1.heap.size)
    (hc : w1.cell? ⟨B, 0, none⟩ = some (.func (.func g) #[] #[])) :
    PredAt Try.prog 79 #[.pointer (some ⟨B, 0, none⟩)] bvC (fun x => !p x) w1 := by
  intro W x hb
  have hcW : W.cell? ⟨B, 0, none⟩ = some (.func (.func g) #[] #[]) := (hb.cell (p := ⟨B, 0, none⟩) h1).trans hc
  have HP := Lib.hid (fun W => hp W x)
  clear hp hb
  show Calls Try.prog 79 #[.int .u8 (x.toNat : Int), .pointer (some ⟨B, 0, none⟩)] W _
  obtain ⟨b, hpx⟩ : ∃ b, p x = b := ⟨_, rfl⟩
  rw [hpx] at HP
  have HX := Lib.hid hpx
  clear hpx
  go_enter Try.func79, Try.ntmps79
  go_wp2_with (go_at_fn g; refine (HP.out _).mono ?_; rintro e w2 ⟨rfl, rfl⟩)
  go_ret
  rw [HX.out]
  exact ⟨rfl, 0, rfl⟩
theorem evbyte1_enter : ∀ args w, (callFunc 79 args).run Try.prog w = .ok (.enter 79 args) w := enters_of Try.func79 (by kernel_rfl) rfl
theorem evbyte_any (p : UInt8 → Bool) (g : Nat) (eg : ∀ args w, (callFunc g args).run Try.prog w = .ok (.enter g args) w) (hp : PredQ g p) (b : Nat) (l : List UInt8) (cap : Nat) (w : World) (hb : b < w.heap.size) (hl : l.length ≤ 9223372036854775807)
    (hc : ∀ j, j < l.length → w.cell? ⟨b, j, none⟩ = some (bvC l[j]!)) :
    Calls Try.prog 65 #[.slice (some ⟨b, 0, none⟩) l.length cap, .func (.func g) #[] #[]] w fun e w' => e = .returned (.bool (l.all p)) ∧ Below w.heap.size w w' := by
  have hb1 : Below w.heap.size w (w.alloc (.cells #[.func (.func g) #[] #[]] 102)) := (Below.refl _ _).alloc (Nat.le_refl _) _
  have hz : w.heap.size < (w.alloc (.cells #[.func (.func g) #[] #[]] 102)).heap.size := by simp
  have h0 := AnyE.slices_ContainsFunc Try.tkCfB bvC (fun x => !p x) 79 #[.pointer (some ⟨w.heap.size, 0, none⟩)] evbyte1_enter b 0 l.length cap l (w.alloc (.cells #[.func (.func g) #[] #[]] 102))
    (evbyte1_pred p g eg hp w.heap.size _ hz (World.cell?_alloc_at _ _ _ _ rfl)) (Nat.le_refl _) hl (fun j hj => by rw [Nat.zero_add]; exact (hb1.cell (p := ⟨b, j, none⟩) hb).trans (hc j hj))
  rw [List.take_length] at h0
  have H := Lib.hid (show Calls Try.prog 78 #[.slice (some ⟨b, 0, none⟩) l.length cap, .func (.func 79) #[] #[.pointer (some ⟨w.heap.size, 0, none⟩)]] _ _ from h0)
  have HB := Lib.hid hb1
  rw [← not_any]
  clear hp hl hb1 hz h0 hc hb
  generalize (l.any fun x => !p x) = d at *
  generalize l.length = n at *
  go_enter Try.func65, Try.ntmps65
  go_wp2_with (go_at_call 78; refine (H.out).mono ?_; rintro e w2 ⟨rfl, q, rfl⟩)
  go_ret
  exact ⟨rfl, below_drewN HB.out q⟩
theorem letter_q : PredQ 67 isL := fun W x => letter_any x W
theorem sign_q : PredQ 66 isN := fun W x => sign_any x W
theorem letter_enter : ∀ args w, (callFunc 67 args).run Try.prog w = .ok (.enter 67 args) w := enters_of Try.func67 (by kernel_rfl) rfl
theorem sign_enter : ∀ args w, (callFunc 66 args).run Try.prog w = .ok (.enter 66 args) w := enters_of Try.func66 (by kernel_rfl) rfl
theorem bytes_of (t : List UInt8) (w : World) : ∃ cap W', (convert 9 101 (str t)).run Try.prog w = .ok (.slice (some ⟨w.heap.size, 0, none⟩) t.length cap) W' ∧ w.heap.size < W'.heap.size ∧ (∀ j, j < t.length → W'.cell? ⟨w.heap.size, j, none⟩ = some (bvC t[j]!)) ∧ Below w.heap.size w W' := by
  have hsz : (⟨t.toArray⟩ : ByteArray).size = t.length := by simp [ByteArray.size]
  have h := run_bytes_of_string (P := Try.prog) w 9 101 5 ⟨t.toArray⟩ Try.underlying9 Try.underlying101 Try.underlying5
  rw [hsz] at h
  refine ⟨_, _, h, ?_, ?_, (Below.refl _ w).drew.alloc (Nat.le_refl _) _⟩
  · show _ < (w.drew.alloc _).heap.size; simp
  · intro j hj
    have := bytesRow_at ⟨t.toArray⟩ (grownCap w t.length 0 5) j (by show j < t.toArray.size; simpa using hj)
    rw [show (w.heap.size) = w.drew.heap.size from rfl, World.cell?_alloc_mark, this]
    simp [bvC, hj]
theorem name_any (t : List UInt8) (w : World) : Calls Try.prog 44 #[str t] w fun e w' => e = .returned (.bool (nameB t)) ∧ Below w.heap.size w w' := by
  have hsz : (⟨t.toArray⟩ : ByteArray).size = t.length := by simp [ByteArray.size]
  by_cases h1 : (1 : Int) ≤ (t.length : Int)
  · by_cases h2 : (t.length : Int) ≤ 32
    · obtain ⟨cap, W, hcv, hz, hc, hb⟩ := bytes_of t w
      have H := Lib.hid (evbyte_any isN 66 sign_enter sign_q w.heap.size t cap W hz (by omega) hc)
      have HB := Lib.hid hb
      have e : nameB t = t.all isN := by unfold nameB; rw [decide_eq_true (show 1 ≤ t.length by omega), decide_eq_true (show t.length ≤ 32 by omega)]; rfl
      rw [e]
      clear e hc hb hz
      generalize t.all isN = d at *
      generalize t.length = n at *
      go_enter Try.func44, Try.ntmps44
      go_wp2_with (go_at_call 65; refine (H.out).mono ?_; rintro e w2 ⟨rfl, hb2⟩)
      go_ret
      exact ⟨rfl, HB.out.trans (hb2.mono HB.out.size)⟩
    · have e : nameB t = false := by unfold nameB; rw [decide_eq_false (show ¬ t.length ≤ 32 by omega), Bool.and_false]; rfl
      rw [e]
      clear e
      generalize t.length = n at *
      go_enter Try.func44, Try.ntmps44
      go_wp2
      go_ret
      exact ⟨rfl, Below.refl _ _⟩
  · have e : nameB t = false := by unfold nameB; rw [decide_eq_false (show ¬ 1 ≤ t.length by omega)]; rfl
    rw [e]
    clear e
    generalize t.length = n at *
    go_enter Try.func44, Try.ntmps44
    go_wp2
    go_ret
    exact ⟨rfl, Below.refl _ _⟩
theorem code_any (t : List UInt8) (w : World) : Calls Try.prog 55 #[str t] w fun e w' => e = .returned (.bool (codeB t)) ∧ Below w.heap.size w w' := by
  have hsz : (⟨t.toArray⟩ : ByteArray).size = t.length := by simp [ByteArray.size]
  by_cases h1 : t.length = 2
  · obtain ⟨cap, W, hcv, hz, hc, hb⟩ := bytes_of t w
    have H := Lib.hid (evbyte_any isL 67 letter_enter letter_q w.heap.size t cap W hz (by omega) hc)
    have HB := Lib.hid hb
    have e : codeB t = t.all isL := by unfold codeB; rw [decide_eq_true h1]; rfl
    rw [e]
    clear e hc hb hz
    rw [h1] at hsz H hcv
    clear h1
    generalize t.all isL = d at *
    go_enter Try.func55, Try.ntmps55
    go_wp2_with (go_at_call 65; refine (H.out).mono ?_; rintro e w2 ⟨rfl, hb2⟩)
    go_ret
    exact ⟨rfl, HB.out.trans (hb2.mono HB.out.size)⟩
  · have e : codeB t = false := by unfold codeB; rw [decide_eq_false h1]; rfl
    rw [e]
    have h2 : ((t.length : Int) == 2) = false := by rw [beq_eq_false_iff_ne]; omega
    clear e
    generalize t.length = n at *
    go_enter Try.func55, Try.ntmps55
    go_wp2
    go_ret
    exact ⟨rfl, Below.refl _ _⟩
end Go.Proofs.Ytpapcilffkpjjaa
