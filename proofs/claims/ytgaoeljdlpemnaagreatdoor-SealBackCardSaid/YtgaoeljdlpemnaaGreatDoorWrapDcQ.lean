/- The interchange's text by any numbers in head and tail (nothing of the statements' own functions). -/
import Derived.Test.YtgaoeljdlpemnaaGreatDoorSeF
import Derived.Deep.RegionHeld
import Derived.IntWalk
import Derived.Lib.FrozenHead2
import Derived.Laws.IdiomStrings
import Derived.Test.YtgaoeljdlpemnaaGreatDoorNuPure
import Derived.Test.YtgaoeljdlpemnaaGreatDoorWrapP
import Derived.Test.YtgaoeljdlpemnaaGreatDoorEdiW9
import Derived.Laws.Concat
import Derived.Laws.DeepStrings4
import Derived.Deep.QuietTactic
import Derived.BigQuiet
import Derived.Deep.RegionLaw
/- Contracts: keys are put into a ring, a ring is made of keys that may be. -/
namespace Go.Proofs.YtgaoeljdlpemnaaGreatDoor
open Go.RowKit Go.Edi Go.Wrap Go.Lib
open Go.Maps (Keyed)

theorem rv_ok (v : Value) : RV v = some (.held v, []) := rfl
/-- a key more is in the map -/
theorem RgM.put {mb c : Nat} {K : Nat → Nat → Option Tx} {P P' : Nat → Prop} {w w1 w' : World} {f t : Nat} {v : Value} {key : Tx} (h : RgM mb c K P w) (hf : f < 256) (ht : t < 256) (hb : Below w.heap.size w w1) (hg : w1.grownBy w' (some mb))
    (hv : BysF w1 P' v key) (hP : ∀ b, P b → P' b) (hP' : ∀ b, P' b → b < w1.heap.size ∧ b ≠ mb)
    (ho : ∀ D, w.ownsMap Tryz.prog 58 RV mb c D → w'.ownsMap Tryz.prog 58 RV mb (c + 1) (D.put (ka f t) (.held v))) :
    RgM mb (c + 1) (fun a b => if a = f ∧ b = t then some key else K a b) P' w' := by
  obtain ⟨D, h1, h2, h3, h4⟩ := h.own
  have hm := h1.isMap
  have hkl : WideAt.IsKeyLit (ka f t) := True.intro
  have kk : ∀ b, P' b → w'.heap[b]? = w1.heap[b]? := fun b hb => hg.block b (hP' b hb).1 (fun e => (hP' b hb).2 (Option.some.inj e))
  refine ⟨⟨_, ho D h1, ?_, ?_, ?_⟩, fun b hb => ⟨Nat.lt_of_lt_of_le (hP' b hb).1 hg.size, (hP' b hb).2⟩⟩
  · intro a b k ha hb' hk
    by_cases e : a = f ∧ b = t
    · obtain ⟨rfl, rfl⟩ := e
      rw [if_pos ⟨rfl, rfl⟩] at hk
      obtain rfl := Option.some.inj hk
      exact ⟨v, fun z => Maps.atKey_put_same hm hkl _ z, Maps.has_put_same hm hkl _, hv.kept (fun b hb => ⟨hb, kk b hb⟩)⟩
    · rw [if_neg e] at hk
      have hne : ka a b ≠ ka f t := fun e2 => e (ka_inj ha hb' hf ht e2)
      obtain ⟨u, u1, u2, u3⟩ := h2 a b k ha hb' hk
      exact ⟨u, fun z => (Maps.atKey_put_other hne _ z).trans (u1 z), (Maps.has_put_other hne _).trans u2, u3.kept (fun x hx => ⟨hP x hx, (kk x (hP x hx)).trans (hb.block x (h.pb x hx).1)⟩)⟩
  · intro a b ha hb' hk
    by_cases e : a = f ∧ b = t
    · rw [if_pos e] at hk; cases hk
    · rw [if_neg e] at hk
      have hne : ka a b ≠ ka f t := fun e2 => e (ka_inj ha hb' hf ht e2)
      rw [Maps.has_put_other hne]
      exact h3 a b ha hb' hk
  · intro kl hkl
    by_cases e : kl = ka f t
    · exact ⟨f, t, key, hf, ht, e, if_pos ⟨rfl, rfl⟩⟩
    · rw [Maps.has_put_other e] at hkl
      obtain ⟨a, b, k, ha, hb', e2, hk⟩ := h4 kl hkl
      by_cases e3 : a = f ∧ b = t
      · exact absurd (by rw [e2, e3.1, e3.2]) e
      · exact ⟨a, b, k, ha, hb', e2, by rw [if_neg e3]; exact hk⟩
/-- rows of keys in memory -/
def RwC (w : World) (F : Nat → Prop) : List Tx → List Value → Prop
  | [], [] => True
  | k :: r, v :: t => BysF w F v k ∧ RwC w F r t
  | _, _ => False
def RwF (w : World) (F : Nat → Prop) (v : Value) (row : List Tx) : Prop := ∃ ys, RowF w F v row.length ys ∧ RwC w F row ys
def KyC (w : World) (F : Nat → Prop) : List (List Tx) → List Value → Prop
  | [], [] => True
  | k :: r, v :: t => RwF w F v k ∧ KyC w F r t
  | _, _ => False
def KyF (w : World) (F : Nat → Prop) (v : Value) (kk : List (List Tx)) : Prop := ∃ xs, RowF w F v kk.length xs ∧ KyC w F kk xs
theorem RwC.get {w : World} {F : Nat → Prop} : ∀ {row : List Tx} {ys : List Value}, RwC w F row ys → ∀ j, j < row.length → ∃ v, ys[j]? = some v ∧ BysF w F v (row.getD j [])
  | k :: r, v :: t, h, 0, _ => ⟨v, rfl, h.1⟩
  | k :: r, v :: t, h, j + 1, hj => by
    obtain ⟨u, e1, e2⟩ := RwC.get h.2 j (by simpa using hj)
    exact ⟨u, by simpa using e1, by simpa using e2⟩
  | [], _, _, j, hj => by simp at hj
  | _ :: _, [], h, _, _ => h.elim
theorem KyC.get {w : World} {F : Nat → Prop} : ∀ {kk : List (List Tx)} {xs : List Value}, KyC w F kk xs → ∀ j, j < kk.length → ∃ v, xs[j]? = some v ∧ RwF w F v (kk.getD j [])
  | k :: r, v :: t, h, 0, _ => ⟨v, rfl, h.1⟩
  | k :: r, v :: t, h, j + 1, hj => by
    obtain ⟨u, e1, e2⟩ := KyC.get h.2 j (by simpa using hj)
    exact ⟨u, by simpa using e1, by simpa using e2⟩
  | [], _, _, j, hj => by simp at hj
  | _ :: _, [], h, _, _ => h.elim
theorem RwC.kept {w w' : World} {F F' : Nat → Prop} (hk : Kp F F' w w') : ∀ {row : List Tx} {ys : List Value}, RwC w F row ys → RwC w' F' row ys
  | [], [], _ => True.intro
  | _ :: _, _ :: _, h => ⟨h.1.kept hk, RwC.kept hk h.2⟩
  | [], _ :: _, h => h.elim
  | _ :: _, [], h => h.elim
theorem RwF.kept {w w' : World} {F F' : Nat → Prop} {v : Value} {row : List Tx} (h : RwF w F v row) (hk : Kp F F' w w') : RwF w' F' v row := by
  obtain ⟨ys, h1, h2⟩ := h
  exact ⟨ys, h1.kept hk, h2.kept hk⟩
theorem KyC.kept {w w' : World} {F F' : Nat → Prop} (hk : Kp F F' w w') : ∀ {kk : List (List Tx)} {xs : List Value}, KyC w F kk xs → KyC w' F' kk xs
  | [], [], _ => True.intro
  | _ :: _, _ :: _, h => ⟨h.1.kept hk, KyC.kept hk h.2⟩
  | [], _ :: _, h => h.elim
  | _ :: _, [], h => h.elim
theorem KyF.kept {w w' : World} {F F' : Nat → Prop} {v : Value} {kk : List (List Tx)} (h : KyF w F v kk) (hk : Kp F F' w w') : KyF w' F' v kk := by
  obtain ⟨xs, h1, h2⟩ := h
  exact ⟨xs, h1.kept hk, h2.kept hk⟩
/-- the key from one to another one -/
def kyAt (kk : List (List Tx)) (f t : Nat) : Tx := (kk.getD f []).getD t []
/-- the keys that are in the ring when those of the first i carriers, and of the next one to the first j, have been put in -/
def Kpt (kk : List (List Tx)) (i j f t : Nat) : Option Tx := if (f < i ∨ (f = i ∧ t < j)) ∧ t < kk.length ∧ f ≠ t then some (kyAt kk f t) else none
/-- keys that make a ring -/
structure Vk (kk : List (List Tx)) : Prop where
  n2 : 2 ≤ kk.length
  n8 : kk.length ≤ 8
  row : ∀ f, f < kk.length → (kk.getD f []).length = kk.length
  len : ∀ f t, f < kk.length → t < kk.length → f ≠ t → 0 < (kyAt kk f t).length ∧ (kyAt kk f t).length ≤ 64
  dis : ∀ f t a b, f < kk.length → t < kk.length → a < kk.length → b < kk.length → f ≠ t → a ≠ b → kyAt kk f t = kyAt kk a b → f = a ∧ t = b
theorem kpt_fits {kk : List (List Tx)} (h : Vk kk) {i j : Nat} (hi : i < kk.length) (hj : j < kk.length) (hij : i ≠ j) : keyFits (Kpt kk i j) (kyAt kk i j) := by
  refine ⟨(h.len i j hi hj hij).1, (h.len i j hi hj hij).2, fun f t k _ _ hk e => ?_⟩
  unfold Kpt at hk
  split at hk
  · rename_i hc
    have := Option.some.inj hk
    rw [← this] at e
    have hd := h.dis f t i j (by omega) hc.2.1 hi hj hc.2.2 hij e
    omega
  · cases hk
theorem kpt_succ {kk : List (List Tx)} {i j : Nat} (hj : j < kk.length) (hij : i ≠ j) : (fun a b => if a = i ∧ b = j then some (kyAt kk i j) else Kpt kk i j a b) = Kpt kk i (j + 1) := by
  funext a b
  unfold Kpt
  by_cases e : a = i ∧ b = j
  · obtain ⟨rfl, rfl⟩ := e
    rw [if_pos ⟨rfl, rfl⟩, if_pos (by omega)]
  · rw [if_neg e]
    by_cases hc : (a < i ∨ (a = i ∧ b < j)) ∧ b < kk.length ∧ a ≠ b
    · rw [if_pos hc, if_pos (by omega)]
    · rw [if_neg hc, if_neg (by omega)]
theorem kpt_skip {kk : List (List Tx)} {i : Nat} : Kpt kk i i = Kpt kk i (i + 1) := by
  funext a b
  unfold Kpt
  by_cases hc : (a < i ∨ (a = i ∧ b < i)) ∧ b < kk.length ∧ a ≠ b
  · rw [if_pos hc, if_pos (by omega)]
  · rw [if_neg hc, if_neg (by omega)]
theorem kpt_row {kk : List (List Tx)} {i : Nat} : Kpt kk i kk.length = Kpt kk (i + 1) 0 := by
  funext a b
  unfold Kpt
  by_cases hc : (a < i ∨ (a = i ∧ b < kk.length)) ∧ b < kk.length ∧ a ≠ b
  · rw [if_pos hc, if_pos (by omega)]
  · rw [if_neg hc, if_neg (by omega)]
/-- a ring in memory: its two cells, its map, its keys behind it -/
structure RgAt (rb mb n c : Nat) (K : Nat → Nat → Option Tx) (w : World) : Prop where
  row : w.heap[rb]? = some (.cells (rgV n mb) 56 (0, 0))
  lt : mb < rb
  map : RgM mb c K (fun b => rb < b ∧ b < w.heap.size) w
theorem RgAt.later {rb mb n c : Nat} {K : Nat → Nat → Option Tx} {w w' : World} (h : RgAt rb mb n c K w) (hb : Below w.heap.size w w') : RgAt rb mb n c K w' := by
  refine ⟨(hb.block _ (lt_of_heap h.row)).trans h.row, h.lt, ?_⟩
  have h1 := h.map.later hb
  obtain ⟨D, a1, a2, a3, a4⟩ := h1.own
  exact ⟨⟨D, a1, fun f t key hf ht hK => by
    obtain ⟨v, b1, b2, b3⟩ := a2 f t key hf ht hK
    exact ⟨v, b1, b2, b3.kept (fun b hb2 => ⟨⟨hb2.1, Nat.lt_of_lt_of_le hb2.2 hb.size⟩, rfl⟩)⟩, a3, a4⟩, fun b hb2 => ⟨hb2.2, by have := h.lt; omega⟩⟩
theorem RgAt.more {rb mb n c d : Nat} {K : Nat → Nat → Option Tx} {w : World} (h : RgAt rb mb n c K w) (hd : c ≤ d) : RgAt rb mb n d K w := by
  obtain ⟨D, a1, a2⟩ := h.map.own
  exact ⟨h.row, h.lt, ⟨⟨D, a1.mono hd, a2⟩, h.map.pb⟩⟩
theorem rgAt_put {rb mb n c : Nat} {K : Nat → Nat → Option Tx} {w w1 w' : World} {f t : Nat} {p : Option Addr} {cap : Nat} {key : Tx} (h : RgAt rb mb n c K w) (hf : f < 256) (ht : t < 256) (hb : Below w.heap.size w w1)
    (hv : w1.ownsRow w.heap.size 5 1 (.slice p key.length cap) key.length (Lib.byteCells key)) (hg : w1.grownBy w' (some mb))
    (ho : ∀ D, w1.ownsMap Tryz.prog 58 RV mb c D → w'.ownsMap Tryz.prog 58 RV mb (c + 1) (D.put (ka f t) (.held (.slice p key.length cap)))) :
    RgAt rb mb n (c + 1) (fun a b => if a = f ∧ b = t then some key else K a b) w' := by
  have hl := lt_of_heap h.row
  have hmb := h.lt
  have hs := hb.size
  have hm := h.map.put (P' := fun b => rb < b ∧ b < w1.heap.size) hf ht hb hg (row_own hv (fun b e => by have := hv.lt b e; exact ⟨by omega, this.2⟩)) (fun b hb2 => ⟨hb2.1, by omega⟩) (fun b hb2 => ⟨hb2.2, by omega⟩)
    (fun D hD => ho D (hD.kept (row := none) ⟨hb.os, hb.tape, hb.output, hb.size, fun k hk _ => hb.block k hk⟩ (by simp)))
  refine ⟨(hg.block rb (by omega) (fun e => by have := Option.some.inj e; omega)).trans ((hb.block rb hl).trans h.row), h.lt, ?_⟩
  obtain ⟨D, a1, a2, a3, a4⟩ := hm.own
  exact ⟨⟨D, a1, fun a b k ha hb2 hK => by
    obtain ⟨v, b1, b2, b3⟩ := a2 a b k ha hb2 hK
    exact ⟨v, b1, b2, b3.kept (fun x hx => ⟨⟨hx.1, Nat.lt_of_lt_of_le hx.2 hg.size⟩, rfl⟩)⟩, a3, a4⟩, fun b hb2 => ⟨hb2.2, by omega⟩⟩
set_option maxRecDepth 100000 in
set_option maxHeartbeats 3200000 in
theorem add_any (kk : List (List Tx)) (i rb mb B : Nat) (v : Value) (F : Nat → Prop) (w : World) (hV : Vk kk) (hi : i < kk.length) (hr : RgAt rb mb kk.length (8 * i) (Kpt kk i 0) w) (hBm : B ≤ mb)
    (hv : RwF w F v (kk.getD i [])) (hF : ∀ b, F b → b < B) :
    Calls Tryz.prog 17 #[.pointer (some ⟨rb, 0, none⟩), .int .u8 (i : Int), v] w fun e w' => e = .returned (.bool true) ∧ RgAt rb mb kk.length (8 * (i + 1)) (Kpt kk (i + 1) 0) w' ∧ Below B w w' := by
  obtain ⟨n, hn⟩ : ∃ n, n = kk.length := ⟨_, rfl⟩
  have hrow := hV.row i hi
  obtain ⟨ys, ⟨p, cap, rfl, hcap, hp⟩, hys⟩ := hv
  rw [hrow, ← hn] at hp hcap ⊢
  obtain ⟨b, o, rfl, hFb, hcell⟩ := hp (by have := hV.n2; omega)
  have HG := Lib.hid (show ∀ j, j < n → ∃ u, (∀ wz, Below B w wz → wz.cell? ⟨b, o + j, none⟩ = some u) ∧ (∀ wz, Below B w wz → BysF wz F u (kyAt kk i j)) from fun j hj => by
    obtain ⟨u, e1, e2⟩ := hys.get j (by rw [hrow, ← hn]; exact hj)
    exact ⟨u, fun wz hz => (World.cell?_of_block (a := ⟨b, o + j, none⟩) (hz.block b (hF b hFb))).trans (hcell j u e1), fun wz hz => e2.kept (fun x hx => ⟨hx, hz.block x (hF x hx)⟩)⟩)
  have HVK := Lib.hid hV
  have HN := Lib.hid hn
  have HI := Lib.hid (show i < n by omega)
  have HF := Lib.hid hF
  have HBM := Lib.hid hBm
  have hi0 : (0 : Int) ≤ (i : Int) := Int.natCast_nonneg _
  have hi1 : (i : Int) ≤ 255 := by have := hV.n8; omega
  have hn8 : (n : Int) ≤ 8 := by have := hV.n8; omega
  rw [← hn] at hr
  have HR := Lib.hid hr
  clear hys hp hcell hFb hV hi hr hrow hF hBm hn
  go_enter Tryz.func17, Tryz.ntmps17
  go_wp2
  go_loopw [7, 8, 9, 12] (fun _ _ _ x wr => ∃ j : Nat, x = .int .i64 (j : Int) ∧ j ≤ n ∧ RgAt rb mb n (8 * i + j) (Kpt kk i j) wr ∧ Below B w wr) (fun _ _ _ x _ => n - (intOf x).toNat)
  case atStart => exact ⟨0, rfl, Nat.zero_le _, by simpa using HR.out, Below.refl _ _⟩
  case round =>
    obtain ⟨j, rfl, hj, hrg, hbl⟩ := hrel
    have HRG := Lib.hid hrg
    have HBL := Lib.hid hbl
    clear hrg hbl
    by_cases hlt : (j : Int) < (n : Int)
    · have hjn : j < n := by omega
      obtain ⟨u, hu1, hu2⟩ := HG.out j hjn
      have c0 := hu1 wr HBL.out
      have HU := Lib.hid (hu2 wr HBL.out)
      have hj0 : (0 : Int) ≤ (j : Int) := Int.natCast_nonneg _
      have hw8 : IntKind.u8.wrap (j : Int) = (j : Int) := IntWalk.u8_in _ (by omega)
      clear hu1 hu2
      by_cases hij : i = j
      · subst hij
        have HX := Lib.hid (show RgAt rb mb n (8 * i + (i + 1)) (Kpt kk i (i + 1)) wr by rw [← kpt_skip]; exact HRG.out.more (by omega))
        go_wp2
        go_roundw
        case rel => exact ⟨i + 1, by go_num, by omega, HX.out, HBL.out⟩
        case measure => simp [intOf]; omega
      · have hij2 : ¬ (j : Int) = (i : Int) := by omega
        have hfit := kpt_fits HVK.out (i := i) (j := j) (by rw [← HN.out]; exact HI.out) (by rw [← HN.out]; exact hjn) hij
        have hmh := mayHave_any n mb (8 * i + j) rb (Kpt kk i j) _ (kyAt kk i j) u F wr HRG.out.row HRG.out.map HU.out (fun x hx => by have h1 := HF.out x hx; have h2 := HBM.out; have h3 := HRG.out.lt; have h4 := lt_of_heap HRG.out.row; omega) hfit
        have HMH := Lib.hid hmh
        have HLK := Lib.hid (show 0 < (kyAt kk i j).length ∧ (kyAt kk i j).length ≤ 1000000 from ⟨hfit.1, by have := hfit.2.1; omega⟩)
        have HIJ := Lib.hid hij
        have HJN := Lib.hid hjn
        clear hmh hfit hij
        go_wp2_with (go_at_call 27; refine (HMH.out).mono ?_; rintro e w2 ⟨rfl, hb2⟩)
        have HZ1 := Lib.hid (show B ≤ wr.heap.size by have h2 := HBM.out; have h3 := HRG.out.lt; have h4 := lt_of_heap HRG.out.row; omega)
        have HB2 := Lib.hid (HBL.out.trans (hb2.mono HZ1.out))
        have HZ2 := Lib.hid (Nat.le_trans HZ1.out hb2.size)
        have HRG2 := Lib.hid (HRG.out.later hb2)
        have HU2 := Lib.hid (HU.out.kept (w' := w2.drew) (F' := F) (fun x hx => ⟨hx, hb2.block x (by have h1 := HF.out x hx; have h2 := HBM.out; have h3 := HRG.out.lt; have h4 := lt_of_heap HRG.out.row; omega)⟩))
        clear hb2 c0
        refine wp_region_held (S := fun w' => w'.heap[rb]? = some (.cells (rgV n mb) 56 (0, 0))) (by kernel_rfl) ?_
        change wpAnyH _ _ _ _ _ _ _ _ (World.drew _)
        have HS := Lib.hid (show w2.drew.heap[rb]? = some (.cells (rgV n mb) 56 (0, 0)) from HRG2.out.row)
        refine wpAnyH_take (i := 0) (oi := ⟨some 26, .move (.tmp 0), _, _, _, none⟩) (v := .pointer (some ⟨rb, 0, none⟩)) rfl (by kernel_rfl) (by kernel_rfl) (by kernel_rfl) (fun _ _ _ h => h) (Or.inl ⟨by rfl, fun w' hS => by go_simp⟩) HS.out ?_
        simp only [Act.put, List.setIfInBounds_toArray, List.set_cons_zero, List.set_cons_succ]
        refine wpAnyH_take (i := 1) (oi := ⟨some 27, .nilCheck (.tmp 26), _, _, _, none⟩) (v := .pointer (some ⟨rb, 0, none⟩)) rfl (by kernel_rfl) (by kernel_rfl) (by kernel_rfl) (fun _ _ _ h => h) (Or.inl ⟨by rfl, fun w' hS => by have hl := lt_of_heap hS; go_simp⟩) HS.out ?_
        simp only [Act.put, List.setIfInBounds_toArray, List.set_cons_zero, List.set_cons_succ]
        refine wpAnyH_take (i := 2) (oi := ⟨some 28, .fieldAddr 56 (.tmp 27) 1, _, _, _, none⟩) (v := .pointer (some ⟨rb, 1, none⟩)) rfl (by kernel_rfl) (by kernel_rfl) (by kernel_rfl) (fun _ _ _ h => h) (Or.inl ⟨by rfl, fun w' hS => by go_simp⟩) HS.out ?_
        simp only [Act.put, List.setIfInBounds_toArray, List.set_cons_zero, List.set_cons_succ]
        refine wpAnyH_take (i := 3) (oi := ⟨some 29, .load 54 (.tmp 28), _, _, _, none⟩) (v := .map (some mb)) rfl (by kernel_rfl) (by kernel_rfl) (by kernel_rfl) (fun _ _ _ h => h) (Or.inl ⟨by rfl, fun w' hS => by have c := cell_of_arr hS 1; go_simp⟩) HS.out ?_
        simp only [Act.put, List.setIfInBounds_toArray, List.set_cons_zero, List.set_cons_succ]
        refine wpAnyH_take (i := 4) (oi := ⟨some 30, .move (.tmp 1), _, _, _, none⟩) (v := .int .u8 (i : Int)) rfl (by kernel_rfl) (by kernel_rfl) (by kernel_rfl) (fun _ _ _ h => h) (Or.inl ⟨by rfl, fun w' hS => by go_simp⟩) HS.out ?_
        simp only [Act.put, List.setIfInBounds_toArray, List.set_cons_zero, List.set_cons_succ]
        refine wpAnyH_take (i := 5) (oi := ⟨some 31, .move (.tmp 9), _, _, _, none⟩) (v := .int .u8 (j : Int)) rfl (by kernel_rfl) (by kernel_rfl) (by kernel_rfl) (fun _ _ _ h => h) (Or.inl ⟨by rfl, fun w' hS => by go_simp⟩) HS.out ?_
        simp only [Act.put, List.setIfInBounds_toArray, List.set_cons_zero, List.set_cons_succ]
        refine wpAnyH_take (i := 6) (oi := ⟨some 32, .build 58 #[(0, .tmp 30), (1, .tmp 31)], _, _, _, none⟩) (v := kp i j) rfl (by kernel_rfl) (by kernel_rfl) (by kernel_rfl) (fun _ _ _ h => h) (Or.inl ⟨by rfl, fun w' hS => by unfold kp; go_simp⟩) HS.out ?_
        simp only [Act.put, List.setIfInBounds_toArray, List.set_cons_zero, List.set_cons_succ]
        refine wpAnyH_take (i := 7) (oi := ⟨some 33, .move (.tmp 8), _, _, _, none⟩) (v := u) rfl (by kernel_rfl) (by kernel_rfl) (by kernel_rfl) (fun _ _ _ h => h) (Or.inl ⟨by rfl, fun w' hS => by go_simp⟩) HS.out ?_
        simp only [Act.put, List.setIfInBounds_toArray, List.set_cons_zero, List.set_cons_succ]
        refine wpAnyH_ready (rs := [8]) (by kernel_rfl) (by simp) (AllReadyH.cons (o := ⟨some 34, .call ⟨.value (.func 28), #[.tmp 33], _⟩, _, _, _, none⟩) rfl (fun K' hK => ?_) AllReadyH.nil)
        go_simp
        refine (bClone_any (kyAt kk i j) u F w2.drew HLK.out.1 HLK.out.2 HU2.out (fun x hx => by have h1 := HF.out x hx; have h2 := HB2.out.size; have h3 := HBM.out; have h4 := HRG2.out.lt; have h5 := lt_of_heap HRG2.out.row; show x < w2.heap.size; omega)).mono ?_
        rintro e w3 ⟨p, cap, rfl, hown, hb3⟩
        have HOW := Lib.hid (show w3.ownsRow w2.heap.size 5 1 (.slice p (kyAt kk i j).length cap) (kyAt kk i j).length (Lib.byteCells (kyAt kk i j)) from hown)
        have HB23 := Lib.hid (show Below w2.heap.size w2 w3 from (Below.refl _ _).drew.trans hb3)
        have HS3 := Lib.hid (show w3.heap[rb]? = some (.cells (rgV n mb) 56 (0, 0)) from (HB23.out.block _ (lt_of_heap HRG2.out.row)).trans HRG2.out.row)
        clear hown hb3
        refine hK.out _ _ HS3.out (fun _ => ?_)
        clear hK K'
        try (simp only [Act.put, List.setIfInBounds_toArray, List.set_cons_zero, List.set_cons_succ])
        obtain ⟨D, hD, hrest⟩ := HRG2.out.map.own
        have hD3 := hD.kept (w' := w3) (row := none) ⟨HB23.out.os, HB23.out.tape, HB23.out.output, HB23.out.size, fun k hk _ => HB23.out.block k hk⟩ (by simp)
        obtain ⟨w4, hrun, hown4, hg4⟩ := hD3.update KPair Tryz.underlying54 (show 8 * i + j < maxLen by unfold maxLen; have := HI.out; omega) (hkp (f := i) (t := j) (by have := HI.out; omega) (by have := HJN.out; omega)) (rv_ok (.slice p (kyAt kk i j).length cap))
        refine wpAnyH_ready (rs := [9]) (by kernel_rfl) (by simp) (AllReadyH.cons (o := ⟨none, .mapUpdate 54 (.tmp 29) (.tmp 32) (.tmp 34), _, _, _, none⟩) rfl (fun K' hK => ?_) AllReadyH.nil)
        go_simp
        have HX := Lib.hid (show RgAt rb mb n (8 * i + (j + 1)) (Kpt kk i (j + 1)) w4 by
          rw [← kpt_succ (by rw [← HN.out]; exact HJN.out) HIJ.out]
          refine rgAt_put HRG2.out (by have := HI.out; omega) (by have := HJN.out; omega) HB23.out HOW.out hg4 (fun D' hD' => ?_)
          have e : D' = D := by
            obtain ⟨es, ck, a1, _, _, a4⟩ := hD'
            obtain ⟨es2, ck2, b1, _, _, b4⟩ := hD3
            rw [a1] at b1
            cases b1
            rw [a4, b4]
          rw [e]
          exact hown4)
        have HB4 := Lib.hid (show Below B w w4 from (HB2.out.trans (HB23.out.mono HZ2.out)).trans ⟨hg4.os, hg4.tape, hg4.output, hg4.size, fun k hk => hg4.block k (Nat.lt_of_lt_of_le hk (Nat.le_trans HZ2.out HB23.out.size)) (fun e => by have := Option.some.inj e; have h2 := HBM.out; omega)⟩)
        clear hrest hD hD3 hown4 hrun hg4
        refine hK.out _ _ HX.out.row (fun _ => ?_)
        clear hK K'
        try (simp only [Act.put, List.setIfInBounds_toArray, List.set_cons_zero, List.set_cons_succ])
        refine wpAnyH_done (by kernel_rfl) ?_ _
        go_wp2
        go_roundw
        case rel => exact ⟨j + 1, by go_num, by have := HJN.out; omega, HX.out, HB4.out⟩
        case measure => simp [intOf]; have := HJN.out; omega
    · obtain rfl : j = n := by omega
      have HX := Lib.hid (show RgAt rb mb j (8 * (i + 1)) (Kpt kk (i + 1) 0) wr by have h := HRG.out; rw [HN.out, kpt_row, ← HN.out] at h; exact h.more (by omega))
      go_wp2
      go_ret
      exact ⟨rfl, HX.out, HBL.out⟩
end Go.Proofs.YtgaoeljdlpemnaaGreatDoor
/- The bytes of a text in a block of their own, and bytes put behind them. -/
namespace Go.Proofs.YtgaoeljdlpemnaaGreatDoor
open Go.RowKit Go.Edi Go.Wrap Go.Lib

/-- cells are stored ahead of what is frozen -/
theorem run_storeCells_atE (P : Program) (g o : Nat) (t : TypeId) (fz : Nat × Nat) : ∀ (vs : List Value) (i : Nat) (cur : Array Value) (w : World), w.heap[g]? = some (.cells cur t fz) → o + i + vs.length ≤ fz.1 → o + i + vs.length ≤ cur.size → (∀ v ∈ vs, v.oneCell' = true) →
    (storeCells ⟨g, o, none⟩ vs i).run P w = .ok () (w.setRow g (cur.toList.take (o + i) ++ vs ++ cur.toList.drop (o + i + vs.length)).toArray)
  | [], i, cur, w, hg, _, _, _ => by
    simp only [storeCells, List.append_nil, List.length_nil, Nat.add_zero, List.take_append_drop, Array.toArray_toList]
    rw [setRow_self w g cur t fz hg]
    rfl
  | v :: rest, i, cur, w, hg, hfz, hl, h1 => by
    have hi : o + i < cur.size := by simp at hl; omega
    have hadd : (⟨g, o, none⟩ : Addr).add i = ⟨g, o + i, none⟩ := by unfold Addr.add; split <;> simp_all
    have hcell : w.cell? ⟨g, o + i, none⟩ = some cur[o + i] := by simp [World.cell?, hg, hi]
    have hfro : w.frozen? ⟨g, o + i, none⟩ = false := by
      obtain ⟨lo, hi'⟩ := fz
      simp only [World.frozen?, hg, Bool.and_eq_false_iff, decide_eq_false_iff_not]
      left
      simp only [List.length_cons] at hfz
      omega
    have hst : (store ((⟨g, o, none⟩ : Addr).add i) v).run P w = .ok () (w.setRow g (cur.setIfInBounds (o + i) v)) := by
      rw [hadd, run_store P w _ v _ (h1 v (by simp)), hcell]
      simp [hfro, setCell_eq_setRow w g (o + i) cur t fz v hg]
    have ih := run_storeCells_atE P g o t fz rest (i + 1) (cur.setIfInBounds (o + i) v) (w.setRow g (cur.setIfInBounds (o + i) v)) (setRow_heap w g cur _ t _ hg) (by simp at hfz ⊢; omega) (by simp at hl ⊢; omega) (fun x hx => h1 x (by simp [hx]))
    simp only [storeCells, Sem.run_bind, hst, Result.andThen_ok, ih, setRow_setRow]
    congr 3
    have e := list_seg_step cur.toList (o + i) v rest (by simp at hl ⊢; omega)
    simpa [Array.toList_setIfInBounds, Nat.add_assoc] using e
/-- a text's bytes in the block g, as the conversion lays them -/
def TxAt (w : World) (g cap : Nat) (t : Tx) : Prop := t.length ≤ cap ∧ cap ≤ maxLen ∧ w.heap[g]? = some (.cells (bytesRow (tx t) cap) 5 ((bytesRow (tx t) cap).size, (bytesRow (tx t) cap).size + 1))
theorem brow_list (t : Tx) (cap : Nat) : (bytesRow (tx t) cap).toList = Lib.byteCells t ++ List.replicate (cap - t.length) (.int .u8 0) := by
  have e : (tx t).size = t.length := by simp [tx, ByteArray.size]
  unfold bytesRow
  rw [e]
  simp [tx, Lib.byteCells]
theorem brow_size {t : Tx} {cap : Nat} (h : t.length ≤ cap) : (bytesRow (tx t) cap).size = cap := by
  have := congrArg List.length (brow_list t cap)
  rw [Array.length_toList, List.length_append, Lib.byteCells_length, List.length_replicate] at this
  omega
theorem TxAt.bys {w : World} {g cap : Nat} {t : Tx} {F : Nat → Prop} (h : TxAt w g cap t) (hF : F g) : BysF w F (.slice (some ⟨g, 0, none⟩) t.length cap) t := by
  refine ⟨_, _, rfl, h.1, fun _ => ⟨g, 0, rfl, hF, fun j u hu => ?_⟩⟩
  rw [Nat.zero_add, cell_of_row w g j _ 5 _ h.2.2, ← Array.getElem?_toList, brow_list, List.getElem?_append_left (List.getElem?_eq_some_iff.1 hu).1]
  exact hu
theorem bytes_of' (t : Tx) (w : World) (ht : t.length ≤ 1000000) : ∃ cap W', (convert 9 39 (str t)).run Tryz.prog w = .ok (.slice (some ⟨w.heap.size, 0, none⟩) t.length cap) W' ∧ TxAt W' w.heap.size cap t ∧ Below w.heap.size w W' := by
  have hsz : (tx t).size = t.length := by simp [tx, ByteArray.size]
  have h := run_bytes_of_string (P := Tryz.prog) w 9 39 5 (tx t) Tryz.underlying9 Tryz.underlying39 Tryz.underlying5
  rw [hsz] at h
  exact ⟨_, _, h, ⟨grownCap_ge w t.length 0 5, grownCap_le_maxLen w t.length 0 5 (by unfold maxLen; omega), heap_alloc_new w.drew _⟩, (Below.refl _ w).drew.alloc (Nat.le_refl _) _⟩
theorem run_app_text (w : World) (ty : TypeId) (g cap base : Nat) (t news : Tx) (u : Value) (F : Nat → Prop) (hg : TxAt w g cap t) (hb : base ≤ g) (hbase : base ≤ w.heap.size) (hsrc : BysF w F u news) (hn0 : 0 < news.length) (hn : t.length + news.length ≤ 1000000) :
    ∃ p' cap' w', (Builtin.append_ #[39, 39] ty #[.slice (some ⟨g, 0, none⟩) t.length cap, u]).run Tryz.prog w = .ok (.slice p' (t.length + news.length) cap') w' ∧ BysF w' (fun b => base ≤ b ∧ b < w'.heap.size) (.slice p' (t.length + news.length) cap') (t ++ news) ∧ w.grownBy w' (some g) := by
  obtain ⟨i, hi, hz, hsize, hby⟩ := info_parts par_u8
  obtain ⟨p, c, rfl, _, hp⟩ := hsrc
  obtain ⟨b, o, rfl, _, hc⟩ := hp hn0
  have hnews : ∀ j v, (Lib.byteCells news)[j]? = some v → w.cell? ((⟨b, o, none⟩ : Addr).add j) = some v := fun j v hv => by rw [Addr.add_mid]; exact hc j v hv
  have hl : (Lib.byteCells news).length = news.length * i.size := by rw [Lib.byteCells_length, hsize, Nat.mul_one]
  have hgl := (Array.getElem?_eq_some_iff.1 hg.2.2).1
  have hrs := brow_size hg.1
  have hlen : (Lib.byteCells (t ++ news)).length = t.length + news.length := by rw [Lib.byteCells_length, List.length_append]
  have happ : Lib.byteCells (t ++ news) = Lib.byteCells t ++ Lib.byteCells news := by simp [Lib.byteCells]
  by_cases hroom : t.length + news.length ≤ cap
  · have hf := run_firstCells_some (P := Tryz.prog) w i.size news.length ⟨b, o, none⟩ news.length c (Lib.byteCells news) hl hnews
    have hst := run_storeCells_atE Tryz.prog g (t.length * i.size) 5 _ (Lib.byteCells news) 0 _ w hg.2.2 (by rw [hrs, hsize, Lib.byteCells_length]; omega) (by rw [hrs, hsize, Lib.byteCells_length]; omega) (bys_one news)
    simp only [Nat.add_zero] at hst
    have hr : (Builtin.append_ #[39, 39] ty #[.slice (some ⟨g, 0, none⟩) t.length cap, .slice (some ⟨b, o, none⟩) news.length c]).run Tryz.prog w =
      .ok (.slice (some ⟨g, 0, none⟩) (t.length + news.length) cap) (w.setRow g ((bytesRow (tx t) cap).toList.take (t.length * i.size) ++ Lib.byteCells news ++ (bytesRow (tx t) cap).toList.drop (t.length * i.size + (Lib.byteCells news).length)).toArray) := by
      simp [Builtin.append_, run_underlying Tryz.underlying39, sizeOf, typeInfo, hi, Builtin.lenOf, hroom, hf, Addr.add_lit, hst]
    refine ⟨_, _, _, hr, ?_, ⟨rfl, rfl, rfl, by simp, fun k _ hk => setRow_other w g k _ (fun e => hk (by rw [e]))⟩⟩
    unfold BysF
    rw [List.length_append]
    refine ⟨_, _, rfl, hroom, fun _ => ⟨g, 0, rfl, ⟨hb, by simpa using hgl⟩, fun j v hv => ?_⟩⟩
    rw [Nat.zero_add, cell_of_row _ g j _ 5 _ (setRow_heap w g _ _ 5 _ hg.2.2), List.getElem?_toArray, hsize, Nat.mul_one, brow_list, List.take_left' (by rw [Lib.byteCells_length]), ← happ, List.getElem?_append_left (List.getElem?_eq_some_iff.1 hv).1]
    exact hv
  · have holds : ∀ j v, (Lib.byteCells t)[j]? = some v → w.cell? ((⟨g, 0, none⟩ : Addr).add j) = some v := fun j v hv => by
      rw [Addr.add_mid, Nat.zero_add, cell_of_row w g j _ 5 _ hg.2.2, ← Array.getElem?_toList, brow_list, List.getElem?_append_left (List.getElem?_eq_some_iff.1 hv).1]
      exact hv
    have hr := run_append_grow (P := Tryz.prog) w 39 ty 5 i (.int .u8 0) Tryz.underlying39 hi hz ⟨g, 0, none⟩ t.length cap (Lib.byteCells t) (by rw [Lib.byteCells_length, hsize, Nat.mul_one]) holds ⟨b, o, none⟩ news.length c (Lib.byteCells news) hl hnews (by omega) (by omega) (growslice_fits (by omega) (by rw [hby]; omega))
    refine ⟨_, _, _, hr, ?_, ⟨rfl, rfl, rfl, by simp, fun k hk _ => heap_alloc_old w.drew _ hk⟩⟩
    unfold BysF
    rw [List.length_append]
    refine ⟨_, _, rfl, grownCap_ge w (t.length + news.length) cap 5, fun _ => ⟨w.heap.size, 0, rfl, ⟨hbase, by simp⟩, fun j v hv => ?_⟩⟩
    rw [Nat.zero_add, cell_of_row _ w.heap.size j _ 5 _ (heap_alloc_new w.drew _)]
    rw [← Array.getElem?_toList, Array.toList_append, Array.toList_append, ← happ, List.getElem?_append_left (List.getElem?_eq_some_iff.1 hv).1]
    exact hv
end Go.Proofs.YtgaoeljdlpemnaaGreatDoor
namespace Go.Proofs.YtgaoeljdlpemnaaGreatDoor
open Go.RowKit Go.Edi Go.Wrap

theorem tx_app2 (a b : Tx) : tx a ++ tx b = tx (a ++ b) := by simp [tx, ByteArray.ext_iff]
/-- the interchange's text by any numbers -/
def hdS (f t r : Nat) (l : List Sg) (c a : Nat) : List Sg := headS f t r :: (l ++ [tailS c a])
theorem mkd_digs (u : Nat) : mkd (digs u) = digs u := by
  have h : ∀ t : Tx, t.all dgt = true → mkd t = t := by
    intro t
    induction t with
    | nil => intro _; rfl
    | cons c t ih =>
      intro ht
      simp only [List.all_cons, Bool.and_eq_true] at ht
      have hs : sgn c = false := by
        have hd := ht.1
        simp only [dgt, Bool.and_eq_true, decide_eq_true_eq, UInt8.le_iff_toNat_le] at hd
        have g1 : 48 ≤ c.toNat := hd.1
        have g2 : c.toNat ≤ 57 := hd.2
        rw [sgn_int]
        simp
        omega
      simp only [mkd, hs, ih ht.2]
      simp
  apply h
  induction u using Nat.strongRecOn with
  | _ u ih =>
    by_cases hu : u < 10
    · rw [digs_small hu, List.all_cons, List.all_nil, dgt_d u hu]; rfl
    · rw [digs_big hu, List.all_append, ih (u / 10) (by omega), List.all_cons, List.all_nil, dgt_d (u % 10) (by omega)]; rfl
theorem digs_pln (u : Nat) : (digs u).all pln = true := by
  induction u using Nat.strongRecOn with
  | _ u ih =>
    have hp : ∀ d, d < 10 → pln (UInt8.ofNat (48 + d)) = true := fun d hd => by
      rw [pln_int, nat_d d hd]; simp; omega
    by_cases hu : u < 10
    · rw [digs_small hu, List.all_cons, List.all_nil, hp u hu]; rfl
    · rw [digs_big hu, List.all_append, ih (u / 10) (by omega), List.all_cons, List.all_nil, hp (u % 10) (by omega)]; rfl
theorem sgT_head (f t r : Nat) : sgT (headS f t r) = [85, 78, 66] ++ (43 :: (digs f ++ (43 :: (digs t ++ (43 :: digs r))))) := by
  show jn [43] ([85, 78, 66] :: [elT [digs f], elT [digs t], elT [digs r]]) = _
  simp [jn, jnT, elT, mkd_digs]
theorem sgT_tail (c a : Nat) : sgT (tailS c a) = [85, 78, 90] ++ (43 :: (digs c ++ (43 :: digs a))) := by
  show jn [43] ([85, 78, 90] :: [elT [digs c], elT [digs a]]) = _
  simp [jn, jnT, elT, mkd_digs]
theorem txT_hd (f t r : Nat) (l : List Sg) (c a : Nat) : txT (hdS f t r l c a) = [85, 78, 66, 43] ++ digs f ++ [43] ++ digs t ++ [43] ++ digs r ++ [39] ++ txT l ++ [85, 78, 90, 43] ++ digs c ++ [43] ++ digs a ++ [39] := by
  show sgT (headS f t r) ++ (39 :: txT (l ++ [tailS c a])) = _
  rw [txT_app, sgT_head]
  show _ ++ (39 :: (txT l ++ (sgT (tailS c a) ++ (39 :: [])))) = _
  rw [sgT_tail]
  simp
theorem num_ok (tag : Tx) (ns : List Nat) (ht : isTag tag = true) (hn : ns.length ≤ 16) (hlt : ∀ n ∈ ns, n < 18446744073709551616) : wholeS ⟨tag, numsE ns⟩ = true ∧ plainS ⟨tag, numsE ns⟩ = true ∧ shortS ⟨tag, numsE ns⟩ = true := by
  refine ⟨?_, ?_, ?_⟩
  · simp [wholeS, ht, numsE]
  · simp only [plainS, numsE, List.all_map, List.all_eq_true, Function.comp]
    intro n _ t ht c hc
    obtain rfl := List.mem_singleton.1 ht
    exact (List.all_eq_true.1 (digs_pln n)) c hc
  · simp only [shortS, numsE, List.length_map, Bool.and_eq_true, decide_eq_true_eq, List.all_map, List.all_eq_true, Function.comp]
    refine ⟨hn, fun n hm => ?_⟩
    simp only [shortE, List.length_cons, List.length_nil, List.all_cons, List.all_nil, Bool.and_true, Bool.and_eq_true, decide_eq_true_eq]
    have := digs_len n (hlt n hm)
    omega
theorem print_parts {l : List Sg} (h : (printL l).2 = 0) : l.all wholeS = true ∧ l.all plainS = true ∧ l.length ≤ 64 ∧ l.all shortS = true ∧ (txT l).length ≤ 65536 := by
  unfold printL at h
  split at h
  · rename_i h1
    split at h
    · rename_i h2
      split at h
      · rename_i h3
        rw [Bool.and_eq_true, decide_eq_true_eq] at h3
        split at h
        · cases h
        · exact ⟨h1, h2, h3.1, h3.2, by omega⟩
      · cases h
    · cases h
  · cases h
theorem print_of {l : List Sg} (h1 : l.all wholeS = true) (h2 : l.all plainS = true) (h3 : l.length ≤ 64) (h4 : l.all shortS = true) (h5 : (txT l).length ≤ 65536) : printL l = (txT l, 0) := by
  unfold printL
  rw [if_pos h1, if_pos h2, if_pos (by rw [h4]; simp; exact h3), if_neg (by omega)]
theorem print_hd {f t r c a : Nat} {l : List Sg} (h : (printL l).2 = 0) (hl : l.length ≤ 60) (ht : (txT l).length ≤ 60000) (hf : f < 18446744073709551616) (htt : t < 18446744073709551616) (hr : r < 18446744073709551616) (hc : c < 18446744073709551616) (ha : a < 18446744073709551616) :
    printL (hdS f t r l c a) = (txT (hdS f t r l c a), 0) := by
  obtain ⟨p1, p2, p3, p4, p5⟩ := print_parts h
  obtain ⟨a1, a2, a3⟩ := num_ok [85, 78, 66] [f, t, r] (by decide) (by simp) (by intro n hn; simp only [List.mem_cons, List.not_mem_nil, or_false] at hn; omega)
  obtain ⟨b1, b2, b3⟩ := num_ok [85, 78, 90] [c, a] (by decide) (by simp) (by intro n hn; simp only [List.mem_cons, List.not_mem_nil, or_false] at hn; omega)
  refine print_of ?_ ?_ (by simp [hdS]; omega) ?_ ?_
  · show (headS f t r :: (l ++ [tailS c a])).all wholeS = true
    rw [List.all_cons, List.all_append, List.all_cons, List.all_nil, p1, show wholeS (headS f t r) = true from a1, show wholeS (tailS c a) = true from b1]; rfl
  · show (headS f t r :: (l ++ [tailS c a])).all plainS = true
    rw [List.all_cons, List.all_append, List.all_cons, List.all_nil, p2, show plainS (headS f t r) = true from a2, show plainS (tailS c a) = true from b2]; rfl
  · show (headS f t r :: (l ++ [tailS c a])).all shortS = true
    rw [List.all_cons, List.all_append, List.all_cons, List.all_nil, p4, show shortS (headS f t r) = true from a3, show shortS (tailS c a) = true from b3]; rfl
  · rw [txT_hd]
    have := digs_len f hf
    have := digs_len t htt
    have := digs_len r hr
    have := digs_len c hc
    have := digs_len a ha
    simp only [List.length_append, List.length_cons, List.length_nil]
    omega
theorem wparse_hd {f t r c a : Nat} {l : List Sg} (h : (printL l).2 = 0) (hl : l.length ≤ 60) (ht : (txT l).length ≤ 60000) (hf : f < 18446744073709551616) (htt : t < 18446744073709551616) (hr : r < 18446744073709551616) (hc : c < 18446744073709551616) (ha : a < 18446744073709551616) :
    wparseL (txT (hdS f t r l c a)) = if 8 ≤ f ∨ 8 ≤ t then (Wr.nil, 40) else if c ≠ l.length then (Wr.nil, 41) else if r ≠ a then (Wr.nil, 42) else (⟨f, t, r, l⟩, 0) := by
  have hb := back _ _ (print_hd h hl ht hf htt hr hc ha)
  rw [wparse_ok (by rw [hb]), hb]
  show openL (hdS f t r l c a) = _
  have hlen : (hdS f t r l c a).length = l.length + 2 := by simp [hdS]
  have h0 : (hdS f t r l c a).getD 0 ⟨[], []⟩ = headS f t r := rfl
  have h1 : (hdS f t r l c a).getD ((hdS f t r l c a).length - 1) ⟨[], []⟩ = tailS c a := by
    rw [hlen]; simp [hdS, List.getD]
  have hm : ((hdS f t r l c a).take ((hdS f t r l c a).length - 1)).drop 1 = l := by
    rw [hlen]; simp [hdS]
  by_cases hft : 8 ≤ f ∨ 8 ≤ t
  · rw [if_pos hft]
    apply openL_head
    rw [h0]
    show headV ⟨[85, 78, 66], [[digs f], [digs t], [digs r]]⟩ = none
    simp only [headV, if_true, numL_digs]
    by_cases hf8 : f ≤ 7
    · rw [if_neg (show ¬ t ≤ 7 by omega)]
      simp
    · rw [if_neg hf8]
  · rw [if_neg hft]
    have hh := headV_head (f := f) (t := t) (by omega) (by omega) hr
    have ht2 := tailV_tail hc ha
    by_cases hcl : c = l.length
    · rw [if_neg (by omega)]
      by_cases hra : r = a
      · rw [if_neg (by omega), openL_ok (by rw [hlen]; omega) (by rw [h0]; exact hh) (by rw [h1]; exact ht2) (by rw [hlen]; omega) hra.symm, hm]
      · rw [if_pos hra, openL_ref (by rw [hlen]; omega) (by rw [h0]; exact hh) (by rw [h1]; exact ht2) (by rw [hlen]; omega) (fun e => hra e.symm)]
    · rw [if_pos hcl, openL_count (by rw [hlen]; omega) (by rw [h0]; exact hh) (by rw [h1]; exact ht2) (by rw [hlen]; omega)]
end Go.Proofs.YtgaoeljdlpemnaaGreatDoor
