/- wrap.Parse's contract. -/
import Derived.Test.YtgaoeljdlpemnaaGreatDoorMgSg
import Derived.Test.YtgaoeljdlpemnaaGreatDoorMgMb
import Derived.IntWalk
import Derived.Test.YtgaoeljdlpemnaaGreatDoorWrapD
import Derived.Test.YtgaoeljdlpemnaaGreatDoorWrapK
/- Contract: a segment of texts, each an element of one component. -/
namespace Go.Proofs.YtgaoeljdlpemnaaGreatDoor
open Go.RowKit Go.Edi Go.Wrap Go.Lib

def SegP (tag : Tx) (ts : List Tx) (w : World) (e : Ending) (w' : World) : Prop :=
  ∃ ve F, e = .returned (.agg #[str tag, ve]) ∧ ElsF w' F ve (ts.map fun x => [x]) ∧ (∀ b, F b → w.heap.size ≤ b ∧ b < w'.heap.size) ∧ Below w.heap.size w w'
set_option maxRecDepth 100000 in
set_option maxHeartbeats 6400000 in
theorem sgmt_any (tag : Tx) (ts : List Tx) (v : Value) (F0 : Nat → Prop) (w : World) (hv : StrsF w F0 v ts) (hF0 : ∀ b, F0 b → b < w.heap.size) (hn : ts.length ≤ 1000) :
    Calls Tryz.prog 43 #[str tag, v] w (SegP tag ts w) := by
  obtain ⟨p, cap, rfl, hnc, hp⟩ := hv
  have HP := Lib.hid hp
  have HF := Lib.hid hF0
  have HN := Lib.hid hn
  have hnI : (ts.length : Int) ≤ 1000 := by omega
  clear hp hF0 hn
  go_enter Tryz.func43, Tryz.ntmps43
  go_wp2
  go_loopw [12] (fun i wr => ∃ (k : Nat) (F : Nat → Prop) (ve : Value), i = .int .i64 k ∧ k ≤ ts.length ∧ TdI w F tag ((ts.take k).map fun x => [x]) ve wr) (fun i _ => ts.length - (intOf i).toNat)
  case atStart =>
    refine ⟨0, fun _ => False, .slice none 0 0, rfl, Nat.zero_le _, ⟨⟨Nat.le_succ _, ?_, ⟨[], World.ownsRow_nil _ _ _ _, True.intro⟩, ⟨[], World.ownsRow_nil _ _ _ _, True.intro⟩, by simp [Value.ownBlock], fun b hb => hb.elim⟩, ?_, fun h => h, by simp [Value.ownBlock], ?_⟩⟩
    · exact heap_new _ _ _ (by simp only [size_a])
    · exact heap_past _ _ _ (by simp only [size_a]; omega) (heap_new _ _ _ rfl)
    · exact ((Below.refl _ _).alloc (Nat.le_refl _) _).alloc (by simp only [size_a]; omega) _
  case round =>
    obtain ⟨k, F, ve, rfl, hk, ht⟩ := hrel
    have HTD := Lib.hid ht
    have HI := Lib.hid ht.oi
    have hb := ht.bl
    have HB := Lib.hid hb
    by_cases hlt : (k : Int) < (ts.length : Int)
    · have hkl : k < ts.length := by omega
      have hk0 : (0 : Int) ≤ (k : Int) := Int.natCast_nonneg _
      obtain ⟨b, o, rfl, hF, hc⟩ := HP.out (by omega)
      have hck : wr.cell? ⟨b, o + k, none⟩ = some (str (ts[k]'hkl)) := (World.cell?_of_block (a := ⟨b, o + k, none⟩) (hb.block b (HF.out _ hF))).trans (hc k _ (by rw [List.getElem?_map, List.getElem?_eq_getElem hkl]; rfl))
      have HTK := Lib.hid (show (ts.take (k + 1)).map (fun x => [x]) = (ts.take k).map (fun x => [x]) ++ [[ts[k]'hkl]] by rw [← List.take_append_getElem hkl, List.map_append]; rfl)
      generalize ts[k]'hkl = x at *
      obtain ⟨ys, hys, hyc⟩ := HI.out.els
      have hel : ((ts.take k).map fun x => [x]).length = k := by simp; omega
      have HEL := Lib.hid hel
      rw [hel] at hys
      obtain ⟨pe, cape, rfl⟩ := own_slice hys
      obtain ⟨_, cg, fg, hglt⟩ := HI.out.cells
      have HYS := Lib.hid hys
      have HYC := Lib.hid hyc
      have HGL := Lib.hid hglt
      have HNG := Lib.hid (own_not hys HI.out.hg (by decide))
      have HBR := Lib.hid (Below.refl wr.heap.size wr)
      clear ht hb hys hyc hglt hel hc
      go_wp2_with (at_builtin; refine wl_app1 110 129 (.slice none 0 0) 1 24 par_strs Tryz.underlying110 rfl (by decide) (by decide) w.heap.size (.slice pe k cape) k ys rfl ((HYS.out.alloc _).alloc _) (wr.heap.size + 1) 1 [.slice (some ⟨wr.heap.size, 0, none⟩) 1 1] 129 (0, 0) rfl rfl (heap_new _ _ _ (by simp only [size_a])) (by intro u hu; simp at hu; subst hu; rfl) (by have := HN.out; omega) (by have := HB.out.size; simp only [size_a]; omega) ?_)
      intro v2 w4 ho2 hgr2 hbk2
      obtain ⟨p2, cap2, rfl⟩ := own_slice ho2
      have hg4 : w4.heap[w.heap.size + 1]? = wr.heap[w.heap.size + 1]? := (hgr2.block _ (by have := HGL.out; simp only [size_a]; omega) HNG.out).trans (heap2 _ _ _ _ HGL.out)
      have C5 : w4.cell? ⟨w.heap.size + 1, 1, none⟩ = some (.slice pe k cape) := (World.cell?_of_block (a := ⟨w.heap.size + 1, 1, none⟩) hg4).trans cg
      have F5 : w4.frozen? ⟨w.heap.size + 1, 1, none⟩ = false := (World.frozen?_of_block (a := ⟨w.heap.size + 1, 1, none⟩) hg4).trans fg
      obtain ⟨F2, hE⟩ := told_step HTD.out HEL.out HYC.out HYS.out HBR.out ho2 hgr2 hbk2
      have HE := Lib.hid hE
      clear ho2 hgr2 hbk2 hg4 hE cg fg hck
      go_wp2
      go_roundw
      case rel => exact ⟨k + 1, F2, _, by go_num, by omega, HTK.out ▸ HE.out⟩
      case measure => simp [intOf]; omega
    · obtain rfl : k = ts.length := by omega
      have hg := ht.oi.hg
      have c0 := cell_of_arr hg 0
      have c1 := cell_of_arr hg 1
      have r0 := cell_of_arr ht.r0 0
      have r1 := cell_of_arr ht.r0 1
      have f0 := frozen_of_arr ht.r0 0
      have f1 := frozen_of_arr ht.r0 1
      have hy := ht.oi.els
      obtain ⟨ys, hys, hyc⟩ := hy
      have hel : ((ts.take ts.length).map fun x => [x]).length = ts.length := by simp
      rw [hel] at hys
      obtain ⟨pe, cape, rfl⟩ := own_slice hys
      have HYS := Lib.hid hys
      have HYC := Lib.hid hyc
      clear hg hys hyc hel ht hb
      have HR0 := Lib.hid HTD.out.r0
      go_wp2
      refine bodyPost_ret (results_cell_row rfl _ _ w.heap.size 112 #[str tag, .slice pe ts.length cape] (0, 0) _ rfl (set2 HR0.out _ _) Tryz.underlying112 rfl sizeSegm) rfl ?_
      have hb := ((HB.out.setCell (p := ⟨w.heap.size, 0, none⟩) (Nat.le_refl _) (str tag)).setCell (p := ⟨w.heap.size, 1, none⟩) (Nat.le_refl _) (.slice pe ts.length cape))
      have hkp : ∀ b, b ≠ w.heap.size → ((wr.setCell ⟨w.heap.size, 0, none⟩ (str tag)).setCell ⟨w.heap.size, 1, none⟩ (.slice pe ts.length cape)).heap[b]? = wr.heap[b]? := fun b hne => (Below.heap_setCell _ _ _ _ hne).trans (Below.heap_setCell _ _ _ _ hne)
      have hsz : ((wr.setCell ⟨w.heap.size, 0, none⟩ (str tag)).setCell ⟨w.heap.size, 1, none⟩ (.slice pe ts.length cape)).heap.size = wr.heap.size := by simp [World.setCell]
      have hoo : ∀ b, (Value.slice pe ts.length cape).ownBlock = some b → b ≠ w.heap.size := fun b e e2 => HTD.out.nv (by rw [e, e2])
      have hff : ∀ b, F b → b ≠ w.heap.size := fun b e e2 => HTD.out.nf (e2 ▸ e)
      rw [List.take_length] at HYC
      refine ⟨_, fun b => F b ∨ (Value.slice pe ts.length cape).ownBlock = some b, rfl, ⟨ys, ?_, HYC.out.kept (fun b h => ⟨Or.inl h, hkp b (hff b h)⟩)⟩, ?_, hb⟩
      · rw [List.length_map]
        exact row_own (own_keep HYS.out (fun b e => hkp b (hoo b e))) (fun b e => Or.inr e)
      · rintro b (h | h)
        · have := HTD.out.oi.fz b h
          exact ⟨this.1, by rw [hsz]; exact this.2.1⟩
        · have := HYS.out.lt b h
          exact ⟨this.1, by rw [hsz]; exact this.2⟩
end Go.Proofs.YtgaoeljdlpemnaaGreatDoor
/- Contract: the segments of a message. -/
namespace Go.Proofs.YtgaoeljdlpemnaaGreatDoor
open Go.RowKit Go.Edi Go.Wrap Go.Lib

def ToldP (o : List Sg × Nat) (w : World) (e : Ending) (w' : World) : Prop :=
  Below w.heap.size w w' ∧ ∃ v, e = .returned (.tuple #[v, .int .i64 ((o.2 : Nat) : Int)]) ∧ SegsF w' (Fr w w') v o.1
theorem told_nil (w w' : World) (E : Nat) (hb : Below w.heap.size w w') : ToldP ([], E) w (.returned (.tuple #[.slice none 0 0, .int .i64 (E : Int)])) w' :=
  ⟨hb, _, rfl, [], RowF.no none 0, True.intro⟩
structure TmI (w : World) (F : Nat → Prop) (segs : List Sg) (v : Value) (wr : World) : Prop where
  sg : ∃ xs, wr.ownsRow w.heap.size 112 2 v segs.length xs ∧ SgC wr F segs xs
  fz : ∀ b, F b → w.heap.size ≤ b ∧ b < wr.heap.size ∧ v.ownBlock ≠ some b
  bl : Below w.heap.size w wr
theorem TmI.segs {w wr : World} {F : Nat → Prop} {segs : List Sg} {v : Value} (h : TmI w F segs v wr) : SegsF wr (Fr w wr) v segs := by
  obtain ⟨xs, h1, h2⟩ := h.sg
  exact ⟨xs, row_own h1 (fun b e => (h1.lt b e)), h2.kept (fun b hb => ⟨⟨(h.fz b hb).1, (h.fz b hb).2.1⟩, rfl⟩)⟩
/-- what is told, in memory of its own: the row of segments apart from what they hold -/
def ToldO (o : List Sg × Nat) (w : World) (e : Ending) (w' : World) : Prop :=
  Below w.heap.size w w' ∧ ∃ v F, e = .returned (.tuple #[v, .int .i64 ((o.2 : Nat) : Int)]) ∧ TmI w F o.1 v w'
theorem ToldO.told {o : List Sg × Nat} {w w' : World} {e : Ending} (h : ToldO o w e w') : ToldP o w e w' := by
  obtain ⟨h1, v, F, h2, h3⟩ := h
  exact ⟨h1, v, h2, h3.segs⟩
theorem told_nilO (w w' : World) (E : Nat) (hb : Below w.heap.size w w') : ToldO ([], E) w (.returned (.tuple #[.slice none 0 0, .int .i64 (E : Int)])) w' :=
  ⟨hb, _, fun _ => False, rfl, ⟨⟨[], World.ownsRow_nil _ _ _ _, True.intro⟩, fun _ h => h.elim, hb⟩⟩
theorem par_segm : (Tryz.prog.info? 112).map (fun i => (i.zero, i.size, i.bytes)) = some (some (.agg #[.string ⟨#[]⟩, .slice none 0 0]), 2, 40) := by kernel_rfl
theorem told_shape {m : Ms} : toldMs m = (match fdsL m.kind with
  | none => ([], 100)
  | some fds => if (Number.textL m.car m.ser).2 = 0 then (if mayL m fds then (sgL kindT [sdig m.kind] :: sgL keyT [(Number.textL m.car m.ser).1, sdig m.at_] :: fds.map (fldS m), 0) else ([], 101)) else ([], (Number.textL m.car m.ser).2)) := rfl
theorem kind_lt {k : Nat} {fds : List Fd} (h : fdsL k = some fds) : k ≤ 8 := by have := fds_kind h; omega
/-- a segment's element is put behind the others -/
theorem TmI.snoc {w wr w1 w4 : World} {F F1 : Nat → Prop} {segs : List Sg} {v v4 ve : Value} {s : Sg} {xs : List Value} (h : TmI w F segs v wr) (hx : SgC wr F segs xs) (hb1 : Below wr.heap.size wr w1) (hve : ElsF w1 F1 ve s.els) (hF1 : ∀ b, F1 b → wr.heap.size ≤ b ∧ b < w1.heap.size)
    (ho : w4.ownsRow w.heap.size 112 2 v4 (segs.length + 1) (xs ++ [str s.tag, ve])) (hg : (w1.alloc (.cells #[str s.tag, ve] 112)).grownBy w4 v.ownBlock) (hk : v4.ownBlock = v.ownBlock ∨ v4.ownBlock = some (w1.alloc (.cells #[str s.tag, ve] 112)).heap.size) (hvb : ∀ b, v.ownBlock = some b → w.heap.size ≤ b ∧ b < wr.heap.size) :
    TmI w (fun b => F b ∨ F1 b) (segs ++ [s]) v4 w4 := by
  have hs1 := hb1.size
  have hs4 : w1.heap.size + 1 ≤ w4.heap.size := by have := hg.size; simpa only [size_a] using this
  have hbw := h.bl.size
  have kF : ∀ b, F b → w4.heap[b]? = wr.heap[b]? := fun b hb => by
    have h1 := h.fz b hb
    exact (hg.block b (by simp only [size_a]; omega) (fun e => h1.2.2 e.symm)).trans ((Below.heap_alloc _ _ _ (by omega)).trans (hb1.block b h1.2.1))
  have kF1 : ∀ b, F1 b → w4.heap[b]? = w1.heap[b]? := fun b hb => by
    have h1 := hF1 b hb
    exact (hg.block b (by simp only [size_a]; omega) (fun e => by have := hvb b e.symm; omega)).trans (Below.heap_alloc _ _ _ h1.2)
  refine ⟨⟨xs ++ [str s.tag, ve], by rw [List.length_append]; exact ho, SgC.snoc (hve.kept (fun b hb => ⟨Or.inr hb, kF1 b hb⟩)) (hx.kept (fun b hb => ⟨Or.inl hb, kF b hb⟩))⟩, ?_, ?_⟩
  · rintro b (hb | hb)
    · have h1 := h.fz b hb
      refine ⟨h1.1, by omega, ?_⟩
      rcases hk with e | e
      · rw [e]; exact h1.2.2
      · rw [e]; simp only [size_a]; intro h2; have := Option.some.inj h2; omega
    · have h1 := hF1 b hb
      refine ⟨by omega, by omega, ?_⟩
      rcases hk with e | e
      · rw [e]; intro h2; have := hvb b h2; omega
      · rw [e]; simp only [size_a]; intro h2; have := Option.some.inj h2; omega
  · exact ((h.bl.trans (hb1.mono hbw)).alloc (by omega) _).grown hg (by simp only [size_a]; omega) (fun k e => (hvb k e).1)
set_option maxRecDepth 100000 in
set_option maxHeartbeats 6400000 in
theorem toldMs_own (m : Ms) (B : Nat) (w : World) (hm : m.Ty) (he : Env B w) (hB : B ≤ w.heap.size) :
    Calls Tryz.prog 42 #[.agg (msV m).toArray] w (ToldO (toldMs m) w) := by
  obtain ⟨R, hR⟩ : ∃ R, R = toldMs m := ⟨_, rfl⟩
  rw [← hR]
  rw [told_shape] at hR
  have HMT := Lib.hid hm
  have HE := Lib.hid he
  have HBB := Lib.hid hB
  have hk0 : (0 : Int) ≤ (m.kind : Int) := Int.natCast_nonneg _
  have hk1 : (m.kind : Int) ≤ 255 := by have := hm.kind; omega
  have ha0 : (0 : Int) ≤ (m.at_ : Int) := Int.natCast_nonneg _
  have ha1 : (m.at_ : Int) ≤ 255 := by have := hm.at_; omega
  have hk256 : m.kind < 256 := hm.kind
  obtain ⟨w0, hw0⟩ : ∃ w0, w0 = w.alloc (.cells (msV m).toArray 36) := ⟨_, rfl⟩
  have hb0 : Below w.heap.size w w0 := by rw [hw0]; exact (Below.refl _ _).alloc (Nat.le_refl _) _
  have hm0 : w0.heap[w.heap.size]? = some (.cells #[.int .u8 (m.kind : Int), .int .u8 (m.car : Int), .int .u64 (m.ser : Int), .int .u8 (m.at_ : Int), .int .u8 (m.lc : Int), .int .u16 (m.lf : Int), .int .u32 (m.lw : Int), .int .i64 m.val, .int .u8 (m.st : Int), .int .u32 (m.non : Int), .int .i64 m.am, .int .i64 m.code] 36 (0, 0)) := by rw [hw0]; exact at_last _ _
  have HKD := Lib.hid (fun W => kinds_any W)
  have HB0 := Lib.hid hb0
  have HM0 := Lib.hid hm0
  have HW0 := Lib.hid (show w.alloc (.cells #[.int .u8 (m.kind : Int), .int .u8 (m.car : Int), .int .u64 (m.ser : Int), .int .u8 (m.at_ : Int), .int .u8 (m.lc : Int), .int .u16 (m.lf : Int), .int .u32 (m.lw : Int), .int .i64 m.val, .int .u8 (m.st : Int), .int .u32 (m.non : Int), .int .i64 m.am, .int .i64 m.code] 36) = w0 from hw0.symm)
  clear hm he hB hb0 hm0 hw0
  simp only [msV]
  go_enter Tryz.func42, Tryz.ntmps42
  go_upto_region 1 with fail
  rw [HW0.out]
  refine wp_region_held (S := fun w' => w'.heap[w.heap.size]? = some (.cells #[.int .u8 (m.kind : Int), .int .u8 (m.car : Int), .int .u64 (m.ser : Int), .int .u8 (m.at_ : Int), .int .u8 (m.lc : Int), .int .u16 (m.lf : Int), .int .u32 (m.lw : Int), .int .i64 m.val, .int .u8 (m.st : Int), .int .u32 (m.non : Int), .int .i64 m.am, .int .i64 m.code] 36 (0, 0))) (by kernel_rfl) ?_
  change wpAnyH _ _ _ _ _ _ _ _ (World.drew _)
  have HS0 := Lib.hid (show w0.drew.heap[w.heap.size]? = some (.cells #[.int .u8 (m.kind : Int), .int .u8 (m.car : Int), .int .u64 (m.ser : Int), .int .u8 (m.at_ : Int), .int .u8 (m.lc : Int), .int .u16 (m.lf : Int), .int .u32 (m.lw : Int), .int .i64 m.val, .int .u8 (m.st : Int), .int .u32 (m.non : Int), .int .i64 m.am, .int .i64 m.code] 36 (0, 0)) from HM0.out)
  refine tkH (i := 1) (oi := ⟨some 13, .fieldAddr 36 (.tmp 1) 0, _, _, _, none⟩) (v := .pointer (some ⟨w.heap.size, 0, none⟩)) rfl qs HS0.out ?_
  simp only [Act.put, zs1, zs2, zs3]
  refine tkH (i := 2) (oi := ⟨some 14, .load 5 (.tmp 13), _, _, _, none⟩) (v := .int .u8 (m.kind : Int)) rfl (Or.inl ⟨by rfl, fun w' hS => by have c := cell_of_arr hS 0; go_simp⟩) HS0.out ?_
  simp only [Act.put, zs1, zs2, zs3]
  refine wpAnyH_ready (rs := [0]) (by kernel_rfl) (by simp) (AllReadyH.cons (o := ⟨some 12, .call ⟨.value (.func 67), #[], _⟩, _, _, _, none⟩) rfl (fun K hK => ?_) AllReadyH.nil)
  go_simp
  refine (HKD.out _).mono ?_
  rintro e w1 ⟨Bm, D, rfl, hown, hBm, hbel, hyes, hno⟩
  have HB1 := Lib.hid (show Below w.heap.size w w1 from HB0.out.trans ((show Below w0.heap.size w0 w1 from (Below.refl _ _).drew.trans hbel).mono HB0.out.size))
  have HOW := Lib.hid hown
  have HYE := Lib.hid hyes
  have HNO := Lib.hid hno
  have HS1 := Lib.hid (show w1.heap[w.heap.size]? = some (.cells #[.int .u8 (m.kind : Int), .int .u8 (m.car : Int), .int .u64 (m.ser : Int), .int .u8 (m.at_ : Int), .int .u8 (m.lc : Int), .int .u16 (m.lf : Int), .int .u32 (m.lw : Int), .int .i64 m.val, .int .u8 (m.st : Int), .int .u32 (m.non : Int), .int .i64 m.am, .int .i64 m.code] 36 (0, 0)) from (hbel.block w.heap.size (show w.heap.size < w0.drew.heap.size from lt_of_heap HM0.out)).trans HS0.out)
  clear hown hBm hbel hyes hno
  refine hK.out _ _ HS1.out (fun _ => ?_)
  clear hK K
  obtain ⟨V, ps, hrun, hV⟩ := HOW.out.look_ok KU8 Tryz.underlying145 (zero_fields _) (zd := .held (.slice none 0 0)) (zp := []) rfl (key8 m.kind hk256)
  cases hf : fdsL m.kind with
  | none =>
    obtain ⟨h1, h2⟩ := HNO.out m.kind hf
    rw [h2] at hrun
    rw [hf] at hR
    have HR := Lib.hid hR
    clear hV h1 h2 hf HYE HNO hR
    refine wpAnyH_ready (rs := [3]) (by kernel_rfl) (by simp) (AllReadyH.cons (o := ⟨some 15, .lookup 145 (.tmp 12) (.tmp 14) true, _, _, _, none⟩) rfl (fun K hK => ?_) AllReadyH.nil)
    go_simp
    have HS2 := Lib.hid (HS1.out)
    refine hK.out _ _ HS2.out (fun _ => ?_)
    clear hK K
    refine tkH (i := 4) (oi := ⟨some 11, .move (.tmp 15), _, _, _, none⟩) (v := .tuple #[V, .bool false]) rfl qs HS2.out ?_
    simp only [Act.put, zs1, zs2, zs3]
    refine tkH (i := 5) (oi := ⟨some 16, .extract (.tmp 11) 0, _, _, _, none⟩) (v := V) rfl qs HS2.out ?_
    simp only [Act.put, zs1, zs2, zs3]
    refine tkH (i := 6) (oi := ⟨some 17, .extract (.tmp 11) 1, _, _, _, none⟩) (v := .bool false) rfl qs HS2.out ?_
    simp only [Act.put, zs1, zs2, zs3]
    refine tkH (i := 7) (oi := ⟨some 4, .assign (.tmp 16), _, _, _, none⟩) (v := V) rfl qs HS2.out ?_
    simp only [Act.put, zs1, zs2, zs3]
    refine tkH (i := 8) (oi := ⟨some 5, .assign (.tmp 17), _, _, _, none⟩) (v := .bool false) rfl qs HS2.out ?_
    simp only [Act.put, zs1, zs2, zs3]
    refine wpAnyH_done (by kernel_rfl) ?_ _
    clear hrun
    go_wp2
    go_ret2
    rw [HR.out]
    exact told_nilO _ _ _ HB1.out
  | some fds =>
    obtain ⟨v, h1, h2, h3⟩ := HYE.out m.kind fds hf
    rw [h1] at hV
    rw [h2] at hrun
    have hVe : V = v := DataW.held.inj (Prod.mk.inj (Option.some.inj hV)).1
    subst hVe
    rw [hf] at hR
    simp only at hR
    have HR := Lib.hid hR
    have H3 := Lib.hid h3
    have HFC := Lib.hid (fds_cases hf)
    clear hV h1 h2 h3 hf HYE HNO hR
    refine wpAnyH_ready (rs := [3]) (by kernel_rfl) (by simp) (AllReadyH.cons (o := ⟨some 15, .lookup 145 (.tmp 12) (.tmp 14) true, _, _, _, none⟩) rfl (fun K hK => ?_) AllReadyH.nil)
    go_simp
    have HS2 := Lib.hid (HS1.out)
    refine hK.out _ _ HS2.out (fun _ => ?_)
    clear hK K
    refine tkH (i := 4) (oi := ⟨some 11, .move (.tmp 15), _, _, _, none⟩) (v := .tuple #[V, .bool true]) rfl qs HS2.out ?_
    simp only [Act.put, zs1, zs2, zs3]
    refine tkH (i := 5) (oi := ⟨some 16, .extract (.tmp 11) 0, _, _, _, none⟩) (v := V) rfl qs HS2.out ?_
    simp only [Act.put, zs1, zs2, zs3]
    refine tkH (i := 6) (oi := ⟨some 17, .extract (.tmp 11) 1, _, _, _, none⟩) (v := .bool true) rfl qs HS2.out ?_
    simp only [Act.put, zs1, zs2, zs3]
    refine tkH (i := 7) (oi := ⟨some 4, .assign (.tmp 16), _, _, _, none⟩) (v := V) rfl qs HS2.out ?_
    simp only [Act.put, zs1, zs2, zs3]
    refine tkH (i := 8) (oi := ⟨some 5, .assign (.tmp 17), _, _, _, none⟩) (v := .bool true) rfl qs HS2.out ?_
    simp only [Act.put, zs1, zs2, zs3]
    refine wpAnyH_done (by kernel_rfl) ?_ _
    clear hrun
    have hty := HMT.out
    obtain ⟨TX, TE, hte⟩ : ∃ TX TE, Number.textL m.car m.ser = (TX, TE) := ⟨_, _, rfl⟩
    have htx := fun W (h : Below w.heap.size w W) => Nu.text_any m.car m.ser hty.car B W ((HE.out.on (h.mono HBB.out)).tab) (Nat.le_trans HBB.out h.size)
    rw [hte] at htx
    have HTX := Lib.hid htx
    have HR1 := Lib.hid (HR.out.trans (by rw [hte]))
    have HTE := Lib.hid hte
    have HN1 := Lib.hid HS1.out
    clear hty hte htx
    simp only at HR1
    have t1 : w1.cell? ⟨w.heap.size, 1, none⟩ = some (.int .u8 (m.car : Int)) := cell_of_arr HS1.out 1
    have t2 : w1.cell? ⟨w.heap.size, 2, none⟩ = some (.int .u64 (m.ser : Int)) := cell_of_arr HS1.out 2
    obtain ⟨EI, hEI⟩ : ∃ EI : Int, EI = (TE : Int) := ⟨_, rfl⟩
    have HTX2 := Lib.hid (fun W (h : Below w.heap.size w W) => (HTX.out W h).mono (R' := fun e w' => e = .returned (.tuple #[str TX, .int .i64 EI]) ∧ Below W.heap.size W w') (fun e w' ⟨h1, h2⟩ => ⟨by rw [h1, hEI]; rfl, h2⟩))
    have HEI := Lib.hid hEI
    clear HTX hEI
    by_cases hTE : TE = 0
    · obtain rfl : EI = 0 := by rw [HEI.out, hTE]; rfl
      have HR2 := Lib.hid (HR1.out.trans (if_pos hTE))
      clear hTE
      have HMB := Lib.hid (fun W (h : Below w1.heap.size w1 W) => mayBe_any m fds V W HMT.out (H3.out.kept (fun j hj => ⟨Nat.lt_of_lt_of_le hj.2 h.size, h.block j hj.2⟩)) (by rcases HFC.out with h | h | h | h | h <;> rw [h] <;> decide))
      have HR0 := Lib.hid (Below.refl w1.heap.size w1)
      cases hmay : mayL m fds with
      | false =>
        have HR3 := Lib.hid (HR2.out.trans (if_neg (by rw [hmay]; decide)))
        rw [hmay] at HMB
        clear hmay
        go_wp2_with (first
          | (go_at_call 68; refine (HTX2.out _ HB1.out).mono ?_; rintro e w2 ⟨rfl, hb2⟩
             have HB2 := Lib.hid (HB1.out.trans (hb2.mono HB1.out.size))
             have HX2 := Lib.hid (HR0.out.trans hb2)
             have HN2 := Lib.hid ((hb2.block w.heap.size (lt_of_heap HN1.out)).trans HN1.out)
             clear hb2)
          | (refine wpList_load_row rfl 36 _ rfl w.heap.size rfl 36 #[.int .u8 (m.kind : Int), .int .u8 (m.car : Int), .int .u64 (m.ser : Int), .int .u8 (m.at_ : Int), .int .u8 (m.lc : Int), .int .u16 (m.lf : Int), .int .u32 (m.lw : Int), .int .i64 m.val, .int .u8 (m.st : Int), .int .u32 (m.non : Int), .int .i64 m.am, .int .i64 m.code] (0, 0) _ HN2.out Tryz.underlying36 rfl sizeMs ?_)
          | (go_at_call 69; refine (HMB.out _ HX2.out).mono ?_; rintro e w3 ⟨rfl, hb3⟩
             have HB3 := Lib.hid (HB2.out.trans (hb3.mono HB2.out.size))
             clear hb3))
        go_ret2
        rw [HR3.out]
        exact told_nilO _ _ _ HB3.out
      | true =>
        have HR3 := Lib.hid (HR2.out.trans (if_pos hmay))
        rw [hmay] at HMB
        clear hmay
        go_upto_region 9 with (first
          | (go_at_call 68; refine (HTX2.out _ HB1.out).mono ?_; rintro e w2 ⟨rfl, hb2⟩
             have HB2 := Lib.hid (HB1.out.trans (hb2.mono HB1.out.size))
             have HX2 := Lib.hid (HR0.out.trans hb2)
             have HN2 := Lib.hid ((hb2.block w.heap.size (lt_of_heap HN1.out)).trans HN1.out)
             clear hb2)
          | (refine wpList_load_row rfl 36 _ rfl w.heap.size rfl 36 #[.int .u8 (m.kind : Int), .int .u8 (m.car : Int), .int .u64 (m.ser : Int), .int .u8 (m.at_ : Int), .int .u8 (m.lc : Int), .int .u16 (m.lf : Int), .int .u32 (m.lw : Int), .int .i64 m.val, .int .u8 (m.st : Int), .int .u32 (m.non : Int), .int .i64 m.am, .int .i64 m.code] (0, 0) _ HN2.out Tryz.underlying36 rfl sizeMs ?_)
          | (go_at_call 69; refine (HMB.out _ HX2.out).mono ?_; rintro e w3 ⟨rfl, hb3⟩
             have HB3 := Lib.hid (HB2.out.trans (hb3.mono HB2.out.size))
             have HX3 := Lib.hid (HX2.out.trans (hb3.mono HX2.out.size))
             have HN3 := Lib.hid ((hb3.block w.heap.size (lt_of_heap HN2.out)).trans HN2.out)
             clear hb3))
        have HTT := Lib.hid (fun n (hn : i64B n) W (h : Below w.heap.size w W) => mgtext_any n hn B W (HE.out.on (h.mono HBB.out)))
        have hik : i64B (m.kind : Int) := by unfold i64B; omega
        have hia : i64B (m.at_ : Int) := by unfold i64B; omega
        have HIK := Lib.hid (And.intro hik hia)
        clear hik hia t1 t2
        refine wp_region_held (S := fun w' => w'.heap[w.heap.size]? = some (.cells #[.int .u8 (m.kind : Int), .int .u8 (m.car : Int), .int .u64 (m.ser : Int), .int .u8 (m.at_ : Int), .int .u8 (m.lc : Int), .int .u16 (m.lf : Int), .int .u32 (m.lw : Int), .int .i64 m.val, .int .u8 (m.st : Int), .int .u32 (m.non : Int), .int .i64 m.am, .int .i64 m.code] 36 (0, 0))) (by kernel_rfl) ?_
        change wpAnyH _ _ _ _ _ _ _ _ (World.drew _)
        have HS3 := Lib.hid (show w3.drew.heap[w.heap.size]? = some (.cells #[.int .u8 (m.kind : Int), .int .u8 (m.car : Int), .int .u64 (m.ser : Int), .int .u8 (m.at_ : Int), .int .u8 (m.lc : Int), .int .u16 (m.lf : Int), .int .u32 (m.lw : Int), .int .i64 m.val, .int .u8 (m.st : Int), .int .u32 (m.non : Int), .int .i64 m.am, .int .i64 m.code] 36 (0, 0)) from HN3.out)
        have HB3d := Lib.hid (show Below w.heap.size w w3.drew from HB3.out.drew)
        have HX3d := Lib.hid (show Below w1.heap.size w1 w3.drew from HX3.out.drew)
        refine tkH (i := 0) (oi := ⟨some 36, .fieldAddr 36 (.tmp 1) 0, _, _, _, none⟩) (v := .pointer (some ⟨w.heap.size, 0, none⟩)) rfl qs HS3.out ?_
        simp only [Act.put, zs1, zs2, zs3]
        refine tkH (i := 1) (oi := ⟨some 37, .load 5 (.tmp 36), _, _, _, none⟩) (v := .int .u8 (m.kind : Int)) rfl (Or.inl ⟨by rfl, fun w' hS => by have c := cell_of_arr hS 0; go_simp⟩) HS3.out ?_
        simp only [Act.put, zs1, zs2, zs3]
        refine tkH (i := 2) (oi := ⟨some 38, .convert 5 2 (.tmp 37), _, _, _, none⟩) (v := .int .i64 (m.kind : Int)) rfl (Or.inl ⟨by rfl, fun w' hS => by go_simp; exact IntWalk.i64_in _ (by omega)⟩) HS3.out ?_
        simp only [Act.put, zs1, zs2, zs3]
        refine tkH (i := 6) (oi := ⟨some 42, .move (.tmp 6), _, _, _, none⟩) (v := str TX) rfl qs HS3.out ?_
        simp only [Act.put, zs1, zs2, zs3]
        refine tkH (i := 7) (oi := ⟨some 43, .fieldAddr 36 (.tmp 1) 1, _, _, _, none⟩) (v := .pointer (some ⟨w.heap.size, 1, none⟩)) rfl qs HS3.out ?_
        simp only [Act.put, zs1, zs2, zs3]
        refine tkH (i := 8) (oi := ⟨some 44, .fieldAddr 26 (.tmp 43) 1, _, _, _, none⟩) (v := .pointer (some ⟨w.heap.size, 3, none⟩)) rfl qs HS3.out ?_
        simp only [Act.put, zs1, zs2, zs3]
        refine tkH (i := 9) (oi := ⟨some 45, .load 5 (.tmp 44), _, _, _, none⟩) (v := .int .u8 (m.at_ : Int)) rfl (Or.inl ⟨by rfl, fun w' hS => by have c := cell_of_arr hS 3; go_simp⟩) HS3.out ?_
        simp only [Act.put, zs1, zs2, zs3]
        refine tkH (i := 10) (oi := ⟨some 46, .convert 5 2 (.tmp 45), _, _, _, none⟩) (v := .int .i64 (m.at_ : Int)) rfl (Or.inl ⟨by rfl, fun w' hS => by go_simp; exact IntWalk.i64_in _ (by omega)⟩) HS3.out ?_
        simp only [Act.put, zs1, zs2, zs3]
        refine wpAnyH_ready (rs := [3]) (by kernel_rfl) (by simp) (AllReadyH.cons (o := ⟨some 39, .call ⟨.value (.func 70), #[.tmp 38], _⟩, _, _, _, none⟩) rfl (fun K hK => ?_) AllReadyH.nil)
        go_simp
        refine (HTT.out _ HIK.out.1 _ HB3d.out).mono ?_
        rintro e w4 ⟨rfl, hb4⟩
        have HB4 := Lib.hid (HB3d.out.trans (hb4.mono HB3d.out.size))
        have HX4 := Lib.hid (HX3d.out.trans (hb4.mono HX3d.out.size))
        have HS4 := Lib.hid (show w4.heap[w.heap.size]? = some (.cells #[.int .u8 (m.kind : Int), .int .u8 (m.car : Int), .int .u64 (m.ser : Int), .int .u8 (m.at_ : Int), .int .u8 (m.lc : Int), .int .u16 (m.lf : Int), .int .u32 (m.lw : Int), .int .i64 m.val, .int .u8 (m.st : Int), .int .u32 (m.non : Int), .int .i64 m.am, .int .i64 m.code] 36 (0, 0)) from (hb4.block w.heap.size (lt_of_heap HS3.out)).trans HS3.out)
        clear hb4
        refine hK.out _ _ HS4.out (fun _ => ?_)
        clear hK K
        refine wpAnyH_ready (rs := [4]) (by kernel_rfl) (by simp) (AllReadyH.cons (o := ⟨some 40, .buildSlice 129 1 #[(0, .tmp 39)], _, _, _, none⟩) rfl (fun K hK => ?_) AllReadyH.nil)
        go_simp
        have HS5 := Lib.hid (show (w4.alloc (.cells #[str (sdig (m.kind : Int))] 9)).heap[w.heap.size]? = some (.cells #[.int .u8 (m.kind : Int), .int .u8 (m.car : Int), .int .u64 (m.ser : Int), .int .u8 (m.at_ : Int), .int .u8 (m.lc : Int), .int .u16 (m.lf : Int), .int .u32 (m.lw : Int), .int .i64 m.val, .int .u8 (m.st : Int), .int .u32 (m.non : Int), .int .i64 m.am, .int .i64 m.code] 36 (0, 0)) from (Below.heap_alloc _ _ _ (lt_of_heap HS4.out)).trans HS4.out)
        refine hK.out _ _ HS5.out (fun _ => ?_)
        clear hK K
        refine wpAnyH_ready (rs := [5]) (by kernel_rfl) (by simp) (AllReadyH.cons (o := ⟨some 41, .call ⟨.value (.func 43), #[.const (.string ⟨#[77, 83, 71]⟩), .tmp 40], _⟩, _, _, _, none⟩) rfl (fun K hK => ?_) AllReadyH.nil)
        go_simp
        refine (sgmt_any [77, 83, 71] [sdig (m.kind : Int)] _ (· = w4.heap.size) (w4.alloc (.cells #[str (sdig (m.kind : Int))] 9)) (blk_strs ⟨at_last _ _⟩) (fun b e => by subst e; simp only [size_a]; omega) (by simp)).mono ?_
        rintro e w6 ⟨ve1, F1, rfl, he1, hf1, hb6⟩
        have HB6 := Lib.hid (show Below w.heap.size w w6 from (HB4.out.alloc HB4.out.size _).trans (hb6.mono (by have := HB4.out.size; simp only [size_a]; omega)))
        have HX6 := Lib.hid (show Below w1.heap.size w1 w6 from (HX4.out.alloc HX4.out.size _).trans (hb6.mono (by have := HX4.out.size; simp only [size_a]; omega)))
        have HE1 := Lib.hid he1
        have HF1 := Lib.hid (show ∀ b, F1 b → w.heap.size ≤ b ∧ b < w6.heap.size from fun b hb => ⟨by have := (hf1 b hb).1; have := HB4.out.size; simp only [size_a] at *; omega, (hf1 b hb).2⟩)
        have HS6 := Lib.hid (show w6.heap[w.heap.size]? = some (.cells #[.int .u8 (m.kind : Int), .int .u8 (m.car : Int), .int .u64 (m.ser : Int), .int .u8 (m.at_ : Int), .int .u8 (m.lc : Int), .int .u16 (m.lf : Int), .int .u32 (m.lw : Int), .int .i64 m.val, .int .u8 (m.st : Int), .int .u32 (m.non : Int), .int .i64 m.am, .int .i64 m.code] 36 (0, 0)) from (hb6.block w.heap.size (lt_of_heap HS5.out)).trans HS5.out)
        clear he1 hf1 hb6
        refine hK.out _ _ HS6.out (fun _ => ?_)
        clear hK K
        refine wpAnyH_ready (rs := [11]) (by kernel_rfl) (by simp) (AllReadyH.cons (o := ⟨some 47, .call ⟨.value (.func 70), #[.tmp 46], _⟩, _, _, _, none⟩) rfl (fun K hK => ?_) AllReadyH.nil)
        go_simp
        refine (HTT.out _ HIK.out.2 _ HB6.out).mono ?_
        rintro e w7 ⟨rfl, hb7⟩
        have HB7 := Lib.hid (HB6.out.trans (hb7.mono HB6.out.size))
        have HX7 := Lib.hid (HX6.out.trans (hb7.mono HX6.out.size))
        have HE17 := Lib.hid (HE1.out.kept (F' := F1) (fun b hb => ⟨hb, hb7.block b (HF1.out b hb).2⟩))
        have HZ7 := Lib.hid hb7.size
        have HS7 := Lib.hid (show w7.heap[w.heap.size]? = some (.cells #[.int .u8 (m.kind : Int), .int .u8 (m.car : Int), .int .u64 (m.ser : Int), .int .u8 (m.at_ : Int), .int .u8 (m.lc : Int), .int .u16 (m.lf : Int), .int .u32 (m.lw : Int), .int .i64 m.val, .int .u8 (m.st : Int), .int .u32 (m.non : Int), .int .i64 m.am, .int .i64 m.code] 36 (0, 0)) from (hb7.block w.heap.size (lt_of_heap HS6.out)).trans HS6.out)
        clear hb7
        refine hK.out _ _ HS7.out (fun _ => ?_)
        clear hK K
        refine wpAnyH_ready (rs := [12]) (by kernel_rfl) (by simp) (AllReadyH.cons (o := ⟨some 48, .buildSlice 129 2 #[(0, .tmp 42), (1, .tmp 47)], _, _, _, none⟩) rfl (fun K hK => ?_) AllReadyH.nil)
        go_simp
        have HS8 := Lib.hid (show (w7.alloc (.cells #[str TX, str (sdig (m.at_ : Int))] 9)).heap[w.heap.size]? = some (.cells #[.int .u8 (m.kind : Int), .int .u8 (m.car : Int), .int .u64 (m.ser : Int), .int .u8 (m.at_ : Int), .int .u8 (m.lc : Int), .int .u16 (m.lf : Int), .int .u32 (m.lw : Int), .int .i64 m.val, .int .u8 (m.st : Int), .int .u32 (m.non : Int), .int .i64 m.am, .int .i64 m.code] 36 (0, 0)) from (Below.heap_alloc _ _ _ (lt_of_heap HS7.out)).trans HS7.out)
        refine hK.out _ _ HS8.out (fun _ => ?_)
        clear hK K
        refine wpAnyH_ready (rs := [13]) (by kernel_rfl) (by simp) (AllReadyH.cons (o := ⟨some 49, .call ⟨.value (.func 43), #[.const (.string ⟨#[75, 69, 89]⟩), .tmp 48], _⟩, _, _, _, none⟩) rfl (fun K hK => ?_) AllReadyH.nil)
        go_simp
        refine (sgmt_any [75, 69, 89] [TX, sdig (m.at_ : Int)] _ (· = w7.heap.size) (w7.alloc (.cells #[str TX, str (sdig (m.at_ : Int))] 9)) (blk_strs ⟨at_last _ _⟩) (fun b e => by subst e; simp only [size_a]; omega) (by simp)).mono ?_
        rintro e w9 ⟨ve2, F2, rfl, he2, hf2, hb9⟩
        have hx9 : Below w7.heap.size w7 w9 := ((Below.refl _ _).alloc (Nat.le_refl _) _).trans (hb9.mono (by simp only [size_a]; omega))
        have HB9 := Lib.hid (show Below w.heap.size w w9 from HB7.out.trans (hx9.mono HB7.out.size))
        have HX9 := Lib.hid (show Below w1.heap.size w1 w9 from HX7.out.trans (hx9.mono HX7.out.size))
        have HE2 := Lib.hid he2
        have HF2 := Lib.hid (show ∀ b, F2 b → w.heap.size ≤ b ∧ b < w9.heap.size from fun b hb => ⟨by have := (hf2 b hb).1; have := HB7.out.size; simp only [size_a] at *; omega, (hf2 b hb).2⟩)
        have HE19 := Lib.hid (HE17.out.kept (F' := F1) (fun b hb => ⟨hb, hx9.block b (Nat.lt_of_lt_of_le (HF1.out b hb).2 HZ7.out)⟩))
        have HZ9 := Lib.hid (Nat.le_trans HZ7.out hx9.size)
        have HS9 := Lib.hid (show w9.heap[w.heap.size]? = some (.cells #[.int .u8 (m.kind : Int), .int .u8 (m.car : Int), .int .u64 (m.ser : Int), .int .u8 (m.at_ : Int), .int .u8 (m.lc : Int), .int .u16 (m.lf : Int), .int .u32 (m.lw : Int), .int .i64 m.val, .int .u8 (m.st : Int), .int .u32 (m.non : Int), .int .i64 m.am, .int .i64 m.code] 36 (0, 0)) from (hb9.block w.heap.size (lt_of_heap HS8.out)).trans HS8.out)
        clear he2 hf2 hb9 hx9
        refine hK.out _ _ HS9.out (fun _ => ?_)
        clear hK K
        refine wpAnyH_ready (rs := [14]) (by kernel_rfl) (by simp) (AllReadyH.cons (o := ⟨some 50, .buildSlice 72 2 #[(0, .tmp 41), (1, .tmp 49)], _, _, _, none⟩) rfl (fun K hK => ?_) AllReadyH.nil)
        go_simp
        have HS10 := Lib.hid (show (w9.alloc (.cells #[str [77, 83, 71], ve1, str [75, 69, 89], ve2] 112)).heap[w.heap.size]? = some (.cells #[.int .u8 (m.kind : Int), .int .u8 (m.car : Int), .int .u64 (m.ser : Int), .int .u8 (m.at_ : Int), .int .u8 (m.lc : Int), .int .u16 (m.lf : Int), .int .u32 (m.lw : Int), .int .i64 m.val, .int .u8 (m.st : Int), .int .u32 (m.non : Int), .int .i64 m.am, .int .i64 m.code] 36 (0, 0)) from (Below.heap_alloc _ _ _ (lt_of_heap HS9.out)).trans HS9.out)
        refine hK.out _ _ HS10.out (fun _ => ?_)
        clear hK K
        refine tkH (i := 15) (oi := ⟨some 8, .assign (.tmp 50), _, _, _, none⟩) (v := .slice (some ⟨w9.heap.size, 0, none⟩) 2 2) rfl qs HS10.out ?_
        simp only [Act.put, zs1, zs2, zs3]
        refine wpAnyH_done (by kernel_rfl) ?_ _
        obtain ⟨seg0, hseg0⟩ : ∃ seg0, seg0 = [sgL kindT [sdig (m.kind : Int)], sgL keyT [TX, sdig (m.at_ : Int)]] := ⟨_, rfl⟩
        have HSG0 := Lib.hid hseg0
        have hR4 : R = (seg0 ++ fds.map (fldS m), 0) := by rw [HR3.out, hseg0]; rfl
        have HR4 := Lib.hid hR4
        have hTm : TmI w (fun b => F1 b ∨ F2 b) seg0 (.slice (some ⟨w9.heap.size, 0, none⟩) 2 2) (w9.alloc (.cells #[str [77, 83, 71], ve1, str [75, 69, 89], ve2] 112)) := by
          have hz := HB9.out.size
          have kp : ∀ (F : Nat → Prop), (∀ b, F b → b < w9.heap.size) → ∀ b, F b → (w9.alloc (.cells #[str [77, 83, 71], ve1, str [75, 69, 89], ve2] 112)).heap[b]? = w9.heap[b]? := fun F hF b hb => Below.heap_alloc _ _ _ (hF b hb)
          have hF1 : ∀ b, F1 b → w.heap.size ≤ b ∧ b < w9.heap.size := fun b hb => ⟨(HF1.out b hb).1, Nat.lt_of_lt_of_le (HF1.out b hb).2 HZ9.out⟩
          refine ⟨⟨[str [77, 83, 71], ve1, str [75, 69, 89], ve2], ?_, ?_⟩, ?_, HB9.out.alloc hz _⟩
          · rw [hseg0]
            exact World.ownsRow_lit (base := w.heap.size) (e := 112) (size := 2) w9 #[str [77, 83, 71], ve1, str [75, 69, 89], ve2] 2 hz (by unfold maxLen; omega) rfl
          · rw [hseg0]
            exact ⟨rfl, HE19.out.kept (fun b hb => ⟨Or.inl hb, kp F1 (fun b hb => (hF1 b hb).2) b hb⟩), rfl, HE2.out.kept (fun b hb => ⟨Or.inr hb, kp F2 (fun b hb => (HF2.out b hb).2) b hb⟩), True.intro⟩
          · rintro b (hb | hb)
            · have := hF1 b hb
              refine ⟨this.1, by rw [size_a]; omega, ?_⟩
              simp only [Value.ownBlock]; intro e; have := Option.some.inj e; omega
            · have := HF2.out b hb
              refine ⟨this.1, by rw [size_a]; omega, ?_⟩
              simp only [Value.ownBlock]; intro e; have := Option.some.inj e; omega
        have HTM := Lib.hid hTm
        have HSL := Lib.hid (show seg0.length = 2 by rw [hseg0]; rfl)
        have HM9 := Lib.hid HS9.out
        have HB9b := Lib.hid (Below.refl w9.heap.size w9)
        have hpf := H3.out
        obtain ⟨pf, cf, rfl, hcf, hpf⟩ := hpf
        have HPF := Lib.hid hpf
        have lF : (fds.length : Int) ≤ 10 := by rcases HFC.out with h | h | h | h | h <;> rw [h] <;> decide
        have HWB := Lib.hid (show w.heap.size < w9.heap.size from lt_of_heap HS9.out)
        clear hTm hseg0 hR4 hpf hcf
        go_wp2
        go_loopw [8, 10, 53] (fun v _ i wr => ∃ (k : Nat) (F : Nat → Prop) (pv : Option Addr) (cv : Nat), v = .slice pv (k + 2) cv ∧ i = .int .i64 k ∧ k ≤ fds.length ∧ Hid (TmI w F (seg0 ++ (fds.take k).map (fldS m)) (.slice pv (k + 2) cv) wr) ∧ Hid (Below w9.heap.size w9 wr) ∧ Hid (∀ b, (Value.slice pv (k + 2) cv).ownBlock = some b → w9.heap.size ≤ b)) (fun _ _ i _ => fds.length - (intOf i).toNat)
        case atStart => exact ⟨0, _, _, _, rfl, rfl, Nat.zero_le _, (show TmI w _ (seg0 ++ (fds.take 0).map (fldS m)) _ _ by simpa using HTM.out), (Below.refl _ _).alloc (Nat.le_refl _) _, fun b e => by simp only [Value.ownBlock] at e; have := Option.some.inj e; omega⟩
        case round =>
          obtain ⟨k, F, pv, cv, rfl, rfl, hk, htm, hxb, hob⟩ := hrel
          have HTK := Lib.hid htm.out
          have HXB := Lib.hid hxb.out
          have HOB := Lib.hid hob.out
          clear htm hxb hob
          by_cases hlt : (k : Int) < (fds.length : Int)
          · have hkl : k < fds.length := by omega
            have hk0' : (0 : Int) ≤ (k : Int) := Int.natCast_nonneg _
            obtain ⟨fb, fo, rfl, hFb, hfc⟩ := HPF.out (by omega)
            have hfb9 : fb < w9.heap.size := Nat.lt_of_lt_of_le hFb.2 HX9.out.size
            have FC : ∀ i u, (fdV fds[k])[i]? = some u → wr.cell? ⟨fb, fo + k * 3 + i, none⟩ = some u := fun i u hu => by
              have h := hfc (k * 3 + i) u (fdv_at hkl hu)
              rw [← Nat.add_assoc] at h
              exact (World.cell?_of_block (a := ⟨fb, fo + k * 3 + i, none⟩) ((HXB.out.block fb hfb9).trans (HX9.out.block fb hFb.2))).trans h
            have HTS := Lib.hid (show (fds.take (k + 1)).map (fldS m) = (fds.take k).map (fldS m) ++ [fldS m fds[k]] by rw [← List.take_append_getElem hkl, List.map_append]; rfl)
            obtain ⟨fd, hfd⟩ : ∃ fd, fd = fds[k] := ⟨_, rfl⟩
            rw [← hfd] at FC HTS
            have f0 := FC 0 _ (fdv_0 fd)
            have f1 := FC 1 _ (fdv_1 fd)
            have f2 := FC 2 _ (fdv_2 fd)
            rw [Nat.add_zero] at f0
            have hent2 := tell_enter fd
            have HTL := Lib.hid (fun W => tell_any m fd W HMT.out)
            have HTB := Lib.hid (tell_b HMT.out fd)
            have HTN := Lib.hid (show (tellL m fd).length ≤ 1000 by cases fd <;> simp [tellL])
            have hmr := (HXB.out.block w.heap.size HWB.out).trans HM9.out
            have HSEG := Lib.hid (show fldS m fd = ⟨tagL fd, ((tellL m fd).map sdig).map fun x => [x]⟩ from rfl)
            obtain ⟨xs, hxs, hsg⟩ := HTK.out.sg
            have hsl : (seg0 ++ (fds.take k).map (fldS m)).length = k + 2 := by
              rw [List.length_append, HSL.out, List.length_map, List.length_take]; omega
            rw [hsl] at hxs
            have HXS := Lib.hid hxs
            have HSGC := Lib.hid hsg
            have HSLN := Lib.hid hsl
            clear hfc FC hFb hfb9 hfd hkl hxs hsg hsl
            generalize takeFn fd = FT at *
            generalize tellFn fd = FG at *
            obtain ⟨tg, htg⟩ : ∃ tg, tg = tagL fd := ⟨_, rfl⟩
            rw [← htg] at f0 HSEG
            clear htg
            go_upto_region 13 with fail
            obtain ⟨w11, hw11⟩ : ∃ w11, w11 = wr.alloc (.cells #[str tg, .func (.func FG) #[] #[], .func (.func FT) #[] #[]] 153) := ⟨_, rfl⟩
            rw [← hw11]
            have hb11 : Below wr.heap.size wr w11 := by rw [hw11]; exact (Below.refl _ _).alloc (Nat.le_refl _) _
            have hfr : w11.heap[wr.heap.size]? = some (.cells #[str tg, .func (.func FG) #[] #[], .func (.func FT) #[] #[]] 153 (0, 0)) := by rw [hw11]; exact at_last _ _
            have HFR := Lib.hid hfr
            have HMR := Lib.hid ((hb11.block w.heap.size (lt_of_heap hmr)).trans hmr)
            have HB11 := Lib.hid (show Below wr.heap.size wr w11.drew from hb11.drew)
            have HBWR := Lib.hid (show Below w.heap.size w wr from HTK.out.bl)
            have HLT := Lib.hid hlt
            clear hw11 hb11 hfr hmr f0 f1 f2
            refine wp_region_held (S := fun w' => w'.heap[wr.heap.size]? = some (.cells #[str tg, .func (.func FG) #[] #[], .func (.func FT) #[] #[]] 153 (0, 0)) ∧ w'.heap[w.heap.size]? = some (.cells #[.int .u8 (m.kind : Int), .int .u8 (m.car : Int), .int .u64 (m.ser : Int), .int .u8 (m.at_ : Int), .int .u8 (m.lc : Int), .int .u16 (m.lf : Int), .int .u32 (m.lw : Int), .int .i64 m.val, .int .u8 (m.st : Int), .int .u32 (m.non : Int), .int .i64 m.am, .int .i64 m.code] 36 (0, 0))) (by kernel_rfl) ?_
            change wpAnyH _ _ _ _ _ _ _ _ (World.drew _)
            have HS11 := Lib.hid (show w11.drew.heap[wr.heap.size]? = some (.cells #[str tg, .func (.func FG) #[] #[], .func (.func FT) #[] #[]] 153 (0, 0)) ∧ w11.drew.heap[w.heap.size]? = some (.cells #[.int .u8 (m.kind : Int), .int .u8 (m.car : Int), .int .u64 (m.ser : Int), .int .u8 (m.at_ : Int), .int .u8 (m.lc : Int), .int .u16 (m.lf : Int), .int .u32 (m.lw : Int), .int .i64 m.val, .int .u8 (m.st : Int), .int .u32 (m.non : Int), .int .i64 m.am, .int .i64 m.code] 36 (0, 0)) from ⟨HFR.out, HMR.out⟩)
            refine tkH (i := 0) (oi := ⟨some 57, .move (.tmp 8), _, _, _, none⟩) (v := .slice pv (k + 2) cv) rfl qs HS11.out ?_
            simp only [Act.put, zs1, zs2, zs3]
            refine tkH (i := 1) (oi := ⟨some 58, .fieldAddr 153 (.tmp 10) 0, _, _, _, none⟩) (v := .pointer (some ⟨wr.heap.size, 0, none⟩)) rfl qs HS11.out ?_
            simp only [Act.put, zs1, zs2, zs3]
            refine tkH (i := 2) (oi := ⟨some 59, .load 9 (.tmp 58), _, _, _, none⟩) (v := str tg) rfl (Or.inl ⟨by rfl, fun w' hS => by have c := cell_of_arr hS.1 0; go_simp⟩) HS11.out ?_
            simp only [Act.put, zs1, zs2, zs3]
            refine tkH (i := 3) (oi := ⟨some 60, .fieldAddr 153 (.tmp 10) 1, _, _, _, none⟩) (v := .pointer (some ⟨wr.heap.size, 1, none⟩)) rfl qs HS11.out ?_
            simp only [Act.put, zs1, zs2, zs3]
            refine tkH (i := 4) (oi := ⟨some 61, .load 150 (.tmp 60), _, _, _, none⟩) (v := .func (.func FG) #[] #[]) rfl (Or.inl ⟨by rfl, fun w' hS => by have c := cell_of_arr hS.1 1; go_simp⟩) HS11.out ?_
            simp only [Act.put, zs1, zs2, zs3]
            refine tkH (i := 5) (oi := ⟨some 62, .load 36 (.tmp 1), _, _, _, none⟩) (v := .agg #[.int .u8 (m.kind : Int), .int .u8 (m.car : Int), .int .u64 (m.ser : Int), .int .u8 (m.at_ : Int), .int .u8 (m.lc : Int), .int .u16 (m.lf : Int), .int .u32 (m.lw : Int), .int .i64 m.val, .int .u8 (m.st : Int), .int .u32 (m.non : Int), .int .i64 m.am, .int .i64 m.code]) rfl (Or.inl ⟨by rfl, fun w' hS => by have c0 := cell_of_arr hS.2 0; have c1 := cell_of_arr hS.2 1; have c2 := cell_of_arr hS.2 2; have c3 := cell_of_arr hS.2 3; have c4 := cell_of_arr hS.2 4; have c5 := cell_of_arr hS.2 5; have c6 := cell_of_arr hS.2 6; have c7 := cell_of_arr hS.2 7; have c8 := cell_of_arr hS.2 8; have c9 := cell_of_arr hS.2 9; have c10 := cell_of_arr hS.2 10; have c11 := cell_of_arr hS.2 11; simp only [List.getElem?_toArray, List.getElem?_cons_zero, List.getElem?_cons_succ] at c0 c1 c2 c3 c4 c5 c6 c7 c8 c9 c10 c11; go_simp⟩) HS11.out ?_
            simp only [Act.put, zs1, zs2, zs3]
            refine wpAnyH_ready (rs := [6]) (by kernel_rfl) (by simp) (AllReadyH.cons (o := ⟨some 63, .call ⟨.value (.tmp 61), #[.tmp 62], _⟩, _, _, _, none⟩) rfl (fun K hK => ?_) AllReadyH.nil)
            go_simp
            refine (HTL.out _).mono ?_
            rintro e w12 ⟨v12, F12, rfl, hr12, hf12, hb12⟩
            have HR12 := Lib.hid hr12
            have HF12 := Lib.hid hf12
            have HB12 := Lib.hid (HB11.out.trans (hb12.mono HB11.out.size))
            have HS12 := Lib.hid (show w12.heap[wr.heap.size]? = some (.cells #[str tg, .func (.func FG) #[] #[], .func (.func FT) #[] #[]] 153 (0, 0)) ∧ w12.heap[w.heap.size]? = some (.cells #[.int .u8 (m.kind : Int), .int .u8 (m.car : Int), .int .u64 (m.ser : Int), .int .u8 (m.at_ : Int), .int .u8 (m.lc : Int), .int .u16 (m.lf : Int), .int .u32 (m.lw : Int), .int .i64 m.val, .int .u8 (m.st : Int), .int .u32 (m.non : Int), .int .i64 m.am, .int .i64 m.code] 36 (0, 0)) from ⟨(hb12.block _ (lt_of_heap HS11.out.1)).trans HS11.out.1, (hb12.block _ (lt_of_heap HS11.out.2)).trans HS11.out.2⟩)
            clear hr12 hf12 hb12
            refine hK.out _ _ HS12.out (fun _ => ?_)
            clear hK K
            refine wpAnyH_ready (rs := [7]) (by kernel_rfl) (by simp) (AllReadyH.cons (o := ⟨some 64, .call ⟨.value (.func 71), #[.tmp 63], _⟩, _, _, _, none⟩) rfl (fun K hK => ?_) AllReadyH.nil)
            go_simp
            refine (texts_any (tellL m fd) F12 v12 B _ HR12.out (fun b hb => (HF12.out b hb).2) HTB.out HTN.out (HE.out.on ((HBWR.out.trans (HB12.out.mono HBWR.out.size)).mono HBB.out)) (Nat.le_trans HBB.out (Nat.le_trans HBWR.out.size HB12.out.size))).mono ?_
            rintro e w13 ⟨v13, F13, rfl, hr13, hf13, hb13⟩
            have HR13 := Lib.hid hr13
            have HF13 := Lib.hid hf13
            have HB13 := Lib.hid (HB12.out.trans (hb13.mono HB12.out.size))
            have HS13 := Lib.hid (show w13.heap[wr.heap.size]? = some (.cells #[str tg, .func (.func FG) #[] #[], .func (.func FT) #[] #[]] 153 (0, 0)) ∧ w13.heap[w.heap.size]? = some (.cells #[.int .u8 (m.kind : Int), .int .u8 (m.car : Int), .int .u64 (m.ser : Int), .int .u8 (m.at_ : Int), .int .u8 (m.lc : Int), .int .u16 (m.lf : Int), .int .u32 (m.lw : Int), .int .i64 m.val, .int .u8 (m.st : Int), .int .u32 (m.non : Int), .int .i64 m.am, .int .i64 m.code] 36 (0, 0)) from ⟨(hb13.block _ (lt_of_heap HS12.out.1)).trans HS12.out.1, (hb13.block _ (lt_of_heap HS12.out.2)).trans HS12.out.2⟩)
            clear hr13 hf13 hb13
            refine hK.out _ _ HS13.out (fun _ => ?_)
            clear hK K
            refine wpAnyH_ready (rs := [8]) (by kernel_rfl) (by simp) (AllReadyH.cons (o := ⟨some 65, .call ⟨.value (.func 43), #[.tmp 59, .tmp 64], _⟩, _, _, _, none⟩) rfl (fun K hK => ?_) AllReadyH.nil)
            go_simp
            refine (sgmt_any tg ((tellL m fd).map sdig) v13 F13 _ HR13.out (fun b hb => (HF13.out b hb).2) (by rw [List.length_map]; exact HTN.out)).mono ?_
            rintro e w14 ⟨ve, F14, rfl, he14, hf14, hb14⟩
            have HVE := Lib.hid (show ∃ pe n ce, ve = .slice pe n ce by obtain ⟨ys, ⟨pe, ce, h, _, _⟩, _⟩ := he14; exact ⟨pe, _, ce, h⟩)
            have HE14 := Lib.hid he14
            have HF14 := Lib.hid (show ∀ b, F14 b → wr.heap.size ≤ b ∧ b < w14.heap.size from fun b hb => ⟨Nat.le_trans HB13.out.size (hf14 b hb).1, (hf14 b hb).2⟩)
            have HB14 := Lib.hid (HB13.out.trans (hb14.mono HB13.out.size))
            have HS14 := Lib.hid (show w14.heap[wr.heap.size]? = some (.cells #[str tg, .func (.func FG) #[] #[], .func (.func FT) #[] #[]] 153 (0, 0)) ∧ w14.heap[w.heap.size]? = some (.cells #[.int .u8 (m.kind : Int), .int .u8 (m.car : Int), .int .u64 (m.ser : Int), .int .u8 (m.at_ : Int), .int .u8 (m.lc : Int), .int .u16 (m.lf : Int), .int .u32 (m.lw : Int), .int .i64 m.val, .int .u8 (m.st : Int), .int .u32 (m.non : Int), .int .i64 m.am, .int .i64 m.code] 36 (0, 0)) from ⟨(hb14.block _ (lt_of_heap HS13.out.1)).trans HS13.out.1, (hb14.block _ (lt_of_heap HS13.out.2)).trans HS13.out.2⟩)
            clear he14 hf14 hb14
            refine hK.out _ _ HS14.out (fun _ => ?_)
            clear hK K
            refine wpAnyH_ready (rs := [9]) (by kernel_rfl) (by simp) (AllReadyH.cons (o := ⟨some 66, .buildSlice 72 1 #[(0, .tmp 65)], _, _, _, none⟩) rfl (fun K hK => ?_) AllReadyH.nil)
            go_simp
            have HS15 := Lib.hid (show (w14.alloc (.cells #[str tg, ve] 112)).heap[wr.heap.size]? = some (.cells #[str tg, .func (.func FG) #[] #[], .func (.func FT) #[] #[]] 153 (0, 0)) ∧ (w14.alloc (.cells #[str tg, ve] 112)).heap[w.heap.size]? = some (.cells #[.int .u8 (m.kind : Int), .int .u8 (m.car : Int), .int .u64 (m.ser : Int), .int .u8 (m.at_ : Int), .int .u8 (m.lc : Int), .int .u16 (m.lf : Int), .int .u32 (m.lw : Int), .int .i64 m.val, .int .u8 (m.st : Int), .int .u32 (m.non : Int), .int .i64 m.am, .int .i64 m.code] 36 (0, 0)) from ⟨(Below.heap_alloc _ _ _ (lt_of_heap HS14.out.1)).trans HS14.out.1, (Below.heap_alloc _ _ _ (lt_of_heap HS14.out.2)).trans HS14.out.2⟩)
            refine hK.out _ _ HS15.out (fun _ => ?_)
            clear hK K
            refine wpAnyH_ready (rs := [10]) (by kernel_rfl) (by simp) (AllReadyH.cons (o := ⟨some 67, .call ⟨.builtin .append, #[.tmp 57, .tmp 66], _⟩, _, _, _, none⟩) rfl (fun K hK => ?_) AllReadyH.nil)
            rw [if_pos (by rfl)]
            refine st_app1 72 112 (.agg #[.string ⟨#[]⟩, .slice none 0 0]) 2 40 par_segm Tryz.underlying72 rfl (by decide) (by decide) w.heap.size (.slice pv (k + 2) cv) (k + 2) xs rfl ((own_keep HXS.out (fun b e => HB14.out.block b (HXS.out.lt b e).2)).alloc _) w14.heap.size 1 [str tg, ve] 112 (0, 0) rfl rfl (at_last _ _) (by intro u hu; simp only [List.mem_cons, List.not_mem_nil, or_false] at hu; rcases hu with rfl | rfl; rfl; obtain ⟨pe, nn, ce, h⟩ := HVE.out; rw [h]; rfl) (by have := HLT.out; omega) (by have := HBWR.out.size; have := HB14.out.size; simp only [size_a]; omega) ?_
            intro v16 w16 ho hg hk16
            obtain ⟨p16, c16, rfl⟩ := own_slice ho
            have hlt := fun b e => HXS.out.lt b e
            have HSN := Lib.hid (TmI.snoc (s := fldS m fd) HTK.out HSGC.out HB14.out (ve := ve) (by rw [HSEG.out]; exact HE14.out) HF14.out (by rw [HSEG.out, HSLN.out]; exact ho) (by rw [HSEG.out]; exact hg) (by rw [HSEG.out]; exact hk16) hlt)
            have HS16 := Lib.hid (show w16.heap[wr.heap.size]? = some (.cells #[str tg, .func (.func FG) #[] #[], .func (.func FT) #[] #[]] 153 (0, 0)) ∧ w16.heap[w.heap.size]? = some (.cells #[.int .u8 (m.kind : Int), .int .u8 (m.car : Int), .int .u64 (m.ser : Int), .int .u8 (m.at_ : Int), .int .u8 (m.lc : Int), .int .u16 (m.lf : Int), .int .u32 (m.lw : Int), .int .i64 m.val, .int .u8 (m.st : Int), .int .u32 (m.non : Int), .int .i64 m.am, .int .i64 m.code] 36 (0, 0)) from ⟨(hg.block _ (lt_of_heap HS15.out.1) (fun e => by have := hlt _ e.symm; omega)).trans HS15.out.1, (hg.block _ (lt_of_heap HS15.out.2) (fun e => by have := HOB.out _ e.symm; have := HWB.out; omega)).trans HS15.out.2⟩)
            have HXB16 := Lib.hid (show Below w9.heap.size w9 w16 from ((HXB.out.trans (HB14.out.mono HXB.out.size)).alloc (by have := HXB.out.size; have := HB14.out.size; omega) _).grown hg (by have := HXB.out.size; have := HB14.out.size; simp only [size_a]; omega) (fun b e => HOB.out b e))
            have HOB16 := Lib.hid (show ∀ b, (Value.slice p16 (k + 1 + 2) c16).ownBlock = some b → w9.heap.size ≤ b from fun b e => hk16.elim (fun h => HOB.out b (h ▸ e)) (fun h => by have h2 : (Value.slice p16 (k + 2 + 1) c16).ownBlock = some b := e; rw [h2] at h; have := Option.some.inj h; have := HXB.out.size; have := HB14.out.size; simp only [size_a] at *; omega))
            refine hK.out _ _ HS16.out (fun _ => ?_)
            clear hK K ho hg hk16 hlt
            refine tkH (i := 11) (oi := ⟨some 8, .assign (.tmp 67), _, _, _, none⟩) (v := .slice p16 (k + 2 + 1) c16) rfl qs HS16.out ?_
            simp only [Act.put, zs1, zs2, zs3]
            refine wpAnyH_done (by kernel_rfl) ?_ _
            go_wp2
            go_roundw
            case rel => exact ⟨k + 1, _, p16, c16, rfl, by go_num, by have := HLT.out; omega, (show TmI w _ _ _ _ by rw [HTS.out, ← List.append_assoc]; exact HSN.out), HXB16.out, HOB16.out⟩
            case measure => simp [intOf]; have := HLT.out; omega
          · obtain rfl : k = fds.length := by omega
            have hT := HTK.out
            rw [List.take_length] at hT
            have HT := Lib.hid hT
            have HBL := Lib.hid HTK.out.bl
            clear hT
            go_wp2
            go_ret2
            rw [HR4.out]
            exact ⟨HBL.out, _, _, rfl, HT.out⟩
    · have hE0 : ¬ EI = 0 := by rw [HEI.out]; omega
      have HR2 := Lib.hid (HR1.out.trans (if_neg hTE))
      clear hTE
      go_wp2_with (go_at_call 68; refine (HTX2.out _ HB1.out).mono ?_; rintro e w2 ⟨rfl, hb2⟩
                   have HB2 := Lib.hid (HB1.out.trans (hb2.mono HB1.out.size))
                   clear hb2)
      go_ret2
      rw [HR2.out]
      have := told_nilO w w2 TE HB2.out
      rw [← HEI.out] at this
      exact this
theorem toldMs_any (m : Ms) (B : Nat) (w : World) (hm : m.Ty) (he : Env B w) (hB : B ≤ w.heap.size) :
    Calls Tryz.prog 42 #[.agg (msV m).toArray] w (ToldP (toldMs m) w) := (toldMs_own m B w hm he hB).mono fun _ _ h => h.told
end Go.Proofs.YtgaoeljdlpemnaaGreatDoor
namespace Go.Proofs.YtgaoeljdlpemnaaGreatDoor
open Go.RowKit Go.Edi Go.Wrap

theorem keep4 (W : World) (g b : Nat) (v0 v1 v2 v3 : Value) (h : b ≠ g) : ((((W.setCell ⟨g, 0, none⟩ v0).setCell ⟨g, 1, none⟩ v1).setCell ⟨g, 2, none⟩ v2).setCell ⟨g, 3, none⟩ v3).heap[b]? = W.heap[b]? := by
  rw [Below.heap_setCell _ _ _ _ h, Below.heap_setCell _ _ _ _ h, Below.heap_setCell _ _ _ _ h, Below.heap_setCell _ _ _ _ h]
def WpA (B : Nat) (t : Tx) (w : World) (e : Ending) (w' : World) : Prop :=
  ∃ v F, e = .returned (.tuple #[.agg (wrV (wparseL t).1.from_ (wparseL t).1.to_ (wparseL t).1.ref v), .int .i64 ((wparseL t).2 : Int)]) ∧ SegsF w' F v (wparseL t).1.segs ∧ (∀ b, F b → B ≤ b ∧ b < w'.heap.size) ∧ Below B w w'
theorem wparse_bad {t : Tx} (h : ¬ (parseL t).2.2 = 0) : wparseL t = (Wr.nil, (parseL t).2.2) := by unfold wparseL; rw [if_neg h]
theorem wparse_ok {t : Tx} (h : (parseL t).2.2 = 0) : wparseL t = openL (parseL t).1 := by unfold wparseL; rw [if_pos h]
set_option maxRecDepth 100000 in
set_option maxHeartbeats 3200000 in
theorem wparse_any (t : Tx) (w : World) : Calls Tryz.prog 25 #[str t] w (WpA w.heap.size t w) := by
  have hp := parse_any t (w.alloc (.cells (wrV 0 0 0 (.slice none 0 0)) 74))
  have hsn := sane_parse t
  by_cases h0 : (parseL t).2.2 = 0
  · have HW := Lib.hid (wparse_ok h0)
    have hp2 : Calls Tryz.prog 38 #[str t] (w.alloc (.cells (wrV 0 0 0 (.slice none 0 0)) 74)) fun e w' => ∃ v F z, e = .returned (.tuple #[v, .int .i64 z, .int .i64 0]) ∧ SegsF w' F v (parseL t).1 ∧ (∀ b, F b → w.heap.size + 1 ≤ b ∧ b < w'.heap.size) ∧ Below (w.heap.size + 1) (w.alloc (.cells (wrV 0 0 0 (.slice none 0 0)) 74)) w' := by
      refine hp.mono ?_
      rintro e w' ⟨⟨v, F, rfl, h1, h2⟩, h3⟩
      rw [size_a] at h2 h3
      rw [h0]
      exact ⟨v, F, _, rfl, h1, h2, h3⟩
    have HP := Lib.hid hp2
    have HSN := Lib.hid hsn
    clear hp hp2 hsn h0
    generalize (parseL t).1 = l at *
    go_enter Tryz.func25, Tryz.ntmps25
    go_wp2_with (go_at_call 38; refine (HP.out).mono ?_)
    rintro e w1 ⟨v, F, z, rfl, h1, h2, h3⟩
    obtain ⟨p, cap, rfl⟩ := segs_slice h1
    have ho := opened_any l p cap w1 F h1 (fun b hb => (h2 b hb).2) HSN.out
    have HO := Lib.hid ho
    have H2 := Lib.hid h2
    have H3 := Lib.hid h3
    clear h1 h2 h3 ho
    go_wp2_with (go_at_call 39; refine (HO.out).mono ?_)
    rintro e w2 ⟨v2, rfl, g1, g2⟩
    have hR : w2.heap[w.heap.size]? = some (.cells (wrV 0 0 0 (.slice none 0 0)) 74 (0, 0)) := by
      rw [g2.block _ (by have := H3.out.size; simp at this; omega), H3.out.block _ (by omega)]
      exact at_last w _
    have r0 : w2.cell? ⟨w.heap.size, 0, none⟩ = some (.int .u8 0) := cell_of_arr hR 0
    have r1 : w2.cell? ⟨w.heap.size, 1, none⟩ = some (.int .u8 0) := cell_of_arr hR 1
    have r2 : w2.cell? ⟨w.heap.size, 2, none⟩ = some (.int .u64 0) := cell_of_arr hR 2
    have r3 : w2.cell? ⟨w.heap.size, 3, none⟩ = some (.slice none 0 0) := cell_of_arr hR 3
    have f0 := frozen_of_arr hR 0
    have f1 := frozen_of_arr hR 1
    have f2 := frozen_of_arr hR 2
    have f3 := frozen_of_arr hR 3
    have HR := Lib.hid hR
    have G1 := Lib.hid g1
    have G2 := Lib.hid g2
    clear hR g1 g2
    generalize hx : openL l = x at *
    obtain ⟨p2, cap2, rfl⟩ := segs_slice G1.out
    obtain ⟨⟨f, tq, r, sg⟩, er⟩ := x
    go_wp2
    (try simp only [Exit.inBlock, Exit.then])
    refine bodyPost_ret (results_cell_tmp_row rfl _ _ w.heap.size 74 _ (0, 0) _ rfl (set4n HR.out _ _ _ _) Tryz.underlying74 rfl sizeWrap) rfl ?_
    have hB : Below w.heap.size w w2 := ((Below.refl _ _).alloc (Nat.le_refl _) _).trans ((H3.out.mono (by omega)).trans (G2.out.mono (by have := H3.out.size; simp at this; omega)))
    have hbf := fun v0 v1 v2 v3 => (((hB.setCell (p := ⟨w.heap.size, 0, none⟩) (Nat.le_refl _) v0).setCell (p := ⟨w.heap.size, 1, none⟩) (Nat.le_refl _) v1).setCell (p := ⟨w.heap.size, 2, none⟩) (Nat.le_refl _) v2).setCell (p := ⟨w.heap.size, 3, none⟩) (Nat.le_refl _) v3
    unfold WpA
    rw [HW.out]
    refine ⟨_, F, rfl, G1.out.kept (fun b hb => ⟨hb, keep4 _ _ _ _ _ _ _ (by have := (H2.out b hb).1; omega)⟩), fun b hb => ⟨by have := (H2.out b hb).1; omega, ?_⟩, hbf _ _ _ _⟩
    have hb1 := (H2.out b hb).2
    have hb2 := G2.out.size
    simp
    omega
  · have HW := Lib.hid (wparse_bad h0)
    have hne : ¬ ((parseL t).2.2 : Int) = 0 := by omega
    obtain ⟨er, her⟩ : ∃ er, er = (parseL t).2.2 := ⟨_, rfl⟩
    rw [← her] at hne HW
    have hp2 : Calls Tryz.prog 38 #[str t] (w.alloc (.cells (wrV 0 0 0 (.slice none 0 0)) 74)) fun e w' => ∃ p n cap z, e = .returned (.tuple #[.slice p n cap, .int .i64 z, .int .i64 (er : Int)]) ∧ Below (w.heap.size + 1) (w.alloc (.cells (wrV 0 0 0 (.slice none 0 0)) 74)) w' := by
      refine hp.mono ?_
      rintro e w' ⟨⟨v, F, rfl, h1, h2⟩, h3⟩
      rw [size_a] at h3
      rw [← her]
      obtain ⟨p, cap, rfl⟩ := segs_slice h1
      exact ⟨_, _, _, _, rfl, h3⟩
    have HP := Lib.hid hp2
    clear hp hsn h0 hp2 her
    go_enter Tryz.func25, Tryz.ntmps25
    go_wp2_with (go_at_call 38; refine (HP.out).mono ?_)
    rintro e w2 ⟨p, n, cap, z, rfl, h3⟩
    have hR : w2.heap[w.heap.size]? = some (.cells (wrV 0 0 0 (.slice none 0 0)) 74 (0, 0)) := by
      rw [h3.block _ (by omega)]
      exact at_last w _
    have r0 : w2.cell? ⟨w.heap.size, 0, none⟩ = some (.int .u8 0) := cell_of_arr hR 0
    have r1 : w2.cell? ⟨w.heap.size, 1, none⟩ = some (.int .u8 0) := cell_of_arr hR 1
    have r2 : w2.cell? ⟨w.heap.size, 2, none⟩ = some (.int .u64 0) := cell_of_arr hR 2
    have r3 : w2.cell? ⟨w.heap.size, 3, none⟩ = some (.slice none 0 0) := cell_of_arr hR 3
    have f0 := frozen_of_arr hR 0
    have f1 := frozen_of_arr hR 1
    have f2 := frozen_of_arr hR 2
    have f3 := frozen_of_arr hR 3
    have HR := Lib.hid hR
    have H3 := Lib.hid h3
    clear hR h3
    go_wp2
    (try simp only [Exit.inBlock, Exit.then])
    refine bodyPost_ret (results_cell_tmp_row rfl _ _ w.heap.size 74 _ (0, 0) _ rfl (set4n HR.out _ _ _ _) Tryz.underlying74 rfl sizeWrap) rfl ?_
    have hB : Below w.heap.size w w2 := ((Below.refl _ _).alloc (Nat.le_refl _) _).trans (H3.out.mono (by omega))
    have hbf := fun v0 v1 v2 v3 => (((hB.setCell (p := ⟨w.heap.size, 0, none⟩) (Nat.le_refl _) v0).setCell (p := ⟨w.heap.size, 1, none⟩) (Nat.le_refl _) v1).setCell (p := ⟨w.heap.size, 2, none⟩) (Nat.le_refl _) v2).setCell (p := ⟨w.heap.size, 3, none⟩) (Nat.le_refl _) v3
    unfold WpA
    rw [HW.out]
    exact ⟨_, fun _ => False, rfl, segs_nil _ _, fun b hb => hb.elim, hbf _ _ _ _⟩
end Go.Proofs.YtgaoeljdlpemnaaGreatDoor
