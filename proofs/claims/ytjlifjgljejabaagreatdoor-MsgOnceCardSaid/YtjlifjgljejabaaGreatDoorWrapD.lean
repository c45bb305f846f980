/- told: a segment of numbers, each an element of one component. -/
import Derived.Test.YtjlifjgljejabaaGreatDoorWrapF
import Derived.Test.YtjlifjgljejabaaGreatDoorEdiOw
import Derived.Test.YtjlifjgljejabaaGreatDoorWrapO
import Derived.Deep.DeepCutAuto
namespace Go.Proofs.YtjlifjgljejabaaGreatDoor
open Go.RowKit Go.Edi Go.Wrap

abbrev digs (n : Nat) : Tx := Lib.decDigits n
def numsE (ns : List Nat) : List (List Tx) := ns.map fun n => [digs n]
def NumsF (w : World) (F : Nat → Prop) (v : Value) (ns : List Nat) : Prop := RowF w F v ns.length (ns.map fun (n : Nat) => Value.int .u64 (n : Int))
theorem heap2 (w : World) (o o' : Obj) (b : Nat) (h : b < w.heap.size) : ((w.alloc o).alloc o').heap[b]? = w.heap[b]? := (Below.heap_alloc _ _ _ (by rw [size_a]; omega)).trans (Below.heap_alloc _ _ _ h)
theorem sizeSegm : (Tryz.prog.info? 59).map (·.size) = some 2 := by kernel_rfl
theorem set2 {W : World} {g : Nat} {x y : Value} {ty : TypeId} (h : W.heap[g]? = some (.cells #[x, y] ty (0, 0))) (a b : Value) :
    ((W.setCell ⟨g, 0, none⟩ a).setCell ⟨g, 1, none⟩ b).heap[g]? = some (.cells #[a, b] ty (0, 0)) := by
  have h1 : (W.setCell ⟨g, 0, none⟩ a).heap[g]? = some (.cells #[a, y] ty (0, 0)) := set_arr h 0 a
  exact set_arr h1 1 b
/-- what told has made, so far: its result's block is still empty -/
structure TdI (w : World) (F : Nat → Prop) (tag : Tx) (es : List (List Tx)) (ve : Value) (wr : World) : Prop where
  oi : OwI w.heap.size (w.heap.size + 1) F [] tag es (.slice none 0 0) ve wr
  r0 : wr.heap[w.heap.size]? = some (.cells #[str [], .slice none 0 0] 59 (0, 0))
  nf : ¬ F w.heap.size
  nv : ve.ownBlock ≠ some w.heap.size
  bl : Below w.heap.size w wr
theorem told_step {w wr w1 w4 : World} {F : Nat → Prop} {tag d : Tx} {es : List (List Tx)} {pe p2 : Option Addr} {cape cap2 k : Nat} {ys : List Value} (HI : TdI w F tag es (.slice pe k cape) wr) (hj : es.length = k) (hyc : ElC wr F es ys)
    (hys : wr.ownsRow w.heap.size 62 1 (.slice pe k cape) k ys) (hb1 : Below wr.heap.size wr w1) (h2 : w4.ownsRow w.heap.size 62 1 (.slice p2 (k + 1) cap2) (k + 1) (ys ++ [.slice (some ⟨w1.heap.size, 0, none⟩) 1 1]))
    (hg2 : ((w1.alloc (.cells #[str d] 9)).alloc (.cells #[.slice (some ⟨w1.heap.size, 0, none⟩) 1 1] 62)).grownBy w4 (Value.slice pe k cape).ownBlock)
    (hk2 : (Value.slice p2 (k + 1) cap2).ownBlock = (Value.slice pe k cape).ownBlock ∨ (Value.slice p2 (k + 1) cap2).ownBlock = some ((w1.alloc (.cells #[str d] 9)).alloc (.cells #[.slice (some ⟨w1.heap.size, 0, none⟩) 1 1] 62)).heap.size) :
    ∃ F', TdI w F' tag (es ++ [[d]]) (.slice p2 (k + 1) cap2) (w4.setCell ⟨w.heap.size + 1, 1, none⟩ (.slice p2 (k + 1) cap2)) := by
  subst hj
  have hs1 := hb1.size
  have hgl : w.heap.size + 1 < wr.heap.size := lt_of_heap HI.oi.hg
  have hs4 : w1.heap.size + 1 + 1 ≤ w4.heap.size := by have := hg2.size; simp only [size_a] at this; exact this
  have hold : ∀ b, b < wr.heap.size → (w1.alloc (.cells #[str d] 9)).heap[b]? = wr.heap[b]? := fun b hb => (Below.heap_alloc _ _ _ (by omega)).trans (hb1.block b hb)
  have h4 : ∀ b, b < wr.heap.size → (Value.slice pe es.length cape).ownBlock ≠ some b → w4.heap[b]? = wr.heap[b]? := fun b hb hne =>
    (hg2.block b (by simp only [size_a]; omega) (Ne.symm hne)).trans ((Below.heap_alloc _ _ _ (by rw [size_a]; omega)).trans (hold b hb))
  refine ⟨_, HI.oi.elem (e := [d]) (k1 := w1.heap.size) (w2 := w1.alloc (.cells #[str d] 9)) hys hyc rfl hs1 ⟨rfl, Or.inr ⟨w1.heap.size, 1, #[str d], rfl, by omega, at_last _ _, by simp, by unfold maxLen; omega, rfl, rfl⟩⟩ hold (by rw [size_a]; omega) h2 hg2 hk2, ?_, ?_, ?_, ?_⟩
  · exact (Below.heap_setCell _ _ _ _ (by show w.heap.size ≠ w.heap.size + 1; omega)).trans ((h4 _ (by omega) HI.nv).trans HI.r0)
  · rintro (h | h)
    · exact HI.nf h
    · simp only [Value.ownBlock, Option.some.injEq] at h; omega
  · rcases hk2 with e | e
    · rw [e]; exact HI.nv
    · rw [e]; simp only [size_a]; intro h; have := Option.some.inj h; omega
  · have hb2 : Below w.heap.size w w4 := (((HI.bl.trans (hb1.mono (by omega))).alloc (by omega) _).alloc (by rw [size_a]; omega) _).grown hg2 (by simp only [size_a]; omega) (fun k hk => (hys.lt k hk).1)
    exact hb2.setCell (by show w.heap.size ≤ w.heap.size + 1; omega) _
set_option maxRecDepth 100000 in
set_option maxHeartbeats 6400000 in
theorem told_any (tag : Tx) (ns : List Nat) (v : Value) (B : Nat) (w : World) (hv : NumsF w (· < w.heap.size) v ns) (hn : ns.length ≤ 1000) (hlt : ∀ n ∈ ns, n < 18446744073709551616) (htab : Tab B w) (hB : B ≤ w.heap.size) :
    Calls Tryz.prog 60 #[str tag, v] w fun e w' => ∃ ve F, e = .returned (.agg #[str tag, ve]) ∧ ElsF w' F ve (numsE ns) ∧ (∀ b, F b → w.heap.size ≤ b ∧ b < w'.heap.size) ∧ Below w.heap.size w w' := by
  obtain ⟨p, cap, rfl, hnc, hp⟩ := hv
  have HP := Lib.hid hp
  have HL := Lib.hid hlt
  have HT := Lib.hid htab
  have HBB := Lib.hid hB
  have HN := Lib.hid hn
  have hnI : (ns.length : Int) ≤ 1000 := by omega
  clear hp hlt htab hB hn
  go_enter Tryz.func60, Tryz.ntmps60
  go_wp2
  go_loopw [12] (fun i wr => ∃ (k : Nat) (F : Nat → Prop) (ve : Value), i = .int .i64 k ∧ k ≤ ns.length ∧ TdI w F tag (numsE (ns.take k)) ve wr) (fun i _ => ns.length - (intOf i).toNat)
  case atStart =>
    refine ⟨0, fun _ => False, .slice none 0 0, rfl, Nat.zero_le _, ⟨⟨Nat.le_succ _, ?_, ⟨[], World.ownsRow_nil _ _ _ _, True.intro⟩, ⟨[], World.ownsRow_nil _ _ _ _, True.intro⟩, by simp [Value.ownBlock], fun b hb => hb.elim⟩, ?_, fun h => h, by simp [Value.ownBlock], ?_⟩⟩
    · exact heap_new _ _ _ (by simp only [size_a])
    · exact heap_past _ _ _ (by simp only [size_a]; omega) (heap_new _ _ _ rfl)
    · exact ((Below.refl _ _).alloc (Nat.le_refl _) _).alloc (by simp only [size_a]; omega) _
  case round =>
    obtain ⟨k, F, ve, rfl, hk, ht⟩ := hrel
    have HTD := Lib.hid ht
    have HI := Lib.hid ht.oi
    have hb := ht.bl
    have HB := Lib.hid hb
    by_cases hlt : (k : Int) < (ns.length : Int)
    · have hkl : k < ns.length := by omega
      have hk0 : (0 : Int) ≤ (k : Int) := Int.natCast_nonneg _
      obtain ⟨b, o, rfl, hF, hc⟩ := HP.out (by omega)
      have hck : wr.cell? ⟨b, o + k, none⟩ = some (.int .u64 ((ns[k]'hkl : Nat) : Int)) := (World.cell?_of_block (a := ⟨b, o + k, none⟩) (hb.block b hF)).trans (hc k _ (by rw [List.getElem?_map, List.getElem?_eq_getElem hkl]; rfl))
      have hnk := HL.out _ (List.getElem_mem hkl)
      have HTK := Lib.hid (show numsE (ns.take (k + 1)) = numsE (ns.take k) ++ [[digs (ns[k]'hkl)]] by rw [numsE, numsE, ← List.take_append_getElem hkl, List.map_append]; rfl)
      generalize ns[k]'hkl = n at *
      obtain ⟨ys, hys, hyc⟩ := HI.out.els
      have hel : (numsE (ns.take k)).length = k := by simp [numsE]; omega
      have HEL := Lib.hid hel
      rw [hel] at hys
      obtain ⟨pe, cape, rfl⟩ := own_slice hys
      obtain ⟨_, cg, fg, hglt⟩ := HI.out.cells
      have HYS := Lib.hid hys
      have HYC := Lib.hid hyc
      have HGL := Lib.hid hglt
      have HNG := Lib.hid (own_not hys HI.out.hg (by decide))
      have HFU := Lib.hid (format_any n hnk B wr.drew (HT.out.on (HB.out.mono HBB.out).drew) (Nat.le_trans HBB.out HB.out.size))
      have cg2 : wr.drew.cell? ⟨w.heap.size + 1, 1, none⟩ = some (.slice pe k cape) := cg
      clear ht hb hys hyc hglt hel hnk hc
      go_upto_region 5 with fail
      go_region_law (first
        | (go_simp
           refine (HFU.out).mono ?_
           rintro e w1 ⟨rfl, hb1⟩
           have hb2 : Below wr.heap.size wr w1 := ⟨hb1.os, hb1.tape, hb1.output, hb1.size, hb1.block⟩
           have C1 : w1.cell? ⟨w.heap.size + 1, 1, none⟩ = some (.slice pe k cape) := (World.cell?_of_block (a := ⟨w.heap.size + 1, 1, none⟩) (hb2.block _ HGL.out)).trans cg
           have hs1 : w.heap.size + 1 < w1.heap.size := Nat.lt_of_lt_of_le HGL.out hb2.size
           have C2 : ∀ o : Obj, (w1.alloc o).cell? ⟨w.heap.size + 1, 1, none⟩ = some (.slice pe k cape) := fun o => (World.cell?_of_block (a := ⟨w.heap.size + 1, 1, none⟩) (Below.heap_alloc _ _ _ hs1)).trans C1
           have C3 : ∀ o o' : Obj, ((w1.alloc o).alloc o').cell? ⟨w.heap.size + 1, 1, none⟩ = some (.slice pe k cape) := fun o o' => (World.cell?_of_block (a := ⟨w.heap.size + 1, 1, none⟩) (Below.heap_alloc _ _ _ (Nat.lt_trans hs1 (by rw [size_a]; exact Nat.lt_succ_self _)))).trans (C2 o)
           have HB1 := Lib.hid hb2
           clear hb1 hb2 hs1)
        | (rw [if_pos (by rfl)]
           refine st_app1 57 62 (.slice none 0 0) 1 24 par_strs Tryz.underlying57 rfl (by decide) (by decide) w.heap.size (.slice pe k cape) k ys rfl (own_keep HYS.out (fun b e => (heap2 _ _ _ _ (by have := (HYS.out.lt b e).2; have := HB1.out.size; omega)).trans (HB1.out.block b (HYS.out.lt b e).2))) (w1.heap.size + 1) 1 [.slice (some ⟨w1.heap.size, 0, none⟩) 1 1] 62 (0, 0) rfl rfl (heap_new _ _ _ (by simp only [size_a])) (by intro u hu; simp at hu; subst hu; rfl) (by have := HN.out; omega) (by have := HB.out.size; have := HB1.out.size; simp only [size_a]; omega) ?_
           intro v2 w4 ho2 hgr2 hbk2
           obtain ⟨p2, cap2, rfl⟩ := own_slice ho2
           have hg4 : w4.heap[w.heap.size + 1]? = wr.heap[w.heap.size + 1]? := (hgr2.block _ (by have := HGL.out; have := HB1.out.size; simp only [size_a]; omega) HNG.out).trans ((heap2 _ _ _ _ (by have := HGL.out; have := HB1.out.size; omega)).trans (HB1.out.block _ HGL.out))
           have C5 : w4.cell? ⟨w.heap.size + 1, 1, none⟩ = some (.slice pe k cape) := (World.cell?_of_block (a := ⟨w.heap.size + 1, 1, none⟩) hg4).trans cg
           have F5 : w4.frozen? ⟨w.heap.size + 1, 1, none⟩ = false := (World.frozen?_of_block (a := ⟨w.heap.size + 1, 1, none⟩) hg4).trans fg
           have H2 := Lib.hid ho2
           have HGR2 := Lib.hid hgr2
           have HK2 := Lib.hid hbk2
           clear ho2 hgr2 hbk2 hg4))
      all_goals
        obtain ⟨F2, hE⟩ := told_step HTD.out HEL.out HYC.out HYS.out HB1.out H2.out HGR2.out HK2.out
        have HE := Lib.hid hE
        clear hE C1 C2 C3 C5 F5 cg fg cg2 hck
        go_wp2
        go_roundw
        case rel => exact ⟨k + 1, F2, _, by go_num, by omega, HTK.out ▸ HE.out⟩
        case measure => simp [intOf]; omega
    · obtain rfl : k = ns.length := by omega
      have hg := ht.oi.hg
      have c0 := cell_of_arr hg 0
      have c1 := cell_of_arr hg 1
      have r0 := cell_of_arr ht.r0 0
      have r1 := cell_of_arr ht.r0 1
      have f0 := frozen_of_arr ht.r0 0
      have f1 := frozen_of_arr ht.r0 1
      have hy := ht.oi.els
      obtain ⟨ys, hys, hyc⟩ := hy
      have hel : (numsE (ns.take ns.length)).length = ns.length := by simp [numsE]
      rw [hel] at hys
      obtain ⟨pe, cape, rfl⟩ := own_slice hys
      have HYS := Lib.hid hys
      have HYC := Lib.hid hyc
      clear hg hys hyc hel ht hb
      have HR0 := Lib.hid HTD.out.r0
      go_wp2
      refine bodyPost_ret (results_cell_row rfl _ _ w.heap.size 59 #[str tag, .slice pe ns.length cape] (0, 0) _ rfl (set2 HR0.out _ _) Tryz.underlying59 rfl sizeSegm) rfl ?_
      have hb := ((HB.out.setCell (p := ⟨w.heap.size, 0, none⟩) (Nat.le_refl _) (str tag)).setCell (p := ⟨w.heap.size, 1, none⟩) (Nat.le_refl _) (.slice pe ns.length cape))
      have hkp : ∀ b, b ≠ w.heap.size → ((wr.setCell ⟨w.heap.size, 0, none⟩ (str tag)).setCell ⟨w.heap.size, 1, none⟩ (.slice pe ns.length cape)).heap[b]? = wr.heap[b]? := fun b hne => (Below.heap_setCell _ _ _ _ hne).trans (Below.heap_setCell _ _ _ _ hne)
      have hsz : ((wr.setCell ⟨w.heap.size, 0, none⟩ (str tag)).setCell ⟨w.heap.size, 1, none⟩ (.slice pe ns.length cape)).heap.size = wr.heap.size := by simp [World.setCell]
      have hoo : ∀ b, (Value.slice pe ns.length cape).ownBlock = some b → b ≠ w.heap.size := fun b e e2 => HTD.out.nv (by rw [e, e2])
      have hff : ∀ b, F b → b ≠ w.heap.size := fun b e e2 => HTD.out.nf (e2 ▸ e)
      rw [List.take_length] at HYC
      refine ⟨_, rfl, fun b => F b ∨ (Value.slice pe ns.length cape).ownBlock = some b, ⟨ys, ?_, HYC.out.kept (fun b h => ⟨Or.inl h, hkp b (hff b h)⟩)⟩, ?_, hb⟩
      · rw [show (numsE ns).length = ns.length by simp [numsE]]
        exact row_own (own_keep HYS.out (fun b e => hkp b (hoo b e))) (fun b e => Or.inr e)
      · rintro b (h | h)
        · have := HTD.out.oi.fz b h
          exact ⟨this.1, by rw [hsz]; exact this.2.1⟩
        · have := HYS.out.lt b h
          exact ⟨this.1, by rw [hsz]; exact this.2⟩
end Go.Proofs.YtjlifjgljejabaaGreatDoor
