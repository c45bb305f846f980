/- Contracts: whether a mac is right of a carrier (a closure), of anybody. -/
import Derived.Test.YtgaoeljdlpemnaaGreatDoorWrapDcQ
import Derived.Test.YtgaoeljdlpemnaaGreatDoorWrapBkQ
import Derived.Test.YtgaoeljdlpemnaaGreatDoorWrapD
/- Contract: a packet's letter. -/
namespace Go.Proofs.YtgaoeljdlpemnaaGreatDoor
open Go.RowKit Go.Edi Go.Wrap Go.Lib
open Go.Sha (bv zl)

@[local go_sem high, local simp high] theorem z25s (w : World) : (zeroValue 62).run Tryz.prog w = .ok (.agg (bv (zl 32))) w := by kernel_rfl
theorem zero_bytes (w : World) : (zeroValue 39).run Tryz.prog w = .ok (.slice none 0 0) w := by kernel_rfl
theorem sizeDg : (Tryz.prog.info? 62).map (·.size) = some 32 := by kernel_rfl
/-- the mac of a text under a key -/
def macT (key text : Tx) : Tx := nb (Go.Sha.macL (bn key) (bn text))
theorem macT_len (key text : Tx) : (macT key text).length = 32 := by unfold macT; rw [nb_len, Go.Sha.macL_len]
theorem bn_macT (key text : Tx) : bn (macT key text) = Go.Sha.macL (bn key) (bn text) := bn_nb (Go.Sha.macL_lt _ _)
theorem bc_nb {M : List Nat} (h : Go.Sha.Lt 256 M) : Lib.byteCells (nb M) = (bv M).toList := by
  unfold Lib.byteCells nb bv
  rw [List.map_map, List.toList_toArray]
  exact List.map_congr_left (fun x hx => by have := h x hx; simp [UInt8.toNat_ofNat']; omega)
/-- a packet's letter under a key -/
def sealL (K : Nat → Nat → Option Tx) (p : Pk) : Tx × Nat :=
  match K p.from_ p.to_ with
  | none => ([], 1)
  | some key => if (mtextL p).2 = 0 then ((mtextL p).1 ++ macT key (mtextL p).1, 0) else ([], (mtextL p).2)
theorem mtext_len {p : Pk} (h : (mtextL p).2 = 0) : (mtextL p).1.length ≤ 65536 := by
  unfold mtextL at h ⊢
  split at h
  · rename_i h0
    rw [if_pos h0]
    obtain ⟨_, _, _, h1, h2⟩ := wprint_ok h
    have h3 : (printL (closeL (mwrapL p).1.from_ (mwrapL p).1.to_ (mwrapL p).1.ref (mwrapL p).1.segs)).2 = 0 := by rw [h2]
    obtain ⟨a1, a2, a3, a4, a5⟩ := print_parts h3
    rw [h1, print_of a1 a2 a3 a4 a5]
    exact a5
  · rename_i h0; exact absurd h h0
theorem wl_app_text {ops : Array Oper} {rest : List Oper} {a : Act} {w : World} {Q : Exit → Act → World → Prop} {dst : Tmp} {s x : Operand} {typ : TypeId} {pos : String} {after : Array Edge}
    (g cap base : Nat) (t news : Tx) (u : Value) (F : Nat → Prop) (hs : a.eval s = .slice (some ⟨g, 0, none⟩) t.length cap) (hx : a.eval x = u) (hg : TxAt w g cap t) (hb : base ≤ g) (hbase : base ≤ w.heap.size) (hsrc : BysF w F u news) (hn0 : 0 < news.length) (hn : t.length + news.length ≤ 1000000)
    (h : ∀ p' cap' w', BysF w' (fun b => base ≤ b ∧ b < w'.heap.size) (.slice p' (t.length + news.length) cap') (t ++ news) → w.grownBy w' (some g) → wpList Tryz.prog ops Q rest (a.put (some dst) (.slice p' (t.length + news.length) cap')) w') :
    wpList Tryz.prog ops Q (⟨some dst, .call { callee := .builtin .append, args := #[s, x], argTypes := #[39, 39] }, typ, pos, after, none⟩ :: rest) a w := by
  refine wpList_plain rfl fun K hK => ?_
  obtain ⟨p', cap', w', hr, h1, h2⟩ := run_app_text w typ g cap base t news u F hg hb hbase hsrc hn0 hn
  unfold Oper.wp execOp
  simp only [resolve, invoke, builtin, Sem.run_bind, Sem.run_pure, Result.andThen_ok, List.map_toArray, List.map_cons, List.map_nil, hs, hx, hr]
  exact hK _ _ (h p' cap' w' h1 h2)
set_option maxRecDepth 100000 in
theorem seal_nil (v : Array Value) (w : World) : Calls Tryz.prog 5 #[.pointer none, .agg v] w fun e w' => e = .returned (.tuple #[.slice none 0 0, .int .i64 8]) ∧ Below w.heap.size w w' := by
  have HB := Lib.hid (show ∀ o, Below w.heap.size w (w.alloc o) from fun o => (Below.refl _ _).alloc (Nat.le_refl _) _)
  go_enter Tryz.func5, Tryz.ntmps5
  go_wp2
  go_ret2
  exact ⟨rfl, HB.out _⟩
/-- what Seal answers -/
def SealP (o : Tx × Nat) (w : World) (e : Ending) (w' : World) : Prop :=
  ∃ pv cv, e = .returned (.tuple #[.slice pv o.1.length cv, .int .i64 ((o.2 : Nat) : Int)]) ∧ BysF w' (fun b => w.heap.size ≤ b ∧ b < w'.heap.size) (.slice pv o.1.length cv) o.1 ∧ Below w.heap.size w w'
set_option maxRecDepth 100000 in
set_option maxHeartbeats 3200000 in
theorem seal_any (rb mb n c : Nat) (K : Nat → Nat → Option Tx) (p : Pk) (B : Nat) (w : World) (hp : p.Ty) (hr : RgAt rb mb n c K w) (hlen : ∀ f t key, K f t = some key → key.length ≤ 64) (he : Ev B w) (hB : B ≤ w.heap.size) :
    Calls Tryz.prog 5 #[.pointer (some ⟨rb, 0, none⟩), .agg (pkV p)] w (SealP (sealL K p) w) := by
  obtain ⟨f, t, num, ack, m⟩ := p
  obtain ⟨wb, hwb⟩ : ∃ wb, wb = (w.alloc (.cells (pkV ⟨f, t, num, ack, m⟩) 38)).drew := ⟨_, rfl⟩
  have hb0 : Below w.heap.size w wb := by rw [hwb]; exact ((Below.refl _ _).alloc (Nat.le_refl _) _).drew
  have hpk : wb.heap[w.heap.size]? = some (.cells (pkV ⟨f, t, num, ack, m⟩) 38 (0, 0)) := by rw [hwb]; exact at_last _ _
  have hr2 : RgAt rb mb n c K wb := hr.later hb0
  have hf := hp.from_
  have ht := hp.to_
  simp only at hf ht
  obtain ⟨V, hlk, hky⟩ := hr2.map.look hf ht (zero_bytes wb)
  have HLK := Lib.hid hlk
  have HKY := Lib.hid hky
  have HRG := Lib.hid hr2
  have HPK := Lib.hid hpk
  have HB0 := Lib.hid hb0
  have HEV := Lib.hid (show ∀ wz, Below w.heap.size w wz → Ev B wz ∧ B ≤ wz.heap.size from fun wz hz => ⟨he.on (hz.mono hB), Nat.le_trans hB hz.size⟩)
  have HPT := Lib.hid hp
  have HLN := Lib.hid hlen
  have HWB := Lib.hid hwb
  clear hwb hb0 hpk hr2 hf ht hlk hky he hB hp hr hlen
  go_enter Tryz.func5, Tryz.ntmps5
  go_upto_region 3 with fail
  refine wp_region_held (S := fun w' => w' = wb) (by kernel_rfl) ?_
  change wpAnyH _ _ _ _ _ _ _ _ (World.drew _)
  rw [← HWB.out]
  have HS := Lib.hid (show wb = wb from rfl)
  have hrow := HRG.out.row
  have hpk := HPK.out
  have hlr := lt_of_heap hrow
  have r1 := cell_of_arr hrow 1
  have q0 := cell_of_arr hpk 0
  have q1 := cell_of_arr hpk 1
  simp only [pkV, msV, preV, List.cons_append, List.nil_append, List.getElem?_toArray, List.getElem?_cons_zero, List.getElem?_cons_succ] at r1 q0 q1
  clear hrow hpk
  refine tkH (i := 0) (oi := ⟨some 15, .move (.tmp 0), _, _, _, none⟩) (v := .pointer (some ⟨rb, 0, none⟩)) rfl (Or.inl ⟨by rfl, fun w' hS => by subst hS; go_simp⟩) HS.out ?_
  simp only [Act.put, zs1, zs2, zs3]
  refine tkH (i := 1) (oi := ⟨some 16, .nilCheck (.tmp 15), _, _, _, none⟩) (v := .pointer (some ⟨rb, 0, none⟩)) rfl (Or.inl ⟨by rfl, fun w' hS => by subst hS; go_simp⟩) HS.out ?_
  simp only [Act.put, zs1, zs2, zs3]
  refine tkH (i := 2) (oi := ⟨some 17, .fieldAddr 56 (.tmp 16) 1, _, _, _, none⟩) (v := .pointer (some ⟨rb, 1, none⟩)) rfl (Or.inl ⟨by rfl, fun w' hS => by subst hS; go_simp⟩) HS.out ?_
  simp only [Act.put, zs1, zs2, zs3]
  refine tkH (i := 3) (oi := ⟨some 18, .load 54 (.tmp 17), _, _, _, none⟩) (v := .map (some mb)) rfl (Or.inl ⟨by rfl, fun w' hS => by subst hS; go_simp⟩) HS.out ?_
  simp only [Act.put, zs1, zs2, zs3]
  refine tkH (i := 4) (oi := ⟨some 19, .fieldAddr 38 (.tmp 3) 0, _, _, _, none⟩) (v := .pointer (some ⟨w.heap.size, 0, none⟩)) rfl (Or.inl ⟨by rfl, fun w' hS => by subst hS; go_simp⟩) HS.out ?_
  simp only [Act.put, zs1, zs2, zs3]
  refine tkH (i := 5) (oi := ⟨some 20, .load 5 (.tmp 19), _, _, _, none⟩) (v := .int .u8 (f : Int)) rfl (Or.inl ⟨by rfl, fun w' hS => by subst hS; go_simp⟩) HS.out ?_
  simp only [Act.put, zs1, zs2, zs3]
  refine tkH (i := 6) (oi := ⟨some 21, .fieldAddr 38 (.tmp 3) 1, _, _, _, none⟩) (v := .pointer (some ⟨w.heap.size, 1, none⟩)) rfl (Or.inl ⟨by rfl, fun w' hS => by subst hS; go_simp⟩) HS.out ?_
  simp only [Act.put, zs1, zs2, zs3]
  refine tkH (i := 7) (oi := ⟨some 22, .load 5 (.tmp 21), _, _, _, none⟩) (v := .int .u8 (t : Int)) rfl (Or.inl ⟨by rfl, fun w' hS => by subst hS; go_simp⟩) HS.out ?_
  simp only [Act.put, zs1, zs2, zs3]
  refine tkH (i := 8) (oi := ⟨some 23, .build 58 #[(0, .tmp 20), (1, .tmp 22)], _, _, _, none⟩) (v := kp f t) rfl (Or.inl ⟨by rfl, fun w' hS => by subst hS; unfold kp; go_simp⟩) HS.out ?_
  simp only [Act.put, zs1, zs2, zs3]
  refine tkH (i := 9) (oi := ⟨some 24, .lookup 54 (.tmp 18) (.tmp 23) true, _, _, _, none⟩) (v := .tuple #[V, .bool (K f t).isSome]) rfl (Or.inl ⟨by rfl, fun w' hS => by subst hS; have hl := HLK.out; go_simp⟩) HS.out ?_
  simp only [Act.put, zs1, zs2, zs3]
  refine tkH (i := 10) (oi := ⟨some 14, .move (.tmp 24), _, _, _, none⟩) (v := .tuple #[V, .bool (K f t).isSome]) rfl (Or.inl ⟨by rfl, fun w' hS => by subst hS; go_simp⟩) HS.out ?_
  simp only [Act.put, zs1, zs2, zs3]
  refine tkH (i := 11) (oi := ⟨some 25, .extract (.tmp 14) 0, _, _, _, none⟩) (v := V) rfl (Or.inl ⟨by rfl, fun w' hS => by subst hS; go_simp⟩) HS.out ?_
  simp only [Act.put, zs1, zs2, zs3]
  refine tkH (i := 12) (oi := ⟨some 26, .extract (.tmp 14) 1, _, _, _, none⟩) (v := .bool (K f t).isSome) rfl (Or.inl ⟨by rfl, fun w' hS => by subst hS; go_simp⟩) HS.out ?_
  simp only [Act.put, zs1, zs2, zs3]
  refine tkH (i := 13) (oi := ⟨some 6, .assign (.tmp 25), _, _, _, none⟩) (v := V) rfl (Or.inl ⟨by rfl, fun w' hS => by subst hS; go_simp⟩) HS.out ?_
  simp only [Act.put, zs1, zs2, zs3]
  refine tkH (i := 14) (oi := ⟨some 7, .assign (.tmp 26), _, _, _, none⟩) (v := .bool (K f t).isSome) rfl (Or.inl ⟨by rfl, fun w' hS => by subst hS; go_simp⟩) HS.out ?_
  simp only [Act.put, zs1, zs2, zs3]
  refine wpAnyH_done (by kernel_rfl) ?_ _
  clear r1 q0 q1 hlr
  cases hK : K f t with
  | none =>
    have HR := Lib.hid (show sealL K ⟨f, t, num, ack, m⟩ = ([], 1) by unfold sealL; simp only; rw [hK])
    rw [hK] at HLK
    go_wp2
    go_ret2
    rw [HR.out]
    exact ⟨none, 0, rfl, RowF.no none 0, HB0.out⟩
  | some key =>
    have hvk := HKY.out key hK
    obtain ⟨kpp, kcap, rfl⟩ : ∃ kpp kcap, V = .slice kpp key.length kcap := by obtain ⟨a, b, e, _⟩ := hvk; exact ⟨a, b, e⟩
    have HVK := Lib.hid hvk
    have HKL := Lib.hid (HLN.out f t key hK)
    have hR : sealL K ⟨f, t, num, ack, m⟩ = (if (mtextL ⟨f, t, num, ack, m⟩).2 = 0 then ((mtextL ⟨f, t, num, ack, m⟩).1 ++ macT key (mtextL ⟨f, t, num, ack, m⟩).1, 0) else ([], (mtextL ⟨f, t, num, ack, m⟩).2)) := by unfold sealL; simp only; rw [hK]
    have HR := Lib.hid hR
    have hmt := mtext_any ⟨f, t, num, ack, m⟩ B wb HPT.out (HEV.out _ HB0.out).1.env (HEV.out _ HB0.out).2
    have HML := Lib.hid (show (mtextL ⟨f, t, num, ack, m⟩).2 = 0 → (mtextL ⟨f, t, num, ack, m⟩).1.length ≤ 65536 from mtext_len)
    have HMT := Lib.hid (show Calls Tryz.prog 11 #[.agg (pkV ⟨f, t, num, ack, m⟩)] wb (fun e w' => e = .returned (.tuple #[str (mtextL ⟨f, t, num, ack, m⟩).1, .int .i64 (((mtextL ⟨f, t, num, ack, m⟩).2 : Nat) : Int)]) ∧ Below wb.heap.size wb w') from hmt)
    rw [hK] at HLK
    clear hvk hR hmt hK
    generalize mtextL ⟨f, t, num, ack, m⟩ = tt at *
    obtain ⟨text, E⟩ := tt
    simp only at HR HML HMT
    go_wp2_with (refine wpList_load_row rfl 38 _ rfl w.heap.size rfl 38 (pkV ⟨f, t, num, ack, m⟩) (0, 0) _ HPK.out Tryz.underlying38 rfl sizePk ?_)
    refine (HMT.out).mono ?_
    rintro e w2 ⟨rfl, hb2⟩
    have HB2 := Lib.hid (HB0.out.trans (hb2.mono HB0.out.size))
    have HV2 := Lib.hid (HVK.out.kept (w' := w2) (F' := fun b => rb < b ∧ b < wb.heap.size) (fun b hb => ⟨hb, hb2.block b hb.2⟩))
    have HZ2 := Lib.hid hb2.size
    clear hb2
    by_cases hE : E = 0
    · subst hE
      rw [if_pos rfl] at HR
      have hml := HML.out rfl
      obtain ⟨cap, w3, hrun, htx, hb3⟩ := bytes_of' text w2 (by omega)
      have HB3 := Lib.hid (HB2.out.trans (hb3.mono HB2.out.size))
      have HTX := Lib.hid htx
      have HL := Lib.hid hml
      have HZ3 := Lib.hid hb3.size
      have hV3 := HV2.out.kept (w' := w3) (F' := fun b => rb < b ∧ b < wb.heap.size) (fun b hb => ⟨hb, hb3.block b (Nat.lt_of_lt_of_le hb.2 HZ2.out)⟩)
      have hg3 : w2.heap.size < w3.heap.size := lt_of_heap htx.2.2
      have HMC := Lib.hid (Hs.macOf_any (bn key) (bn text) (.slice kpp key.length kcap) (.slice (some ⟨w2.heap.size, 0, none⟩) text.length cap) w3 (bn_lt _) (bn_lt _) (by rw [bn_len]; have := HKL.out; omega) (by rw [bn_len]; omega) (HEV.out _ HB3.out).1.gl
        (bys_byt hV3 (fun b hb => by have h1 := HZ2.out; have h2 := HZ3.out; omega)) (bys_byt (F := (· = w2.heap.size)) (htx.bys rfl) (fun b hb => by subst hb; omega)))
      have HM32 := Lib.hid (show (bv (Go.Sha.macL (bn key) (bn text))).size = 32 by rw [Go.Sha.bv_size, Go.Sha.macL_len])
      have HMB := Lib.hid (show Lib.byteCells (macT key text) = (bv (Go.Sha.macL (bn key) (bn text))).toList from bc_nb (Go.Sha.macL_lt _ _))
      have HMO := Lib.hid (show (bv (Go.Sha.macL (bn key) (bn text))).all (·.oneCell') = true from Go.Sha.bv_one _)
      have HM3 := Lib.hid (macT_len key text)
      clear hml htx hb3 hV3 hg3
      generalize macT key text = mt at *
      generalize Go.Sha.macL (bn key) (bn text) = M at *
      go_wp2_with fail
      go_at_call 12
      refine (HMC.out).mono ?_
      rintro e w4 ⟨rfl, hb4⟩
      have hb4' := HB3.out.trans (hb4.mono HB3.out.size)
      have hg4 : w2.heap.size < w4.heap.size := Nat.lt_of_lt_of_le (lt_of_heap HTX.out.2.2) hb4.size
      have hst5 : ((w4.alloc (.cells (bv (zl 32)) 62)).setRow w4.heap.size (bv M)).heap[w2.heap.size]? = w4.heap[w2.heap.size]? := (setRow_other _ _ _ _ (by omega)).trans (Below.heap_alloc _ _ _ hg4)
      have HTX5 := Lib.hid (show TxAt ((w4.alloc (.cells (bv (zl 32)) 62)).setRow w4.heap.size (bv M)) w2.heap.size cap text from ⟨HTX.out.1, HTX.out.2.1, hst5.trans ((hb4.block _ (lt_of_heap HTX.out.2.2)).trans HTX.out.2.2)⟩)
      have hd0 : (w4.alloc (.cells (bv (zl 32)) 62)).heap[w4.heap.size]? = some (.cells (bv (zl 32)) 62 (0, 0)) := at_last _ _
      have HD0 := Lib.hid hd0
      have hd5 := setRow_heap (w4.alloc (.cells (bv (zl 32)) 62)) w4.heap.size (bv (zl 32)) (bv M) 62 (0, 0) hd0
      have HB5 := Lib.hid (show Below w.heap.size w ((w4.alloc (.cells (bv (zl 32)) 62)).setRow w4.heap.size (bv M)) from below_setR (hb4'.alloc hb4'.size _) hb4'.size _)
      have HMS := Lib.hid (show BysF ((w4.alloc (.cells (bv (zl 32)) 62)).setRow w4.heap.size (bv M)) (· = w4.heap.size) (.slice (some ⟨w4.heap.size, 0, none⟩) 32 32) mt by
        unfold BysF
        rw [HM3.out]
        refine ⟨_, _, rfl, Nat.le_refl _, fun _ => ⟨w4.heap.size, 0, rfl, rfl, fun j u hu => ?_⟩⟩
        rw [HMB.out] at hu
        rw [Nat.zero_add, cell_of_row _ _ j _ 62 _ hd5, ← Array.getElem?_toList]
        exact hu)
      clear hb4 hb4' hg4 hst5 hd0 hd5
      go_wp2_with (first
        | (refine wpList_store_row rfl 62 _ _ rfl w4.heap.size (bv M) rfl rfl 62 (bv (zl 32)) HD0.out (by rw [HM32.out]; exact sizeDg) (by rw [HM32.out, Go.Sha.bv_size, Go.Sha.zl_len]) HMO.out ?_)
        | (at_builtin; refine wl_app_text w2.heap.size cap w.heap.size text mt (.slice (some ⟨w4.heap.size, 0, none⟩) 32 32) _ rfl rfl HTX5.out HB2.out.size HB5.out.size HMS.out (by rw [HM3.out]; decide) (by rw [HM3.out]; have := HL.out; omega) ?_))
      intro p' cap' w6 hbs hgr
      have HBS := Lib.hid hbs
      have HB6 := Lib.hid (HB5.out.grown hgr HB5.out.size (fun k hk => by cases hk; exact HB2.out.size))
      clear hbs hgr
      go_wp2
      go_ret2
      rw [HR.out]
      refine ⟨p', cap', ?_, ?_, HB6.out⟩
      · rw [List.length_append]; rfl
      · have := HBS.out
        rw [List.length_append]
        exact this
    · rw [if_neg hE] at HR
      have hEi : ¬ ((E : Nat) : Int) = 0 := by omega
      go_wp2
      go_ret2
      rw [HR.out]
      exact ⟨none, 0, rfl, RowF.no none 0, HB2.out⟩
end Go.Proofs.YtgaoeljdlpemnaaGreatDoor
/- Contract: a letter's text and its mac, cut by three indices. -/
namespace Go.Proofs.YtgaoeljdlpemnaaGreatDoor
open Go.RowKit Go.Edi Go.Wrap Go.Lib
open Go.Sha (bv zl)

@[local go_sem high, local simp high] theorem z25p (w : World) : (zeroValue 62).run Tryz.prog w = .ok (.agg (bv (zl 32))) w := by kernel_rfl
theorem elemBs : Tryz.prog.elem 39 = 5 := by kernel_rfl
theorem undBs : Tryz.prog.underlying 39 = some (.slice (Tryz.prog.elem 39)) := by rw [elemBs]; exact Tryz.underlying39
theorem sizeU8 : (Tryz.prog.info? 5).map (·.size) = some 1 := by kernel_rfl
theorem run_szU8 (w : World) : (sizeOf 5).run Tryz.prog w = .ok 1 w := by
  obtain ⟨i0, hi0, _, hz1, _⟩ := info_parts par_u8
  simp [sizeOf, typeInfo, hi0, hz1]
/-- the last 32 bytes -/
theorem run_end (w : World) (b o N e cap : Nat) (hN : N = e + 32) (hc : N ≤ cap) :
    (Instr.sliceAt 39 (.slice (some ⟨b, o, none⟩) N cap) (some (.int .i64 (e : Int))) (some (.int .i64 (N : Int))) (some (.int .i64 (N : Int)))).run Tryz.prog w = .ok (.slice (some ⟨b, o + e, none⟩) 32 32) w := by
  rw [run_sliceAt_slice _ _ _ _ _ _ undBs, run_slice_lhm _ _ _ _ _ undBs _ _ _ _ _ _ (by omega) (by omega) (by omega) (by omega), elemBs, run_szU8, Result.andThen_ok]
  unfold sliced
  rw [Int.toNat_natCast, Int.toNat_natCast, if_neg (by omega), Option.map_some, Nat.mul_one, Addr.add_mid, show N - e = 32 by omega]
/-- the bytes ahead of them, without room behind their end -/
theorem run_head (w : World) (b o N e cap : Nat) (hN : e ≤ N) (hc : N ≤ cap) :
    (Instr.sliceAt 39 (.slice (some ⟨b, o, none⟩) N cap) none (some (.int .i64 (e : Int))) (some (.int .i64 (e : Int)))).run Tryz.prog w = .ok (.slice (some ⟨b, o, none⟩) e e) w := by
  rw [run_sliceAt_slice _ _ _ _ _ _ undBs, run_slice_hm _ _ _ _ _ undBs _ _ _ _ (by omega) (by omega) (by omega), elemBs, run_szU8, Result.andThen_ok]
  unfold sliced
  simp only [Int.toNat_natCast, Nat.sub_zero]
  split
  · rfl
  · rw [Option.map_some, Nat.zero_mul, Addr.add_mid]; rfl
theorem step_copy {ops : Array Oper} {o : Oper} {a : Act} {w : World} {K : Act → World → Prop} {Q : Exit → Act → World → Prop} {E : Prop} (hgd : o.guard = none) (d s : Operand)
    (ho : o.op = .call { callee := .builtin .copy, args := #[d, s], argTypes := #[39, 39] })
    (g dLen dCap : Nat) (ad : Addr) (sLen sCap : Nat) (hd : a.eval d = .slice (some ⟨g, 0, none⟩) dLen dCap) (hs : a.eval s = .slice (some ad) sLen sCap)
    (cur row : Array Value) (t : TypeId) (hg : w.heap[g]? = some (.cells cur t (0, 0))) (cs : List Value) (hn : cs.length = Nat.min sLen dLen)
    (hsrc : ∀ j v, cs[j]? = some v → w.cell? (ad.add j) = some v) (hfit : 0 + cs.length ≤ cur.size) (h1 : ∀ v ∈ cs, v.oneCell' = true)
    (hrow : (cur.toList.take 0 ++ cs ++ cur.toList.drop (0 + cs.length)).toArray = row)
    (hK : K (a.put o.dst (goInt cs.length)) (w.setRow g row)) : if Region.wanted o (yielded ops a.tmps) = true then Oper.wp Tryz.prog o a w K Q else E := by
  rw [if_pos (by simp [Region.wanted, hgd])]
  have hrun := run_copy_row (P := Tryz.prog) w 39 39 o.type 5 g 0 dLen dCap ad sLen sCap cur t cs Tryz.underlying39 sizeU8 hg hn hsrc hfit h1
  rw [hrow] at hrun
  unfold Oper.wp
  simp [execOp, ho, resolve, invoke, builtin, hd, hs, hrun, Result.andThen]
  exact hK
theorem results_tmp_cell_row {P : Program} {fn : Func} {p u : Tmp} {ty : TypeId} (h : fn.results = #[.tmp u, .cell p ty]) (tmps : Array Value) (w : World) (g : Nat) (t : TypeId) (cs : Array Value) (fr : Nat × Nat) (d : TypeDesc)
    (hp : tmps.getD p undef = .pointer (some ⟨g, 0, none⟩)) (hg : w.heap[g]? = some (.cells cs t fr))
    (hu : P.underlying ty = some d) (hd : (match d with | .struct _ | .array _ _ => true | _ => false) = true) (hi : (P.info? ty).map (·.size) = some cs.size) :
    (results fn tmps).run P w = .ok (.tuple #[tmps.getD u undef, .agg cs]) w := by
  have e : (results fn tmps).run P w = ((asAddr (tmps.getD p undef)).run P w).andThen fun a w₁ => ((loadVar ty a).run P w₁).andThen fun v w₂ => .ok (.tuple #[tmps.getD u undef, v]) w₂ := by
    simp only [results, h]
    simp [Sem.run_bind, Result.andThen]
  rw [e, hp]
  simp only [asAddr, Sem.run_pure, Result.andThen_ok, run_loadVar_row w g t ty cs fr d hg hu hd hi]
theorem bys_bv (l : Tx) : Lib.byteCells l = (bv (bn l)).toList := by
  have h := bc_nb (bn_lt l)
  rw [nb_bn] at h
  exact h
set_option maxRecDepth 100000 in
set_option maxHeartbeats 3200000 in
theorem parted_any (l s : Tx) (v : Value) (F : Nat → Prop) (w : World) (hs : s.length = 32) (hv : BysF w F v (l ++ s)) (hF : ∀ b, F b → b < w.heap.size) (hln : l.length ≤ 1000000) :
    Calls Tryz.prog 13 #[v] w fun e w' => ∃ p, e = .returned (.tuple #[.slice p l.length l.length, .agg (bv (bn s))]) ∧ BysF w' F (.slice p l.length l.length) l ∧ Below w.heap.size w w' := by
  obtain ⟨N, hN⟩ : ∃ N, N = (l ++ s).length := ⟨_, rfl⟩
  obtain ⟨e, he⟩ : ∃ e, e = l.length := ⟨_, rfl⟩
  have hNe : N = e + 32 := by rw [hN, he, List.length_append, hs]
  obtain ⟨p, cap, rfl, hcap, hp⟩ := hv
  rw [← hN] at hcap hp ⊢
  obtain ⟨b, o, rfl, hFb, hcell⟩ := hp (by omega)
  rw [← he]
  have hcl : ∀ j u, (Lib.byteCells l)[j]? = some u → w.cell? ⟨b, o + j, none⟩ = some u := fun j u hu => hcell j u (by
    have e2 : Lib.byteCells (l ++ s) = Lib.byteCells l ++ Lib.byteCells s := by simp [Lib.byteCells]
    rw [e2, List.getElem?_append_left (List.getElem?_eq_some_iff.1 hu).1]; exact hu)
  have hcs : ∀ j u, (Lib.byteCells s)[j]? = some u → w.cell? ⟨b, o + e + j, none⟩ = some u := fun j u hu => by
    have e2 : Lib.byteCells (l ++ s) = Lib.byteCells l ++ Lib.byteCells s := by simp [Lib.byteCells]
    rw [Nat.add_assoc]
    refine hcell (e + j) u ?_
    rw [e2, List.getElem?_append_right (by rw [Lib.byteCells_length]; omega), Lib.byteCells_length, show e + j - l.length = j by omega]
    exact hu
  obtain ⟨w2, hw2⟩ : ∃ w2, w2 = (w.alloc (.cells (bv (zl 32)) 62)).drew := ⟨_, rfl⟩
  have hbw : Below w.heap.size w w2 := by rw [hw2]; exact ((Below.refl _ _).alloc (Nat.le_refl _) _).drew
  have HZ := Lib.hid (show w2.heap[w.heap.size]? = some (.cells (bv (zl 32)) 62 (0, 0)) by rw [hw2]; exact at_last _ _)
  have hbl : b < w.heap.size := hF b hFb
  have HCS := Lib.hid (show ∀ j u, (Lib.byteCells s)[j]? = some u → w2.cell? ⟨b, o + e + j, none⟩ = some u from fun j u hu => (World.cell?_of_block (a := ⟨b, o + e + j, none⟩) (hbw.block b hbl)).trans (hcs j u hu))
  obtain ⟨w4, hw4⟩ : ∃ w4, w4 = (w2.setRow w.heap.size (bv (bn s))).drew := ⟨_, rfl⟩
  have hb4 : Below w.heap.size w w4 := by rw [hw4]; exact (below_setR hbw (Nat.le_refl _) _).drew
  have hr4 : w4.heap[w.heap.size]? = some (.cells (bv (bn s)) 62 (0, 0)) := by rw [hw4]; exact setRow_heap _ _ _ _ _ _ HZ.out
  have HB4 := Lib.hid hb4
  have HR4 := Lib.hid hr4
  have HL4 := Lib.hid (show BysF w4 F (.slice (some ⟨b, o, none⟩) e e) l by
    unfold BysF
    rw [← he]
    exact ⟨_, _, rfl, Nat.le_refl _, fun _ => ⟨b, o, rfl, hFb, fun j u hu => (World.cell?_of_block (a := ⟨b, o + j, none⟩) (hb4.block b hbl)).trans (hcl j u hu)⟩⟩)
  have HS32 := Lib.hid hs
  have HFF := Lib.hid hF
  have hb32 : (bv (bn s)).size = 32 := by rw [Go.Sha.bv_size, bn_len, hs]
  have HB32 := Lib.hid hb32
  have HW2 := Lib.hid hw2
  have HW4 := Lib.hid hw4
  have hsub : IntKind.i64.wrap ((N : Int) - 32) = (e : Int) := by rw [IntKind.wrap_i64]; omega
  have HE := Lib.hid (fun W => run_end W b o N e cap hNe hcap)
  have HH := Lib.hid (fun W => run_head W b o N e cap (by omega) hcap)
  clear hs hp hcell hcl hcs hFb hF hbw hw2 hw4 hb4 hr4 hb32 hbl hN he hNe hcap hln
  go_enter Tryz.func13, Tryz.ntmps13
  go_upto_region 2 with fail
  refine wp_region_held (S := fun w' => w' = w2 ∨ True) (by kernel_rfl) ?_
  change wpAnyH _ _ _ _ _ _ _ _ (World.drew _)
  rw [← HW2.out]
  have HS := Lib.hid (show w2 = w2 ∨ True from .inl rfl)
  refine tkH (i := 0) (oi := ⟨some 8, .slice 62 (.tmp 3) none none none, _, _, _, none⟩) (v := .slice (some ⟨w.heap.size, 0, none⟩) 32 32) rfl qs HS.out ?_
  simp only [Act.put, zs1, zs2, zs3]
  refine tkH (i := 1) (oi := ⟨some 9, .move (.tmp 0), _, _, _, none⟩) (v := .slice (some ⟨b, o, none⟩) N cap) rfl qs HS.out ?_
  simp only [Act.put, zs1, zs2, zs3]
  refine tkH (i := 2) (oi := ⟨some 10, .move (.tmp 4), _, _, _, none⟩) (v := .int .i64 (e : Int)) rfl qs HS.out ?_
  simp only [Act.put, zs1, zs2, zs3]
  refine tkH (i := 3) (oi := ⟨some 11, .move (.tmp 0), _, _, _, none⟩) (v := .slice (some ⟨b, o, none⟩) N cap) rfl qs HS.out ?_
  simp only [Act.put, zs1, zs2, zs3]
  refine tkH (i := 4) (oi := ⟨some 12, .call ⟨.builtin .len, #[.tmp 11], _⟩, _, _, _, none⟩) (v := .int .i64 (N : Int)) rfl qs HS.out ?_
  simp only [Act.put, zs1, zs2, zs3]
  refine tkH (i := 5) (oi := ⟨some 13, .move (.tmp 0), _, _, _, none⟩) (v := .slice (some ⟨b, o, none⟩) N cap) rfl qs HS.out ?_
  simp only [Act.put, zs1, zs2, zs3]
  refine tkH (i := 6) (oi := ⟨some 14, .call ⟨.builtin .len, #[.tmp 13], _⟩, _, _, _, none⟩) (v := .int .i64 (N : Int)) rfl qs HS.out ?_
  simp only [Act.put, zs1, zs2, zs3]
  refine tkH (i := 7) (oi := ⟨some 15, .slice 39 (.tmp 9) (some (.tmp 10)) (some (.tmp 12)) (some (.tmp 14)), _, _, _, none⟩) (v := .slice (some ⟨b, o + e, none⟩) 32 32) rfl (Or.inl ⟨by rfl, fun w' hS => by unfold execOp; simp only [Act.eval, Option.map_some, Sem.run_bind]; have h := HE.out w'; go_simp⟩) HS.out ?_
  simp only [Act.put, zs1, zs2, zs3]
  refine wpAnyH_ready (rs := [8]) (by kernel_rfl) (by simp) (AllReadyH.cons (o := ⟨some 16, .call ⟨.builtin .copy, #[.tmp 8, .tmp 15], _⟩, _, _, _, none⟩) rfl (fun K' hK => ?_) AllReadyH.nil)
  refine step_copy rfl (.tmp 8) (.tmp 15) rfl w.heap.size 32 32 ⟨b, o + e, none⟩ 32 32 rfl rfl (bv (zl 32)) (bv (bn s)) 62 HZ.out (Lib.byteCells s) (by rw [Lib.byteCells_length, HS32.out]; rfl) (fun j u hu => by rw [Addr.add_mid]; exact HCS.out j u hu) (by rw [Lib.byteCells_length, HS32.out, Go.Sha.bv_size, Go.Sha.zl_len]; decide) (bys_one s) ?_ ?_
  · have hz : (bv (zl 32)).toList.drop (0 + (Lib.byteCells s).length) = [] := by
      apply List.drop_eq_nil_of_le
      rw [Array.length_toList, Go.Sha.bv_size, Go.Sha.zl_len, Lib.byteCells_length, HS32.out]; decide
    rw [hz, List.take_zero, List.nil_append, List.append_nil, bys_bv]
  refine hK.out _ _ (.inr True.intro) (fun _ => ?_)
  clear hK K'
  try simp only [Act.put, zs1, zs2, zs3]
  refine wpAnyH_done (by kernel_rfl) ?_ _
  rw [Lib.byteCells_length, HS32.out]
  go_upto_region 3 with fail
  refine wp_region_held (S := fun w' => w'.heap[w.heap.size]? = some (.cells (bv (bn s)) 62 (0, 0))) (by kernel_rfl) ?_
  change wpAnyH _ _ _ _ _ _ _ _ (World.drew _)
  rw [← HW4.out]
  refine tkH (i := 0) (oi := ⟨some 17, .move (.tmp 0), _, _, _, none⟩) (v := .slice (some ⟨b, o, none⟩) N cap) rfl qs HR4.out ?_
  simp only [Act.put, zs1, zs2, zs3]
  refine tkH (i := 1) (oi := ⟨some 18, .move (.tmp 4), _, _, _, none⟩) (v := .int .i64 (e : Int)) rfl qs HR4.out ?_
  simp only [Act.put, zs1, zs2, zs3]
  refine tkH (i := 2) (oi := ⟨some 19, .move (.tmp 4), _, _, _, none⟩) (v := .int .i64 (e : Int)) rfl qs HR4.out ?_
  simp only [Act.put, zs1, zs2, zs3]
  refine tkH (i := 3) (oi := ⟨some 20, .slice 39 (.tmp 17) none (some (.tmp 18)) (some (.tmp 19)), _, _, _, none⟩) (v := .slice (some ⟨b, o, none⟩) e e) rfl (Or.inl ⟨by rfl, fun w' hS => by unfold execOp; simp only [Act.eval, Option.map_some, Option.map_none, Sem.run_bind]; have h := HH.out w'; go_simp⟩) HR4.out ?_
  simp only [Act.put, zs1, zs2, zs3]
  refine tkH (i := 4) (oi := ⟨some 21, .load 62 (.tmp 3), _, _, _, none⟩) (v := .agg (bv (bn s))) rfl (Hs.yi_row' (by rfl) 62 (.tmp 3) rfl w.heap.size (bv (bn s)) 32 5 Tryz.underlying62 (by rw [HB32.out]; exact sizeDg) rfl (fun _ h => ⟨_, _, h⟩)) HR4.out ?_
  simp only [Act.put, zs1, zs2, zs3]
  refine tkH (i := 5) (oi := ⟨some 2, .assign (.tmp 20), _, _, _, none⟩) (v := .slice (some ⟨b, o, none⟩) e e) rfl qs HR4.out ?_
  simp only [Act.put, zs1, zs2, zs3]
  refine wpAnyH_ready (rs := [6]) (by kernel_rfl) (by simp) (AllReadyH.cons (o := ⟨none, .store 62 (.tmp 3) (.tmp 21), _, _, _, none⟩) rfl (fun K' hK => ?_) AllReadyH.nil)
  have HB5 := Lib.hid (show Below w.heap.size w (w4.setRow w.heap.size (bv (bn s))) from below_setR HB4.out (Nat.le_refl _) _)
  have HR5 := Lib.hid (setRow_heap w4 w.heap.size (bv (bn s)) (bv (bn s)) 62 (0, 0) HR4.out)
  have HL5 := Lib.hid (HL4.out.kept (w' := w4.setRow w.heap.size (bv (bn s))) (F' := F) (fun x hx => ⟨hx, setRow_other _ _ _ _ (by have := HFF.out x hx; omega)⟩))
  refine Go.Sha.step_store rfl 62 (.tmp 3) (.tmp 21) rfl w.heap.size 0 (bv (bn s)) (bv (bn s)) (bv (bn s)) 62 (by rw [HB32.out]; exact sizeDg) rfl rfl HR4.out (by omega) (Go.Sha.bv_one _) (by rw [List.take_zero, List.nil_append, List.drop_eq_nil_of_le (by rw [Array.length_toList]; omega), List.append_nil, Array.toArray_toList]) ?_
  refine hK.out _ _ HR5.out (fun _ => ?_)
  clear hK K'
  try (simp only [Act.put])
  refine wpAnyH_done (by kernel_rfl) ?_ _
  go_wp2
  refine bodyPost_ret (results_tmp_cell_row rfl _ _ w.heap.size 62 (bv (bn s)) (0, 0) _ rfl HR5.out Tryz.underlying62 rfl (by rw [HB32.out]; exact sizeDg)) rfl ?_
  exact ⟨some ⟨b, o, none⟩, rfl, HL5.out, HB5.out⟩
end Go.Proofs.YtgaoeljdlpemnaaGreatDoor
namespace Go.Proofs.YtgaoeljdlpemnaaGreatDoor
open Go.RowKit Go.Edi Go.Wrap Go.Lib
open Go.Sha (bv zl)

/-- what the closure holds -/
structure CloAt (c rb t : Nat) (tv : Value) (S : List Nat) (w : World) : Prop where
  h0 : w.heap[c]? = some (.cells #[.pointer (some ⟨rb, 0, none⟩)] 40 (0, 0))
  h1 : w.heap[c + 1]? = some (.cells #[.int .u8 (t : Int)] 5 (0, 0))
  h2 : w.heap[c + 2]? = some (.cells #[tv] 39 (0, 0))
  h3 : w.heap[c + 3]? = some (.cells (bv S) 62 (0, 0))
theorem CloAt.later {c rb t : Nat} {tv : Value} {S : List Nat} {w w' : World} (h : CloAt c rb t tv S w) (hb : Below w.heap.size w w') : CloAt c rb t tv S w' :=
  ⟨(hb.block _ (lt_of_heap h.h0)).trans h.h0, (hb.block _ (lt_of_heap h.h1)).trans h.h1, (hb.block _ (lt_of_heap h.h2)).trans h.h2, (hb.block _ (lt_of_heap h.h3)).trans h.h3⟩
/-- is it right, of a carrier to another one? -/
def rightB (K : Nat → Nat → Option Tx) (t : Nat) (text : Tx) (S : List Nat) (f : Nat) : Bool :=
  match K f t with
  | none => false
  | some key => decide (Go.Sha.macL (bn key) (bn text) = S)
abbrev cloV (c : Nat) : Value := .func (.func 23) #[] #[.pointer (some ⟨c, 0, none⟩), .pointer (some ⟨c + 1, 0, none⟩), .pointer (some ⟨c + 2, 0, none⟩), .pointer (some ⟨c + 3, 0, none⟩)]
set_option maxRecDepth 100000 in
set_option maxHeartbeats 3200000 in
theorem right1_any (c rb mb n cc t f : Nat) (K : Nat → Nat → Option Tx) (text : Tx) (tv : Value) (F : Nat → Prop) (S : List Nat) (B : Nat) (w : World) (hc : CloAt c rb t tv S w) (hr : RgAt rb mb n cc K w) (hf : f < 256) (ht : t < 256)
    (hlen : ∀ f t key, K f t = some key → key.length ≤ 64) (hv : BysF w F tv text) (hF : ∀ b, F b → b < w.heap.size) (hl : text.length ≤ 1000000) (hS : S.length = 32) (hS2 : Go.Sha.Lt 256 S) (he : Ev B w) (hB : B ≤ w.heap.size) :
    Calls Tryz.prog 23 #[.int .u8 (f : Int), .pointer (some ⟨c, 0, none⟩), .pointer (some ⟨c + 1, 0, none⟩), .pointer (some ⟨c + 2, 0, none⟩), .pointer (some ⟨c + 3, 0, none⟩)] w fun e w' => e = .returned (.bool (rightB K t text S f)) ∧ Below w.heap.size w w' := by
  obtain ⟨wb, hwb⟩ : ∃ wb, wb = w.drew := ⟨_, rfl⟩
  have hb0 : Below w.heap.size w wb := by rw [hwb]; exact (Below.refl _ _).drew
  have hc2 := hc.later hb0
  have hr2 := hr.later hb0
  obtain ⟨V, hlk, hky⟩ := hr2.map.look hf ht (zero_bytes wb)
  have hZ := hb0.size
  have HLK := Lib.hid hlk
  have HKY := Lib.hid hky
  have HRG := Lib.hid hr2
  have HCL := Lib.hid hc2
  have HB0 := Lib.hid hb0
  have HEV := Lib.hid (show ∀ wz, Below w.heap.size w wz → Ev B wz ∧ B ≤ wz.heap.size from fun wz hz => ⟨he.on (hz.mono hB), Nat.le_trans hB hz.size⟩)
  have HLN := Lib.hid hlen
  have HV := Lib.hid (hv.kept (w' := wb) (F' := F) (fun b hb => ⟨hb, hb0.block b (hF b hb)⟩))
  have HF := Lib.hid (show ∀ b, F b → b < wb.heap.size from fun b hb => Nat.lt_of_lt_of_le (hF b hb) hZ)
  have HL := Lib.hid hl
  have HS3 := Lib.hid (And.intro hS hS2)
  have HWB := Lib.hid hwb
  clear hwb hb0 hc2 hr2 hlk hky he hB hlen hv hF hl hS hS2 hc hr hZ hf ht
  go_enter Tryz.func23, Tryz.ntmps23
  go_upto_region 1 with fail
  refine wp_region_held (S := fun w' => w' = wb) (by kernel_rfl) ?_
  change wpAnyH _ _ _ _ _ _ _ _ (World.drew _)
  rw [← HWB.out]
  have HS := Lib.hid (show wb = wb from rfl)
  have hrow := HRG.out.row
  have hcl := HCL.out
  have hlr := lt_of_heap hrow
  have r1 := cell_of_arr hrow 1
  have q0 := cell_of_arr hcl.h0 0
  have q1 := cell_of_arr hcl.h1 0
  simp only [List.getElem?_toArray, List.getElem?_cons_zero, List.getElem?_cons_succ] at r1 q0 q1
  clear hrow hcl
  refine tkH (i := 0) (oi := ⟨some 10, .load 40 (.tmp 1), _, _, _, none⟩) (v := .pointer (some ⟨rb, 0, none⟩)) rfl (Or.inl ⟨by rfl, fun w' hS => by subst hS; go_simp⟩) HS.out ?_
  simp only [Act.put, zs1, zs2, zs3]
  refine tkH (i := 1) (oi := ⟨some 11, .nilCheck (.tmp 10), _, _, _, none⟩) (v := .pointer (some ⟨rb, 0, none⟩)) rfl (Or.inl ⟨by rfl, fun w' hS => by subst hS; go_simp⟩) HS.out ?_
  simp only [Act.put, zs1, zs2, zs3]
  refine tkH (i := 2) (oi := ⟨some 12, .fieldAddr 56 (.tmp 11) 1, _, _, _, none⟩) (v := .pointer (some ⟨rb, 1, none⟩)) rfl (Or.inl ⟨by rfl, fun w' hS => by subst hS; go_simp⟩) HS.out ?_
  simp only [Act.put, zs1, zs2, zs3]
  refine tkH (i := 3) (oi := ⟨some 13, .load 54 (.tmp 12), _, _, _, none⟩) (v := .map (some mb)) rfl (Or.inl ⟨by rfl, fun w' hS => by subst hS; go_simp⟩) HS.out ?_
  simp only [Act.put, zs1, zs2, zs3]
  refine tkH (i := 4) (oi := ⟨some 14, .move (.tmp 0), _, _, _, none⟩) (v := .int .u8 (f : Int)) rfl (Or.inl ⟨by rfl, fun w' hS => by subst hS; go_simp⟩) HS.out ?_
  simp only [Act.put, zs1, zs2, zs3]
  refine tkH (i := 5) (oi := ⟨some 15, .load 5 (.tmp 2), _, _, _, none⟩) (v := .int .u8 (t : Int)) rfl (Or.inl ⟨by rfl, fun w' hS => by subst hS; go_simp⟩) HS.out ?_
  simp only [Act.put, zs1, zs2, zs3]
  refine tkH (i := 6) (oi := ⟨some 16, .build 58 #[(0, .tmp 14), (1, .tmp 15)], _, _, _, none⟩) (v := kp f t) rfl (Or.inl ⟨by rfl, fun w' hS => by subst hS; unfold kp; go_simp⟩) HS.out ?_
  simp only [Act.put, zs1, zs2, zs3]
  refine tkH (i := 7) (oi := ⟨some 17, .lookup 54 (.tmp 13) (.tmp 16) true, _, _, _, none⟩) (v := .tuple #[V, .bool (K f t).isSome]) rfl (Or.inl ⟨by rfl, fun w' hS => by subst hS; have hl := HLK.out; go_simp⟩) HS.out ?_
  simp only [Act.put, zs1, zs2, zs3]
  refine tkH (i := 8) (oi := ⟨some 9, .move (.tmp 17), _, _, _, none⟩) (v := .tuple #[V, .bool (K f t).isSome]) rfl (Or.inl ⟨by rfl, fun w' hS => by subst hS; go_simp⟩) HS.out ?_
  simp only [Act.put, zs1, zs2, zs3]
  refine tkH (i := 9) (oi := ⟨some 18, .extract (.tmp 9) 0, _, _, _, none⟩) (v := V) rfl (Or.inl ⟨by rfl, fun w' hS => by subst hS; go_simp⟩) HS.out ?_
  simp only [Act.put, zs1, zs2, zs3]
  refine tkH (i := 10) (oi := ⟨some 19, .extract (.tmp 9) 1, _, _, _, none⟩) (v := .bool (K f t).isSome) rfl (Or.inl ⟨by rfl, fun w' hS => by subst hS; go_simp⟩) HS.out ?_
  simp only [Act.put, zs1, zs2, zs3]
  refine tkH (i := 11) (oi := ⟨some 7, .assign (.tmp 18), _, _, _, none⟩) (v := V) rfl (Or.inl ⟨by rfl, fun w' hS => by subst hS; go_simp⟩) HS.out ?_
  simp only [Act.put, zs1, zs2, zs3]
  refine tkH (i := 12) (oi := ⟨some 8, .assign (.tmp 19), _, _, _, none⟩) (v := .bool (K f t).isSome) rfl (Or.inl ⟨by rfl, fun w' hS => by subst hS; go_simp⟩) HS.out ?_
  simp only [Act.put, zs1, zs2, zs3]
  refine wpAnyH_done (by kernel_rfl) ?_ _
  clear r1 q0 q1 hlr HS
  cases hK : K f t with
  | none =>
    have HR := Lib.hid (show rightB K t text S f = false by unfold rightB; rw [hK])
    rw [hK] at HLK
    simp only [Option.isSome_none]
    go_upto_region 2 with fail
    refine wp_region_held (S := fun _ => True) (by kernel_rfl) ?_
    change wpAnyH _ _ _ _ _ _ _ _ (World.drew _)
    have HS := Lib.hid True.intro
    refine tkH (i := 0) (oi := ⟨some 20, .move (.tmp 8), _, _, _, none⟩) (v := .bool false) rfl qs HS.out ?_
    simp only [Act.put, zs1, zs2, zs3]
    refine tkH (i := 1) (oi := ⟨some 21, .move (.tmp 20), _, _, _, none⟩) (v := .bool false) rfl qs HS.out ?_
    simp only [Act.put, zs1, zs2, zs3]
    refine tkH (i := 2) (oi := ⟨some 22, .move (.tmp 7), _, _, _, some (1, true)⟩) (v := undef) rfl sko HS.out ?_
    simp only [Act.put, zs1, zs2, zs3]
    refine tkH (i := 3) (oi := ⟨some 23, .load 39 (.tmp 3), _, _, _, some (1, true)⟩) (v := undef) rfl sko HS.out ?_
    simp only [Act.put, zs1, zs2, zs3]
    refine tkH (i := 4) (oi := ⟨some 24, .call ⟨.value (.func 12), #[.tmp 22, .tmp 23], _⟩, _, _, _, some (1, true)⟩) (v := undef) rfl sko HS.out ?_
    simp only [Act.put, zs1, zs2, zs3]
    refine tkH (i := 5) (oi := ⟨some 25, .load 62 (.tmp 4), _, _, _, some (1, true)⟩) (v := undef) rfl sko HS.out ?_
    simp only [Act.put, zs1, zs2, zs3]
    refine tkH (i := 6) (oi := ⟨some 26, .call ⟨.value (.func 24), #[.tmp 24, .tmp 25], _⟩, _, _, _, some (1, true)⟩) (v := undef) rfl sko HS.out ?_
    simp only [Act.put, zs1, zs2, zs3]
    refine tkH (i := 7) (oi := ⟨some 27, .pick (.tmp 21) (.tmp 26) (.const (.bool false)), _, _, _, none⟩) (v := .bool false) rfl qs HS.out ?_
    simp only [Act.put, zs1, zs2, zs3]
    refine tkH (i := 8) (oi := ⟨some 6, .assign (.tmp 27), _, _, _, none⟩) (v := .bool false) rfl qs HS.out ?_
    simp only [Act.put, zs1, zs2, zs3]
    refine wpAnyH_done (by kernel_rfl) ?_ _
    go_wp2
    go_ret
    rw [HR.out]
    exact ⟨rfl, HB0.out.drew⟩
  | some key =>
    have hvk := HKY.out key hK
    obtain ⟨kpp, kcap, rfl⟩ : ∃ kpp kcap, V = .slice kpp key.length kcap := by obtain ⟨a, b, e, _⟩ := hvk; exact ⟨a, b, e⟩
    have HVK := Lib.hid hvk
    have HKL := Lib.hid (HLN.out f t key hK)
    have HR := Lib.hid (show rightB K t text S f = decide (Go.Sha.macL (bn key) (bn text) = S) by unfold rightB; rw [hK])
    rw [hK] at HLK
    simp only [Option.isSome_some]
    clear hvk hK
    go_upto_region 2 with fail
    obtain ⟨w2, hw2⟩ : ∃ w2, w2 = wb.drew := ⟨_, rfl⟩
    have hb2 : Below wb.heap.size wb w2 := by rw [hw2]; exact (Below.refl _ _).drew
    have HB2 := Lib.hid (HB0.out.trans (hb2.mono HB0.out.size))
    have HC2 := Lib.hid (HCL.out.later hb2)
    have hV2 := HVK.out.kept (w' := w2) (F' := fun b => rb < b ∧ b < wb.heap.size) (fun b hb => ⟨hb, hb2.block b hb.2⟩)
    have hT2 := HV.out.kept (w' := w2) (F' := F) (fun b hb => ⟨hb, hb2.block b (HF.out b hb)⟩)
    obtain ⟨tp, tcap, rfl⟩ : ∃ tp tcap, tv = .slice tp text.length tcap := by obtain ⟨a, b, e, _⟩ := hT2; exact ⟨a, b, e⟩
    have hz2 : wb.heap.size ≤ w2.heap.size := hb2.size
    have HMC := Lib.hid (Hs.macOf_any (bn key) (bn text) (.slice kpp key.length kcap) (.slice tp text.length tcap) w2 (bn_lt _) (bn_lt _) (by rw [bn_len]; have := HKL.out; omega) (by rw [bn_len]; have := HL.out; omega) (HEV.out _ HB2.out).1.gl (bys_byt hV2 (fun b hb => by omega)) (bys_byt hT2 (fun b hb => by have := HF.out b hb; omega)))
    have HW2 := Lib.hid hw2
    clear hw2 hb2 hV2 hT2 hz2
    refine wp_region_held (S := fun w' => CloAt c rb t (.slice tp text.length tcap) S w') (by kernel_rfl) ?_
    change wpAnyH _ _ _ _ _ _ _ _ (World.drew _)
    rw [← HW2.out]
    have HS := Lib.hid HC2.out
    refine tkH (i := 0) (oi := ⟨some 20, .move (.tmp 8), _, _, _, none⟩) (v := .bool true) rfl qs HS.out ?_
    simp only [Act.put, zs1, zs2, zs3]
    refine tkH (i := 1) (oi := ⟨some 21, .move (.tmp 20), _, _, _, none⟩) (v := .bool true) rfl qs HS.out ?_
    simp only [Act.put, zs1, zs2, zs3]
    refine tkH (i := 2) (oi := ⟨some 22, .move (.tmp 7), _, _, _, some (1, true)⟩) (v := .slice kpp key.length kcap) rfl qs HS.out ?_
    simp only [Act.put, zs1, zs2, zs3]
    refine tkH (i := 3) (oi := ⟨some 23, .load 39 (.tmp 3), _, _, _, some (1, true)⟩) (v := .slice tp text.length tcap) rfl (Or.inl ⟨by rfl, fun w' hS => by have q2 := cell_of_arr hS.h2 0; simp only [List.getElem?_toArray, List.getElem?_cons_zero] at q2; go_simp⟩) HS.out ?_
    simp only [Act.put, zs1, zs2, zs3]
    refine tkH (i := 5) (oi := ⟨some 25, .load 62 (.tmp 4), _, _, _, some (1, true)⟩) (v := .agg (bv S)) rfl (Hs.yi_row' (by rfl) 62 (.tmp 4) rfl (c + 3) (bv S) 32 5 Tryz.underlying62 (by rw [Go.Sha.bv_size, HS3.out.1]; exact sizeDg) rfl (fun _ h => ⟨_, _, h.h3⟩)) HS.out ?_
    simp only [Act.put, zs1, zs2, zs3]
    refine wpAnyH_ready (rs := [4]) (by kernel_rfl) (by simp) (AllReadyH.cons (o := ⟨some 24, .call ⟨.value (.func 12), #[.tmp 22, .tmp 23], _⟩, _, _, _, some (1, true)⟩) rfl (fun K' hK => ?_) AllReadyH.nil)
    go_simp
    refine (HMC.out).mono ?_
    rintro e w3 ⟨rfl, hb3⟩
    have HB3 := Lib.hid (HB2.out.trans (hb3.mono HB2.out.size))
    have HC3 := Lib.hid (HC2.out.later hb3)
    clear hb3
    refine hK.out _ _ HC3.out (fun _ => ?_)
    clear hK K'
    try simp only [Act.put, zs1, zs2, zs3]
    refine wpAnyH_ready (rs := [6]) (by kernel_rfl) (by simp) (AllReadyH.cons (o := ⟨some 26, .call ⟨.value (.func 24), #[.tmp 24, .tmp 25], _⟩, _, _, _, some (1, true)⟩) rfl (fun K' hK => ?_) AllReadyH.nil)
    go_simp
    refine (Hs.same_any (Go.Sha.macL (bn key) (bn text)) S w3 (Go.Sha.macL_len _ _) HS3.out.1 (Go.Sha.macL_lt _ _) HS3.out.2).mono ?_
    rintro e w4 ⟨rfl, hb4⟩
    have HB4 := Lib.hid (HB3.out.trans (hb4.mono HB3.out.size))
    have HC4 := Lib.hid (HC3.out.later hb4)
    clear hb4
    obtain ⟨r, hrr⟩ : ∃ r, r = decide (Go.Sha.macL (bn key) (bn text) = S) := ⟨_, rfl⟩
    rw [← hrr] at HR ⊢
    clear hrr
    refine hK.out _ _ HC4.out (fun _ => ?_)
    clear hK K'
    try simp only [Act.put, zs1, zs2, zs3]
    refine tkH (i := 7) (oi := ⟨some 27, .pick (.tmp 21) (.tmp 26) (.const (.bool false)), _, _, _, none⟩) (v := .bool r) rfl qs HC4.out ?_
    simp only [Act.put, zs1, zs2, zs3]
    refine tkH (i := 8) (oi := ⟨some 6, .assign (.tmp 27), _, _, _, none⟩) (v := .bool r) rfl qs HC4.out ?_
    simp only [Act.put, zs1, zs2, zs3]
    refine wpAnyH_done (by kernel_rfl) ?_ _
    go_wp2
    go_ret
    rw [HR.out]
    exact ⟨rfl, HB4.out⟩
set_option maxRecDepth 100000 in
theorem rightFor_any (rb t : Nat) (tp : Option Addr) (N tcap : Nat) (S : List Nat) (w : World) :
    Calls Tryz.prog 14 #[.pointer (some ⟨rb, 0, none⟩), .int .u8 (t : Int), .slice tp N tcap, .agg (bv S)] w fun e w' => e = .returned (cloV w.heap.size) ∧ CloAt w.heap.size rb t (.slice tp N tcap) S w' ∧ Below w.heap.size w w' := by
  obtain ⟨w4, hw4⟩ : ∃ w4, w4 = (((w.alloc (.cells #[.pointer (some ⟨rb, 0, none⟩)] 40)).alloc (.cells #[.int .u8 (t : Int)] 5)).alloc (.cells #[.slice tp N tcap] 39)).alloc (.cells (bv S) 62) := ⟨_, rfl⟩
  have HC := Lib.hid (show CloAt w.heap.size rb t (.slice tp N tcap) S w4 by
    rw [hw4]
    refine ⟨?_, ?_, ?_, ?_⟩
    · exact heap_past _ _ _ (by simp only [size_a]; omega) (heap_past _ _ _ (by simp only [size_a]; omega) (heap_past _ _ _ (by simp only [size_a]; omega) (heap_new _ _ _ rfl)))
    · exact heap_past _ _ _ (by simp only [size_a]; omega) (heap_past _ _ _ (by simp only [size_a]; omega) (heap_new _ _ _ (by simp only [size_a])))
    · exact heap_past _ _ _ (by simp only [size_a]; omega) (heap_new _ _ _ (by simp only [size_a]))
    · exact heap_new _ _ _ (by simp only [size_a]))
  have HB := Lib.hid (show Below w.heap.size w w4 by
    rw [hw4]
    exact ((((Below.refl _ _).alloc (Nat.le_refl _) _).alloc (by simp only [size_a]; omega) _).alloc (by simp only [size_a]; omega) _).alloc (by simp only [size_a]; omega) _)
  have HW := Lib.hid hw4
  clear hw4
  go_enter Tryz.func14, Tryz.ntmps14
  go_wp2
  go_ret
  rw [← HW.out]
  exact ⟨rfl, HC.out, HB.out⟩
/-- is it right of anybody? -/
def anyB (n : Nat) (K : Nat → Nat → Option Tx) (t : Nat) (text : Tx) (S : List Nat) : Bool := (List.range n).any (rightB K t text S)
set_option maxRecDepth 100000 in
set_option maxHeartbeats 1600000 in
theorem ofAnybody_any (c rb mb n cc t : Nat) (K : Nat → Nat → Option Tx) (text : Tx) (tv : Value) (F : Nat → Prop) (S : List Nat) (B : Nat) (w : World) (hc : CloAt c rb t tv S w) (hr : RgAt rb mb n cc K w) (hn : n ≤ 8) (ht : t < 256)
    (hlen : ∀ f t key, K f t = some key → key.length ≤ 64) (hv : BysF w F tv text) (hF : ∀ b, F b → b < w.heap.size) (hl : text.length ≤ 1000000) (hS : S.length = 32) (hS2 : Go.Sha.Lt 256 S) (he : Ev B w) (hB : B ≤ w.heap.size) :
    Calls Tryz.prog 15 #[.pointer (some ⟨rb, 0, none⟩), cloV c] w fun e w' => e = .returned (.bool (anyB n K t text S)) ∧ Below w.heap.size w w' := by
  have HQ := Lib.hid (show ∀ (f : Nat) (wz : World), f < 256 → Below w.heap.size w wz → Calls Tryz.prog 23 #[.int .u8 (f : Int), .pointer (some ⟨c, 0, none⟩), .pointer (some ⟨c + 1, 0, none⟩), .pointer (some ⟨c + 2, 0, none⟩), .pointer (some ⟨c + 3, 0, none⟩)] wz fun e w' => e = .returned (.bool (rightB K t text S f)) ∧ Below wz.heap.size wz w' from
    fun f wz hf hz => right1_any c rb mb n cc t f K text tv F S B wz (hc.later hz) (hr.later hz) hf ht hlen (hv.kept (fun b hb => ⟨hb, hz.block b (hF b hb)⟩)) (fun b hb => Nat.lt_of_lt_of_le (hF b hb) hz.size) hl hS hS2 (he.on (hz.mono hB)) (Nat.le_trans hB hz.size))
  have c0 := cell_of_arr hr.row 0
  simp only [List.getElem?_toArray, List.getElem?_cons_zero] at c0
  have hlr := lt_of_heap hr.row
  have hn8 : (n : Int) ≤ 8 := by omega
  have HN := Lib.hid hn
  clear hc hr hn ht hlen hv hF hl hS hS2 he hB
  go_enter Tryz.func15, Tryz.ntmps15
  go_wp2
  go_loopw [5, 10] (fun _ x wr => ∃ i : Nat, x = .int .i64 (i : Int) ∧ i ≤ n ∧ (List.range i).any (rightB K t text S) = false ∧ Below w.heap.size w wr) (fun _ x _ => n - (intOf x).toNat)
  case atStart => exact ⟨0, rfl, Nat.zero_le _, rfl, Below.refl _ _⟩
  case round =>
    obtain ⟨i, rfl, hi, hno, hbl⟩ := hrel
    have HNO := Lib.hid hno
    have HBL := Lib.hid hbl
    clear hno hbl
    by_cases hlt : (i : Int) < (n : Int)
    · have hi0 : (0 : Int) ≤ (i : Int) := Int.natCast_nonneg _
      have hw8 : IntKind.u8.wrap (i : Int) = (i : Int) := IntWalk.u8_in _ (by omega)
      have HC := Lib.hid (HQ.out i wr (by have := HN.out; omega) HBL.out)
      have HSU := Lib.hid (show ∀ b, rightB K t text S i = b → (List.range (i + 1)).any (rightB K t text S) = b from fun b hb => by rw [List.range_succ, List.any_append, HNO.out, Bool.false_or]; simpa using hb)
      have HAN := Lib.hid (show rightB K t text S i = true → anyB n K t text S = true from fun h => by
        unfold anyB
        rw [List.any_eq_true]
        exact ⟨i, List.mem_range.2 (by omega), h⟩)
      cases hq : rightB K t text S i with
      | true =>
        have HA := Lib.hid (HAN.out hq)
        rw [hq] at HC
        clear hq
        go_wp2_with (go_at_call 23; refine (HC.out).mono ?_; rintro e w2 ⟨rfl, hb2⟩; have HB2 := Lib.hid (HBL.out.trans (hb2.mono HBL.out.size)); clear hb2)
        go_ret
        rw [HA.out]
        exact ⟨rfl, HB2.out⟩
      | false =>
        have HA := Lib.hid (HSU.out _ hq)
        rw [hq] at HC
        clear hq
        go_wp2_with (go_at_call 23; refine (HC.out).mono ?_; rintro e w2 ⟨rfl, hb2⟩; have HB2 := Lib.hid (HBL.out.trans (hb2.mono HBL.out.size)); clear hb2)
        go_roundw
        case rel => exact ⟨i + 1, by go_num, by omega, HA.out, HB2.out⟩
        case measure => simp [intOf]; omega
    · obtain rfl : i = n := by omega
      have HA := Lib.hid (show anyB i K t text S = false from HNO.out)
      go_wp2
      go_ret
      rw [HA.out]
      exact ⟨rfl, HBL.out⟩
end Go.Proofs.YtgaoeljdlpemnaaGreatDoor
