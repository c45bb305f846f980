/- Contract of Make. -/
import Derived.Test.YtpapcilffkpjjaaTkMk
import Derived.Laws.ResultCell
namespace Go.Proofs.Ytpapcilffkpjjaa
open Go.Shelf Go.RowKit Go.Lib Go.Money Go.Pror Go.Tick

abbrev u8v (c : Nat) : Value := .int .u8 (c : Int)
abbrev u64v (c : Nat) : Value := .int .u64 (c : Int)
abbrev zDoc : Array Value := #[.int .u8 0, .int .u64 0, .string ⟨#[]⟩, .slice none 0 0, iv 0, .slice none 0 0, iv 0, .slice none 0 0, .int .u8 0, .int .u64 0, .int .u8 0, .int .u64 0, iv 0, iv 0, iv 0, iv 0, iv 0]
abbrev tkV (c s : Nat) : Array Value := #[u8v c, u64v s]
/-- values laid from a cell on -/
def setL (g : Nat) : World → Nat → List Value → World
  | w, _, [] => w
  | w, i, v :: r => setL g (w.setCell ⟨g, i, none⟩ v) (i + 1) r
theorem setL_size (g : Nat) : ∀ (vs : List Value) (w : World) (i : Nat), (setL g w i vs).heap.size = w.heap.size
  | [], _, _ => rfl
  | v :: r, w, i => by
    show (setL g (w.setCell ⟨g, i, none⟩ v) (i + 1) r).heap.size = _
    rw [setL_size g r]; simp [World.setCell]
theorem setL_other (g : Nat) {b : Nat} (hb : b ≠ g) : ∀ (vs : List Value) (w : World) (i : Nat), (setL g w i vs).heap[b]? = w.heap[b]?
  | [], _, _ => rfl
  | v :: r, w, i => by
    show (setL g (w.setCell ⟨g, i, none⟩ v) (i + 1) r).heap[b]? = _
    rw [setL_other g hb r]
    exact Below.heap_setCell _ _ _ _ hb
theorem setL_below (g B : Nat) (hB : B ≤ g) : ∀ (vs : List Value) (w w0 : World) (i : Nat), Below B w0 w → Below B w0 (setL g w i vs)
  | [], _, _, _, h => h
  | v :: r, w, w0, i, h => setL_below g B hB r (w.setCell ⟨g, i, none⟩ v) w0 (i + 1) (h.setCell (p := ⟨g, i, none⟩) hB v)
theorem setL_row (g : Nat) (ty : TypeId) : ∀ (vs : List Value) (w : World) (pre old : List Value), w.heap[g]? = some (.cells (pre ++ old).toArray ty (0, 0)) → old.length = vs.length → (setL g w pre.length vs).heap[g]? = some (.cells (pre ++ vs).toArray ty (0, 0))
  | [], w, pre, old, h, hl => by
    have : old = [] := List.eq_nil_of_length_eq_zero hl
    subst this; exact h
  | v :: r, w, pre, [], h, hl => by simp at hl
  | v :: r, w, pre, o :: old, h, hl => by
    have h1 := heap_setCell_same w g pre.length _ ty v h
    have e : ((pre ++ o :: old).toArray.setIfInBounds pre.length v) = ((pre ++ [v]) ++ old).toArray := by
      rw [List.setIfInBounds_toArray]; simp
    rw [e] at h1
    have := setL_row g ty r (w.setCell ⟨g, pre.length, none⟩ v) (pre ++ [v]) old h1 (by simpa using hl)
    show (setL g (w.setCell ⟨g, pre.length, none⟩ v) (pre.length + 1) r).heap[g]? = _
    have e2 : pre.length + 1 = (pre ++ [v]).length := by simp
    rw [e2, this]; simp
theorem setL_all {w : World} {g : Nat} {ty : TypeId} {cs : Array Value} (vs : List Value) (h : w.heap[g]? = some (.cells cs ty (0, 0))) (hl : cs.size = vs.length) : (setL g w 0 vs).heap[g]? = some (.cells vs.toArray ty (0, 0)) := by
  have := setL_row g ty vs w [] cs.toList (by simpa using h) (by simpa using hl)
  simpa using this
theorem sizeDoc : (Try.prog.info? 31).map (·.size) = some 17 := by kernel_rfl
theorem results_cell_tmp_row {P : Program} {fn : Func} {p u : Tmp} {ty : TypeId} (h : fn.results = #[.cell p ty, .tmp u])
    (tmps : Array Value) (w : World) (g : Nat) (t : TypeId) (cs : Array Value) (fr : Nat × Nat) (d : TypeDesc)
    (hp : tmps.getD p undef = .pointer (some ⟨g, 0, none⟩)) (hg : w.heap[g]? = some (.cells cs t fr))
    (hu : P.underlying ty = some d) (hd : (match d with | .struct _ | .array _ _ => true | _ => false) = true) (hi : (P.info? ty).map (·.size) = some cs.size) :
    (results fn tmps).run P w = .ok (.tuple #[.agg cs, tmps.getD u undef]) w := by
  rw [results_cell_tmp h, hp]
  simp only [asAddr, Sem.run_pure, Result.andThen_ok, run_loadVar_row w g t ty cs fr d hg hu hd hi]
theorem below_setR {B g : Nat} {w0 w : World} (h : Below B w0 w) (hB : B ≤ g) (cs : Array Value) : Below B w0 (w.setRow g cs) :=
  ⟨h.os, h.tape, h.output, by rw [size_setRow]; exact h.size, fun k hk => by
    show (w.heap.modify g _)[k]? = _
    rw [Array.getElem?_modify, if_neg (by omega)]; exact h.block k hk⟩
theorem other_setR (w : World) (g b : Nat) (hb : b ≠ g) (cs : Array Value) : (w.setRow g cs).heap[b]? = w.heap[b]? := by
  show (w.heap.modify g _)[b]? = _
  rw [Array.getElem?_modify, if_neg (fun e => hb e.symm)]
theorem zDoc_one : zDoc.all (·.oneCell') = true := by decide +kernel
theorem mk_start (c sr : Nat) (s : Sl) (lp : Option Addr) (lc : Nat) (tp : Option Addr) (tc : Nat) (w : World) :
    (((w.alloc (.cells (tkV c sr) 24)).alloc (.cells (saV s lp lc tp tc) 28)).alloc (.cells zDoc 31)).heap[w.heap.size + 1 + 1]? = some (.cells zDoc 31 (0, 0)) := heap_last _ _ _ (by simp)
set_option maxRecDepth 100000 in
set_option maxHeartbeats 1600000 in
theorem make_bad1 (c sr : Nat) (s : Sl) (n : Int) (lp : Option Addr) (lc : Nat) (tp : Option Addr) (tc : Nat) (w : World) (hc : c < 256) (hk : tkB c sr n = false) :
    Calls Try.prog 14 #[.agg (tkV c sr), .agg (saV s lp lc tp tc), iv n] w fun e w' => e = .returned (.tuple #[.agg zDoc, iv 1]) ∧ Below w.heap.size w w' := by
  have HT := Lib.hid (fun W => ticket_any c sr n hc W)
  rw [hk] at HT
  have hb0 : Below w.heap.size w (((w.alloc (.cells (tkV c sr) 24)).alloc (.cells (saV s lp lc tp tc) 28)).alloc (.cells zDoc 31)) := (((Below.refl _ _).alloc (Nat.le_refl _) _).alloc (by simp) _).alloc (by simp; omega) _
  have HD0 := Lib.hid (mk_start c sr s lp lc tp tc w)
  have HB0 := Lib.hid hb0
  clear hc hk hb0
  go_enter Try.func14, Try.ntmps14
  go_wp2_with (first
    | (go_at_call 27; refine (HT.out _).mono ?_; rintro e w2 ⟨rfl, hb2⟩
       have HD := Lib.hid ((hb2.block _ (lt_heap HD0.out)).trans HD0.out)
       have HB := Lib.hid (HB0.out.trans (hb2.mono HB0.out.size))
       clear hb2)
    | (refine wpList_store_row rfl 31 _ _ rfl (w.heap.size + 1 + 1) zDoc rfl rfl 31 zDoc HD.out sizeDoc rfl zDoc_one ?_))
  refine bodyPost_ret (results_cell_tmp_row rfl _ _ (w.heap.size + 1 + 1) 31 zDoc (0, 0) _ rfl (setRow_heap _ _ _ _ _ _ HD.out) Try.underlying31 rfl sizeDoc) rfl ?_
  exact ⟨rfl, below_setR HB.out (by omega) _⟩
set_option maxRecDepth 100000 in
set_option maxHeartbeats 1600000 in
theorem make_bad2 (c sr : Nat) (s : Sl) (n : Int) (lp : Option Addr) (lc : Nat) (tp : Option Addr) (tc : Nat) (w : World) (hc : c < 256) (hk : tkB c sr n = true) (hL : Row w 3 lgC lp s.legs) (hT : Row w 2 txC tp s.taxes) (hl : s.legs.length ≤ 1000) (ht : s.taxes.length ≤ 1000) (ec : Int) (he : chkL s n = ec) (he0 : ec ≠ 0) :
    Calls Try.prog 14 #[.agg (tkV c sr), .agg (saV s lp lc tp tc), iv n] w fun e w' => e = .returned (.tuple #[.agg zDoc, iv ec]) ∧ Below w.heap.size w w' := by
  have HT := Lib.hid (fun W => ticket_any c sr n hc W)
  rw [hk] at HT
  have hb0 : Below w.heap.size w (((w.alloc (.cells (tkV c sr) 24)).alloc (.cells (saV s lp lc tp tc) 28)).alloc (.cells zDoc 31)) := (((Below.refl _ _).alloc (Nat.le_refl _) _).alloc (by simp) _).alloc (by simp; omega) _
  have HC := Lib.hid (fun W (h : Below w.heap.size w W) => tkcheck_any s n lp lc tp tc W (hL.keep h) (hT.keep h) hl ht)
  rw [he] at HC
  have HD0 := Lib.hid (mk_start c sr s lp lc tp tc w)
  have HS0 := Lib.hid (show (((w.alloc (.cells (tkV c sr) 24)).alloc (.cells (saV s lp lc tp tc) 28)).alloc (.cells zDoc 31)).heap[w.heap.size + 1]? = some (.cells (saV s lp lc tp tc) 28 (0, 0)) by rw [Below.heap_alloc _ _ _ (by simp)]; exact heap_last _ _ _ (by simp))
  have HB0 := Lib.hid hb0
  have hne : (ec != 0) = true := by rw [bne_iff_ne]; exact he0
  clear hc hk hb0 hL hT hl ht he he0
  go_enter Try.func14, Try.ntmps14
  go_wp2_with (first
    | (go_at_call 27; refine (HT.out _).mono ?_; rintro e w2 ⟨rfl, hb2⟩
       have HD := Lib.hid ((hb2.block _ (lt_heap HD0.out)).trans HD0.out)
       have HS := Lib.hid ((hb2.block _ (lt_heap HS0.out)).trans HS0.out)
       have HB := Lib.hid (HB0.out.trans (hb2.mono HB0.out.size))
       clear hb2)
    | (refine wpList_load_row rfl 28 _ rfl (w.heap.size + 1) rfl 28 (saV s lp lc tp tc) (0, 0) _ HS.out Try.underlying28 rfl sizeSale ?_)
    | (go_at_call 16; refine (HC.out _ HB.out).mono ?_; rintro e w3 ⟨rfl, hb3⟩
       have HD3 := Lib.hid ((hb3.block _ (lt_heap HD.out)).trans HD.out)
       have HB3 := Lib.hid (HB.out.trans (hb3.mono HB.out.size))
       clear hb3)
    | (refine wpList_store_row rfl 31 _ _ rfl (w.heap.size + 1 + 1) zDoc rfl rfl 31 zDoc HD3.out sizeDoc rfl zDoc_one ?_))
  refine bodyPost_ret (results_cell_tmp_row rfl _ _ (w.heap.size + 1 + 1) 31 zDoc (0, 0) _ rfl (setRow_heap _ _ _ _ _ _ HD3.out) Try.underlying31 rfl sizeDoc) rfl ?_
  exact ⟨rfl, below_setR HB3.out (by omega) _⟩
end Go.Proofs.Ytpapcilffkpjjaa
