/- The document's own Print: flags and bytes, as the plain model has them (few and short segments). -/
import Derived.Test.YtlonmmnaipclcaaDoorEdiW9
import Derived.Test.YtlonmmnaipclcaaDoorEdiLt
import Derived.Test.YtlonmmnaipclcaaDoorEdiSm
import Derived.Deep.DeepCutAuto
import Derived.Test.YtlonmmnaipclcaaDoorEdiR2
namespace Go.Proofs.YtlonmmnaipclcaaDoor
open Go.RowKit Go.Edi

theorem jn_snoc2 (a : List Tx) (z : Tx) : jn [58] (a ++ [z]) = jn [58] a ++ ((if a = [] then [] else [58]) ++ z) := by
  match a with
  | [] => simp [jn, jnT]
  | x :: r => simp [jn, jnT_app, jnT]
theorem mkd_one (c : UInt8) : mkd [c] = if sgn c then [63, c] else [c] := by simp [mkd]
theorem isTag_eq (t : Tx) : isTag t = (decide (t.length = 3) && t.all tgc) := by
  match t with
  | [] => rfl
  | [a] => rfl
  | [a, b] => rfl
  | [a, b, c] => simp [isTag, Bool.and_assoc]
  | a :: b :: c :: d :: r => simp [isTag]
theorem map_nil_iff (e : List Tx) (q : Nat) (h : q < e.length) : ((e.take q).map mkd = []) = (q = 0) := by
  rw [List.map_eq_nil_iff, List.take_eq_nil_iff]
  refine propext ⟨fun h1 => h1.elim id (fun h2 => by rw [h2] at h; simp at h), Or.inl⟩
theorem bound4' (A B C : Nat) (h : C ≤ 240040) : A + 300 + B + 1 + C ≤ A + 300 + (B + 240041) := by omega
theorem bound4 (n k j q : Nat) (h : n ≤ k * 9601941 + 300 + j * 240041 + 1 + q * 6001) (hq : q ≤ 40) : n ≤ k * 9601941 + 300 + (j + 1) * 240041 := by
  rw [Nat.succ_mul]
  exact Nat.le_trans h (bound4' _ _ _ (Nat.mul_le_mul_right 6001 hq))
theorem bound3 (n k j : Nat) (h : n ≤ k * 9601941 + 300 + j * 240041) (hj : j ≤ 40) : n + 1 ≤ (k + 1) * 9601941 := by omega
theorem ltd (a n : Nat) : decide (a < n) = !decide (n ≤ a) := by rw [Bool.eq_iff_iff]; simp
theorem sep_iff (e : List Tx) (q : Nat) (h : q < e.length) : (if (e.take q).map mkd = [] then ([] : Tx) else [58]) = (if q = 0 then [] else [58]) := by
  by_cases h0 : q = 0
  · subst h0; rfl
  · rw [if_neg h0, if_neg (by rw [map_nil_iff e q h]; exact h0)]
theorem bnot_t {b : Bool} (h : true = !b) : ¬ b = true := by cases b <;> simp_all
theorem bnot_f {b : Bool} (h : false = !b) : b = true := by cases b <;> simp_all
/-- bytes of one's own, and the segment that lies in block M -/
structure BtI (w : World) (M : Nat) (seg : Array Value) (bs : Tx) (n : Nat) (v : Value) (wr : World) : Prop where
  own : wr.ownsRow w.heap.size 5 1 v n (Lib.byteCells bs)
  hm : wr.heap[M]? = some (.cells seg 36 (0, 0))
  bl : Below w.heap.size w wr
theorem BtI.app {w wr w2 : World} {M : Nat} {seg : Array Value} {bs : Tx} {n : Nat} {v v' : Value} {c : UInt8} {o : Obj} (h : BtI w M seg bs n v wr) (ho : w2.ownsRow w.heap.size 5 1 v' (n + 1) (Lib.byteCells bs ++ [by8 c])) (hgr : (wr.alloc o).grownBy w2 v.ownBlock) : BtI w M seg (bs ++ [c]) (n + 1) v' w2 := by
  have hlt : M < wr.heap.size := (Array.getElem?_eq_some_iff.1 h.hm).1
  refine ⟨by rw [← cellsByte]; exact ho, ?_, below_app h.bl (Nat.le_refl _) hgr (fun k hk => (h.own.lt k hk).1)⟩
  exact (hgr.block M (by simp; omega) (own_not h.own h.hm (by decide))).trans ((Below.heap_alloc _ _ _ hlt).trans h.hm)
theorem BtI.appS {w wr w2 : World} {M : Nat} {seg : Array Value} {bs t : Tx} {n : Nat} {v v' : Value} (h : BtI w M seg bs n v wr) (ho : w2.ownsRow w.heap.size 5 1 v' (n + (tx t).size) (Lib.byteCells bs ++ Lib.strCells (tx t))) (hgr : wr.grownBy w2 v.ownBlock) : BtI w M seg (bs ++ t) (n + t.length) v' w2 := by
  have hlt : M < wr.heap.size := (Array.getElem?_eq_some_iff.1 h.hm).1
  have hsz : (tx t).size = t.length := by simp [tx, ByteArray.size]
  have e : Lib.byteCells (bs ++ t) = Lib.byteCells bs ++ Lib.strCells (tx t) := by simp [Lib.byteCells, Lib.strCells, tx]
  refine ⟨by rw [e, ← hsz]; exact ho, (hgr.block M hlt (own_not h.own h.hm (by decide))).trans h.hm, h.bl.grown hgr h.bl.size (fun k hk => (h.own.lt k hk).1)⟩
theorem BtI.cells {w wr : World} {M : Nat} {a b : Value} {bs : Tx} {n : Nat} {v : Value} (h : BtI w M #[a, b] bs n v wr) : wr.cell? ⟨M, 0, none⟩ = some a ∧ wr.cell? ⟨M, 1, none⟩ = some b := ⟨by simp [World.cell?, h.hm], by simp [World.cell?, h.hm]⟩
set_option maxRecDepth 100000 in
set_option maxHeartbeats 25600000 in
theorem rprint_any (l : List Sg) (v : Value) (w : World) (hv : SegsF w (· < w.heap.size) v l) (hl : light l) :
    Calls Tryd.prog 21 #[v] w fun e w' => e = .returned (.tuple #[str (printL l).1, .int .i64 ((printL l).2 : Nat)]) ∧ Below w.heap.size w w' := by
  obtain ⟨xs, ⟨p, cap, rfl, hnc, hp⟩, hx⟩ := hv
  obtain ⟨i0, hi, hz0, hz1, hz2⟩ := info_parts par_u8
  have HI := Lib.hid hi
  have HZ0 := Lib.hid hz0
  have HZ1 := Lib.hid hz1
  have HZ2 := Lib.hid hz2
  have HP := Lib.hid hp
  have HX := Lib.hid hx
  have HL := Lib.hid hl
  clear hp hx hl hi hz0 hz1 hz2
  go_enter Tryd.func21, Tryd.ntmps21
  go_wp2
  go_loopw [4, 5, 6, 7, 8] (fun b a s g i wr => ∃ (k n : Nat) (fa fs fg : Bool) (pb : Option Addr) (cb : Nat), i = .int .i64 k ∧ a = .bool fa ∧ s = .bool fs ∧ g = .bool fg ∧ b = .slice pb n cb ∧ k ≤ l.length ∧ Hid (fa = !(l.take k).all wholeS) ∧ Hid (fs = !(l.take k).all plainS) ∧ Hid (fg = (decide (64 < l.length) || !(l.take k).all shortS)) ∧
    n ≤ k * 9601941 ∧ wr.ownsRow w.heap.size 5 1 (.slice pb n cb) n (Lib.byteCells (txT (l.take k))) ∧ Below w.heap.size w wr) (fun _ _ _ _ i _ => l.length - (intOf i).toNat)
  case atStart =>
    refine ⟨0, 0, false, false, _, none, 0, rfl, rfl, rfl, rfl, rfl, Nat.zero_le _, Lib.hid rfl, Lib.hid rfl, Lib.hid ?_, by omega, World.ownsRow_nil _ _ _ _, Below.refl _ _⟩
    simp
    omega
  case round =>
    obtain ⟨k, n, fa, fs, fg, pb, cb, rfl, rfl, rfl, rfl, rfl, hk, HA, HS, HG, hn, hown, hbl⟩ := hrel
    have HO := Lib.hid hown
    have HB := Lib.hid hbl
    by_cases hlt : (k : Int) < (l.length : Int)
    · have hkl : k < l.length := by omega
      have hk0 : (0 : Int) ≤ (k : Int) := Int.natCast_nonneg _
      obtain ⟨ba, oa, rfl, hFa, hca⟩ := HP.out (by omega)
      obtain ⟨a1, pea, capea, ysa, a2, _, rowa, ela⟩ := seg_cells (wr := wr) hca HX.out (hbl.block ba hFa) hkl
      have HTK := Lib.hid (show l.take (k + 1) = l.take k ++ [l[k]'hkl] from (List.take_append_getElem hkl).symm)
      have hli := HL.out.2 _ (List.getElem_mem hkl)
      have hk80 : k < 80 := by have := HL.out.1; omega
      have HK80 := Lib.hid hk80
      generalize l[k]'hkl = y at *
      generalize hT : txT (l.take k) = T at *
      have HT := Lib.hid hT
      clear hT
      have HRA := Lib.hid rowa
      have HEA := Lib.hid ela
      have HLI := Lib.hid hli
      have hbt : (y.tag.length : Int) ≤ 300 := by have := hli.1; omega
      have hbe : (y.els.length : Int) ≤ 40 := by have := hli.2.1; omega
      have HN := Lib.hid hn
      have hsz : (tx y.tag).size = y.tag.length := by simp [tx, ByteArray.size]
      have m0 : (wr.alloc (.cells #[str y.tag, .slice pea y.els.length capea] 36)).cell? ⟨wr.heap.size, 0, none⟩ = some (str y.tag) := World.cell?_alloc_at _ _ _ _ rfl
      have m1 : (wr.alloc (.cells #[str y.tag, .slice pea y.els.length capea] 36)).cell? ⟨wr.heap.size, 1, none⟩ = some (.slice pea y.els.length capea) := World.cell?_alloc_at _ _ _ _ rfl
      have HBT := Lib.hid (show BtI w wr.heap.size #[str y.tag, .slice pea y.els.length capea] T n (.slice pb n cb) (wr.alloc (.cells #[str y.tag, .slice pea y.els.length capea] 36)) from ⟨HO.out.alloc _, at_last _ _, HB.out.alloc HB.out.size _⟩)
      clear hbl hca rowa ela hli hown hn hk80 HO HB
      go_upto_region 9 with fail
      generalize wr.alloc (.cells #[str y.tag, .slice pea y.els.length capea] 36) = wo at *
      generalize wr.heap.size = M at *
      clear a1 a2
      go_cut [5] (fun u wx => ∃ b : Bool, u = .bool b ∧ Hid (b = (fa || !decide (y.tag.length = 3))) ∧ wo = wx)
      case first =>
        cases fa
        · go_wp2
          go_meet
          case rel => exact ⟨_, rfl, Lib.hid (by rw [Bool.false_or, bne, Bool.not_inj_iff, Bool.eq_iff_iff, beq_iff_eq, decide_eq_true_eq]; omega), rfl⟩
        · go_wp2
          go_meet
          case rel => exact ⟨true, rfl, Lib.hid rfl, rfl⟩
      case rest =>
        obtain ⟨fa1, rfl, HA1, rfl⟩ := hcut
        go_wp2
        go_loopw [5, 10] (fun u i wx => ∃ (m : Nat) (b : Bool), i = .int .i64 m ∧ u = .bool b ∧ m ≤ y.tag.length ∧ Hid (b = (fa1 || !(y.tag.take m).all tgc)) ∧ wo = wx) (fun _ i _ => y.tag.length - (intOf i).toNat)
        case atStart => exact ⟨0, fa1, rfl, rfl, Nat.zero_le _, Lib.hid (by simp), rfl⟩
        case round =>
          obtain ⟨m, b, rfl, rfl, hm, HBb, rfl⟩ := hrel
          by_cases hlt2 : (m : Int) < (y.tag.length : Int)
          · have hml : m < y.tag.length := by omega
            have hm0 : (0 : Int) ≤ (m : Int) := Int.natCast_nonneg _
            have hmz : m < (tx y.tag).size := by omega
            have HSN := Lib.hid (show (y.tag.take (m + 1)).all tgc = ((y.tag.take m).all tgc && tgc ((tx y.tag)[m]'hmz)) from all_snoc tgc y.tag m hml)
            have hq := rTag_any ((tx y.tag)[m]'hmz)
            cases b
            · have HQ := Lib.hid hq
              clear hq
              go_wp2_with (go_at_call 40; refine (HQ.out _).mono ?_; rintro e w' ⟨rfl, rfl⟩)
              go_roundw
              case rel => exact ⟨m + 1, _, by go_num, rfl, by omega, Lib.hid (by rw [HSN.out, Bool.not_and, ← Bool.or_assoc, ← HBb.out]; simp), trivial⟩
              case measure => simp [intOf]; omega
            · clear hq
              go_wp2
              go_roundw
              case rel => exact ⟨m + 1, true, by go_num, rfl, by omega, Lib.hid (by rw [HSN.out, Bool.not_and, ← Bool.or_assoc, ← HBb.out]; simp), trivial⟩
              case measure => simp [intOf]; omega
          · obtain rfl : m = y.tag.length := by omega
            rw [List.take_length] at HBb
            have HA2 := Lib.hid (show b = (fa || !isTag y.tag) by rw [HBb.out, HA1.out, isTag_eq, Bool.not_and, Bool.or_assoc])
            have hNk := HN.out
            have hk79 := HK80.out
            clear HBb HA1
            go_wp2_with (at_builtin; refine Lib.wpList_append_own_string _ rfl _ _ 54 9 rfl w.heap.size 5 i0 Tryd.underlying54 Tryd.underlying9 HI.out HZ0.out HZ1.out HZ2.out _ _ _ rfl HBT.out.own (tx y.tag) rfl (by unfold maxLen; omega) (by omega) HBT.out.bl.size ?_)
            intro v' w2 ho hgr _
            have hb1 := HBT.out.appS ho hgr
            have hn1 : n + y.tag.length ≤ k * 9601941 + 300 := by omega
            (try rw [hsz] at ho)
            generalize n + y.tag.length = n1 at *
            obtain ⟨p1, c1, rfl⟩ := own_slice ho
            have HBT1 := Lib.hid hb1
            have HN1 := Lib.hid hn1
            obtain ⟨g0, g1⟩ := hb1.cells
            clear ho hgr hb1 hn1 HBT m0 m1 hNk hk79
            go_upto_region 15 with fail
            go_cut [7] (fun u wx => ∃ b : Bool, u = .bool b ∧ Hid (b = (fg || decide (16 < y.els.length))) ∧ w2 = wx)
            case first =>
              cases fg
              · go_wp2
                go_meet
                case rel => exact ⟨_, rfl, Lib.hid (by rw [Bool.false_or, decide_eq_decide]; omega), rfl⟩
              · go_wp2
                go_meet
                case rel => exact ⟨true, rfl, Lib.hid rfl, rfl⟩
            case rest =>
              obtain ⟨fg1, rfl, HG1, rfl⟩ := hcut
              go_wp2
              go_loopw [4, 5, 6, 7, 11] (fun vb va vs vg vi wx => ∃ (j n2 : Nat) (xa xs xg : Bool) (pb2 : Option Addr) (cb2 : Nat), vi = .int .i64 j ∧ va = .bool xa ∧ vs = .bool xs ∧ vg = .bool xg ∧ vb = .slice pb2 n2 cb2 ∧ j ≤ y.els.length ∧ Hid (xa = (b || !(y.els.take j).all (fun e => decide (0 < e.length)))) ∧ Hid (xs = (fs || !(y.els.take j).all (fun e => e.all (fun c => c.all pln)))) ∧ Hid (xg = (fg1 || !(y.els.take j).all shortE)) ∧ n2 ≤ k * 9601941 + 300 + j * 240041 ∧ BtI w M #[str y.tag, .slice pea y.els.length capea] (T ++ y.tag ++ jnT [43] ((y.els.take j).map elT)) n2 (.slice pb2 n2 cb2) wx) (fun _ _ _ _ i _ => y.els.length - (intOf i).toNat)
              case atStart => exact ⟨0, n1, b, fs, fg1, p1, c1, rfl, rfl, rfl, rfl, rfl, Nat.zero_le _, Lib.hid (by simp), Lib.hid (by simp), Lib.hid (by simp), by have := HN1.out; omega, by simpa [jnT] using HBT1.out⟩
              case round =>
                obtain ⟨j, n2, xa, xs2, xg, pb2, cb2, rfl, rfl, rfl, rfl, rfl, hj, HXA, HXS, HXG, hn2, hbt2⟩ := hrel
                have HN2 := Lib.hid hn2
                have HB2 := Lib.hid hbt2
                obtain ⟨g0, g1⟩ := hbt2.cells
                by_cases hlt3 : (j : Int) < (y.els.length : Int)
                · have hjl : j < y.els.length := by omega
                  have hj0 : (0 : Int) ≤ (j : Int) := Int.natCast_nonneg _
                  obtain ⟨pr, capr, hre, _, hpr⟩ := HRA.out
                  simp only [Value.slice.injEq, true_and] at hre
                  obtain ⟨rfl, rfl⟩ := hre
                  obtain ⟨b2a, o2a, rfl, hF2a, hc3a⟩ := hpr (by omega)
                  obtain ⟨pja, capja, hcja, _, hsta⟩ := el_cell (wr := wr) hc3a HEA.out (hbt2.bl.block b2a hF2a) hjl
                  have HSA := Lib.hid (all_snoc (fun e => decide (0 < List.length e)) y.els j hjl)
                  have HSS := Lib.hid (all_snoc (fun e => e.all (fun c => List.all c pln)) y.els j hjl)
                  have HSG := Lib.hid (all_snoc shortE y.els j hjl)
                  have HTJ := Lib.hid (show y.els.take (j + 1) = y.els.take j ++ [y.els[j]'hjl] from (List.take_append_getElem hjl).symm)
                  have hle := HLI.out.2.2 _ (List.getElem_mem hjl)
                  have hj40 := HLI.out.2.1
                  generalize y.els[j]'hjl = e at *
                  generalize hU : T ++ y.tag ++ jnT [43] ((y.els.take j).map elT) = U at *
                  have HU := Lib.hid hU
                  clear hU
                  have HST := Lib.hid hsta
                  have HLE := Lib.hid hle
                  have hbel : (e.length : Int) ≤ 40 := by have := hle.1; omega
                  clear hc3a hsta hle hbt2 hn2
                  go_upto_region 20 with fail
                  go_cut [5] (fun u wx => ∃ b : Bool, u = .bool b ∧ Hid (b = (xa || !decide (0 < e.length))) ∧ wr = wx)
                  case first =>
                    cases xa
                    · go_wp2
                      go_meet
                      case rel => exact ⟨_, rfl, Lib.hid (by rw [Bool.false_or, Bool.eq_iff_iff]; simp), rfl⟩
                    · go_wp2
                      go_meet
                      case rel => exact ⟨true, rfl, Lib.hid rfl, rfl⟩
                  case rest =>
                    obtain ⟨xa1, rfl, HXA1, rfl⟩ := hcut
                    go_upto_region 21 with fail
                    go_cut [7] (fun u wx => ∃ b : Bool, u = .bool b ∧ Hid (b = (xg || !decide (e.length ≤ 8))) ∧ wr = wx)
                    case first =>
                      cases xg
                      · go_wp2
                        go_meet
                        case rel => exact ⟨_, rfl, Lib.hid (by rw [Bool.false_or, Bool.eq_iff_iff]; simp; omega), rfl⟩
                      · go_wp2
                        go_meet
                        case rel => exact ⟨true, rfl, Lib.hid rfl, rfl⟩
                    case rest =>
                      obtain ⟨xg1, rfl, HXG1, rfl⟩ := hcut
                      have hNk := HN2.out
                      have hk79 := HK80.out
                      go_wp2_with (at_builtin; refine wl_app1 54 5 (.int .u8 0) 1 1 par_u8 Tryd.underlying54 rfl (by decide) (by decide) w.heap.size (.slice pb2 n2 cb2) n2 (Lib.byteCells U) rfl (HB2.out.own.alloc _) wr.heap.size 1 [by8 43] 5 (0, 0) rfl rfl (at_last _ _) (by intro u hu; simp at hu; subst hu; rfl) (by omega) (by have := HB2.out.bl.size; simp; omega) ?_)
                      intro v' w3 ho hgr _
                      have hb3 := HB2.out.app ho hgr
                      have hn3 : n2 + 1 ≤ k * 9601941 + 300 + j * 240041 + 1 := by omega
                      generalize n2 + 1 = n3 at *
                      obtain ⟨p3, c3, rfl⟩ := own_slice ho
                      have HB3 := Lib.hid hb3
                      have HN3 := Lib.hid hn3
                      clear ho hgr hb3 hn3 HB2 HN2 g0 g1 hNk hk79 hcja
                      go_wp2
                      go_loopw [4, 6, 7, 13] (fun vb vs vg vi wx => ∃ (q n4 : Nat) (ys yg : Bool) (pb4 : Option Addr) (cb4 : Nat), vi = .int .i64 q ∧ vs = .bool ys ∧ vg = .bool yg ∧ vb = .slice pb4 n4 cb4 ∧ q ≤ e.length ∧ Hid (ys = (xs2 || !(e.take q).all (fun c => List.all c pln))) ∧ Hid (yg = (xg1 || !(e.take q).all (fun c => decide (List.length c ≤ 256)))) ∧ n4 ≤ k * 9601941 + 300 + j * 240041 + 1 + q * 6001 ∧ BtI w M #[str y.tag, .slice (some ⟨b2a, o2a, none⟩) y.els.length capea] (U ++ [43] ++ jn [58] ((e.take q).map mkd)) n4 (.slice pb4 n4 cb4) wx) (fun _ _ _ i _ => e.length - (intOf i).toNat)
                      case atStart => exact ⟨0, n3, xs2, xg1, p3, c3, rfl, rfl, rfl, rfl, Nat.zero_le _, Lib.hid (by simp), Lib.hid (by simp), by have := HN3.out; omega, by simpa [jn] using HB3.out⟩
                      case round =>
                        obtain ⟨q, n4, ys, yg, pb4, cb4, rfl, rfl, rfl, rfl, hq, HYS, HYG, hn4, hbt4⟩ := hrel
                        have HN4 := Lib.hid hn4
                        have HB4 := Lib.hid hbt4
                        by_cases hlt4 : (q : Int) < (e.length : Int)
                        · have hql : q < e.length := by omega
                          have hq0 : (0 : Int) ≤ (q : Int) := Int.natCast_nonneg _
                          obtain ⟨pq, capq, hqe, _, hpq⟩ := HST.out
                          simp only [Value.slice.injEq, true_and] at hqe
                          obtain ⟨rfl, rfl⟩ := hqe
                          obtain ⟨b3a, o3a, rfl, hF3a, hc4a⟩ := hpq (by omega)
                          have K3 : ∀ wz : World, Below w.heap.size w wz → wz.cell? ⟨b3a, o3a + q, none⟩ = some (str (e[q]'hql)) := fun wz hz => (World.cell?_of_block (a := ⟨b3a, o3a + q, none⟩) (hz.block b3a hF3a)).trans (hc4a q _ (by rw [List.getElem?_map, List.getElem?_eq_getElem hql]; rfl))
                          have HSC := Lib.hid (all_snoc (fun c => List.all c pln) e q hql)
                          have HSL := Lib.hid (all_snoc (fun c => decide (List.length c ≤ 256)) e q hql)
                          have HTQ := Lib.hid (show (e.take (q + 1)).map mkd = (e.take q).map mkd ++ [mkd (e[q]'hql)] by rw [← List.take_append_getElem hql, List.map_append]; rfl)
                          have hmn := sep_iff e q hql
                          have HMN := Lib.hid hmn
                          have hlt5 := HLE.out.2 _ (List.getElem_mem hql)
                          generalize e[q]'hql = t at *
                          have HK3 := Lib.hid K3
                          have hszt : (tx t).size = t.length := by simp [tx, ByteArray.size]
                          have hbtl : (t.length : Int) ≤ 3000 := by omega
                          have hqk : q < 40 := by have := HLE.out.1; omega
                          have HQK := Lib.hid hqk
                          generalize hV : U ++ [43] ++ jn [58] ((e.take q).map mkd) = V at *
                          have HV := Lib.hid hV
                          clear hV
                          clear hc4a K3 hbt4 hn4 hmn hlt5 hqk
                          go_upto_if 97 with fail
                          go_cut [4] (fun u wx => ∃ (pb5 : Option Addr) (n5 cb5 : Nat), u = .slice pb5 n5 cb5 ∧ Hid (n5 ≤ n4 + 1) ∧ Hid (BtI w M #[str y.tag, .slice (some ⟨b2a, o2a, none⟩) y.els.length capea] (V ++ (if q = 0 then [] else [58])) n5 (.slice pb5 n5 cb5) wx))
                          case first =>
                            by_cases h0 : (0 : Int) < (q : Int)
                            · have hNk := HN4.out
                              have hk79 := HK80.out
                              have hj39 := HLI.out.2.1
                              have hqk := HQK.out
                              go_wp2_with (at_builtin; refine wl_app1 54 5 (.int .u8 0) 1 1 par_u8 Tryd.underlying54 rfl (by decide) (by decide) w.heap.size (.slice pb4 n4 cb4) n4 (Lib.byteCells V) rfl (HB4.out.own.alloc _) wr.heap.size 1 [by8 58] 5 (0, 0) rfl rfl (at_last _ _) (by intro u hu; simp at hu; subst hu; rfl) (by omega) (by have := HB4.out.bl.size; simp; omega) ?_)
                              intro v' w5 ho hgr _
                              have hb5 := HB4.out.app ho hgr
                              obtain ⟨p5, c5, rfl⟩ := own_slice ho
                              have HB5 := Lib.hid hb5
                              clear ho hgr hb5 hNk hk79 hj39 hqk
                              go_wp2
                              go_meet
                              case rel => exact ⟨p5, n4 + 1, c5, rfl, Lib.hid (Nat.le_refl _), Lib.hid (by rw [if_neg (by omega)]; exact HB5.out)⟩
                            · go_wp2
                              go_meet
                              case rel => exact ⟨pb4, n4, cb4, rfl, Lib.hid (Nat.le_succ _), Lib.hid (by rw [if_pos (by omega), List.append_nil]; exact HB4.out)⟩
                          case rest =>
                            obtain ⟨pb5, n5, cb5, rfl, HN5, HB5⟩ := hcut
                            have kt := HK3.out _ HB5.out.bl
                            go_upto_region 28 with fail
                            go_cut [7] (fun u wx => ∃ b : Bool, u = .bool b ∧ Hid (b = (yg || !decide (t.length ≤ 256))) ∧ wc = wx)
                            case first =>
                              cases yg
                              · go_wp2
                                go_meet
                                case rel => exact ⟨_, rfl, Lib.hid (by rw [Bool.false_or, Bool.eq_iff_iff]; simp; omega), rfl⟩
                              · go_wp2
                                go_meet
                                case rel => exact ⟨true, rfl, Lib.hid rfl, rfl⟩
                            case rest =>
                              obtain ⟨yg1, rfl, HYG1, rfl⟩ := hcut
                              generalize hZ : V ++ (if q = 0 then [] else [58]) = Z at *
                              have HZ := Lib.hid hZ
                              clear hZ
                              go_wp2
                              go_loopw [4, 6, 14] (fun vb vs vi wx => ∃ (r n6 : Nat) (zs : Bool) (pb6 : Option Addr) (cb6 : Nat), vi = .int .i64 r ∧ vs = .bool zs ∧ vb = .slice pb6 n6 cb6 ∧ r ≤ t.length ∧ Hid (zs = (ys || !(t.take r).all pln)) ∧ n6 ≤ n5 + 2 * r ∧ BtI w M #[str y.tag, .slice (some ⟨b2a, o2a, none⟩) y.els.length capea] (Z ++ mkd (t.take r)) n6 (.slice pb6 n6 cb6) wx) (fun _ _ i _ => t.length - (intOf i).toNat)
                              case atStart => exact ⟨0, n5, ys, pb5, cb5, rfl, rfl, rfl, Nat.zero_le _, Lib.hid (by simp), by omega, by simpa [mkd] using HB5.out⟩
                              case round =>
                                obtain ⟨r, n6, zs, pb6, cb6, rfl, rfl, rfl, hr, HZS, hn6, hbt6⟩ := hrel
                                have HN6 := Lib.hid hn6
                                have HB6 := Lib.hid hbt6
                                have kt := HK3.out _ hbt6.bl
                                by_cases hlt6 : (r : Int) < (t.length : Int)
                                · have hrl : r < t.length := by omega
                                  have hr0 : (0 : Int) ≤ (r : Int) := Int.natCast_nonneg _
                                  have hrz : r < (tx t).size := by omega
                                  have HSP := Lib.hid (show (t.take (r + 1)).all pln = ((t.take r).all pln && pln ((tx t)[r]'hrz)) from all_snoc pln t r hrl)
                                  have HTR := Lib.hid (show mkd (t.take (r + 1)) = mkd (t.take r) ++ (if sgn ((tx t)[r]'hrz) then [63, (tx t)[r]'hrz] else [(tx t)[r]'hrz]) by rw [← mkd_one, ← mkd_app]; congr 1; exact (List.take_append_getElem hrl).symm)
                                  have hrs := rSign_any ((tx t)[r]'hrz)
                                  generalize hcc : (tx t)[r]'hrz = c at *
                                  generalize hY : Z ++ mkd (t.take r) = Y at *
                                  have HY := Lib.hid hY
                                  have HRS := Lib.hid hrs
                                  clear hY hrs hn6 hbt6
                                  go_upto_region 33 with fail
                                  go_cut [6] (fun u wx => ∃ b : Bool, u = .bool b ∧ Hid (b = (zs || !pln c)) ∧ wr = wx)
                                  case first =>
                                    have HPC := Lib.hid (pln_int c)
                                    cases zs
                                    · by_cases h32 : (c.toNat : Int) < 32
                                      · go_wp2
                                        go_meet
                                        case rel => exact ⟨true, rfl, Lib.hid (by rw [HPC.out]; simp; omega), rfl⟩
                                      · go_wp2
                                        go_meet
                                        case rel => exact ⟨_, rfl, Lib.hid (by rw [HPC.out, Bool.eq_iff_iff]; simp; omega), rfl⟩
                                    · go_wp2
                                      go_meet
                                      case rel => exact ⟨true, rfl, Lib.hid rfl, rfl⟩
                                  case rest =>
                                    obtain ⟨zs1, rfl, HZS1, rfl⟩ := hcut
                                    have hN4 := HN4.out
                                    have hN5 := HN5.out
                                    have hN6 := HN6.out
                                    have hk79 := HK80.out
                                    have hj39 := HLI.out.2.1
                                    have hqk := HQK.out
                                    by_cases hsg : sgn c = true
                                    · rw [hsg] at HRS HTR
                                      go_wp2_with (first
                                        | (go_at_call 41; refine (HRS.out _).mono ?_; rintro e w' ⟨rfl, rfl⟩)
                                        | (at_builtin; refine wl_app1 54 5 (.int .u8 0) 1 1 par_u8 Tryd.underlying54 rfl (by decide) (by decide) w.heap.size (.slice pb6 n6 cb6) n6 (Lib.byteCells Y) rfl (HB6.out.own.alloc _) wr.heap.size 1 [by8 63] 5 (0, 0) rfl rfl (at_last _ _) (by intro u hu; simp at hu; subst hu; rfl) (by omega) (by have := HB6.out.bl.size; simp; omega) ?_))
                                      intro v' w7 ho hgr _
                                      have hb7 := HB6.out.app ho hgr
                                      obtain ⟨p7, c7, rfl⟩ := own_slice ho
                                      have HB7 := Lib.hid hb7
                                      clear ho hgr hb7
                                      go_wp2_with (at_builtin; refine wl_app1 54 5 (.int .u8 0) 1 1 par_u8 Tryd.underlying54 rfl (by decide) (by decide) w.heap.size (.slice p7 (n6 + 1) c7) (n6 + 1) (Lib.byteCells (Y ++ [63])) rfl (HB7.out.own.alloc _) w7.heap.size 1 [by8 c] 5 (0, 0) rfl rfl (at_last _ _) (by intro u hu; simp at hu; subst hu; rfl) (by omega) (by have := HB7.out.bl.size; simp; omega) ?_)
                                      intro v' w8 ho hgr _
                                      have hb8 := HB7.out.app ho hgr
                                      obtain ⟨p8, c8, rfl⟩ := own_slice ho
                                      have HB8 := Lib.hid hb8
                                      clear ho hgr hb8 hN4 hN5 hk79 hj39 hqk
                                      go_wp2
                                      go_roundw
                                      case rel => exact ⟨r + 1, n6 + 1 + 1, _, p8, c8, by go_num, rfl, rfl, by omega, Lib.hid (by rw [HSP.out, Bool.not_and, ← Bool.or_assoc, ← HZS.out]; exact HZS1.out), by omega, by rw [HTR.out, ← List.append_assoc, HY.out]; simpa using HB8.out⟩
                                      case measure => simp [intOf]; omega
                                    · have hsg' : sgn c = false := by simpa using hsg
                                      rw [hsg'] at HRS HTR
                                      go_wp2_with (first
                                        | (go_at_call 41; refine (HRS.out _).mono ?_; rintro e w' ⟨rfl, rfl⟩)
                                        | (at_builtin; refine wl_app1 54 5 (.int .u8 0) 1 1 par_u8 Tryd.underlying54 rfl (by decide) (by decide) w.heap.size (.slice pb6 n6 cb6) n6 (Lib.byteCells Y) rfl (HB6.out.own.alloc _) wr.heap.size 1 [by8 c] 5 (0, 0) rfl rfl (at_last _ _) (by intro u hu; simp at hu; subst hu; rfl) (by omega) (by have := HB6.out.bl.size; simp; omega) ?_))
                                      intro v' w8 ho hgr _
                                      have hb8 := HB6.out.app ho hgr
                                      obtain ⟨p8, c8, rfl⟩ := own_slice ho
                                      have HB8 := Lib.hid hb8
                                      clear ho hgr hb8 hN4 hN5 hk79 hj39 hqk
                                      go_wp2
                                      go_roundw
                                      case rel => exact ⟨r + 1, n6 + 1, _, p8, c8, by go_num, rfl, rfl, by omega, Lib.hid (by rw [HSP.out, Bool.not_and, ← Bool.or_assoc, ← HZS.out]; exact HZS1.out), by omega, by rw [HTR.out, ← List.append_assoc, HY.out]; simpa using HB8.out⟩
                                      case measure => simp [intOf]; omega
                                · obtain rfl : r = t.length := by omega
                                  rw [List.take_length] at HZS hbt6
                                  have HB6 := Lib.hid hbt6
                                  have hN4 := HN4.out
                                  have hN5 := HN5.out
                                  go_wp2
                                  go_roundw
                                  case rel =>
                                    refine ⟨q + 1, n6, zs, yg1, pb6, cb6, by go_num, rfl, rfl, rfl, by omega, Lib.hid ?_, Lib.hid ?_, by omega, ?_⟩
                                    · rw [HSC.out, Bool.not_and, ← Bool.or_assoc, ← HYS.out]; exact HZS.out
                                    · rw [HSL.out, Bool.not_and, ← Bool.or_assoc, ← HYG.out]; exact HYG1.out
                                    · rw [HTQ.out, jn_snoc2, HMN.out, ← List.append_assoc, ← List.append_assoc, HV.out, HZ.out]
                                      exact HB6.out
                                  case measure => simp [intOf]; omega
                        · obtain rfl : q = e.length := by omega
                          rw [List.take_length] at HYS HYG hbt4
                          have HB4 := Lib.hid hbt4
                          have HNN := Lib.hid (bound4 n4 k j e.length hn4 HLE.out.1)
                          clear hbt4 hn4
                          go_wp2
                          go_roundw
                          case rel =>
                            refine ⟨j + 1, n4, xa1, ys, yg, pb4, cb4, by go_num, rfl, rfl, rfl, rfl, by omega, Lib.hid ?_, Lib.hid ?_, Lib.hid ?_, HNN.out, ?_⟩
                            · rw [HSA.out, Bool.not_and, ← Bool.or_assoc, ← HXA.out]; exact HXA1.out
                            · rw [HSS.out, Bool.not_and, ← Bool.or_assoc, ← HXS.out]; exact HYS.out
                            · rw [HSG.out, Bool.not_and, ← Bool.or_assoc, ← HXG.out]
                              rw [HYG.out, HXG1.out]
                              show _ = (xg || !shortE e)
                              unfold shortE
                              rw [Bool.not_and, Bool.or_assoc]
                            · rw [HTJ.out, List.map_append, jnT_app, ← List.append_assoc, HU.out]
                              have := HB4.out
                              simpa [jnT, elT] using this
                          case measure => simp [intOf]; omega
                · obtain rfl : j = y.els.length := by omega
                  rw [List.take_length] at HXA HXS HXG hbt2
                  have hj40 := HLI.out.2.1
                  have hk79 := HK80.out
                  have HNN := Lib.hid (bound3 n2 k y.els.length hn2 hj40)
                  generalize hU : T ++ y.tag ++ jnT [43] (y.els.map elT) = U at *
                  have HU := Lib.hid hU
                  have HB2 := Lib.hid hbt2
                  have hn2' : n2 ≤ 80 * 9601941 := by have := HNN.out; omega
                  clear hU hbt2 hn2
                  go_wp2_with (at_builtin; refine wl_app1 54 5 (.int .u8 0) 1 1 par_u8 Tryd.underlying54 rfl (by decide) (by decide) w.heap.size (.slice pb2 n2 cb2) n2 (Lib.byteCells U) rfl (HB2.out.own.alloc _) wr.heap.size 1 [by8 39] 5 (0, 0) rfl rfl (at_last _ _) (by intro u hu; simp at hu; subst hu; rfl) (by omega) (by have := HB2.out.bl.size; simp; omega) ?_)
                  intro v' w3 ho hgr _
                  have hb3 := HB2.out.app ho hgr
                  obtain ⟨p3, c3, rfl⟩ := own_slice ho
                  have HB3 := Lib.hid hb3
                  clear ho hgr hb3 hn2' hj40
                  go_wp2
                  go_roundw
                  case rel =>
                    refine ⟨k + 1, n2 + 1, xa, xs2, xg, p3, c3, by go_num, rfl, rfl, rfl, rfl, by omega, Lib.hid ?_, Lib.hid ?_, Lib.hid ?_, HNN.out, ?_, HB3.out.bl⟩
                    · rw [HTK.out, List.all_append, Bool.not_and, ← HA.out, HXA.out, HA2.out]
                      simp [wholeS, Bool.or_assoc]
                    · rw [HTK.out, List.all_append, Bool.not_and, ← HS.out, HXS.out]
                      simp [plainS]
                    · rw [HTK.out, List.all_append, Bool.not_and, ← Bool.or_assoc, ← HG.out, HXG.out, HG1.out]
                      simp only [shortS, Bool.or_assoc, List.all_cons, List.all_nil, Bool.and_true, Bool.not_and, ltd]
                    · rw [HTK.out, txT_app, HT.out, show txT [y] = sgT y ++ [39] from rfl]
                      have := HB3.out.own
                      rw [← HU.out] at this
                      simpa [sgT, jn] using this
                  case measure => simp [intOf]; omega
    · obtain rfl : k = l.length := by omega
      rw [List.take_length] at HA HS HG hown
      have hnl : (txT l).length = n := by have := hown.1; simpa [Lib.byteCells_length] using this
      subst hnl
      have HCV := Lib.hid (run_convW wr w.heap.size _ (txT l) hown)
      have hA := HA.out
      have hS := HS.out
      have hG := HG.out
      clear hown HA HS HG hn hbl HO
      cases fa with
      | true =>
        have HPL := Lib.hid (show printL l = ([], 1) by unfold printL; rw [if_neg (bnot_t hA)])
        clear hA hS hG
        go_wp2
        go_ret2
        rw [HPL.out]
        exact ⟨rfl, HB.out⟩
      | false =>
        cases fs with
        | true =>
          have HPL := Lib.hid (show printL l = ([], 30) by unfold printL; rw [if_pos (bnot_f hA), if_neg (bnot_t hS)])
          clear hA hS hG
          go_wp2
          go_ret2
          rw [HPL.out]
          exact ⟨rfl, HB.out⟩
        | false =>
          have hgg : (decide (l.length ≤ 64) && l.all shortS) = !fg := by
            rw [hG, Bool.not_or, Bool.not_not, ltd, Bool.not_not]
          cases fg with
          | true =>
            have HPL := Lib.hid (show printL l = ([], 2) by unfold printL; rw [if_pos (bnot_f hA), if_pos (bnot_f hS), if_neg (by rw [hgg]; decide)])
            clear hA hS hG hgg
            go_wp2
            go_ret2
            rw [HPL.out]
            exact ⟨rfl, HB.out⟩
          | false =>
            by_cases h6 : (65536 : Int) < ((txT l).length : Int)
            · have HPL := Lib.hid (show printL l = ([], 2) by unfold printL; rw [if_pos (bnot_f hA), if_pos (bnot_f hS), if_pos (by rw [hgg]; decide), if_pos (by omega)])
              clear hA hS hG hgg
              go_wp2
              go_ret2
              rw [HPL.out]
              exact ⟨rfl, HB.out⟩
            · have HPL := Lib.hid (show printL l = (txT l, 0) by unfold printL; rw [if_pos (bnot_f hA), if_pos (bnot_f hS), if_pos (by rw [hgg]; decide), if_neg (by omega)])
              have hcv := HCV.out
              clear hA hS hG hgg
              go_wp2
              go_ret2
              rw [HPL.out]
              exact ⟨rfl, HB.out⟩
end Go.Proofs.YtlonmmnaipclcaaDoor
