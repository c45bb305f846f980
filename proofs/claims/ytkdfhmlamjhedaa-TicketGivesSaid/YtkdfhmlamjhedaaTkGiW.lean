/- The walk of TicketGives. -/
import Derived.Test.YtkdfhmlamjhedaaTkRb
import Derived.Test.YtkdfhmlamjhedaaTkOpen
namespace Go.Proofs.Ytkdfhmlamjhedaa
open Go.Shelf Go.RowKit Go.Lib Go.Money Go.Pror Go.Tick

theorem sizeDoc' : (Try.prog.info? 31).map (·.size) = some 17 := sizeDoc
set_option maxRecDepth 100000 in
set_option maxHeartbeats 3200000 in
theorem tkgives_any (v p : Int) (hv : v ≤ 9223372036854775807) (c0 s0 : Nat) (s : Sl) (lp : Option Addr) (lc : Nat) (tp : Option Addr) (tc : Nat) (vp : Option Addr) (V : List Int) (vc c1 s1 c2 s2 : Nat) (cr pd bk kp lf : Int) (S : List Nat) (sp : Option Addr) (sc : Nat) (pp : Option Addr) (np pc : Nat) (w : World)
    (hV : Nums w .i64 vp V) (hS : Nums w .u8 sp (ints S)) (hlt : ∀ x ∈ S, x < 256) :
    Calls Try.prog 3 #[iv v, iv p, .agg (dC c0 s0 s lp lc tp tc vp V.length vc c1 s1 c2 s2 cr pd bk kp lf), .slice sp S.length sc, .slice pp np pc] w fun e w' => e = .returned (.bool true) ∧ Below w.heap.size w w' := by
  obtain ⟨wb, hwb⟩ : ∃ wb, wb = w.alloc (.cells (dC c0 s0 s lp lc tp tc vp V.length vc c1 s1 c2 s2 cr pd bk kp lf) 31) := ⟨_, rfl⟩
  have hb1 : Below w.heap.size w wb := by rw [hwb]; exact (Below.refl _ _).alloc (Nat.le_refl _) _
  have hbD : wb.heap[w.heap.size]? = some (.cells (dC c0 s0 s lp lc tp tc vp V.length vc c1 s1 c2 s2 cr pd bk kp lf) 31 (0, 0)) := by rw [hwb]; exact heap_last _ _ _ rfl
  have HXD := Lib.hid (fun wz (hz : Below wb.heap.size wb wz) => (hz.block _ (lt_heap hbD)).trans hbD)
  have HW := Lib.hid (fun W => tkwakes_any W)
  have HGR := Lib.hid (fun W => great_any s lp lc tp tc W)
  have HG1 := Lib.hid (fun W => give_any v p hv W)
  have HG2 := Lib.hid (fun W => rgive_any v p hv W)
  have HB1 := Lib.hid hb1
  have HR0 := Lib.hid (Below.refl wb.heap.size wb)
  have d0 := loadL hbD 2 (v := str s.name) rfl
  have d1 := loadL hbD 3 (v := .slice lp s.legs.length lc) rfl
  have d2 := loadL hbD 4 (v := iv s.fare) rfl
  have d3 := loadL hbD 5 (v := .slice tp s.taxes.length tc) rfl
  have d4 := loadL hbD 6 (v := iv s.pen) rfl
  obtain ⟨bg, hbg⟩ : ∃ b, grB s = b := ⟨_, rfl⟩
  rw [hbg] at HGR
  cases bg
  rotate_left
  · clear hv hV hS hlt hb1 hbD
    go_enter Try.func3, Try.ntmps3
    go_wp2_with fail
    rw [← hwb]
    refine (HGR.out _).mono ?_
    rintro e w2 ⟨rfl, hb2⟩
    have HB2 := Lib.hid (HB1.out.trans (hb2.mono HB1.out.size))
    clear hb2
    go_wp2_with (go_at_call 9; refine (HW.out _).mono ?_; rintro e w3 ⟨rfl, hb3⟩)
    go_ret
    exact ⟨rfl, HB2.out.trans (hb3.mono HB2.out.size)⟩
  by_cases hl1 : (60 : Int) < (V.length : Int)
  · clear hv hV hS hlt hb1 hbD
    go_enter Try.func3, Try.ntmps3
    go_wp2_with fail
    rw [← hwb]
    refine (HGR.out _).mono ?_
    rintro e w2 ⟨rfl, hb2⟩
    have HB2 := Lib.hid (HB1.out.trans (hb2.mono HB1.out.size))
    have d7 : w2.cell? ⟨w.heap.size, 7, none⟩ = some (.slice vp V.length vc) := loadL (HXD.out _ (HR0.out.trans (hb2.mono HR0.out.size))) 7 rfl
    clear hb2
    go_wp2_with (go_at_call 9; refine (HW.out _).mono ?_; rintro e w3 ⟨rfl, hb3⟩)
    go_ret
    exact ⟨rfl, HB2.out.trans (hb3.mono HB2.out.size)⟩
  by_cases hl2 : (60 : Int) < (S.length : Int)
  · clear hv hV hS hlt hb1 hbD
    go_enter Try.func3, Try.ntmps3
    go_wp2_with fail
    rw [← hwb]
    refine (HGR.out _).mono ?_
    rintro e w2 ⟨rfl, hb2⟩
    have HB2 := Lib.hid (HB1.out.trans (hb2.mono HB1.out.size))
    have d7 : w2.cell? ⟨w.heap.size, 7, none⟩ = some (.slice vp V.length vc) := loadL (HXD.out _ (HR0.out.trans (hb2.mono HR0.out.size))) 7 rfl
    clear hb2
    go_wp2_with (go_at_call 9; refine (HW.out _).mono ?_; rintro e w3 ⟨rfl, hb3⟩)
    go_ret
    exact ⟨rfl, HB2.out.trans (hb3.mono HB2.out.size)⟩
  by_cases hl3 : (60 : Int) < (np : Int)
  · clear hv hV hS hlt hb1 hbD
    go_enter Try.func3, Try.ntmps3
    go_wp2_with fail
    rw [← hwb]
    refine (HGR.out _).mono ?_
    rintro e w2 ⟨rfl, hb2⟩
    have HB2 := Lib.hid (HB1.out.trans (hb2.mono HB1.out.size))
    have d7 : w2.cell? ⟨w.heap.size, 7, none⟩ = some (.slice vp V.length vc) := loadL (HXD.out _ (HR0.out.trans (hb2.mono HR0.out.size))) 7 rfl
    clear hb2
    go_wp2_with (go_at_call 9; refine (HW.out _).mono ?_; rintro e w3 ⟨rfl, hb3⟩)
    go_ret
    exact ⟨rfl, HB2.out.trans (hb3.mono HB2.out.size)⟩
  have HBA := Lib.hid (fun W (h : Below wb.heap.size wb W) => bal_any V S np pc pp sp sc (u8v c0) (u64v s0) (str s.name) (.slice lp s.legs.length lc) (iv s.fare) (.slice tp s.taxes.length tc) (iv s.pen) vp vc (u8v c1) (u64v s1) (u8v c2) (u64v s2) cr pd bk kp lf W ((hV.keep hb1).keep h) ((hS.keep hb1).keep h) hlt (by omega) (by omega) (by omega))
  have HBR := Lib.hid (fun W (h : Below wb.heap.size wb W) => rbal_any V S np pc pp sp sc (u8v c0) (u64v s0) (str s.name) (.slice lp s.legs.length lc) (iv s.fare) (.slice tp s.taxes.length tc) (iv s.pen) vp vc (u8v c1) (u64v s1) (u8v c2) (u64v s2) cr pd bk kp lf W ((hV.keep hb1).keep h) ((hS.keep hb1).keep h) hlt (by omega) (by omega))
  obtain ⟨x1, hx1⟩ : ∃ x, (balL V S np cr pd bk kp lf).1 = x := ⟨_, rfl⟩
  obtain ⟨x2, hx2⟩ : ∃ x, (balL V S np cr pd bk kp lf).2 = x := ⟨_, rfl⟩
  obtain ⟨y1, hy1⟩ : ∃ x, (giveL v p).1 = x := ⟨_, rfl⟩
  obtain ⟨y2, hy2⟩ : ∃ x, (giveL v p).2 = x := ⟨_, rfl⟩
  simp only [gvV] at HG1 HG2
  rw [hx1, hx2] at HBA HBR
  rw [hy1, hy2] at HG1 HG2
  clear hv hV hS hlt hb1 hbD hx1 hx2 hy1 hy2
  go_enter Try.func3, Try.ntmps3
  go_wp2_with fail
  rw [← hwb]
  clear hwb
  refine (HGR.out _).mono ?_
  rintro e w2 ⟨rfl, hb2⟩
  have HB2 := Lib.hid (HR0.out.trans (hb2.mono HR0.out.size))
  have d7 : w2.cell? ⟨w.heap.size, 7, none⟩ = some (.slice vp V.length vc) := loadL (HXD.out _ HB2.out) 7 rfl
  have HDW := Lib.hid (HXD.out _ HB2.out)
  clear hb2
  go_wp2_with (first
    | (go_at_call 10; refine (HG1.out _).mono ?_; rintro e w3 ⟨rfl, rfl⟩)
    | (go_at_call 11; refine (HG2.out _).mono ?_; rintro e w3 ⟨rfl, rfl⟩)
    | (refine wpList_load_row rfl 31 _ rfl w.heap.size rfl 31 _ (0, 0) _ HDW.out Try.underlying31 rfl sizeDoc ?_)
    | (go_at_call 12; refine (HBA.out _ HB2.out).mono ?_; rintro e w4 ⟨rfl, hb4⟩
       have HB4 := Lib.hid (HB2.out.trans (hb4.mono HB2.out.size))
       have HDW := Lib.hid (HXD.out _ HB4.out)
       clear hb4)
    | (go_at_call 13; refine (HBR.out _ HB4.out).mono ?_; rintro e w5 ⟨rfl, hb5⟩
       have HB5 := Lib.hid (HB4.out.trans (hb5.mono HB4.out.size))
       clear hb5)
    | (go_at_call 9; refine (HW.out _).mono ?_; rintro e w6 ⟨rfl, hb6⟩))
  go_ret
  exact ⟨rfl, (HB1.out.trans (HB5.out.mono HB1.out.size)).trans (hb6.mono (HB1.out.trans (HB5.out.mono HB1.out.size)).size)⟩
end Go.Proofs.Ytkdfhmlamjhedaa
