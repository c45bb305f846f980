/- Contract of sectorOf: as many bytes as a sector has, as one. -/
import Derived.Test.YtabahkeologbmaaDkC
namespace Go.Proofs.Ytabahkeologbmaa.Dk
open Go.RowKit Go.Shelf Go.Dk Go.Sha
open Go.Maps (Keyed)

theorem zero_sector (w : World) : (zeroValue 74).run Try.prog w = .ok (.agg (bc zero64)) w := by
  have : (zeroValue 74).run Try.prog w = .ok (.agg (Lib.byteCells zero64).toArray) w := by kernel_rfl
  rw [this, ← bc_list]
theorem info_sector : (Try.prog.info? 74).map (·.size) = some 64 := by kernel_rfl
theorem info_u8 : (Try.prog.info? 5).map (·.size) = some 1 := by kernel_rfl
attribute [local go_sem high, local simp high] zero_sector
set_option maxRecDepth 100000 in
set_option maxHeartbeats 800000 in
theorem sectorOf_any (l : By) (v : Value) (F : Nat → Prop) (w : World) (hl : l.length = 64) (hF : ∀ b, F b → b < w.heap.size) (h : BysF w F v l) :
    Calls Try.prog 44 #[v] w fun e w' => e = .returned (.agg (bc l)) ∧ Below w.heap.size w w' := by
  obtain ⟨p, cap, rfl, hc, hp⟩ := h
  obtain ⟨b, o, rfl, hb, hcell⟩ := hp (by omega)
  have hbl := hF b hb
  have HC := Lib.hid (show ∀ w', Below w.heap.size w w' → ∀ j v, (Lib.byteCells l)[j]? = some v → w'.cell? ((⟨b, o, none⟩ : Addr).add j) = some v from fun w' hw j v hv => by rw [Addr.add_mid]; exact (World.cell?_of_block (a := ⟨b, o + j, none⟩) (hw.block b hbl)).trans (hcell j v hv))
  have HL := Lib.hid hl
  rw [hl]
  clear hcell hp hF hb hl
  go_enter Try.func44, Try.ntmps44
  go_wp2_with (first
    | ((with_reducible refine wl_copy (dst := 6) 5 Try.underlying40 info_u8 (w.heap.size + 1) 0 64 64 ⟨b, o, none⟩ 64 cap (bc zero64) (bc l) 74 (Lib.byteCells l) ?_ ?_ ?_ ?_ ?_ ?_ ?_ ?_ ?_); (· rfl); (· rfl); (· exact heap_last _ _ _ (by simp)); (· rw [byl_len, HL.out]; rfl); (· exact HC.out _ (((Below.refl _ _).alloc (Nat.le_refl _) _).alloc (by simp) _)); (· rw [byl_len, HL.out, bc_size, zero64_len]; omega); (· exact byl_one l); (· rw [byl_len, HL.out, List.take_zero, List.nil_append, List.drop_of_length_le (by simp [bc_size, zero64_len]), List.append_nil, ← bc_list]); (rw [setRow_alloc_at _ _ _ _ _ (by simp)]))
    | ((with_reducible refine wl_load (dst := 7) (w.heap.size + 1) 74 (bc l) (0, 0) 64 5 Try.underlying74 ?_ ?_ ?_ ?_); (· rfl); (· exact heap_last _ _ _ (by simp)); (· rw [bc_size, HL.out]; exact info_sector))
    | ((with_reducible refine wl_store (ty := 74) w.heap.size 74 (bc zero64) (bc l) ?_ ?_ ?_ ?_ ?_ ?_ ?_); (· rfl); (· rfl); (· exact (heap_prev _ _ _ (by simp)).trans (heap_last _ _ _ rfl)); (· rw [bc_size, HL.out]; exact info_sector); (· rw [bc_size, bc_size, HL.out, zero64_len]); (· exact bc_one l)))
  refine ret_row Try.results44 w.heap.size 74 (bc l) (0, 0) 64 5 Try.underlying74 rfl ?_ ?_ rfl ⟨rfl, ?_⟩
  · exact setRow_heap _ _ _ _ _ _ ((heap_prev _ _ _ (by simp)).trans (heap_last _ _ _ rfl))
  · rw [bc_size, HL.out]; exact info_sector
  · exact below_setRow' (((Below.refl _ _).alloc (Nat.le_refl _) _).alloc (by simp) _) (Nat.le_refl _) _
end Go.Proofs.Ytabahkeologbmaa.Dk
