/- The plain model of mac: the block of a key, its bytes xored, the mac. -/
import Derived.Test.YthaaccbbegmhbaaDoorShaPure4
namespace Go.Sha

def kk (key : List Nat) : List Nat := if 64 < key.length then shaL key else key
theorem kk_len (key : List Nat) : (kk key).length ≤ 64 := by
  unfold kk; split
  · rw [shaL_len]; decide
  · omega
theorem kk_lt {key : List Nat} (h : Lt 256 key) : Lt 256 (kk key) := by
  unfold kk; split
  · exact shaL_lt _
  · exact h
/-- the block of a key that has at most 64 bytes -/
def blk0 (k : List Nat) : List Nat := lay (zl 64) 0 k
def blk (key : List Nat) : List Nat := blk0 (kk key)
theorem blk0_len {k : List Nat} (h : k.length ≤ 64) : (blk0 k).length = 64 := by
  unfold blk0; rw [lay_len (by rw [zl_len]; omega), zl_len]
theorem blk_len (key : List Nat) : (blk key).length = 64 := blk0_len (kk_len key)
theorem blk0_lt {k : List Nat} (h : Lt 256 k) : Lt 256 (blk0 k) := lay_lt (zl_lt 64 256 (by decide)) h
theorem blk_lt {key : List Nat} (h : Lt 256 key) : Lt 256 (blk key) := blk0_lt (kk_lt h)
theorem blk0_eq (k : List Nat) : blk0 k = k ++ zl (64 - k.length) := by
  unfold blk0 lay zl
  rw [List.take_zero, List.nil_append, Nat.zero_add, List.drop_replicate]

def xr (x : Nat) (b : List Nat) : List Nat := b.map (· ^^^ x)
theorem xr_len (x : Nat) (b : List Nat) : (xr x b).length = b.length := by simp [xr]
theorem xor_byte {a b : Nat} (ha : a < 256) (hb : b < 256) : a ^^^ b < 256 := Nat.xor_lt_two_pow (n := 8) ha hb
theorem xr_lt {x : Nat} {b : List Nat} (hx : x < 256) (h : Lt 256 b) : Lt 256 (xr x b) := by
  intro y hy
  simp only [xr, List.mem_map] at hy
  obtain ⟨z, hz, rfl⟩ := hy
  exact xor_byte (h z hz) hx
/-- the first k bytes xored -/
def xrTo (x : Nat) (b : List Nat) (k : Nat) : List Nat := xr x (b.take k) ++ b.drop k
theorem xrTo_zero (x : Nat) (b : List Nat) : xrTo x b 0 = b := by simp [xrTo, xr]
theorem xrTo_all (x : Nat) {b : List Nat} {k : Nat} (h : b.length = k) : xrTo x b k = xr x b := by subst h; simp [xrTo]
theorem xrTo_len (x : Nat) (b : List Nat) (k : Nat) : (xrTo x b k).length = b.length := by simp [xrTo, xr_len]; omega
theorem xrTo_at (x : Nat) (b : List Nat) (k : Nat) (h : k < b.length) : at0 (xrTo x b k) k = at0 b k := by
  unfold at0 xrTo
  rw [List.getD_eq_getElem?_getD, List.getD_eq_getElem?_getD, List.getElem?_append_right (by simp [xr_len]; omega)]
  have e : k - (xr x (b.take k)).length = 0 := by simp [xr_len]; omega
  rw [e, List.getElem?_drop, Nat.add_zero]
theorem xrTo_succ (x : Nat) (b : List Nat) (k : Nat) (h : k < b.length) : (xrTo x b k).set k (at0 b k ^^^ x) = xrTo x b (k + 1) := by
  have e : (xr x (b.take k)).length = k := by simp [xr_len]; omega
  unfold xrTo
  rw [List.set_append_right _ _ (by omega), e, Nat.sub_self, List.drop_eq_getElem_cons h, List.set_cons_zero]
  have e2 : xr x (b.take (k + 1)) = xr x (b.take k) ++ [b[k] ^^^ x] := by
    unfold xr
    rw [List.take_succ_eq_append_getElem h, List.map_append]
    rfl
  rw [e2, List.append_assoc]
  simp [at0, List.getD_eq_getElem?_getD, h]

def inn (key : List Nat) : List Nat := xr 54 (blk key)
def out (key : List Nat) : List Nat := xr 92 (blk key)
theorem inn_len (key : List Nat) : (inn key).length = 64 := by rw [inn, xr_len, blk_len]
theorem out_len (key : List Nat) : (out key).length = 64 := by rw [out, xr_len, blk_len]
theorem inn_lt {key : List Nat} (h : Lt 256 key) : Lt 256 (inn key) := xr_lt (by decide) (blk_lt h)
theorem out_lt {key : List Nat} (h : Lt 256 key) : Lt 256 (out key) := xr_lt (by decide) (blk_lt h)
/-- what a pen tells: o is its outer block, s its inner hash -/
def penL (o : List Nat) (s : HS) : List Nat := shaL (o ++ sumL s)
def macL (key b : List Nat) : List Nat := shaL (out key ++ shaL (inn key ++ b))
theorem penL_len (o : List Nat) (s : HS) : (penL o s).length = 32 := shaL_len _
theorem penL_lt (o : List Nat) (s : HS) : Lt 256 (penL o s) := shaL_lt _
theorem macL_len (key b : List Nat) : (macL key b).length = 32 := shaL_len _
theorem macL_lt (key b : List Nat) : Lt 256 (macL key b) := shaL_lt _
theorem sha_two (a b : List Nat) : sumL (putL (putL hs0 a) b) = shaL (a ++ b) := by rw [← putL_append]; unfold shaL; rfl
theorem pen_mac (key b : List Nat) : penL (out key) (putL (putL hs0 (inn key)) b) = macL key b := by
  unfold penL macL; rw [sha_two]
attribute [irreducible] kk blk0 blk xr xrTo inn out penL macL
end Go.Sha
