/- A hash as a state of three parts, a byte written, a digest as bytes; how a hash lies in memory. No program is spoken of here. -/
import Derived.Test.YtabahkeologbmaaShaPure
import Derived.Test.YtabahkeologbmaaShaLaws
namespace Go.Sha

/-- a hash as cells: eight words, 64 bytes, the count -/
def hv (m r : List Nat) (c : Nat) : Array Value := wv m ++ bv r ++ #[Value.int .u64 (c : Int)]
theorem hv_size {m r : List Nat} (c : Nat) (hm : m.length = 8) (hr : r.length = 64) : (hv m r c).size = 73 := by simp [hv, wv_size, bv_size, hm, hr]
theorem hv_count {m r : List Nat} (c : Nat) (hm : m.length = 8) (hr : r.length = 64) : (hv m r c)[72]? = some (.int .u64 (c : Int)) := by
  rw [hv, Array.getElem?_append_right (by simp [wv_size, bv_size, hm, hr])]
  simp [wv_size, bv_size, hm, hr]
/-- the digest's bytes -/
def digB (w : List Nat) (i : Nat) : Nat := (at0 w (i / 4) >>> (24 - 8 * (i % 4))) % 256
def digTo (w : List Nat) : Nat → List Nat
  | 0 => zl 32
  | k + 1 => (digTo w k).set k (digB w k)
def dig (w : List Nat) : List Nat := digTo w 32
theorem digTo_len (w : List Nat) : ∀ k, (digTo w k).length = 32
  | 0 => zl_len 32
  | k + 1 => by rw [digTo, List.length_set, digTo_len w k]
theorem digTo_zero (w : List Nat) : digTo w 0 = zl 32 := rfl
theorem digTo_succ (w : List Nat) (k : Nat) : digTo w (k + 1) = (digTo w k).set k (digB w k) := rfl
theorem digTo_lt (w : List Nat) : ∀ k, Lt 256 (digTo w k)
  | 0 => zl_lt 32 256 (by decide)
  | k + 1 => (digTo_lt w k).set _ _ (Nat.mod_lt _ (by decide))
theorem dig_len (w : List Nat) : (dig w).length = 32 := digTo_len w 32
theorem dig_lt (w : List Nat) : Lt 256 (dig w) := digTo_lt w 32
theorem dig_walk (m : List Nat) (k : Nat) : ((at0 m (k / 4) : Nat) : Int) / 2 ^ (24 - 8 * (k % 4)) % 256 = ((digB m k : Nat) : Int) := by
  rw [shrm, digB]; simp
attribute [irreducible] hv digTo dig
end Go.Sha
