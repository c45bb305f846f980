/- Plain functions for SHA-256 on natural numbers, and how lists of them lie in memory as cells. No program is spoken of here. -/
import Derived.WalkKit
namespace Go.Sha

def M : Nat := 4294967296
/-- bytes as cells -/
def bv (l : List Nat) : Array Value := (l.map fun (n : Nat) => Value.int .u8 (n : Int)).toArray
/-- words as cells -/
def wv (l : List Nat) : Array Value := (l.map fun (n : Nat) => Value.int .u32 (n : Int)).toArray

/-- the number at place i, kept shut -/
def at0 (l : List Nat) (i : Nat) : Nat := l.getD i 0
theorem bv_size (l : List Nat) : (bv l).size = l.length := by simp [bv]
theorem wv_size (l : List Nat) : (wv l).size = l.length := by simp [wv]
theorem bv_get (l : List Nat) (i : Nat) (h : i < l.length) : (bv l)[i]? = some (.int .u8 (at0 l i : Nat)) := by
  simp [bv, h, List.getD, at0]
theorem wv_get (l : List Nat) (i : Nat) (h : i < l.length) : (wv l)[i]? = some (.int .u32 (at0 l i : Nat)) := by
  simp [wv, h, List.getD, at0]
theorem bv_set (l : List Nat) (i x : Nat) : (bv l).setIfInBounds i (.int .u8 (x : Int)) = bv (l.set i x) := by
  apply Array.ext'
  simp [bv, List.map_set]
theorem wv_set (l : List Nat) (i x : Nat) : (wv l).setIfInBounds i (.int .u32 (x : Int)) = wv (l.set i x) := by
  apply Array.ext'
  simp [wv, List.map_set]
theorem bv_one (l : List Nat) : (bv l).all (·.oneCell') = true := by
  simp [bv, Value.oneCell']
theorem wv_one (l : List Nat) : (wv l).all (·.oneCell') = true := by
  simp [wv, Value.oneCell']

def rotr (x n : Nat) : Nat := (x >>> n) ||| ((x <<< (32 - n)) % M)
def sg0 (x : Nat) : Nat := rotr x 7 ^^^ rotr x 18 ^^^ (x >>> 3)
def sg1 (x : Nat) : Nat := rotr x 17 ^^^ rotr x 19 ^^^ (x >>> 10)
def Sg0 (x : Nat) : Nat := rotr x 2 ^^^ rotr x 13 ^^^ rotr x 22
def Sg1 (x : Nat) : Nat := rotr x 6 ^^^ rotr x 11 ^^^ rotr x 25
def ch (e f g : Nat) : Nat := (e &&& f) ^^^ ((4294967295 - e) &&& g)
def maj (a b c : Nat) : Nat := (a &&& b) ^^^ (a &&& c) ^^^ (b &&& c)

/-- n noughts, kept shut -/
def zl (n : Nat) : List Nat := List.replicate n 0
theorem zl_len (n : Nat) : (zl n).length = n := by simp [zl]
theorem zl_lt (n m : Nat) (h : 0 < m) : ∀ x ∈ zl n, x < m := by intro x hx; simp [zl] at hx; omega
/-- the word number i of a block -/
def be (b : List Nat) (i : Nat) : Nat := ((at0 b (4*i)) <<< 24) ||| ((at0 b (4*i+1)) <<< 16) ||| ((at0 b (4*i+2)) <<< 8) ||| (at0 b (4*i+3))
/-- a word that comes of those before -/
def sch (l : List Nat) (i : Nat) : Nat := (((at0 l (i-16) + sg0 (at0 l (i-15))) % M + at0 l (i-7)) % M + sg1 (at0 l (i-2))) % M
/-- the spread words, after k of them are laid -/
def spr (b : List Nat) : Nat → List Nat
  | 0 => zl 64
  | k + 1 => (spr b k).set k (if k < 16 then be b k else sch (spr b k) k)

theorem spr_zero (b : List Nat) : spr b 0 = zl 64 := rfl
/-- every number of the list is below n -/
def Lt (n : Nat) (l : List Nat) : Prop := ∀ x ∈ l, x < n
theorem Lt.getD {n : Nat} {l : List Nat} (h : Lt n l) (hn : 0 < n) (i : Nat) : at0 l i < n := by
  rw [at0, List.getD_eq_getElem?_getD]
  by_cases hi : i < l.length
  · rw [List.getElem?_eq_getElem hi]; exact h _ (List.getElem_mem hi)
  · rw [List.getElem?_eq_none (by omega)]; simpa using hn
theorem Lt.set {n : Nat} {l : List Nat} (h : Lt n l) (i x : Nat) (hx : x < n) : Lt n (l.set i x) := by
  intro y hy
  rcases List.mem_or_eq_of_mem_set hy with hy | rfl
  · exact h _ hy
  · exact hx

theorem or_lt {a b : Nat} (ha : a < M) (hb : b < M) : a ||| b < M := Nat.or_lt_two_pow (n := 32) ha hb
theorem xor_lt {a b : Nat} (ha : a < M) (hb : b < M) : a ^^^ b < M := Nat.xor_lt_two_pow (n := 32) ha hb
theorem and_lt {a b : Nat} (hb : b < M) : a &&& b < M := Nat.lt_of_le_of_lt Nat.and_le_right hb
theorem shr_lt {a : Nat} (n : Nat) (ha : a < M) : a >>> n < M := Nat.lt_of_le_of_lt (Nat.shiftRight_le _ _) ha
theorem mod_lt (a : Nat) : a % M < M := Nat.mod_lt _ (by decide)
theorem rotr_lt {x : Nat} (n : Nat) (h : x < M) : rotr x n < M := or_lt (shr_lt n h) (mod_lt _)
theorem sg0_lt {x : Nat} (h : x < M) : sg0 x < M := xor_lt (xor_lt (rotr_lt _ h) (rotr_lt _ h)) (shr_lt _ h)
theorem sg1_lt {x : Nat} (h : x < M) : sg1 x < M := xor_lt (xor_lt (rotr_lt _ h) (rotr_lt _ h)) (shr_lt _ h)
theorem Sg0_lt {x : Nat} (h : x < M) : Sg0 x < M := xor_lt (xor_lt (rotr_lt _ h) (rotr_lt _ h)) (rotr_lt _ h)
theorem Sg1_lt {x : Nat} (h : x < M) : Sg1 x < M := xor_lt (xor_lt (rotr_lt _ h) (rotr_lt _ h)) (rotr_lt _ h)
theorem ch_lt {e f g : Nat} (hf : f < M) (hg : g < M) : ch e f g < M := xor_lt (and_lt hf) (and_lt hg)
theorem maj_lt {a b c : Nat} (hb : b < M) (hc : c < M) : maj a b c < M := xor_lt (xor_lt (and_lt hb) (and_lt hc)) (and_lt hc)
theorem shl_lt {x : Nat} (n : Nat) (h : x < 256) (hn : n ≤ 24) : x <<< n < M := by
  rw [Nat.shiftLeft_eq]
  have : 2 ^ n ≤ 2 ^ 24 := Nat.pow_le_pow_right (by decide) hn
  calc x * 2 ^ n ≤ 255 * 2 ^ 24 := Nat.mul_le_mul (by omega) this
    _ < M := by decide
theorem be_lt {b : List Nat} (h : Lt 256 b) (i : Nat) : be b i < M := by
  have g := fun j => h.getD (by decide) j
  exact or_lt (or_lt (or_lt (shl_lt 24 (g _) (by decide)) (shl_lt 16 (g _) (by decide))) (shl_lt 8 (g _) (by decide))) (Nat.lt_trans (g _) (by decide))
theorem spr_len (b : List Nat) : ∀ k, (spr b k).length = 64
  | 0 => by simp [spr, zl]
  | k + 1 => by simp [spr, spr_len b k]
theorem spr_lt {b : List Nat} (h : Lt 256 b) : ∀ k, Lt M (spr b k)
  | 0 => zl_lt 64 M (by decide)
  | k + 1 => by
    rw [spr]
    refine (spr_lt h k).set _ _ ?_
    split
    · exact be_lt h _
    · exact mod_lt _

/-! bit operations of the model as those of natural numbers, of two's power as shifts -/
theorem bxor {a b : Nat} (ha : a < M) (hb : b < M) : bits .xor .u32 (a : Int) (b : Int) = ((a ^^^ b : Nat) : Int) := u32_xor_nat a b ha hb
theorem bor {a b : Nat} (ha : a < M) (hb : b < M) : bits .or .u32 (a : Int) (b : Int) = ((a ||| b : Nat) : Int) := u32_or_nat a b ha hb
theorem band {a b : Nat} (ha : a < M) (hb : b < M) : bits .and .u32 (a : Int) (b : Int) = ((a &&& b : Nat) : Int) := u32_and_nat a b ha hb
theorem addm (a b : Nat) : ((a : Int) + (b : Int)) % 4294967296 = (((a + b) % M : Nat) : Int) := by simp [M]
theorem shrm (a n : Nat) : (a : Int) / 2 ^ n = ((a >>> n : Nat) : Int) := by rw [Nat.shiftRight_eq_div_pow]; simp
theorem shlm (a n : Nat) : (a : Int) * 2 ^ n % 4294967296 = (((a <<< n) % M : Nat) : Int) := by rw [Nat.shiftLeft_eq]; simp [M]
theorem div_shr (x n m : Nat) (h : 2 ^ n = m) : (x : Int) / (m : Int) = ((x >>> n : Nat) : Int) := by rw [Nat.shiftRight_eq_div_pow, h]; simp
/-- the word that comes of those before, as the walk says it -/
theorem sch_walk {l : List Nat} (h : Lt M l) (k : Nat) :
    ((at0 l (k - 16) : Int) + bits .xor .u32 (bits .xor .u32 ↑(rotr (at0 l (k - 15)) 7) ↑(rotr (at0 l (k - 15)) 18)) (↑(at0 l (k - 15)) / 8) + ↑(at0 l (k - 7)) +
      bits .xor .u32 (bits .xor .u32 ↑(rotr (at0 l (k - 2)) 17) ↑(rotr (at0 l (k - 2)) 19)) (↑(at0 l (k - 2)) / 1024)) % 4294967296 = ((sch l k : Nat) : Int) := by
  have a1 : at0 l (k - 15) < M := h.getD (by decide) _
  have a2 : at0 l (k - 2) < M := h.getD (by decide) _
  rw [show (8 : Int) = ((8 : Nat) : Int) from rfl, show (1024 : Int) = ((1024 : Nat) : Int) from rfl, div_shr _ 3 8 rfl, div_shr _ 10 1024 rfl,
    bxor (rotr_lt _ a1) (rotr_lt _ a1), bxor (rotr_lt _ a2) (rotr_lt _ a2), bxor (xor_lt (rotr_lt _ a1) (rotr_lt _ a1)) (shr_lt _ a1), bxor (xor_lt (rotr_lt _ a2) (rotr_lt _ a2)) (shr_lt _ a2)]
  unfold sch sg0 sg1 M
  omega

theorem byte_shl (x n m : Nat) (hx : x < 256) (h : 2 ^ n = m) (hm : m ≤ 16777216) : (x : Int) % 4294967296 * (m : Int) % 4294967296 = ((x <<< n : Nat) : Int) := by
  have e : x <<< n = x * m := by rw [Nat.shiftLeft_eq, h]
  have hb : x * m ≤ 255 * 16777216 := Nat.mul_le_mul (by omega) hm
  have e1 : (x : Int) % 4294967296 = (x : Int) := Int.emod_eq_of_lt (by omega) (by omega)
  rw [e, e1, ← Int.natCast_mul, Int.emod_eq_of_lt (by omega) (by omega)]
/-- a word of a block, as the walk says it -/
theorem be_walk {b : List Nat} (h : Lt 256 b) (k : Nat) :
    bits .or .u32 (bits .or .u32 (bits .or .u32 ((at0 b (4 * k) : Int) % 4294967296 * 16777216 % 4294967296) (↑(at0 b (4 * k + 1)) % 4294967296 * 65536 % 4294967296))
      (↑(at0 b (4 * k + 2)) % 4294967296 * 256 % 4294967296)) (↑(at0 b (4 * k + 3)) % 4294967296) = ((be b k : Nat) : Int) := by
  have g := fun j => h.getD (by decide) j
  have g3 := g (4 * k + 3)
  have e3 : ((at0 b (4 * k + 3) : Nat) : Int) % 4294967296 = ((at0 b (4 * k + 3) : Nat) : Int) := Int.emod_eq_of_lt (by omega) (by omega)
  have e0 := byte_shl (at0 b (4 * k)) 24 16777216 (g _) (by decide) (by decide)
  have e1 := byte_shl (at0 b (4 * k + 1)) 16 65536 (g _) (by decide) (by decide)
  have e2 := byte_shl (at0 b (4 * k + 2)) 8 256 (g _) (by decide) (by decide)
  have l0 := shl_lt 24 (g (4 * k)) (by decide)
  have l1 := shl_lt 16 (g (4 * k + 1)) (by decide)
  have l2 := shl_lt 8 (g (4 * k + 2)) (by decide)
  rw [show (16777216 : Int) = ((16777216 : Nat) : Int) from rfl, show (65536 : Int) = ((65536 : Nat) : Int) from rfl, show (256 : Int) = ((256 : Nat) : Int) from rfl, e3, e0, e1, e2, bor l0 l1, bor (or_lt l0 l1) l2, bor (or_lt (or_lt l0 l1) l2) (Nat.lt_trans g3 (by decide))]
  rfl

/-! a round -/
def rnd (k x : Nat) (v : List Nat) : List Nat :=
  let t := ((((at0 v 7 + Sg1 (at0 v 4)) % M + ch (at0 v 4) (at0 v 5) (at0 v 6)) % M + k) % M + x) % M
  let u := (Sg0 (at0 v 0) + maj (at0 v 0) (at0 v 1) (at0 v 2)) % M
  [(t + u) % M, at0 v 0, at0 v 1, at0 v 2, (at0 v 3 + t) % M, at0 v 4, at0 v 5, at0 v 6]
theorem nxor (a : Nat) (h : a < M) : 4294967295 ^^^ a = 4294967295 - a := by
  have : (BitVec.allOnes 32 ^^^ BitVec.ofNat 32 a).toNat = (~~~ (BitVec.ofNat 32 a)).toNat := by rw [BitVec.allOnes_xor]
  rw [BitVec.toNat_not, BitVec.toNat_xor] at this
  unfold M at h
  simpa [BitVec.toNat_allOnes, Nat.mod_eq_of_lt h] using this
theorem bmax (a : Nat) (h : a < M) : bits .xor .u32 IntKind.u32.max (a : Int) = ((4294967295 - a : Nat) : Int) := by
  rw [show IntKind.u32.max = ((4294967295 : Nat) : Int) from rfl, bxor (by decide) h, nxor a h]
theorem rnd_len (k x : Nat) (v : List Nat) : (rnd k x v).length = 8 := rfl
theorem rnd_lt (k x : Nat) {v : List Nat} (h : Lt M v) : Lt M (rnd k x v) := by
  have g := fun j => h.getD (by decide) j
  intro y hy
  simp only [rnd, List.mem_cons, List.not_mem_nil, or_false] at hy
  rcases hy with rfl | rfl | rfl | rfl | rfl | rfl | rfl | rfl <;> first | exact mod_lt _ | exact g _
/-- the eight words behind a round, as the walk says them -/
theorem rnd_walk (v : List Nat) (kk x : Nat) (h : Lt M v) :
    #[Value.int .u32 (((at0 v 7 : Int) + bits .xor .u32 (bits .xor .u32 ↑(rotr (at0 v 4) 6) ↑(rotr (at0 v 4) 11)) ↑(rotr (at0 v 4) 25) +
          bits .xor .u32 (bits .and .u32 ↑(at0 v 4) ↑(at0 v 5)) (bits .and .u32 (bits .xor .u32 IntKind.u32.max ↑(at0 v 4)) ↑(at0 v 6)) + ↑kk + ↑x +
          (bits .xor .u32 (bits .xor .u32 ↑(rotr (at0 v 0) 2) ↑(rotr (at0 v 0) 13)) ↑(rotr (at0 v 0) 22) +
            bits .xor .u32 (bits .xor .u32 (bits .and .u32 ↑(at0 v 0) ↑(at0 v 1)) (bits .and .u32 ↑(at0 v 0) ↑(at0 v 2))) (bits .and .u32 ↑(at0 v 1) ↑(at0 v 2)))) % 4294967296),
      Value.int .u32 ↑(at0 v 0), Value.int .u32 ↑(at0 v 1), Value.int .u32 ↑(at0 v 2),
      Value.int .u32 ((↑(at0 v 3) + (↑(at0 v 7) + bits .xor .u32 (bits .xor .u32 ↑(rotr (at0 v 4) 6) ↑(rotr (at0 v 4) 11)) ↑(rotr (at0 v 4) 25) +
          bits .xor .u32 (bits .and .u32 ↑(at0 v 4) ↑(at0 v 5)) (bits .and .u32 (bits .xor .u32 IntKind.u32.max ↑(at0 v 4)) ↑(at0 v 6)) + ↑kk + ↑x)) % 4294967296),
      Value.int .u32 ↑(at0 v 4), Value.int .u32 ↑(at0 v 5), Value.int .u32 ↑(at0 v 6)] = wv (rnd kk x v) := by
  have g := fun j => h.getD (by decide) j
  rw [bmax _ (g 4), bxor (rotr_lt 6 (g 4)) (rotr_lt 11 (g 4)), bxor (xor_lt (rotr_lt 6 (g 4)) (rotr_lt 11 (g 4))) (rotr_lt 25 (g 4)),
    band (g 4) (g 5), band (a := 4294967295 - at0 v 4) (by unfold M; omega) (g 6), bxor (and_lt (g 5)) (and_lt (g 6)),
    bxor (rotr_lt 2 (g 0)) (rotr_lt 13 (g 0)), bxor (xor_lt (rotr_lt 2 (g 0)) (rotr_lt 13 (g 0))) (rotr_lt 22 (g 0)),
    band (g 0) (g 1), band (g 0) (g 2), band (g 1) (g 2), bxor (and_lt (g 1)) (and_lt (g 2)), bxor (xor_lt (and_lt (g 1)) (and_lt (g 2))) (and_lt (g 2))]
  have e : ∀ a b c d e f g i : Nat, ∀ p q : Int, p = (a : Int) → q = (e : Int) →
      #[Value.int .u32 p, Value.int .u32 ↑b, Value.int .u32 ↑c, Value.int .u32 ↑d, Value.int .u32 q, Value.int .u32 ↑f, Value.int .u32 ↑g, Value.int .u32 ↑i] = wv [a, b, c, d, e, f, g, i] := by
    intro a b c d e f g i p q hp hq; subst hp; subst hq; rfl
  unfold rnd
  refine e _ _ _ _ _ _ _ _ _ _ ?_ ?_
  · unfold Sg1 Sg0 ch maj M; omega
  · unfold Sg1 ch M; omega
/-! a block mixed into eight words -/
def rds (cn sp was : List Nat) : Nat → List Nat
  | 0 => was
  | k + 1 => rnd (at0 cn k) (at0 sp k) (rds cn sp was k)
def fold (was now : List Nat) : Nat → List Nat
  | 0 => now
  | k + 1 => (fold was now k).set k ((at0 (fold was now k) k + at0 was k) % M)
def KON : List Nat := [0x428a2f98, 0x71374491, 0xb5c0fbcf, 0xe9b5dba5, 0x3956c25b, 0x59f111f1, 0x923f82a4, 0xab1c5ed5,
  0xd807aa98, 0x12835b01, 0x243185be, 0x550c7dc3, 0x72be5d74, 0x80deb1fe, 0x9bdc06a7, 0xc19bf174,
  0xe49b69c1, 0xefbe4786, 0x0fc19dc6, 0x240ca1cc, 0x2de92c6f, 0x4a7484aa, 0x5cb0a9dc, 0x76f988da,
  0x983e5152, 0xa831c66d, 0xb00327c8, 0xbf597fc7, 0xc6e00bf3, 0xd5a79147, 0x06ca6351, 0x14292967,
  0x27b70a85, 0x2e1b2138, 0x4d2c6dfc, 0x53380d13, 0x650a7354, 0x766a0abb, 0x81c2c92e, 0x92722c85,
  0xa2bfe8a1, 0xa81a664b, 0xc24b8b70, 0xc76c51a3, 0xd192e819, 0xd6990624, 0xf40e3585, 0x106aa070,
  0x19a4c116, 0x1e376c08, 0x2748774c, 0x34b0bcb5, 0x391c0cb3, 0x4ed8aa4a, 0x5b9cca4f, 0x682e6ff3,
  0x748f82ee, 0x78a5636f, 0x84c87814, 0x8cc70208, 0x90befffa, 0xa4506ceb, 0xbef9a3f7, 0xc67178f2]
def BEG : List Nat := [0x6a09e667, 0xbb67ae85, 0x3c6ef372, 0xa54ff53a, 0x510e527f, 0x9b05688c, 0x1f83d9ab, 0x5be0cd19]
/-- the words into which a block was mixed -/
def mixL (was b : List Nat) : List Nat := fold was (rds KON (spr b 64) was 64) 8
instance ltDec (n : Nat) (l : List Nat) : Decidable (Lt n l) := inferInstanceAs (Decidable (∀ x ∈ l, x < n))
theorem rds_zero (cn sp was : List Nat) : rds cn sp was 0 = was := rfl
theorem rds_succ (cn sp was : List Nat) (k : Nat) : rds cn sp was (k + 1) = rnd (at0 cn k) (at0 sp k) (rds cn sp was k) := rfl
theorem fold_zero (was now : List Nat) : fold was now 0 = now := rfl
theorem fold_succ (was now : List Nat) (k : Nat) : fold was now (k + 1) = (fold was now k).set k ((at0 (fold was now k) k + at0 was k) % M) := rfl
theorem KON_len : KON.length = 64 := rfl
theorem KON_lt : Lt M KON := by decide
theorem BEG_len : BEG.length = 8 := rfl
theorem BEG_lt : Lt M BEG := by decide
theorem rds_len (cn sp : List Nat) {was : List Nat} (h : was.length = 8) : ∀ k, (rds cn sp was k).length = 8
  | 0 => h
  | _ + 1 => rnd_len _ _ _
theorem rds_lt (cn sp : List Nat) {was : List Nat} (h : Lt M was) : ∀ k, Lt M (rds cn sp was k)
  | 0 => h
  | k + 1 => rnd_lt _ _ (rds_lt cn sp h k)
theorem fold_len (was : List Nat) {now : List Nat} : ∀ k, (fold was now k).length = now.length
  | 0 => rfl
  | k + 1 => by simp [fold, fold_len was k]
theorem fold_lt (was : List Nat) {now : List Nat} (h : Lt M now) : ∀ k, Lt M (fold was now k)
  | 0 => h
  | k + 1 => (fold_lt was h k).set _ _ (mod_lt _)
theorem mixL_len {was : List Nat} (b : List Nat) (h : was.length = 8) : (mixL was b).length = 8 := by rw [mixL, fold_len, rds_len _ _ h]
theorem mixL_lt {was : List Nat} (b : List Nat) (h : Lt M was) : Lt M (mixL was b) := fold_lt _ (rds_lt _ _ h _) _
attribute [irreducible] wv bv spr rds fold zl mixL KON BEG
end Go.Sha
