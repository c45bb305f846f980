/- A faster way to mix a block, equal to the plain one: for digests of many blocks by the kernel's own reckoning. No program is spoken of here. -/
import Derived.Test.YtppbdjgpkcpppaaDoorShaPure4
import Derived.KernelRfl
namespace Go.Sha.Fast

/-- n is looked at before it is handed on -/
noncomputable def force {α : Type} (n : Nat) (k : Nat → α) : α := Nat.rec (k 0) (fun m _ => k (Nat.succ m)) n
theorem force_eq {α : Type} (n : Nat) (k : Nat → α) : force n k = k n := by cases n <;> rfl
def rot (x n m : Nat) : Nat := Nat.lor (Nat.shiftRight x n) (Nat.mod (Nat.shiftLeft x m) 4294967296)
noncomputable def step (k a b c d e f g h : Nat) (cont : Nat → Nat → Nat → Nat → Nat → Nat → Nat → Nat → List Nat) : List Nat :=
  force (Nat.add (Nat.add h (Nat.xor (Nat.xor (rot e 6 26) (rot e 11 21)) (rot e 25 7))) (Nat.add (Nat.xor (Nat.land e f) (Nat.land (Nat.sub 4294967295 e) g)) k)) fun t =>
  force (Nat.mod (Nat.add t (Nat.add (Nat.xor (Nat.xor (rot a 2 30) (rot a 13 19)) (rot a 22 10)) (Nat.xor (Nat.xor (Nat.land a b) (Nat.land a c)) (Nat.land b c)))) 4294967296) fun a' =>
  force (Nat.mod (Nat.add d t) 4294967296) fun e' => cont a' a b c e' e f g
noncomputable def rounds (l : List Nat) : Nat → Nat → Nat → Nat → Nat → Nat → Nat → Nat → (Nat → Nat → Nat → Nat → Nat → Nat → Nat → Nat → List Nat) → List Nat :=
  List.rec (fun a b c d e f g h k => k a b c d e f g h) (fun x _ ih a b c d e f g h k => step x a b c d e f g h (fun a b c d e f g h => ih a b c d e f g h k)) l
def addM (x y : Nat) : Nat := Nat.mod (Nat.add x y) 4294967296
theorem addM_eq (x y : Nat) : addM x y = (y + x) % M := by rw [Nat.add_comm y x]; rfl
noncomputable def block (kw : List Nat) (a b c d e f g h : Nat) (k : Nat → Nat → Nat → Nat → Nat → Nat → Nat → Nat → List Nat) : List Nat :=
  rounds kw a b c d e f g h fun a1 b1 c1 d1 e1 f1 g1 h1 =>
    force (addM a a1) fun a => force (addM b b1) fun b => force (addM c c1) fun c => force (addM d d1) fun d =>
    force (addM e e1) fun e => force (addM f f1) fun f => force (addM g g1) fun g => force (addM h h1) fun h => k a b c d e f g h
noncomputable def blocks (kw : List Nat) (n : Nat) : Nat → Nat → Nat → Nat → Nat → Nat → Nat → Nat → List Nat :=
  Nat.rec (fun a b c d e f g h => [a, b, c, d, e, f, g, h]) (fun _ ih a b c d e f g h => block kw a b c d e f g h ih) n

theorem rot_eq (x n m : Nat) (h : m = 32 - n) : rot x n m = rotr x n := by subst h; rfl
/-- one round: the constant and the spread word come as one sum -/
theorem step_eq (k x kx a b c d e f g h : Nat) (cont : Nat → Nat → Nat → Nat → Nat → Nat → Nat → Nat → List Nat) (hk : kx = (k + x) % M) :
    ∃ a' e', rnd k x [a, b, c, d, e, f, g, h] = [a', a, b, c, e', e, f, g] ∧ step kx a b c d e f g h cont = cont a' a b c e' e f g := by
  refine ⟨_, _, rfl, ?_⟩
  unfold step
  rw [force_eq, force_eq, force_eq, rot_eq e 6 26 rfl, rot_eq e 11 21 rfl, rot_eq e 25 7 rfl, rot_eq a 2 30 rfl, rot_eq a 13 19 rfl, rot_eq a 22 10 rfl]
  have e1 : Nat.xor (Nat.xor (rotr e 6) (rotr e 11)) (rotr e 25) = Sg1 e := rfl
  have e2 : Nat.xor (Nat.xor (rotr a 2) (rotr a 13)) (rotr a 22) = Sg0 a := rfl
  have e3 : Nat.xor (Nat.land e f) (Nat.land (Nat.sub 4294967295 e) g) = ch e f g := rfl
  have e4 : Nat.xor (Nat.xor (Nat.land a b) (Nat.land a c)) (Nat.land b c) = maj a b c := rfl
  rw [e1, e2, e3, e4]
  have em : ∀ a b : Nat, Nat.mod a b = a % b := fun _ _ => rfl
  simp only [at0, List.getD_cons_zero, List.getD_cons_succ, Nat.add_eq, em, M] at hk ⊢
  generalize Sg1 e = p at *
  generalize Sg0 a = q at *
  generalize ch e f g = r at *
  generalize maj a b c = s at *
  congr 1 <;> omega
/-- many rounds, from round i on -/
theorem rounds_eq (cn sp was : List Nat) (cont : Nat → Nat → Nat → Nat → Nat → Nat → Nat → Nat → List Nat) : ∀ (l : List Nat) (i a b c d e f g h : Nat), (∀ j, j < l.length → at0 l j = (at0 cn (i + j) + at0 sp (i + j)) % M) →
    rds cn sp was i = [a, b, c, d, e, f, g, h] →
    ∃ a2 b2 c2 d2 e2 f2 g2 h2, rds cn sp was (i + l.length) = [a2, b2, c2, d2, e2, f2, g2, h2] ∧ rounds l a b c d e f g h cont = cont a2 b2 c2 d2 e2 f2 g2 h2
  | [], i, a, b, c, d, e, f, g, h, _, hs => ⟨a, b, c, d, e, f, g, h, by simpa using hs, rfl⟩
  | x :: l, i, a, b, c, d, e, f, g, h, hl, hs => by
    have h0 := hl 0 (by simp)
    obtain ⟨a', e', h1, h2⟩ := step_eq (at0 cn i) (at0 sp i) x a b c d e f g h (fun a b c d e f g h => rounds l a b c d e f g h cont) (by simpa [at0] using h0)
    have hs' : rds cn sp was (i + 1) = [a', a, b, c, e', e, f, g] := by rw [rds_succ, hs, h1]
    obtain ⟨a2, b2, c2, d2, e2, f2, g2, h2', k1, k2⟩ := rounds_eq cn sp was cont l (i + 1) a' a b c e' e f g (fun j hj => by
      have := hl (j + 1) (by simpa using hj)
      rw [show i + 1 + j = i + (j + 1) by omega, ← this]
      simp [at0]) hs'
    refine ⟨a2, b2, c2, d2, e2, f2, g2, h2', ?_, ?_⟩
    · rw [← k1]; congr 1; simp; omega
    · exact h2.trans k2
theorem fold8 (a b c d e f g h a1 b1 c1 d1 e1 f1 g1 h1 : Nat) : fold [a, b, c, d, e, f, g, h] [a1, b1, c1, d1, e1, f1, g1, h1] 8 =
    [(a1 + a) % M, (b1 + b) % M, (c1 + c) % M, (d1 + d) % M, (e1 + e) % M, (f1 + f) % M, (g1 + g) % M, (h1 + h) % M] := by
  rw [fold_succ, fold_succ, fold_succ, fold_succ, fold_succ, fold_succ, fold_succ, fold_succ, fold_zero]
  simp [at0]
/-- a block -/
theorem block_eq (kw b : List Nat) (hkw : kw.length = 64) (hj : ∀ j, j < 64 → at0 kw j = (at0 KON j + at0 (spr b 64) j) % M) (cont : Nat → Nat → Nat → Nat → Nat → Nat → Nat → Nat → List Nat) (a0 b0 c0 d0 e0 f0 g0 h0 : Nat) :
    ∃ a2 b2 c2 d2 e2 f2 g2 h2, mixL [a0, b0, c0, d0, e0, f0, g0, h0] b = [a2, b2, c2, d2, e2, f2, g2, h2] ∧ block kw a0 b0 c0 d0 e0 f0 g0 h0 cont = cont a2 b2 c2 d2 e2 f2 g2 h2 := by
  obtain ⟨a1, b1, c1, d1, e1, f1, g1, h1, k1, k2⟩ := rounds_eq KON (spr b 64) [a0, b0, c0, d0, e0, f0, g0, h0]
    (fun a1 b1 c1 d1 e1 f1 g1 h1 =>
      force (addM a0 a1) fun a => force (addM b0 b1) fun b => force (addM c0 c1) fun c => force (addM d0 d1) fun d =>
      force (addM e0 e1) fun e => force (addM f0 f1) fun f => force (addM g0 g1) fun g => force (addM h0 h1) fun h => cont a b c d e f g h)
    kw 0 a0 b0 c0 d0 e0 f0 g0 h0 (fun j hj' => by rw [Nat.zero_add]; exact hj j (by omega)) (rds_zero _ _ _)
  rw [Nat.zero_add, hkw] at k1
  simp only [force_eq, addM_eq] at k2
  refine ⟨(a1 + a0) % M, (b1 + b0) % M, (c1 + c0) % M, (d1 + d0) % M, (e1 + e0) % M, (f1 + f0) % M, (g1 + g0) % M, (h1 + h0) % M, by rw [mixL, k1, fold8], ?_⟩
  unfold block
  simp only [force_eq, addM_eq]
  exact k2
def itr (f : List Nat → List Nat) : Nat → List Nat → List Nat
  | 0, v => v
  | n + 1, v => itr f n (f v)
theorem itr_add (f : List Nat → List Nat) (m : Nat) : ∀ (n : Nat) (v : List Nat), itr f (n + m) v = itr f m (itr f n v)
  | 0, v => by rw [Nat.zero_add]; rfl
  | n + 1, v => by rw [show n + 1 + m = (n + m) + 1 by omega]; exact itr_add f m n (f v)
theorem itr_succ (f : List Nat → List Nat) (n : Nat) (v : List Nat) : itr f (n + 1) v = itr f n (f v) := rfl
theorem blocks_succ (kw : List Nat) (n a b c d e f g h : Nat) : blocks kw (n + 1) a b c d e f g h = block kw a b c d e f g h (blocks kw n) := rfl
theorem blocks_zero (kw : List Nat) (a b c d e f g h : Nat) : blocks kw 0 a b c d e f g h = [a, b, c, d, e, f, g, h] := rfl
theorem blocks_eq (kw b : List Nat) (hkw : kw.length = 64) (hj : ∀ j, j < 64 → at0 kw j = (at0 KON j + at0 (spr b 64) j) % M) (n : Nat) : ∀ (a0 b0 c0 d0 e0 f0 g0 h0 : Nat),
    blocks kw n a0 b0 c0 d0 e0 f0 g0 h0 = itr (fun v => mixL v b) n [a0, b0, c0, d0, e0, f0, g0, h0] := by
  induction n with
  | zero => intro a0 b0 c0 d0 e0 f0 g0 h0; rw [blocks_zero]; rfl
  | succ n ih =>
    intro a0 b0 c0 d0 e0 f0 g0 h0
    obtain ⟨a2, b2, c2, d2, e2, f2, g2, h2, k1, k2⟩ := block_eq kw b hkw hj (blocks kw n) a0 b0 c0 d0 e0 f0 g0 h0
    rw [blocks_succ, k2, ih, itr_succ, k1]
/-- whole blocks that are written one behind the other -/
theorem putL_blocks (b : List Nat) (hb : b.length = 64) (n : Nat) : ∀ (s : HS), s.r.length = 64 → s.c % 64 = 0 →
    (putL s (List.flatten (List.replicate n b))).m = itr (fun v => mixL v b) n s.m := by
  induction n with
  | zero => intro s _ _; rw [List.replicate_zero, List.flatten_nil, putL_nil]; rfl
  | succ n ih =>
    intro s hr hc
    have hl : lay s.r (s.c % 64) b = b := by
      unfold lay; rw [hc]; simp [hb, ← hr]
    rw [List.replicate_succ, List.flatten_cons, putL_append, putL_piece b s hr (by omega) (by omega), hl, if_pos (by omega), ih _ hb (by show (s.c + b.length) % 64 = 0; omega), itr_succ]
end Go.Sha.Fast
