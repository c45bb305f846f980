/- The plain model of a disk: of each sector what lasts, and perhaps what waits. -/
import Derived.Maps.Ext
import Derived.Lib.SlKeysI
import Derived.Lib.UnsafeStr
namespace Go.Dk

/-- bytes -/
abbrev By := List UInt8
/-- bytes as cells -/
def bc (l : By) : Array Value := (Lib.byteCells l).toArray
theorem bc_size (l : By) : (bc l).size = l.length := by simp [bc, Lib.byteCells]
theorem bc_list (l : By) : (bc l).toList = Lib.byteCells l := by simp [bc]
theorem byl_len (l : By) : (Lib.byteCells l).length = l.length := by simp [Lib.byteCells]
theorem byl_app (a b : By) : Lib.byteCells (a ++ b) = Lib.byteCells a ++ Lib.byteCells b := by simp [Lib.byteCells]
theorem byl_take (a : By) (n : Nat) : (Lib.byteCells a).take n = Lib.byteCells (a.take n) := by simp [Lib.byteCells, List.map_take]
theorem byl_drop (a : By) (n : Nat) : (Lib.byteCells a).drop n = Lib.byteCells (a.drop n) := by simp [Lib.byteCells, List.map_drop]
theorem bc_get (l : By) (j : Nat) : (bc l)[j]? = (Lib.byteCells l)[j]? := by simp [bc]
theorem bc_one (l : By) : (bc l).all (·.oneCell') = true := by
  rw [Array.all_eq_true_iff_forall_mem]
  intro v hv
  simp [bc, Lib.byteCells] at hv
  obtain ⟨c, _, rfl⟩ := hv
  rfl
theorem byl_one (l : By) : ∀ u ∈ Lib.byteCells l, u.oneCell' = true := by
  intro u hu
  obtain ⟨c, _, rfl⟩ := List.mem_map.1 hu
  rfl
/-- a function that is another at one place -/
def upd {α : Type} (f : Nat → α) (i : Nat) (a : α) : Nat → α := fun j => if j = i then a else f j
theorem upd_same {α : Type} (f : Nat → α) (i : Nat) (a : α) : upd f i a i = a := if_pos rfl
theorem upd_other {α : Type} (f : Nat → α) {i j : Nat} (a : α) (h : j ≠ i) : upd f i a j = f j := if_neg h
/-- rows one behind the other -/
def flat (la : Nat → By) : Nat → By
  | 0 => []
  | n + 1 => flat la n ++ la n
theorem flat_len {la : Nat → By} (h : ∀ i, (la i).length = 64) : ∀ n, (flat la n).length = 64 * n
  | 0 => rfl
  | n + 1 => by rw [flat, List.length_append, flat_len h n, h]; omega
theorem flat_congr {la lb : Nat → By} : ∀ {n : Nat}, (∀ i, i < n → la i = lb i) → flat la n = flat lb n
  | 0, _ => rfl
  | n + 1, h => by rw [flat, flat, flat_congr (fun i hi => h i (by omega)), h n (by omega)]
theorem flat_row {la : Nat → By} (h : ∀ i, (la i).length = 64) {i : Nat} : ∀ {n : Nat}, i < n → ((flat la n).drop (64 * i)).take 64 = la i
  | 0, hi => absurd hi (by omega)
  | n + 1, hi => by
    rw [flat]
    by_cases e : i = n
    · subst e
      rw [List.drop_append_of_le_length (by rw [flat_len h]; exact Nat.le_refl _), List.drop_of_length_le (by rw [flat_len h]; exact Nat.le_refl _), List.nil_append, List.take_of_length_le (by rw [h]; exact Nat.le_refl _)]
    · have hl := flat_len h n
      rw [List.drop_append_of_le_length (by omega), List.take_append_of_le_length (by rw [List.length_drop]; omega)]
      exact flat_row h (by omega)
theorem flat_get {la : Nat → By} (h : ∀ i, (la i).length = 64) {n i j : Nat} (hi : i < n) (hj : j < 64) : (flat la n)[64 * i + j]? = (la i)[j]? := by
  rw [← flat_row h hi, List.getElem?_take, if_pos hj, List.getElem?_drop]
theorem flat_inj {la lb : Nat → By} (ha : ∀ i, (la i).length = 64) (hb : ∀ i, (lb i).length = 64) {n : Nat} (h : flat la n = flat lb n) : ∀ i, i < n → la i = lb i := fun i hi => by
  rw [← flat_row ha hi, h, flat_row hb hi]
theorem flat_upd {la : Nat → By} (h : ∀ i, (la i).length = 64) {i : Nat} {s : By} (hs : s.length = 64) : ∀ {n : Nat}, i < n →
    flat (upd la i s) n = (flat la n).take (64 * i) ++ s ++ (flat la n).drop (64 * i + 64)
  | 0, hi => absurd hi (by omega)
  | n + 1, hi => by
    have hl := flat_len h n
    by_cases e : i = n
    · subst e
      rw [flat, flat, upd_same, flat_congr (la := upd la i s) (lb := la) (fun k hk => upd_other _ _ (by omega))]
      rw [List.take_append_of_le_length (by omega), List.take_of_length_le (by omega), List.drop_of_length_le (by rw [List.length_append, hl, h]; omega), List.append_nil]
    · rw [flat, flat, upd_other _ _ (Ne.symm e), flat_upd h hs (by omega : i < n), List.take_append_of_le_length (by omega), List.drop_append_of_le_length (by omega), List.append_assoc, List.append_assoc]
theorem upd_len {la : Nat → By} (h : ∀ i, (la i).length = 64) {i : Nat} {s : By} (hs : s.length = 64) : ∀ k, (upd la i s k).length = 64 := fun k => by
  unfold upd; split
  · exact hs
  · exact h k
theorem bc_upd {la : Nat → By} (h : ∀ i, (la i).length = 64) {i n : Nat} {s : By} (hi : i < n) (hs : s.length = 64) :
    ((bc (flat la n)).toList.take (i * 64) ++ (bc s).toList ++ (bc (flat la n)).toList.drop (i * 64 + (bc s).size)).toArray = bc (flat (upd la i s) n) := by
  rw [bc_size, hs, Nat.mul_comm i 64, bc_list, bc_list, byl_take, byl_drop, ← byl_app, ← byl_app, ← flat_upd h hs hi, ← bc_list]
/-- a disk -/
structure Dk where
  n : Nat
  la : Nat → By
  wt : Nat → Option By
  dead : Bool
  fuse : Int
structure Dk.Ok (d : Dk) : Prop where
  n1 : 1 ≤ d.n
  n2 : d.n ≤ 4096
  la : ∀ i, (d.la i).length = 64
  wt : ∀ i s, d.wt i = some s → i < d.n ∧ s.length = 64
  f1 : -1 ≤ d.fuse
  f2 : d.fuse ≤ 9223372036854775807
/-- what is read of a sector -/
def Dk.rd (d : Dk) (i : Nat) : By := (d.wt i).getD (d.la i)
theorem Dk.Ok.rd {d : Dk} (h : d.Ok) (i : Nat) : (d.rd i).length = 64 := by
  unfold Dk.rd
  cases e : d.wt i with
  | none => exact h.la i
  | some s => exact (h.wt i s e).2
/-- the map, as it reads -/
def ents (wt : Nat → Option By) : Nat → List (Lit × DataW Value)
  | 0 => []
  | n + 1 => ents wt n ++ (match wt n with | none => [] | some s => [(Lit.int .i64 (n : Int), .held (.agg (bc s)))])
def Dm (n : Nat) (wt : Nat → Option By) : DataW Value := .map (ents wt n)
theorem mem_ents {wt : Nat → Option By} {p : Lit × DataW Value} : ∀ {n : Nat}, p ∈ ents wt n ↔ ∃ i s, i < n ∧ wt i = some s ∧ p = (Lit.int .i64 (i : Int), .held (.agg (bc s)))
  | 0 => by simp [ents]
  | n + 1 => by
    rw [ents, List.mem_append, mem_ents (n := n)]
    constructor
    · rintro (⟨i, s, h1, h2, h3⟩ | h)
      · exact ⟨i, s, by omega, h2, h3⟩
      · cases e : wt n with
        | none => rw [e] at h; cases h
        | some s => rw [e] at h; exact ⟨n, s, by omega, e, by simpa using h⟩
    · rintro ⟨i, s, h1, h2, h3⟩
      by_cases e : i = n
      · subst e; right; rw [h2]; simp [h3]
      · exact .inl ⟨i, s, by omega, h2, h3⟩
theorem ents_rising (wt : Nat → Option By) : ∀ n, (ents wt n).Pairwise (fun p q => p.1.before q.1 = true)
  | 0 => List.Pairwise.nil
  | n + 1 => by
    rw [ents, List.pairwise_append]
    refine ⟨ents_rising wt n, ?_, fun p hp q hq => ?_⟩
    · cases wt n with
      | none => exact List.Pairwise.nil
      | some s => exact List.pairwise_singleton _ _
    · obtain ⟨i, s, h1, _, rfl⟩ := mem_ents.1 hp
      cases e : wt n with
      | none => rw [e] at hq; cases hq
      | some s' => rw [e] at hq; obtain rfl := List.mem_singleton.1 hq; simp [Lit.before]; omega
theorem canon_Dm (n : Nat) (wt : Nat → Option By) : Maps.Canon (Dm n wt) :=
  ⟨_, rfl, ents_rising wt n, fun p hp => by obtain ⟨i, s, _, _, rfl⟩ := mem_ents.1 hp; exact True.intro⟩
theorem has_Dm (n : Nat) (wt : Nat → Option By) (k : Lit) : Maps.has (Dm n wt) k = true ↔ ∃ i s, i < n ∧ wt i = some s ∧ k = Lit.int .i64 (i : Int) := by
  show (ents wt n).any _ = true ↔ _
  rw [List.any_eq_true]
  constructor
  · rintro ⟨p, hp, hk⟩
    obtain ⟨i, s, h1, h2, rfl⟩ := mem_ents.1 hp
    exact ⟨i, s, h1, h2, (WideAt.sameKey_eq hk).symm⟩
  · rintro ⟨i, s, h1, h2, rfl⟩
    exact ⟨_, mem_ents.2 ⟨i, s, h1, h2, rfl⟩, WideAt.sameKey_self True.intro⟩
theorem at_Dm {n : Nat} {wt : Nat → Option By} {i : Nat} {s : By} (hi : i < n) (hs : wt i = some s) (z : DataW Value) : (Dm n wt).atKey (Lit.int .i64 (i : Int)) z = .held (.agg (bc s)) := by
  unfold DataW.atKey Dm
  dsimp only
  cases e : (ents wt n).find? (fun p => p.1.sameKey (Lit.int .i64 (i : Int))) with
  | none =>
    have := List.find?_eq_none.1 e _ (mem_ents.2 ⟨i, s, hi, hs, rfl⟩)
    exact absurd (WideAt.sameKey_self (a := Lit.int .i64 (i : Int)) True.intro) this
  | some p =>
    obtain ⟨j, s', h1, h2, rfl⟩ := mem_ents.1 (List.mem_of_find?_eq_some e)
    have hk := WideAt.sameKey_eq (show (Lit.int .i64 (j : Int)).sameKey (Lit.int .i64 (i : Int)) = true from List.find?_some (p := fun p : Lit × DataW Value => p.1.sameKey (Lit.int .i64 (i : Int))) e)
    simp only [Lit.int.injEq, true_and] at hk
    obtain rfl : j = i := by omega
    rw [hs] at h2
    cases h2
    rfl
theorem put_Dm {n : Nat} {wt : Nat → Option By} {i : Nat} (hi : i < n) (s : By) (hc : Maps.Canon ((Dm n wt).put (Lit.int .i64 (i : Int)) (.held (.agg (bc s))))) :
    (Dm n wt).put (Lit.int .i64 (i : Int)) (.held (.agg (bc s))) = Dm n (upd wt i (some s)) := by
  have hm : Maps.IsMap (Dm n wt) := ⟨_, rfl⟩
  refine Maps.ext hc (canon_Dm _ _) (fun k => ?_) (fun k z hk => ?_)
  · by_cases e : k = Lit.int .i64 (i : Int)
    · subst e
      rw [Maps.has_put_same hm (show WideAt.IsKeyLit (Lit.int .i64 (i : Int)) from True.intro)]
      exact ((has_Dm _ _ _).2 ⟨i, s, hi, upd_same _ _ _, rfl⟩).symm
    · rw [Maps.has_put_other e, Bool.eq_iff_iff, has_Dm, has_Dm]
      constructor
      · rintro ⟨j, s', h1, h2, rfl⟩
        exact ⟨j, s', h1, by rw [upd_other _ _ (fun h => e (by rw [h]))]; exact h2, rfl⟩
      · rintro ⟨j, s', h1, h2, rfl⟩
        exact ⟨j, s', h1, by rw [upd_other _ _ (fun h => e (by rw [h]))] at h2; exact h2, rfl⟩
  · by_cases e : k = Lit.int .i64 (i : Int)
    · subst e
      rw [Maps.atKey_put_same hm (show WideAt.IsKeyLit (Lit.int .i64 (i : Int)) from True.intro), at_Dm hi (upd_same _ _ _)]
    · rw [Maps.has_put_other e] at hk
      obtain ⟨j, s', h1, h2, rfl⟩ := (has_Dm _ _ _).1 hk
      rw [Maps.atKey_put_other e, at_Dm h1 h2, at_Dm h1 (by rw [upd_other _ _ (fun h => e (by rw [h]))]; exact h2)]
theorem Dm_none (n : Nat) : Dm n (fun _ => none) = .map [] := by
  have : ∀ n, ents (fun _ => none) n = [] := fun n => by induction n with
    | zero => rfl
    | succ n ih => rw [ents, ih]; rfl
  unfold Dm; rw [this]
/-- the sectors that wait, in order -/
def keysW (wt : Nat → Option By) : Nat → List Nat
  | 0 => []
  | n + 1 => keysW wt n ++ (if (wt n).isSome then [n] else [])
theorem mem_keysW {wt : Nat → Option By} {i : Nat} : ∀ {n : Nat}, i ∈ keysW wt n ↔ i < n ∧ (wt i).isSome = true
  | 0 => by simp [keysW]
  | n + 1 => by
    rw [keysW, List.mem_append, mem_keysW (n := n)]
    constructor
    · rintro (⟨h1, h2⟩ | h)
      · exact ⟨by omega, h2⟩
      · split at h <;> rename_i hs
        · obtain rfl := List.mem_singleton.1 h; exact ⟨by omega, hs⟩
        · cases h
    · rintro ⟨h1, h2⟩
      by_cases e : i = n
      · subst e; right; rw [if_pos h2]; simp
      · exact .inl ⟨by omega, h2⟩
theorem keysW_rising (wt : Nat → Option By) : ∀ n, (keysW wt n).Pairwise (· < ·)
  | 0 => List.Pairwise.nil
  | n + 1 => by
    rw [keysW, List.pairwise_append]
    refine ⟨keysW_rising wt n, by split <;> simp, fun a ha b hb => ?_⟩
    have := (mem_keysW.1 ha).1
    split at hb
    · obtain rfl := List.mem_singleton.1 hb; exact this
    · cases hb
theorem keysW_len (wt : Nat → Option By) : ∀ n, (keysW wt n).length ≤ n
  | 0 => Nat.le_refl _
  | n + 1 => by
    have := keysW_len wt n
    rw [keysW, List.length_append]
    split <;> simp <;> omega
theorem ents_len (wt : Nat → Option By) : ∀ n, (ents wt n).length = (keysW wt n).length
  | 0 => rfl
  | n + 1 => by
    rw [ents, keysW, List.length_append, List.length_append, ents_len wt n]
    cases wt n <;> rfl
theorem size_Dm (n : Nat) (wt : Nat → Option By) : Maps.size (Dm n wt) = (keysW wt n).length := ents_len wt n
theorem keys_Dm (wt : Nat → Option By) : ∀ n, intKeys (Dm n wt) = (keysW wt n).map (fun (i : Nat) => (i : Int))
  | 0 => rfl
  | n + 1 => by
    have ih := keys_Dm wt n
    unfold Dm intKeys at ih ⊢
    dsimp only at ih ⊢
    rw [ents, keysW, List.map_append, List.map_append, ih]
    cases wt n <;> rfl
theorem keysW_none (n : Nat) : keysW (fun _ => none) n = [] := by
  induction n with
  | zero => rfl
  | succ n ih => rw [keysW, ih]; rfl
theorem keysW_congr {wt wu : Nat → Option By} : ∀ {n : Nat}, (∀ i, i < n → wt i = wu i) → keysW wt n = keysW wu n
  | 0, _ => rfl
  | n + 1, h => by rw [keysW, keysW, keysW_congr (fun i hi => h i (by omega)), h n (by omega)]
/-- the sorted keys are the keys -/
theorem sort_keys {ss : List Int} {n : Nat} {wt : Nat → Option By} (h : ss.Perm (intKeys (Dm n wt))) : ss.mergeSort (fun x y => decide (x ≤ y)) = (keysW wt n).map (fun (i : Nat) => (i : Int)) := by
  rw [mergeSort_of_perm_i h, keys_Dm]
  refine List.mergeSort_of_pairwise ?_
  rw [List.pairwise_map]
  exact (keysW_rising wt n).imp (fun h => by simp only [decide_eq_true_eq]; omega)
/-- a piece of bytes -/
def chunk (b : By) (k : Nat) : By := (b.drop (64 * k)).take 64
theorem chunk_len {b : By} {k : Nat} (h : 64 * (k + 1) ≤ b.length) : (chunk b k).length = 64 := by
  unfold chunk; rw [List.length_take, List.length_drop]; omega
/-- behind k pieces -/
def wtW (wt : Nat → Option By) (a : Nat) (b : By) (k : Nat) : Nat → Option By := fun i => if a ≤ i ∧ i < a + k then some (chunk b (i - a)) else wt i
theorem wtW_zero (wt : Nat → Option By) (a : Nat) (b : By) : wtW wt a b 0 = wt := by
  funext i; unfold wtW; rw [if_neg (by omega)]
theorem wtW_succ (wt : Nat → Option By) (a : Nat) (b : By) (k : Nat) : upd (wtW wt a b k) (a + k) (some (chunk b k)) = wtW wt a b (k + 1) := by
  funext i
  unfold upd wtW
  by_cases e : i = a + k
  · rw [if_pos e, if_pos (by omega), show i - a = k by omega]
  · rw [if_neg e]
    by_cases e2 : a ≤ i ∧ i < a + k
    · rw [if_pos e2, if_pos (by omega)]
    · rw [if_neg e2, if_neg (by omega)]
theorem wtW_ok {n : Nat} {wt : Nat → Option By} {a : Nat} {b : By} {k : Nat} (h : ∀ i s, wt i = some s → i < n ∧ s.length = 64) (hk : 64 * k ≤ b.length) (ha : a + k ≤ n) : ∀ i s, wtW wt a b k i = some s → i < n ∧ s.length = 64 := fun i s hs => by
  unfold wtW at hs
  split at hs
  · obtain rfl := Option.some.inj hs
    exact ⟨by omega, chunk_len (by omega)⟩
  · exact h i s hs
/-- entries that are laid down one by one -/
def lays (f : Nat → By) (l : List (Nat × By)) : Nat → By := l.foldl (fun f p => upd f p.1 p.2) f
theorem lays_snoc (f : Nat → By) (l : List (Nat × By)) (p : Nat × By) : lays f (l ++ [p]) = upd (lays f l) p.1 p.2 := by simp [lays, List.foldl_append]
/-- what waits, in order -/
def waitL (wt : Nat → Option By) : Nat → List (Nat × By)
  | 0 => []
  | n + 1 => waitL wt n ++ (match wt n with | none => [] | some s => [(n, s)])
theorem waitL_keys (wt : Nat → Option By) : ∀ n, (waitL wt n).map (·.1) = keysW wt n
  | 0 => rfl
  | n + 1 => by
    rw [waitL, keysW, List.map_append, waitL_keys wt n]
    cases wt n <;> rfl
theorem mem_waitL {wt : Nat → Option By} {p : Nat × By} : ∀ {n : Nat}, p ∈ waitL wt n ↔ p.1 < n ∧ wt p.1 = some p.2
  | 0 => by simp [waitL]
  | n + 1 => by
    rw [waitL, List.mem_append, mem_waitL (n := n)]
    constructor
    · rintro (⟨h1, h2⟩ | h)
      · exact ⟨by omega, h2⟩
      · cases e : wt n with
        | none => rw [e] at h; cases h
        | some s => rw [e] at h; obtain rfl := List.mem_singleton.1 h; exact ⟨by dsimp; omega, e⟩
    · rintro ⟨h1, h2⟩
      by_cases e : p.1 = n
      · right; rw [← e, h2]; simp
      · exact .inl ⟨by omega, h2⟩
theorem lays_waitL (la : Nat → By) (wt : Nat → Option By) : ∀ n i, lays la (waitL wt n) i = if i < n then (wt i).getD (la i) else la i
  | 0, i => rfl
  | n + 1, i => by
    rw [waitL]
    have ih := lays_waitL la wt n i
    cases e : wt n with
    | none =>
      show lays la (waitL wt n ++ []) i = _
      rw [List.append_nil, ih]
      by_cases h : i < n
      · rw [if_pos h, if_pos (by omega)]
      · by_cases h2 : i = n
        · subst h2; rw [if_neg h, if_pos (by omega), e]; rfl
        · rw [if_neg h, if_neg (by omega)]
    | some s =>
      show lays la (waitL wt n ++ [(n, s)]) i = _
      rw [lays_snoc]
      unfold upd
      by_cases h2 : i = n
      · subst h2; rw [if_pos rfl, if_pos (by omega), e]; rfl
      · rw [if_neg h2, ih]
        by_cases h : i < n
        · rw [if_pos h, if_pos (by omega)]
        · rw [if_neg h, if_neg (by omega)]
/-- how much of a sector was written -/
def fateN (fs : List Int) (i : Nat) : Nat := if i < fs.length then (((fs.getD i 0).tmod 65 + 65).tmod 65).toNat else 0
theorem fateN_le (fs : List Int) (i : Nat) : fateN fs i ≤ 64 := by
  unfold fateN
  split
  · have h1 : (fs.getD i 0).tmod 65 < 65 := Int.tmod_lt_of_pos _ (by omega)
    have h2 : -65 < (fs.getD i 0).tmod 65 := by
      have := Int.lt_tmod_of_pos (fs.getD i 0) (show (0:Int) < 65 by omega)
      omega
    have h3 : ((fs.getD i 0).tmod 65 + 65).tmod 65 < 65 := Int.tmod_lt_of_pos _ (by omega)
    omega
  · omega
def mix (k : Nat) (s old : By) : By := s.take k ++ old.drop k
theorem mix_len {k : Nat} {s old : By} (h1 : s.length = 64) (h2 : old.length = 64) (hk : k ≤ 64) : (mix k s old).length = 64 := by
  unfold mix; rw [List.length_append, List.length_take, List.length_drop]; omega
theorem bc_mix {la : Nat → By} (h : ∀ i, (la i).length = 64) {i n k : Nat} {s : By} (hi : i < n) (hs : s.length = 64) (hk : k ≤ 64) :
    ((bc (flat la n)).toList.take (i * 64) ++ (Lib.byteCells (s.take k) ++ (bc (flat la n)).toList.drop (i * 64 + (Lib.byteCells (s.take k)).length))).toArray = bc (flat (upd la i (mix k s (la i))) n) := by
  have hm := mix_len hs (h i) hk
  have hl := flat_len h n
  have hk2 : (s.take k).length = k := by rw [List.length_take]; omega
  rw [byl_len, hk2, Nat.mul_comm i 64, bc_list, byl_take, byl_drop, ← byl_app, ← byl_app, flat_upd h hm hi]
  have e : (flat la n).drop (64 * i + k) = (la i).drop k ++ (flat la n).drop (64 * i + 64) := by
    have e1 : (flat la n).drop (64 * i) = la i ++ (flat la n).drop (64 * i + 64) := by
      rw [← flat_row h hi, ← List.drop_drop, List.take_append_drop]
    rw [← List.drop_drop, e1, List.drop_append_of_le_length (by rw [h]; exact hk)]
  rw [e]
  unfold mix
  rw [← bc_list, Array.toArray_toList]
  simp only [List.append_assoc]
/-- parts of entries laid down one by one: the i-th as its fate says -/
def rsts (fs : List Int) (f : Nat → By) (l : List (Nat × By)) : Nat → By := (l.foldl (fun (q : Nat × (Nat → By)) p => (q.1 + 1, upd q.2 p.1 (mix (fateN fs q.1) p.2 (q.2 p.1)))) (0, f)).2
theorem rsts_cnt (fs : List Int) (f : Nat → By) (l : List (Nat × By)) : (l.foldl (fun (q : Nat × (Nat → By)) p => (q.1 + 1, upd q.2 p.1 (mix (fateN fs q.1) p.2 (q.2 p.1)))) (0, f)).1 = l.length := by
  have : ∀ (l : List (Nat × By)) (c : Nat) (g : Nat → By), (l.foldl (fun (q : Nat × (Nat → By)) p => (q.1 + 1, upd q.2 p.1 (mix (fateN fs q.1) p.2 (q.2 p.1)))) (c, g)).1 = c + l.length := by
    intro l
    induction l with
    | nil => intro c g; rfl
    | cons p l ih => intro c g; rw [List.foldl_cons, ih, List.length_cons]; omega
  rw [this, Nat.zero_add]
theorem rsts_snoc (fs : List Int) (f : Nat → By) (l : List (Nat × By)) (p : Nat × By) : rsts fs f (l ++ [p]) = upd (rsts fs f l) p.1 (mix (fateN fs l.length) p.2 (rsts fs f l p.1)) := by
  unfold rsts
  rw [List.foldl_append, List.foldl_cons, List.foldl_nil, rsts_cnt]
/-- what lasts behind a Restart -/
def rstL (fs : List Int) (la : Nat → By) (wt : Nat → Option By) (i : Nat) : By :=
  match wt i with
  | none => la i
  | some s => mix (fateN fs (keysW wt i).length) s (la i)
theorem rsts_waitL (fs : List Int) (la : Nat → By) (wt : Nat → Option By) : ∀ n i, rsts fs la (waitL wt n) i = if i < n then rstL fs la wt i else la i
  | 0, i => rfl
  | n + 1, i => by
    rw [waitL]
    have hl : (waitL wt n).length = (keysW wt n).length := by rw [← waitL_keys, List.length_map]
    have ih := rsts_waitL fs la wt n
    cases e : wt n with
    | none =>
      show rsts fs la (waitL wt n ++ []) i = _
      rw [List.append_nil, ih]
      by_cases h : i < n
      · rw [if_pos h, if_pos (by omega)]
      · by_cases h2 : i = n
        · subst h2; rw [if_neg h, if_pos (by omega), rstL, e]
        · rw [if_neg h, if_neg (by omega)]
    | some s =>
      show rsts fs la (waitL wt n ++ [(n, s)]) i = _
      rw [rsts_snoc, ih n, if_neg (by omega), hl]
      unfold upd
      by_cases h2 : i = n
      · subst h2; rw [if_pos rfl, if_pos (by omega), rstL, e]
      · rw [if_neg h2, ih]
        by_cases h : i < n
        · rw [if_pos h, if_pos (by omega)]
        · rw [if_neg h, if_neg (by omega)]
/-- the model's calls -/
def Dk.has (d : Dk) (a m : Int) : Bool := decide (0 ≤ a) && decide (0 ≤ m) && decide (m ≤ (d.n : Int) - a)
def Dk.burnOk (d : Dk) : Bool := !(d.fuse == 0)
def Dk.burn (d : Dk) : Dk := if d.fuse = 0 then { d with dead := true } else if 0 < d.fuse then { d with fuse := d.fuse - 1 } else d
def Dk.sync (d : Dk) : Dk := { d with la := fun i => (d.wt i).getD (d.la i), wt := fun _ => none }
def Dk.wrote (d : Dk) (a : Nat) (b : By) : Dk := { d with wt := wtW d.wt a b (b.length / 64) }
def Dk.rst (d : Dk) (fs : List Int) : Dk := { n := d.n, la := rstL fs d.la d.wt, wt := fun _ => none, dead := false, fuse := -1 }
def zero64 : By := List.replicate 64 0
theorem zero64_len : zero64.length = 64 := rfl
def Dk.new (n : Nat) : Dk := { n := n, la := fun _ => zero64, wt := fun _ => none, dead := false, fuse := -1 }
theorem burn_n (d : Dk) : d.burn.n = d.n := by unfold Dk.burn; (split; rfl; split <;> rfl)
theorem burn_la (d : Dk) : d.burn.la = d.la := by unfold Dk.burn; (split; rfl; split <;> rfl)
theorem burn_wt (d : Dk) : d.burn.wt = d.wt := by unfold Dk.burn; (split; rfl; split <;> rfl)
theorem burn_dead {d : Dk} (h : d.fuse ≠ 0) : d.burn.dead = d.dead := by unfold Dk.burn; rw [if_neg h]; split <;> rfl
attribute [irreducible] bc zero64
end Go.Dk
