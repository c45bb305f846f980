/- The plain half of EdiWhole: a segment out of any components, its text twice, read back with newlines between. -/
import Derived.Test.YtpimjoikoiollaaEdiPure2
namespace Go.Edi

/-- a byte as one that may stand in a component -/
def wb (c : UInt8) : UInt8 := 32 + c % 95
def fst5 : Tx := [102, 105, 114, 115, 116]
def mkc (t : Tx) : Tx := t.map wb
def mke (e : List Tx) : List Tx := fst5 :: (e.take 7).map mkc
def whS (l : List (List Tx)) : Sg := ⟨[88, 57, 90], l.map mke⟩
def szE (e : List Tx) : Nat := ((e.take 7).map List.length).sum
def szL (l : List (List Tx)) : Nat := (l.map szE).sum
theorem wb_pln (c : UInt8) : pln (wb c) = true := by
  have h : ∀ n : Fin 256, pln (wb (UInt8.ofNat n)) = true := by decide +kernel
  have := h ⟨c.toNat, c.toNat_lt⟩
  simpa using this
theorem mkd_len (t : Tx) : (mkd t).length ≤ 2 * t.length := by
  induction t with
  | nil => simp [mkd]
  | cons c t ih =>
    unfold mkd
    split <;> simp <;> omega
theorem jnT_sum (x : Tx) (l : List Tx) : (jnT x l).length = l.length * x.length + (l.map List.length).sum := by
  induction l with
  | nil => simp [jnT]
  | cons y l ih => simp only [jnT, List.length_append, ih, List.length_cons, List.map_cons, List.sum_cons, Nat.add_mul]; omega
theorem jn_sum (x : Tx) (l : List Tx) : (jn x l).length ≤ l.length * x.length + (l.map List.length).sum := by
  cases l with
  | nil => simp [jn]
  | cons y l => simp only [jn, List.length_append, jnT_sum, List.length_cons, List.map_cons, List.sum_cons, Nat.add_mul]; omega
theorem sum_mkc (l : List Tx) : (((l.map mkc).map mkd).map List.length).sum ≤ 2 * (l.map List.length).sum := by
  induction l with
  | nil => simp
  | cons y l ih =>
    have := mkd_len (mkc y)
    simp only [mkc, List.length_map] at this
    simp only [List.map_cons, List.sum_cons, mkc] at ih ⊢
    omega
theorem elT_len (e : List Tx) : (elT (mke e)).length ≤ 18 + 2 * szE e := by
  have h := jn_sum [58] ((mke e).map mkd)
  have h7 : (e.take 7).length ≤ 7 := by simp; omega
  have h5 : (mkd fst5).length = 5 := by decide
  have hs := sum_mkc (e.take 7)
  unfold elT
  simp only [mke, List.map_cons, List.length_cons, List.length_map, List.sum_cons, h5, List.length_nil] at h
  unfold szE
  have e1 : (jn [58] (List.map mkd (mke e))).length = (jn [58] (mkd fst5 :: List.map mkd (List.map mkc (e.take 7)))).length := by simp [mke]
  rw [e1]
  simp only [Nat.zero_add, Nat.mul_one] at h
  omega
theorem els_len (l : List (List Tx)) : (((l.map mke).map elT).map List.length).sum ≤ 18 * l.length + 2 * szL l := by
  induction l with
  | nil => simp [szL]
  | cons e l ih =>
    have := elT_len e
    simp only [List.map_cons, List.sum_cons, List.length_cons, szL] at ih ⊢
    omega
theorem sgT_len (l : List (List Tx)) : (sgT (whS l)).length ≤ 4 + 19 * l.length + 2 * szL l := by
  have h := jn_sum [43] ((whS l).tag :: (whS l).els.map elT)
  have h2 := els_len l
  unfold sgT
  simp only [whS, List.length_cons, List.length_nil, List.length_map, List.map_cons, List.sum_cons] at h h2 ⊢
  omega
/-- a text of one segment -/
def whT (l : List (List Tx)) : Tx := sgT (whS l) ++ [39]
structure Wh (l : List (List Tx)) : Prop where
  n : l.length ≤ 16
  c : ∀ e ∈ l, ∀ t ∈ e.take 7, t.length ≤ 256
  s : szL l ≤ 2000
theorem whT_len {l : List (List Tx)} (h : Wh l) : (whT l).length ≤ 5000 := by
  have := sgT_len l
  have := h.n
  have := h.s
  unfold whT
  simp
  omega
theorem whS_whole (l : List (List Tx)) : wholeS (whS l) = true := by
  simp [wholeS, whS, mke, isTag]
  decide
theorem whS_plain (l : List (List Tx)) : plainS (whS l) = true := by
  unfold plainS whS
  simp only [List.all_map, List.all_eq_true, Function.comp]
  intro e _ c hc x hx
  unfold mke at hc
  rcases List.mem_cons.1 hc with rfl | hc
  · have : fst5.all pln = true := by decide
    exact List.all_eq_true.1 this x hx
  · obtain ⟨t, _, rfl⟩ := List.mem_map.1 hc
    obtain ⟨y, _, rfl⟩ := List.mem_map.1 hx
    exact wb_pln y
theorem whS_short {l : List (List Tx)} (h : Wh l) : shortS (whS l) = true := by
  unfold shortS whS
  simp only [List.length_map, Bool.and_eq_true, decide_eq_true_eq]
  refine ⟨h.n, ?_⟩
  rw [List.all_map, List.all_eq_true]
  intro e he
  show shortE (mke e) = true
  unfold shortE mke
  simp only [List.length_cons, List.length_map, Bool.and_eq_true, decide_eq_true_eq, List.all_cons]
  refine ⟨by simp; omega, by decide, ?_⟩
  rw [List.all_map, List.all_eq_true]
  intro t ht
  show decide ((mkc t).length ≤ 256) = true
  simpa [mkc] using h.c e he t ht
theorem txT_two (s : Sg) : txT [s, s] = (sgT s ++ [39]) ++ (sgT s ++ [39]) := by simp [txT]
theorem wh_print {l : List (List Tx)} (h : Wh l) : printL [whS l, whS l] = (whT l ++ whT l, 0) := by
  have h1 := whS_whole l
  have h2 := whS_plain l
  have h3 := whS_short h
  have h4 := whT_len h
  unfold printL
  rw [txT_two]
  show (if _ then _ else _) = _
  have h5 : ¬ 65536 < (whT l ++ whT l).length := by simp; omega
  unfold whT at h5 ⊢
  rw [if_pos (by simp [h1]), if_pos (by simp [h2]), if_pos (by simp [h3]), if_neg h5]
theorem wh_one {l : List (List Tx)} (h : Wh l) : parseL (whT l) = ([whS l], 0, 0) := by
  refine back [whS l] (whT l) ?_
  have h1 := whS_whole l
  have h2 := whS_plain l
  have h3 := whS_short h
  have h4 := whT_len h
  have e : txT [whS l] = whT l := by simp [txT, whT]
  unfold printL
  rw [e, if_pos (by simp [h1]), if_pos (by simp [h2]), if_pos (by simp [h3]), if_neg (by omega)]
/-- bytes 10 behind a text say nothing -/
theorem run_tens (sg : List Sg) (hs : 0 < sg.length) (k i : Nat) : runL (rest sg) i (List.replicate k 10) = (i + k, 0, rest sg) := by
  induction k generalizing i with
  | zero => rfl
  | succ k ih =>
    have h1 : step (rest sg) 10 = (0, rest sg) := by
      show outS _ _ = _
      unfold outS
      rw [if_pos ⟨rfl, hs⟩]
    rw [List.replicate_succ]
    simp only [runL, h1, if_true]
    rw [ih]
    congr 1
    omega
theorem parse_tens {t : Tx} (h : (parseL t).2.2 = 0) (hs : 0 < (parseL t).1.length) (k : Nat) (hl : t.length + k ≤ 65536) : parseL (t ++ List.replicate k 10) = ((parseL t).1, 0, 0) := by
  obtain ⟨a1, a2, a3⟩ := parse_ok h
  have hr : runL s0 0 (t ++ List.replicate k 10) = (0 + t.length + k, 0, rest (parseL t).1) := by
    rw [runL_app, a2]
    simp only [if_true]
    exact run_tens _ hs k _
  generalize (parseL t).1 = sg at *
  unfold parseL
  rw [if_neg (by simp; omega), hr]
  simp [rest]
theorem wh_parse {l : List (List Tx)} (h : Wh l) : parseL (((whT l ++ [10, 10]) ++ whT l) ++ [10]) = ([whS l, whS l], 0, 0) := by
  have h4 := whT_len h
  have h1 := wh_one h
  have a := parse_tens (t := whT l) (by rw [h1]) (by rw [h1]; simp) 2 (by omega)
  have b := parse_tens (t := whT l) (by rw [h1]) (by rw [h1]; simp) 1 (by omega)
  rw [h1] at a b
  have c := parse_app (a := whT l ++ List.replicate 2 10) (b := whT l ++ List.replicate 1 10) (by rw [a]) (by rw [b]) (by rw [a, b]; simp) (by simp; omega)
  rw [a, b] at c
  simpa [List.replicate] using c
theorem wh_half (l : List (List Tx)) : ((whT l ++ whT l).length / 2 = (whT l).length) ∧ (whT l ++ whT l).take (whT l).length = whT l ∧ (whT l ++ whT l).drop (whT l).length = whT l := by
  refine ⟨by simp; omega, by simp, by simp⟩
end Go.Edi
