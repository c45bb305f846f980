/- The plain model of codec: what is laid is read, what is read is laid. -/
import Derived.Test.YtjdfdihopgceoaaCdR
namespace Go.Cod
open Go.Dk Go.Jn

/-- what a walk over something does: lays its bytes, and reads them -/
structure Good {α : Type} (f : Bool → St → α → St × α) (z : α) (enc : α → By) (wf fit : α → Prop) : Prop where
  lay : ∀ L x, wf x → fit x → f true ⟨true, L⟩ x = (⟨true, L ++ enc x⟩, x)
  bad : ∀ L x, wf x → ¬ fit x → (f true ⟨true, L⟩ x).1.ok = false
  stay : ∀ m L x, (f m ⟨false, L⟩ x).1.ok = false
  rd : ∀ L x, wf x → fit x → f false ⟨true, enc x ++ L⟩ z = (⟨true, L⟩, x)
  inv : ∀ L, (f false ⟨true, L⟩ z).1.ok = true → wf (f false ⟨true, L⟩ z).2 ∧ fit (f false ⟨true, L⟩ z).2 ∧ L = enc (f false ⟨true, L⟩ z).2 ++ (f false ⟨true, L⟩ z).1.L
theorem st_false {s : St} (h : s.ok = false) : s = ⟨false, s.L⟩ := by obtain ⟨a, b⟩ := s; simp at h; rw [h]
theorem Good.stay' {α : Type} {f : Bool → St → α → St × α} {z : α} {enc : α → By} {wf fit : α → Prop} (h : Good f z enc wf fit) (m : Bool) {s : St} (hs : s.ok = false) (x : α) : (f m s x).1.ok = false := by rw [st_false hs]; exact h.stay m _ x
theorem good_nu (k : Nat) : Good (fun m s v => nuM m s k v) 0 (beL k) (fun v => v < 256 ^ k) (fun _ => True) where
  lay := fun L x hx _ => by show nuM true _ k x = _; rw [nuM_lay _ _ _ hx]; rfl
  bad := fun L x _ h => absurd trivial h
  stay := fun m L x => by simp [nuM, byM]
  rd := fun L x hx _ => by
    have hl : ¬ (beL k x ++ L).length < k := by rw [List.length_append, beL_len]; omega
    have e1 : (beL k x ++ L).drop k = L := by rw [List.drop_append_of_le_length (by rw [beL_len]; exact Nat.le_refl _), List.drop_of_length_le (by rw [beL_len]; exact Nat.le_refl _), List.nil_append]
    have e2 : (beL k x ++ L).take k = beL k x := by rw [List.take_append_of_le_length (by rw [beL_len]; exact Nat.le_refl _), List.take_of_length_le (by rw [beL_len]; exact Nat.le_refl _)]
    simp only [nuM, byM, stp, beL_len, if_true, Bool.false_eq_true, if_false, if_neg hl, e1, e2, valB_beL, Nat.mod_eq_of_lt hx]
  inv := fun L h => by
    by_cases hl : L.length < k
    · simp [nuM, byM, stp, beL_len, hl] at h
    · have e : nuM false ⟨true, L⟩ k 0 = (⟨true, L.drop k⟩, valB (L.take k)) := by
        simp only [nuM, byM, stp, beL_len, if_true, Bool.false_eq_true, if_false, if_neg hl]
      simp only [e]
      have htl : (L.take k).length = k := by rw [List.length_take]; omega
      have h1 := valB_lt (L.take k)
      have h2 := beL_valB (L.take k)
      rw [htl] at h1 h2
      exact ⟨h1, trivial, by rw [h2, List.take_append_drop]⟩
theorem nu_stay (m : Bool) (L : By) (k v : Nat) : nuM m ⟨false, L⟩ k v = (⟨false, L⟩, v % 256 ^ k) := by
  simp [nuM, byM, valB_beL]
theorem good_co (most : Nat) (hm : most ≤ 255) : Good (fun m s n => coM m s n most) 0 (beL 1) (fun _ => True) (fun n => n ≤ most) where
  lay := fun L x _ hx => by
    show coM true _ x most = _
    rw [coM_lay _ _ _ hm]
    simp [hx]
  bad := fun L x _ h => by
    show (coM true _ x most).1.ok = _
    rw [coM_lay _ _ _ hm]
    simp [h]
  stay := fun m L x => by
    show (coM m _ x most).1.ok = _
    unfold coM
    simp only [Bool.false_and, nu_stay]
  rd := fun L x _ hx => by
    show coM false _ 0 most = _
    unfold coM
    have := (good_nu 1).rd L x (by show x < 256 ^ 1; omega) trivial
    simp only [Nat.zero_le, decide_true, Bool.and_true, Nat.zero_mod] at this ⊢
    rw [this]
    simp [hx]
  inv := fun L h => by
    have h' : (coM false ⟨true, L⟩ 0 most).1.ok = true := h
    show True ∧ (coM false ⟨true, L⟩ 0 most).2 ≤ most ∧ L = beL 1 (coM false ⟨true, L⟩ 0 most).2 ++ (coM false ⟨true, L⟩ 0 most).1.L
    unfold coM at h' ⊢
    simp only [Nat.zero_le, decide_true, Bool.and_true, Nat.zero_mod, Bool.and_eq_true, decide_eq_true_eq] at h' ⊢
    obtain ⟨h1, h2, h3⟩ := (good_nu 1).inv L h'.1
    rw [if_pos h']
    exact ⟨trivial, h'.2, h3⟩
def encTe (t : By) : By := beL 1 t.length ++ t
theorem by_lay (L t : By) : byM true ⟨true, L⟩ t = (⟨true, L ++ t⟩, t) := rfl
theorem by_stay (m : Bool) (L t : By) : byM m ⟨false, L⟩ t = (⟨false, L⟩, t) := rfl
theorem good_te : Good teM [] encTe (fun _ => True) (fun t => t.length ≤ 32) where
  lay := fun L x _ hx => by
    unfold teM
    rw [(good_co 32 (by decide)).lay L x.length trivial hx]
    simp only [List.take_length, Nat.sub_self, List.replicate_zero, List.append_nil, by_lay, encTe, List.append_assoc]
  bad := fun L x _ h => by
    unfold teM
    have h1 := (good_co 32 (by decide)).bad L x.length trivial h
    simp only at h1 ⊢
    rw [st_false h1, by_stay]
  stay := fun m L x => by
    unfold teM
    have h1 := (good_co 32 (by decide)).stay m L x.length
    simp only at h1 ⊢
    rw [st_false h1, by_stay]
  rd := fun L x _ hx => by
    unfold teM encTe
    have h1 := (good_co 32 (by decide)).rd (x ++ L) x.length trivial hx
    simp only [List.length_nil, List.append_assoc] at h1 ⊢
    rw [h1]
    have hl : ¬ (x ++ L).length < x.length := by rw [List.length_append]; omega
    simp only [List.take_nil, List.nil_append, Nat.sub_zero, byM, stp, if_true, Bool.false_eq_true, if_false, List.length_replicate, if_neg hl, List.drop_append_of_le_length (Nat.le_refl _), List.take_append_of_le_length (Nat.le_refl _), List.drop_length, List.take_length, List.nil_append]
  inv := fun L h => by
    have h1 : (coM false ⟨true, L⟩ 0 32).1.ok = true := by
      cases hc : (coM false ⟨true, L⟩ 0 32).1.ok
      · unfold teM at h
        simp only [List.length_nil] at h
        rw [st_false hc, by_stay] at h
        cases h
      · rfl
    obtain ⟨_, g2, g3⟩ := (good_co 32 (by decide)).inv L h1
    try simp only at g2 g3
    have e : teM false ⟨true, L⟩ [] = byM false (coM false ⟨true, L⟩ 0 32).1 (List.replicate (coM false ⟨true, L⟩ 0 32).2 0) := by
      unfold teM; simp
    rw [e] at h ⊢
    generalize coM false ⟨true, L⟩ 0 32 = a at *
    obtain ⟨⟨ok, M⟩, c⟩ := a
    simp only at h1 h g2 g3 ⊢
    subst h1
    by_cases hl : M.length < c
    · simp [byM, stp, hl] at h
    · have e2 : byM false ⟨true, M⟩ (List.replicate c 0) = (⟨true, M.drop c⟩, M.take c) := by
        simp only [byM, stp, if_true, Bool.false_eq_true, if_false, List.length_replicate, if_neg hl]
      rw [e2]
      have htl : (M.take c).length = c := by rw [List.length_take]; omega
      refine ⟨trivial, by simp only [htl]; exact g2, ?_⟩
      simp only [encTe, htl]
      rw [List.append_assoc, List.take_append_drop]
      exact g3
theorem good_lg : Good lgM zLg (fun l => beL 1 l.c ++ (beL 2 l.f ++ beL 4 l.w)) OkLg (fun _ => True) where
  lay := fun L x hx _ => by
    unfold lgM
    have h1 := (good_nu 1).lay L x.c hx.1 trivial
    have h2 := (good_nu 2).lay (L ++ beL 1 x.c) x.f hx.2.1 trivial
    have h3 := (good_nu 4).lay (L ++ beL 1 x.c ++ beL 2 x.f) x.w hx.2.2 trivial
    simp only at h1 h2 h3 ⊢
    rw [h1, h2, h3]
    simp only [List.append_assoc]
  bad := fun L x _ h => absurd trivial h
  stay := fun m L x => by unfold lgM; simp only [nu_stay]
  rd := fun L x hx _ => by
    unfold lgM
    have h1 := (good_nu 1).rd (beL 2 x.f ++ (beL 4 x.w ++ L)) x.c hx.1 trivial
    have h2 := (good_nu 2).rd (beL 4 x.w ++ L) x.f hx.2.1 trivial
    have h3 := (good_nu 4).rd L x.w hx.2.2 trivial
    simp only [zLg, List.append_assoc] at h1 h2 h3 ⊢
    rw [h1, h2, h3]
  inv := fun L h => by
    unfold lgM at h ⊢
    simp only [zLg] at h ⊢
    cases k1 : (nuM false ⟨true, L⟩ 1 0).1.ok
    · rw [st_false k1] at h; simp only [nu_stay] at h; cases h
    obtain ⟨a1, _, a3⟩ := (good_nu 1).inv L k1
    generalize nuM false ⟨true, L⟩ 1 0 = a at *
    obtain ⟨⟨ok, M⟩, c⟩ := a
    simp only at k1 h a1 a3 ⊢
    subst k1
    cases k2 : (nuM false ⟨true, M⟩ 2 0).1.ok
    · rw [st_false k2] at h; simp only [nu_stay] at h; cases h
    obtain ⟨b1, _, b3⟩ := (good_nu 2).inv M k2
    generalize nuM false ⟨true, M⟩ 2 0 = b at *
    obtain ⟨⟨ok, N⟩, f⟩ := b
    simp only at k2 h b1 b3 ⊢
    subst k2
    obtain ⟨d1, _, d3⟩ := (good_nu 4).inv N h
    try simp only at d1 d3
    refine ⟨⟨a1, b1, d1⟩, trivial, ?_⟩
    rw [a3, b3, List.append_assoc, List.append_assoc]
    congr 2
theorem good_tx : Good txM zTx (fun x => encTe x.code ++ beL 8 x.am) (fun x => x.am < 256 ^ 8) (fun x => x.code.length ≤ 32) where
  lay := fun L x hx hf => by
    unfold txM
    have h1 := good_te.lay L x.code trivial hf
    have h2 := (good_nu 8).lay (L ++ encTe x.code) x.am hx trivial
    simp only at h1 h2 ⊢
    rw [h1, h2]
    simp only [List.append_assoc]
  bad := fun L x _ h => by
    unfold txM
    have h1 := good_te.bad L x.code trivial h
    simp only
    rw [st_false h1, nu_stay]
  stay := fun m L x => by
    unfold txM
    have h1 := good_te.stay m L x.code
    simp only
    rw [st_false h1, nu_stay]
  rd := fun L x hx hf => by
    unfold txM
    have h1 := good_te.rd (beL 8 x.am ++ L) x.code trivial hf
    have h2 := (good_nu 8).rd L x.am hx trivial
    simp only [zTx, List.append_assoc] at h1 h2 ⊢
    rw [h1, h2]
  inv := fun L h => by
    unfold txM at h ⊢
    simp only [zTx] at h ⊢
    cases k1 : (teM false ⟨true, L⟩ []).1.ok
    · rw [st_false k1] at h; simp only [nu_stay] at h; cases h
    obtain ⟨_, a2, a3⟩ := good_te.inv L k1
    generalize teM false ⟨true, L⟩ [] = a at *
    obtain ⟨⟨ok, M⟩, c⟩ := a
    simp only at k1 h a2 a3 ⊢
    subst k1
    obtain ⟨d1, _, d3⟩ := (good_nu 8).inv M h
    try simp only at d1 d3
    refine ⟨d1, a2, ?_⟩
    rw [a3, List.append_assoc]
    congr 1
theorem el_stay {α : Type} {f : Bool → St → α → St × α} {z : α} {enc : α → By} {wf fit : α → Prop} (g : Good f z enc wf fit) (m : Bool) : ∀ (l : List α) (s : St), s.ok = false → (elM (f m) s l).1.ok = false
  | [], s, h => h
  | x :: l, s, h => by rw [elM]; exact el_stay g m l _ (g.stay' m h x)
theorem el_lay {α : Type} {f : Bool → St → α → St × α} {z : α} {enc : α → By} {wf fit : α → Prop} (g : Good f z enc wf fit) : ∀ (l : List α) (L : By), (∀ x ∈ l, wf x ∧ fit x) → elM (f true) ⟨true, L⟩ l = (⟨true, L ++ l.flatMap enc⟩, l)
  | [], L, _ => by simp [elM]
  | x :: l, L, h => by
    have hx := h x (by simp)
    rw [elM, g.lay L x hx.1 hx.2]
    simp only
    rw [el_lay g l _ (fun y hy => h y (by simp [hy]))]
    simp
theorem el_bad {α : Type} {f : Bool → St → α → St × α} {z : α} {enc : α → By} {wf fit : α → Prop} (g : Good f z enc wf fit) : ∀ (l : List α) (L : By), (∀ x ∈ l, wf x) → (∃ x ∈ l, ¬ fit x) → (elM (f true) ⟨true, L⟩ l).1.ok = false
  | [], L, _, h => by simp at h
  | x :: l, L, h, hb => by
    rw [elM]
    by_cases hf : fit x
    · rw [g.lay L x (h x (by simp)) hf]
      obtain ⟨y, hy, hny⟩ := hb
      rcases List.mem_cons.1 hy with rfl | hy
      · exact absurd hf hny
      · exact el_bad g l _ (fun y hy => h y (by simp [hy])) ⟨y, hy, hny⟩
    · exact el_stay g true l _ (g.bad L x (h x (by simp)) hf)
theorem el_rd {α : Type} {f : Bool → St → α → St × α} {z : α} {enc : α → By} {wf fit : α → Prop} (g : Good f z enc wf fit) : ∀ (l : List α) (L : By), (∀ x ∈ l, wf x ∧ fit x) → elM (f false) ⟨true, l.flatMap enc ++ L⟩ (List.replicate l.length z) = (⟨true, L⟩, l)
  | [], L, _ => by simp [elM]
  | x :: l, L, h => by
    have hx := h x (by simp)
    rw [List.length_cons, List.replicate_succ, elM, List.flatMap_cons, List.append_assoc, g.rd _ x hx.1 hx.2]
    simp only
    rw [el_rd g l _ (fun y hy => h y (by simp [hy]))]
theorem el_inv {α : Type} {f : Bool → St → α → St × α} {z : α} {enc : α → By} {wf fit : α → Prop} (g : Good f z enc wf fit) : ∀ (n : Nat) (L : By), (elM (f false) ⟨true, L⟩ (List.replicate n z)).1.ok = true →
    (∀ x ∈ (elM (f false) ⟨true, L⟩ (List.replicate n z)).2, wf x ∧ fit x) ∧ L = (elM (f false) ⟨true, L⟩ (List.replicate n z)).2.flatMap enc ++ (elM (f false) ⟨true, L⟩ (List.replicate n z)).1.L
  | 0, L, _ => by simp [elM]
  | n + 1, L, h => by
    rw [List.replicate_succ, elM] at h ⊢
    cases hk : (f false ⟨true, L⟩ z).1.ok
    · rw [el_stay g false _ _ hk] at h; cases h
    · obtain ⟨a1, a2, a3⟩ := g.inv L hk
      generalize f false ⟨true, L⟩ z = a at *
      obtain ⟨⟨ok, M⟩, c⟩ := a
      simp only at hk a1 a2 a3 h ⊢
      subst hk
      obtain ⟨b1, b2⟩ := el_inv g n M h
      refine ⟨fun x hx => ?_, ?_⟩
      · rcases List.mem_cons.1 hx with rfl | hx
        · exact ⟨a1, a2⟩
        · exact b1 x hx
      · rw [List.flatMap_cons, List.append_assoc, ← b2]; exact a3
def encLi {α : Type} (enc : α → By) (l : List α) : By := beL 1 l.length ++ l.flatMap enc
theorem elM_len' {α : Type} (f : St → α → St × α) : ∀ (l : List α) (s : St), (elM f s l).2.length = l.length
  | [], _ => rfl
  | x :: l, s => by simp [elM, elM_len' f l]
theorem good_li {α : Type} {f : Bool → St → α → St × α} {z : α} {enc : α → By} {wf fit : α → Prop} (g : Good f z enc wf fit) : Good (fun m s l => liM m (f m) z s l) [] (encLi enc) (fun l => ∀ x ∈ l, wf x) (fun l => l.length ≤ 4 ∧ ∀ x ∈ l, fit x) where
  lay := fun L x hw hx => by
    show liM true (f true) z _ x = _
    unfold liM
    rw [(good_co 4 (by decide)).lay L x.length trivial hx.1]
    simp only [List.take_length, Nat.sub_self, List.replicate_zero, List.append_nil]
    rw [el_lay g x _ (fun y hy => ⟨hw y hy, hx.2 y hy⟩)]
    simp only [encLi, List.append_assoc]
  bad := fun L x hw h => by
    show (liM true (f true) z _ x).1.ok = _
    unfold liM
    by_cases h4 : x.length ≤ 4
    · rw [(good_co 4 (by decide)).lay L x.length trivial h4]
      simp only [List.take_length, Nat.sub_self, List.replicate_zero, List.append_nil]
      refine el_bad g x _ hw (Classical.byContradiction fun hn => h ⟨h4, fun y hy => Classical.byContradiction fun hy2 => hn ⟨y, hy, hy2⟩⟩)
    · exact el_stay g true _ _ ((good_co 4 (by decide)).bad L x.length trivial h4)
  stay := fun m L x => by
    show (liM m (f m) z _ x).1.ok = _
    unfold liM
    exact el_stay g m _ _ ((good_co 4 (by decide)).stay m L x.length)
  rd := fun L x hw hx => by
    show liM false (f false) z _ [] = _
    unfold liM encLi
    have h1 := (good_co 4 (by decide)).rd (x.flatMap enc ++ L) x.length trivial hx.1
    simp only [List.length_nil, List.append_assoc] at h1 ⊢
    rw [h1]
    simp only [List.take_nil, List.nil_append, Nat.sub_zero]
    exact el_rd g x L (fun y hy => ⟨hw y hy, hx.2 y hy⟩)
  inv := fun L h => by
    have h' : (liM false (f false) z ⟨true, L⟩ []).1.ok = true := h
    show (∀ x ∈ (liM false (f false) z ⟨true, L⟩ []).2, wf x) ∧ ((liM false (f false) z ⟨true, L⟩ []).2.length ≤ 4 ∧ ∀ x ∈ (liM false (f false) z ⟨true, L⟩ []).2, fit x) ∧ L = encLi enc (liM false (f false) z ⟨true, L⟩ []).2 ++ (liM false (f false) z ⟨true, L⟩ []).1.L
    have e : liM false (f false) z ⟨true, L⟩ [] = elM (f false) (coM false ⟨true, L⟩ 0 4).1 (List.replicate (coM false ⟨true, L⟩ 0 4).2 z) := by unfold liM; simp
    rw [e] at h' ⊢
    cases hk : (coM false ⟨true, L⟩ 0 4).1.ok
    · rw [el_stay g false _ _ hk] at h'; cases h'
    obtain ⟨_, g2, g3⟩ := (good_co 4 (by decide)).inv L hk
    try simp only at g2 g3
    generalize coM false ⟨true, L⟩ 0 4 = a at *
    obtain ⟨⟨ok, M⟩, c⟩ := a
    simp only at hk g2 g3 h' ⊢
    subst hk
    obtain ⟨b1, b2⟩ := el_inv g c M h'
    have hl : (elM (f false) ⟨true, M⟩ (List.replicate c z)).2.length = c := by rw [elM_len', List.length_replicate]
    refine ⟨fun x hx => (b1 x hx).1, ⟨by rw [hl]; exact g2, fun x hx => (b1 x hx).2⟩, ?_⟩
    unfold encLi
    rw [hl, List.append_assoc, ← b2]
    exact g3
end Go.Cod
