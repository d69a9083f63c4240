/-
  Texts of one proof, in their order. No condition.
-/

namespace Go.Proofs.Ytbhbgaihhilfmaa.Poly
set_option linter.unusedVariables false
set_option linter.unusedSimpArgs false
abbrev Ex := Fin 12 → Nat
instance : DecidableEq Ex := fun a b => decidable_of_iff (∀ i, a i = b i) funext_iff.symm
def Ex.at (a : Ex) (i : Nat) : Nat := if h : i < 12 then a ⟨i, h⟩ else 0
theorem Ex.ext {a b : Ex} (h : ∀ i, i < 12 → a.at i = b.at i) : a = b := by
  funext ⟨i, hi⟩
  have := h i hi
  simpa [Ex.at, hi] using this
def ltR (a b : Ex) : Nat → Bool
  | 0 => false
  | k + 1 => if a.at (11 - k) = b.at (11 - k) then ltR a b k else decide (a.at (11 - k) < b.at (11 - k))
def lt (a b : Ex) : Bool := ltR a b 12
def Lt (a b : Ex) : Prop := ∃ i, i < 12 ∧ (∀ j, j < i → a.at j = b.at j) ∧ a.at i < b.at i
theorem ltR_iff (a b : Ex) : ∀ k, k ≤ 12 → (∀ j, j < 12 - k → a.at j = b.at j) → (ltR a b k = true ↔ Lt a b)
  | 0, _, h => by
    simp only [ltR, Bool.false_eq_true, false_iff]
    rintro ⟨i, hi, _, h2⟩
    have := h i (by omega)
    omega
  | k + 1, hk, h => by
    unfold ltR
    split
    · rename_i he
      exact ltR_iff a b k (by omega) (fun j hj => by
        by_cases hj2 : j = 11 - k
        · rw [hj2]; exact he
        · exact h j (by omega))
    · rename_i hn
      rw [decide_eq_true_iff]
      constructor
      · intro hl
        exact ⟨11 - k, by omega, fun j hj => h j (by omega), hl⟩
      · rintro ⟨i, hi, h1, h2⟩
        by_cases hi2 : i < 11 - k
        · have := h i (by omega); omega
        by_cases hi3 : i = 11 - k
        · rw [← hi3]; exact h2
        · exact absurd (h1 (11 - k) (by omega)) hn
theorem lt_iff (a b : Ex) : lt a b = true ↔ Lt a b := ltR_iff a b 12 (by omega) (fun j hj => by omega)
theorem Lt.irrefl (a : Ex) : ¬ Lt a a := fun ⟨i, _, _, h⟩ => absurd h (Nat.lt_irrefl _)
theorem Lt.trans {a b c : Ex} (h : Lt a b) (k : Lt b c) : Lt a c := by
  obtain ⟨i, hi, h1, h2⟩ := h
  obtain ⟨j, hj, k1, k2⟩ := k
  by_cases hij : i < j
  · exact ⟨i, hi, fun q hq => (h1 q hq).trans (k1 q (by omega)), by rw [← k1 i hij]; exact h2⟩
  · by_cases hji : j < i
    · exact ⟨j, hj, fun q hq => (h1 q (by omega)).trans (k1 q hq), by rw [h1 j hji]; exact k2⟩
    · obtain rfl : i = j := by omega
      exact ⟨i, hi, fun q hq => (h1 q hq).trans (k1 q hq), by omega⟩
theorem Lt.tri {a b : Ex} (h : ¬ Lt a b) (k : ¬ Lt b a) : a = b := by
  have key : ∀ n, n ≤ 12 → ∀ j, j < n → a.at j = b.at j := by
    intro n
    induction n with
    | zero => intro _ j hj; omega
    | succ n ih =>
      intro hn j hj
      have ih := ih (by omega)
      by_cases hjn : j < n
      · exact ih j hjn
      obtain rfl : j = n := by omega
      have h1 : ¬ a.at j < b.at j := fun hl => h ⟨j, by omega, ih, hl⟩
      have h2 : ¬ b.at j < a.at j := fun hl => k ⟨j, by omega, fun q hq => (ih q hq).symm, hl⟩
      omega
  exact Ex.ext (fun i hi => key 12 (by omega) i hi)
theorem Lt.asymm {a b : Ex} (h : Lt a b) : ¬ Lt b a := fun k => Lt.irrefl _ (h.trans k)
structure Tm where
  c : Int
  e : Ex
  deriving DecidableEq
abbrev Up (p : List Tm) : Prop := p.Pairwise (fun x y => Lt x.e y.e)
abbrev Pos (p : List Tm) : Prop := ∀ t ∈ p, 1 ≤ t.c
def lin (F : Ex → Int) : List Tm → Int
  | [] => 0
  | t :: r => t.c * F t.e + lin F r
theorem lin_app (F : Ex → Int) : ∀ p q : List Tm, lin F (p ++ q) = lin F p + lin F q
  | [], q => by simp [lin]
  | t :: r, q => by rw [List.cons_append, lin, lin, lin_app F r q]; omega
def one (e : Ex) : Ex → Int := fun f => if f = e then 1 else 0
def co (p : List Tm) (e : Ex) : Int := lin (one e) p
theorem co_cons (t : Tm) (r : List Tm) (e : Ex) : co (t :: r) e = (if t.e = e then t.c else 0) + co r e := by
  unfold co
  rw [lin]
  unfold one
  split <;> simp
theorem co_none {p : List Tm} {e : Ex} (h : ∀ t ∈ p, t.e ≠ e) : co p e = 0 := by
  induction p with
  | nil => rfl
  | cons t r ih => rw [co_cons, if_neg (h t (by simp)), ih (fun x hx => h x (by simp [hx]))]; rfl
theorem co_pos {p : List Tm} (hp : Pos p) (e : Ex) : 0 ≤ co p e := by
  induction p with
  | nil => exact Int.le_refl 0
  | cons t r ih =>
    rw [co_cons]
    have := ih (fun x hx => hp x (by simp [hx]))
    have h1 := hp t (by simp)
    split <;> omega
theorem co_mem {p : List Tm} (hp : Pos p) {t : Tm} (ht : t ∈ p) : 1 ≤ co p t.e := by
  induction p with
  | nil => cases ht
  | cons x r ih =>
    rw [co_cons]
    have h0 := co_pos (p := r) (fun x hx => hp x (by simp [hx])) t.e
    rcases List.mem_cons.1 ht with rfl | hr
    · rw [if_pos rfl]; have := hp t (by simp); omega
    · have := ih (fun x hx => hp x (by simp [hx])) hr
      have h1 := hp x (by simp)
      split <;> omega
theorem co_head {t : Tm} {r : List Tm} (hu : Up (t :: r)) : co (t :: r) t.e = t.c := by
  rw [co_cons, if_pos rfl, co_none]
  · omega
  · intro x hx he
    have := (List.pairwise_cons.1 hu).1 x hx
    rw [he] at this
    exact Lt.irrefl _ this
theorem co_low {p : List Tm} {e : Ex} (h : ∀ t ∈ p, Lt e t.e) : co p e = 0 := co_none (fun t ht he => by have := h t ht; rw [he] at this; exact Lt.irrefl _ this)
theorem uniq : ∀ {p q : List Tm}, Up p → Up q → Pos p → Pos q → (∀ e, co p e = co q e) → p = q
  | [], [], _, _, _, _, _ => rfl
  | [], t :: r, _, _, _, hq, h => by
    have := co_mem hq (t := t) (by simp)
    rw [← h] at this
    simp [co, lin] at this
  | t :: r, [], _, _, hp, _, h => by
    have := co_mem hp (t := t) (by simp)
    rw [h] at this
    simp [co, lin] at this
  | t :: r, u :: s, hup, huq, hp, hq, h => by
    have hp1 := (List.pairwise_cons.1 hup).1
    have hq1 := (List.pairwise_cons.1 huq).1
    have e : t.e = u.e := by
      apply Lt.tri
      · intro hl
        have h1 := co_mem hp (t := t) (by simp)
        rw [h, co_low (fun x hx => by
          rcases List.mem_cons.1 hx with rfl | hx
          · exact hl
          · exact hl.trans (hq1 x hx))] at h1
        omega
      · intro hl
        have h1 := co_mem hq (t := u) (by simp)
        rw [← h, co_low (fun x hx => by
          rcases List.mem_cons.1 hx with rfl | hx
          · exact hl
          · exact hl.trans (hp1 x hx))] at h1
        omega
    have c : t.c = u.c := by
      have h1 := co_head hup
      have h2 := co_head huq
      rw [← h1, ← h2, h, e]
    have tu : t = u := by cases t; cases u; simp_all
    subst tu
    congr 1
    refine uniq (List.pairwise_cons.1 hup).2 (List.pairwise_cons.1 huq).2 (fun x hx => hp x (by simp [hx])) (fun x hx => hq x (by simp [hx])) (fun e => ?_)
    have := h e
    rw [co_cons, co_cons] at this
    omega
def put (s : Bool) (t : Tm) : List Tm → List Tm
  | [] => [t]
  | x :: r => if lt t.e x.e then t :: x :: r else if x.e = t.e then ⟨if s then x.c + t.c else max x.c t.c, x.e⟩ :: r else x :: put s t r
theorem put_mem {s : Bool} {t : Tm} : ∀ {p : List Tm} {x : Tm}, x ∈ put s t p → x.e = t.e ∨ ∃ y ∈ p, y.e = x.e
  | [], x, h => by simp only [put, List.mem_singleton] at h; exact .inl (by rw [h])
  | y :: r, x, h => by
    unfold put at h
    split at h
    · rcases List.mem_cons.1 h with rfl | h
      · exact .inl rfl
      · exact .inr ⟨x, h, rfl⟩
    · split at h
      · rename_i he
        rcases List.mem_cons.1 h with rfl | h
        · exact .inl he
        · exact .inr ⟨x, by simp [h], rfl⟩
      · rcases List.mem_cons.1 h with rfl | h
        · exact .inr ⟨x, by simp, rfl⟩
        · rcases put_mem h with h | ⟨z, hz, h⟩
          · exact .inl h
          · exact .inr ⟨z, by simp [hz], h⟩
theorem put_up {s : Bool} {t : Tm} : ∀ {p : List Tm}, Up p → Up (put s t p)
  | [], _ => by simp [put]
  | x :: r, h => by
    obtain ⟨h1, h2⟩ := List.pairwise_cons.1 h
    unfold put
    split
    · rename_i hl
      have hl := (lt_iff _ _).1 hl
      exact List.pairwise_cons.2 ⟨fun y hy => by
        rcases List.mem_cons.1 hy with rfl | hy
        · exact hl
        · exact hl.trans (h1 y hy), h⟩
    · rename_i hl
      split
      · exact List.pairwise_cons.2 ⟨fun y hy => h1 y hy, h2⟩
      · rename_i he
        refine List.pairwise_cons.2 ⟨fun y hy => ?_, put_up h2⟩
        rcases put_mem hy with hy | ⟨z, hz, hy⟩
        · rw [hy]
          apply Classical.byContradiction
          intro hn
          exact he (Lt.tri hn (fun k => hl ((lt_iff _ _).2 k)))
        · rw [← hy]; exact h1 z hz
theorem put_pos {s : Bool} {t : Tm} (ht : 1 ≤ t.c) : ∀ {p : List Tm}, Pos p → Pos (put s t p)
  | [], _ => by simp [put, Pos, ht]
  | x :: r, h => by
    have hx := h x (by simp)
    have hr : Pos r := fun y hy => h y (by simp [hy])
    unfold put
    split
    · exact fun y hy => by
        rcases List.mem_cons.1 hy with rfl | hy
        · exact ht
        · exact h y hy
    · split
      · intro y hy
        rcases List.mem_cons.1 hy with rfl | hy
        · show 1 ≤ if s then x.c + t.c else max x.c t.c
          split <;> omega
        · exact hr y hy
      · intro y hy
        rcases List.mem_cons.1 hy with rfl | hy
        · exact hx
        · exact put_pos ht hr y hy
theorem lin_put (F : Ex → Int) (t : Tm) : ∀ p : List Tm, lin F (put true t p) = lin F p + t.c * F t.e
  | [] => by simp [put, lin]
  | x :: r => by
    unfold put
    split
    · rw [lin, Int.add_comm]
    · split
      · rename_i he
        rw [lin, lin]
        simp only [if_true]
        rw [he, Int.add_mul]; omega
      · rw [lin, lin, lin_put F t r]; omega
theorem co_max (t : Tm) (ht : 0 ≤ t.c) : ∀ {p : List Tm}, Up p → Pos p → ∀ e, co (put false t p) e = if t.e = e then max (co p e) t.c else co p e
  | [], _, _, e => by
    simp only [put, co_cons]
    split
    · simp only [co, lin]; omega
    · rfl
  | x :: r, hu, hp, e => by
    obtain ⟨h1, h2⟩ := List.pairwise_cons.1 hu
    have hp2 : Pos r := fun y hy => hp y (by simp [hy])
    unfold put
    split
    · rename_i hl
      have hl := (lt_iff _ _).1 hl
      have h0 : co (x :: r) t.e = 0 := co_low (fun y hy => by
        rcases List.mem_cons.1 hy with rfl | hy
        · exact hl
        · exact hl.trans (h1 y hy))
      rw [co_cons]
      split
      · rename_i he
        subst he
        rw [h0]; omega
      · omega
    · split
      · rename_i he
        have h0 : co r t.e = 0 := by rw [← he]; exact co_low (fun y hy => h1 y hy)
        rw [co_cons, co_cons]
        simp only [Bool.false_eq_true, if_false]
        rw [he]
        split
        · rename_i hh
          subst hh
          rw [h0]; omega
        · rfl
      · rename_i hne
        rw [co_cons, co_max t ht h2 hp2 e, co_cons]
        by_cases hte : t.e = e
        · rw [if_pos hte, if_pos hte, if_neg (by rw [← hte]; exact hne)]
          omega
        · rw [if_neg hte, if_neg hte]
def lay (s : Bool) (q p : List Tm) : List Tm := q.foldl (fun o t => put s t o) p
theorem lay_up {s : Bool} : ∀ {q p : List Tm}, Up p → Up (lay s q p)
  | [], _, h => h
  | t :: r, p, h => lay_up (q := r) (put_up h)
theorem lay_pos {s : Bool} : ∀ {q p : List Tm}, Pos q → Pos p → Pos (lay s q p)
  | [], _, _, h => h
  | t :: r, p, hq, h => lay_pos (q := r) (fun x hx => hq x (by simp [hx])) (put_pos (hq t (by simp)) h)
theorem lin_lay (F : Ex → Int) : ∀ q p : List Tm, lin F (lay true q p) = lin F p + lin F q
  | [], p => by simp [lay, lin]
  | t :: r, p => by
    show lin F (lay true r (put true t p)) = _
    rw [lin_lay F r, lin_put, lin]; omega
theorem co_lay (q p : List Tm) (e : Ex) : co (lay true q p) e = co p e + co q e := lin_lay _ q p
theorem co_layMax : ∀ {q p : List Tm}, Up q → Pos q → Up p → Pos p → ∀ e, co (lay false q p) e = max (co p e) (co q e)
  | [], p, _, _, _, hp, e => by
    have := co_pos hp e
    show co p e = max (co p e) 0
    omega
  | t :: r, p, hq, hqp, hu, hp, e => by
    obtain ⟨h1, h2⟩ := List.pairwise_cons.1 hq
    have ht := hqp t (by simp)
    have hr : Pos r := fun x hx => hqp x (by simp [hx])
    show co (lay false r (put false t p)) e = _
    rw [co_layMax h2 hr (put_up hu) (put_pos ht hp) e, co_max t (by omega) hu hp, co_cons]
    split
    · rename_i he
      have : co r e = 0 := by rw [← he]; exact co_low (fun y hy => h1 y hy)
      rw [this]
      have := co_pos hp e
      omega
    · omega
def norm (q : List Tm) : List Tm := lay true q []
theorem norm_up (q : List Tm) : Up (norm q) := lay_up (by simp)
theorem norm_pos {q : List Tm} (h : Pos q) : Pos (norm q) := lay_pos h (by simp [Pos])
theorem lin_norm (F : Ex → Int) (q : List Tm) : lin F (norm q) = lin F q := by rw [norm, lin_lay]; simp [lin]
theorem co_norm (q : List Tm) (e : Ex) : co (norm q) e = co q e := lin_norm _ q
theorem norm_of {p : List Tm} (hu : Up p) (hp : Pos p) : norm p = p := uniq (norm_up p) hu (norm_pos hp) hp (co_norm p)
theorem norm_eq {p q : List Tm} (hp : Pos p) (hq : Pos q) (h : ∀ e, co p e = co q e) : norm p = norm q := uniq (norm_up p) (norm_up q) (norm_pos hp) (norm_pos hq) (fun e => by rw [co_norm, co_norm, h])
theorem lay_norm {q p : List Tm} (hu : Up p) (hp : Pos p) (hq : Pos q) : lay true q p = norm (p ++ q) := uniq (lay_up hu) (norm_up _) (lay_pos hq hp) (norm_pos (fun t ht => by rcases List.mem_append.1 ht with h | h; exact hp t h; exact hq t h)) (fun e => by rw [co_lay, co_norm]; unfold co; rw [lin_app])
end Go.Proofs.Ytbhbgaihhilfmaa.Poly
