/-
  Texts of one proof, in their order. No condition.
-/
import Derived.Test.YtbhbgaihhilfmaaQvM5
namespace Go.Proofs.Ytbhbgaihhilfmaa.Poly
set_option linter.unusedVariables false
set_option linter.unusedSimpArgs false
def Small (wr : Int → Int) : Prop := ∀ n : Int, 0 ≤ n → n ≤ 4611686018427387904 → wr n = n
theorem put_le {s : Bool} {t : Tm} {B C : Int} (hB : 0 ≤ B) (hC : 0 ≤ C) (ht : 0 ≤ t.c ∧ t.c ≤ C) : ∀ {p : List Tm}, (∀ x ∈ p, 0 ≤ x.c ∧ x.c ≤ B) → ∀ x ∈ put s t p, 0 ≤ x.c ∧ x.c ≤ B + C
  | [], _, x, hx => by simp only [put, List.mem_singleton] at hx; subst hx; omega
  | y :: r, h, x, hx => by
    have hy := h y (by simp)
    unfold put at hx
    split at hx
    · rcases List.mem_cons.1 hx with rfl | hx
      · omega
      · have := h x hx; omega
    · split at hx
      · rcases List.mem_cons.1 hx with rfl | hx
        · show 0 ≤ (if s then y.c + t.c else max y.c t.c) ∧ (if s then y.c + t.c else max y.c t.c) ≤ B + C
          split <;> omega
        · have := h x (by simp [hx]); omega
      · rcases List.mem_cons.1 hx with rfl | hx
        · omega
        · exact put_le hB hC ht (fun z hz => h z (by simp [hz])) x hx
theorem layC_lay {wr : Int → Int} (hw : Small wr) {s : Bool} : ∀ {q p : List Tm} {B : Int}, 0 ≤ B → Up p → (∀ x ∈ p, 0 ≤ x.c ∧ x.c ≤ B) → (∀ x ∈ q, 0 ≤ x.c ∧ x.c ≤ 1099511627776) → B + (q.length : Int) * 1099511627776 ≤ 4611686018427387904 → layC wr s q p = lay s q p
  | [], p, B, _, _, _, _, _ => rfl
  | t :: r, p, B, hB, hu, hp, hq, hb => by
    have ht := hq t (by simp)
    simp only [List.length_cons] at hb
    have hb' : B + 1099511627776 + (r.length : Int) * 1099511627776 ≤ 4611686018427387904 := by
      have : ((r.length + 1 : Nat) : Int) * 1099511627776 = (r.length : Int) * 1099511627776 + 1099511627776 := by rw [Int.natCast_add, Int.add_mul]; simp
      omega
    have hr0 : (0 : Int) ≤ (r.length : Int) * 1099511627776 := Int.mul_nonneg (by omega) (by decide)
    have e : putC wr s t false p = put s t p := putC_put hu (fun x hx => hw _ (by have := hp x hx; omega) (by have := hp x hx; omega))
    show layC wr s r (putC wr s t false p) = lay s r (put s t p)
    rw [e]
    exact layC_lay hw (B := B + 1099511627776) (by omega) (put_up hu) (put_le hB (by decide) ht hp) (fun x hx => hq x (by simp [hx])) hb'
theorem FitP.low {p : List Tm} (h : FitP p) : ∀ x ∈ p, 0 ≤ x.c ∧ x.c ≤ 1099511627776 := fun x hx => by have := h.ok x hx; omega
theorem lay_fit {wr : Int → Int} (hw : Small wr) {s : Bool} {a b : List Tm} (ha : FitP a) (hb : FitP b) : layC wr s b a = lay s b a :=
  layC_lay hw (B := 1099511627776) (by decide) ha.up ha.low hb.low (by have := hb.len; omega)
theorem pos_app {a b : List Tm} (ha : Pos a) (hb : Pos b) : Pos (a ++ b) := fun t ht => by
  rcases List.mem_append.1 ht with h | h
  · exact ha t h
  · exact hb t h
def fitO (p : List Tm) : Res := if fitF p then (p, 0) else ([], 17)
theorem add_eq {wr : Int → Int} (hw : Small wr) {a b : List Tm} (ha : FitP a) (hb : FitP b) : mergeF wr true a b = fitO (norm (a ++ b)) := by
  unfold mergeF fitO
  rw [lay_fit hw ha hb, lay_norm ha.up ha.pos hb.pos]
theorem max_eq {wr : Int → Int} (hw : Small wr) {a b : List Tm} (ha : FitP a) (hb : FitP b) : mergeF wr false a b = fitO (lay false b a) := by
  unfold mergeF fitO
  rw [lay_fit hw ha hb]
theorem len_le : ∀ {q p : List Tm}, Up p → Up q → (∀ x ∈ p, ∃ y ∈ q, y.e = x.e) → p.length ≤ q.length
  | [], p, _, _, h => by
    cases p with
    | nil => simp
    | cons t r => obtain ⟨y, hy, _⟩ := h t (by simp); cases hy
  | u :: s, [], _, _, _ => by simp
  | u :: s, t :: r, hp, hq, h => by
    obtain ⟨p1, p2⟩ := List.pairwise_cons.1 hp
    obtain ⟨q1, q2⟩ := List.pairwise_cons.1 hq
    by_cases he : u.e = t.e
    · have := len_le p2 q2 (fun x hx => by
        obtain ⟨y, hy, e⟩ := h x (by simp [hx])
        rcases List.mem_cons.1 hy with rfl | hy
        · have := p1 x hx
          rw [← e, he] at this
          exact absurd this (Lt.irrefl _)
        · exact ⟨y, hy, e⟩)
      simp; omega
    · have hut : Lt u.e t.e := by
        obtain ⟨y, hy, e⟩ := h t (by simp)
        rcases List.mem_cons.1 hy with rfl | hy
        · exact absurd e he
        · rw [← e]; exact q1 y hy
      have := len_le hp q2 (fun x hx => by
        obtain ⟨y, hy, e⟩ := h x hx
        rcases List.mem_cons.1 hy with rfl | hy
        · have hx2 : Lt y.e x.e := by
            rcases List.mem_cons.1 hx with rfl | hx
            · exact hut
            · exact hut.trans (p1 x hx)
          rw [e] at hx2
          exact absurd hx2 (Lt.irrefl _)
        · exact ⟨y, hy, e⟩)
      simp at this ⊢; omega
theorem co_mem_eq {p : List Tm} (hu : Up p) (hp : Pos p) {t : Tm} (ht : t ∈ p) : co p t.e = t.c := by
  induction p with
  | nil => cases ht
  | cons x r ih =>
    obtain ⟨h1, h2⟩ := List.pairwise_cons.1 hu
    rcases List.mem_cons.1 ht with rfl | hr
    · exact co_head hu
    · rw [co_cons, if_neg (fun e => by have := h1 t hr; rw [e] at this; exact Lt.irrefl _ this), ih h2 (fun y hy => hp y (by simp [hy])) hr]; omega
theorem co_ex {p : List Tm} {e : Ex} (h : co p e ≠ 0) : ∃ y ∈ p, y.e = e := by
  apply Classical.byContradiction
  intro hn
  exact h (co_none (fun t ht he => hn ⟨t, ht, he⟩))
theorem lin_pos {F : Ex → Int} (hF : ∀ e, 0 ≤ F e) {p : List Tm} (hp : Pos p) : 0 ≤ lin F p := by
  induction p with
  | nil => exact Int.le_refl 0
  | cons t r ih =>
    have h1 := hp t (by simp)
    have := Int.mul_nonneg (show 0 ≤ t.c by omega) (hF t.e)
    have := ih (fun x hx => hp x (by simp [hx]))
    rw [lin]; omega
theorem norm_more {p q : List Tm} (hp : Pos p) (hq : Pos q) (hf : FitP (norm (p ++ q))) : FitP (norm p) := by
  have hpq := pos_app hp hq
  have key : ∀ x ∈ norm p, ∃ y ∈ norm (p ++ q), y.e = x.e ∧ x.c ≤ y.c := fun x hx => by
    have h1 := co_mem_eq (norm_up p) (norm_pos hp) hx
    have h2 := norm_pos hp x hx
    rw [co_norm] at h1
    have h3 : co (norm (p ++ q)) x.e = co p x.e + co q x.e := by rw [co_norm]; unfold co; rw [lin_app]
    have h4 := co_pos hq x.e
    obtain ⟨y, hy, e⟩ := co_ex (p := norm (p ++ q)) (e := x.e) (by omega)
    have h5 := co_mem_eq (norm_up _) (norm_pos hpq) hy
    rw [e] at h5
    exact ⟨y, hy, e, by omega⟩
  refine ⟨?_, norm_up p, fun x hx => ?_⟩
  · have := len_le (norm_up p) (norm_up (p ++ q)) (fun x hx => by obtain ⟨y, hy, e, _⟩ := key x hx; exact ⟨y, hy, e⟩)
    have := hf.len
    omega
  · obtain ⟨y, hy, e, hc⟩ := key x hx
    obtain ⟨_, h2, h3⟩ := hf.ok y hy
    rw [e] at h3
    exact ⟨norm_pos hp x hx, by omega, h3⟩
def prodL (a b : List Tm) : List Tm := (pairs a b).map fun xy => mulT xy.1 xy.2
theorem prodL_cons (x : Tm) (r b : List Tm) : prodL (x :: r) b = b.map (mulT x) ++ prodL r b := by
  simp [prodL, pairs, List.map_flatMap, List.flatMap_cons, Function.comp_def]
theorem prod_pos {a b : List Tm} (ha : Pos a) (hb : Pos b) : Pos (prodL a b) := by
  intro t ht
  simp only [prodL, pairs, List.mem_map, List.mem_flatMap] at ht
  obtain ⟨⟨x, y⟩, ⟨x', hx', y', hy', e⟩, rfl⟩ := ht
  simp only [Prod.mk.injEq] at e
  obtain ⟨rfl, rfl⟩ := e
  have h1 := ha x' hx'
  have h2 := hb y' hy'
  show 1 ≤ x'.c * y'.c
  have := Int.mul_le_mul h1 h2 (by decide) (by omega)
  omega
theorem lin_mulT (F : Ex → Int) (x : Tm) : ∀ b : List Tm, lin F (b.map (mulT x)) = x.c * lin (fun f => F (addE x.e f)) b
  | [] => by simp [lin]
  | y :: r => by
    rw [List.map_cons, lin, lin, lin_mulT F x r, Int.mul_add, mulT, Int.mul_assoc]
theorem lin_prod (F : Ex → Int) (b : List Tm) : ∀ a : List Tm, lin F (prodL a b) = lin (fun e => lin (fun f => F (addE e f)) b) a
  | [] => rfl
  | x :: r => by rw [prodL_cons, lin_app, lin_mulT, lin_prod F b r, lin]
theorem lin_scale (F : Ex → Int) (n : Int) : ∀ p : List Tm, lin (fun e => n * F e) p = n * lin F p
  | [] => by simp [lin]
  | t :: r => by rw [lin, lin, lin_scale F n r, Int.mul_add, Int.mul_left_comm]
theorem mulL_eq {wr : Int → Int} (hw : Small wr) : ∀ {prs : List (Tm × Tm)} {o : List Tm}, FitP o → (∀ xy ∈ prs, 1 ≤ xy.1.c ∧ xy.1.c ≤ 1099511627776 ∧ 1 ≤ xy.2.c) → mulL wr o prs = if fitF (norm (o ++ prs.map fun xy => mulT xy.1 xy.2)) then some (norm (o ++ prs.map fun xy => mulT xy.1 xy.2)) else none
  | [], o, ho, _ => by
    rw [List.map_nil, List.append_nil, norm_of ho.up ho.pos, (fitF_iff o).2 ho]; rfl
  | (x, y) :: r, o, ho, h => by
    obtain ⟨x1, x2, y1⟩ := h (x, y) (by simp)
    simp only at x1 x2 y1
    have hr : ∀ xy ∈ r, 1 ≤ xy.1.c ∧ xy.1.c ≤ 1099511627776 ∧ 1 ≤ xy.2.c := fun xy hxy => h xy (by simp [hxy])
    have hpr : Pos (r.map fun xy => mulT xy.1 xy.2) := fun t ht => by
      obtain ⟨xy, hxy, rfl⟩ := List.mem_map.1 ht
      obtain ⟨h1, _, h2⟩ := hr xy hxy
      show 1 ≤ xy.1.c * xy.2.c
      have := Int.mul_le_mul h1 h2 (by decide) (by omega)
      omega
    have hxy : 1 ≤ (mulT x y).c := by
      show 1 ≤ x.c * y.c
      have := Int.mul_le_mul x1 y1 (by decide) (by omega)
      omega
    have hpo : Pos (o ++ [mulT x y]) := pos_app ho.pos (fun t ht => by rw [List.mem_singleton] at ht; subst ht; exact hxy)
    have hall : o ++ ((x, y) :: r).map (fun xy => mulT xy.1 xy.2) = (o ++ [mulT x y]) ++ r.map fun xy => mulT xy.1 xy.2 := by simp
    rw [hall]
    unfold mulL mulS
    simp only
    have no : ¬ FitP (norm (o ++ [mulT x y])) → fitF (norm ((o ++ [mulT x y]) ++ r.map fun xy => mulT xy.1 xy.2)) = false := fun hn => by
      cases hq : fitF (norm ((o ++ [mulT x y]) ++ r.map fun xy => mulT xy.1 xy.2)) with
      | false => rfl
      | true => exact absurd (norm_more hpo hpr ((fitF_iff _).1 hq)) hn
    by_cases hb : x.c > Int.tdiv 1099511627776 y.c
    · rw [if_pos hb]
      have hbig : 1099511627776 < x.c * y.c := by
        rw [Int.tdiv_eq_ediv_of_nonneg (by decide)] at hb
        exact (Int.ediv_lt_iff_lt_mul (by omega)).1 hb
      have hn : ¬ FitP (norm (o ++ [mulT x y])) := fun hf => by
        have h3 : co (norm (o ++ [mulT x y])) (mulT x y).e = co o (mulT x y).e + (mulT x y).c := by
          rw [co_norm]; unfold co; rw [lin_app]
          show _ + co [mulT x y] (mulT x y).e = _
          rw [co_cons, if_pos rfl]; simp [co, lin]
        have h4 := co_pos ho.pos (mulT x y).e
        obtain ⟨z, hz, e⟩ := co_ex (p := norm (o ++ [mulT x y])) (e := (mulT x y).e) (by omega)
        have h5 := co_mem_eq hf.up hf.pos hz
        rw [e] at h5
        have := (hf.ok z hz).2.1
        have : (mulT x y).c = x.c * y.c := rfl
        omega
      rw [no hn]; rfl
    · rw [if_neg hb]
      have hle : x.c * y.c ≤ 1099511627776 := by
        have hb : x.c ≤ Int.tdiv 1099511627776 y.c := by omega
        rw [Int.tdiv_eq_ediv_of_nonneg (by decide)] at hb
        exact (Int.le_ediv_iff_mul_le (by omega)).1 hb
      have e : putC wr true (mulT x y) false o = norm (o ++ [mulT x y]) := by
        rw [putC_put ho.up (fun z hz => hw _ (by have := ho.low z hz; omega) (by have := ho.low z hz; have : (mulT x y).c = x.c * y.c := rfl; omega))]
        exact lay_norm (q := [mulT x y]) ho.up ho.pos (fun t ht => by rw [List.mem_singleton] at ht; subst ht; exact hxy)
      rw [e]
      by_cases hf : fitF (norm (o ++ [mulT x y])) = true
      · rw [if_pos hf]
        simp only
        rw [mulL_eq hw ((fitF_iff _).1 hf) hr]
        have e2 : norm (norm (o ++ [mulT x y]) ++ r.map fun xy => mulT xy.1 xy.2) = norm ((o ++ [mulT x y]) ++ r.map fun xy => mulT xy.1 xy.2) := norm_eq (pos_app (norm_pos hpo) hpr) (pos_app hpo hpr) (fun e => by unfold co; rw [lin_app, lin_app, lin_norm])
        rw [e2]
      · rw [if_neg hf, no (fun h => hf ((fitF_iff _).2 h))]; rfl
theorem mul_eq {wr : Int → Int} (hw : Small wr) {a b : List Tm} (ha : FitP a) (hb : FitP b) : mulF wr a b = fitO (norm (prodL a b)) := by
  unfold mulF
  rw [mulL_eq hw FitP.nil (fun xy hxy => by
    simp only [pairs, List.mem_flatMap, List.mem_map] at hxy
    obtain ⟨x, hx, y, hy, rfl⟩ := hxy
    have h1 := ha.ok x hx
    have h2 := hb.ok y hy
    exact ⟨h1.1, h1.2.1, h2.1⟩), List.nil_append]
  unfold fitO resO prodL
  by_cases h : fitF (norm (List.map (fun xy => mulT xy.1 xy.2) (pairs a b))) = true
  · rw [if_pos h, if_pos h]
  · rw [if_neg h, if_neg h]
theorem fitO_zero {p : List Tm} (h : (fitO p).2 = 0) : (fitO p).1 = p := by
  unfold fitO at *
  by_cases g : fitF p = true
  · rw [if_pos g]
  · rw [if_neg g] at h; simp at h
end Go.Proofs.Ytbhbgaihhilfmaa.Poly
