/-
  Texts of one proof, in their order. No condition.
-/
import Derived.Test.YtbhbgaihhilfmaaQvM7
namespace Go.Proofs.Ytbhbgaihhilfmaa.Poly
set_option linter.unusedVariables false
set_option linter.unusedSimpArgs false
def both (s : Bool) (x y : Tm) : Tm := ⟨if s then x.c + y.c else max x.c y.c, x.e⟩
def mg (s : Bool) : List Tm → List Tm → List Tm
  | [], b => b
  | x :: a, [] => x :: a
  | x :: a, y :: b => if lt x.e y.e then x :: mg s a (y :: b) else if lt y.e x.e then y :: mg s (x :: a) b else both s x y :: mg s a b
termination_by a b => a.length + b.length
theorem mg_nil (s : Bool) (a : List Tm) : mg s a [] = a := by cases a <;> simp [mg]
theorem nil_mg (s : Bool) (b : List Tm) : mg s [] b = b := by simp [mg]
theorem mg_cons (s : Bool) (x y : Tm) (a b : List Tm) : mg s (x :: a) (y :: b) = if lt x.e y.e then x :: mg s a (y :: b) else if lt y.e x.e then y :: mg s (x :: a) b else both s x y :: mg s a b := by rw [mg]
theorem mg_mem (s : Bool) : ∀ (n : Nat) (a b : List Tm), a.length + b.length = n → ∀ z ∈ mg s a b, ∃ y, (y ∈ a ∨ y ∈ b) ∧ y.e = z.e
  | n, [], b, h, z, hz => by rw [nil_mg] at hz; exact ⟨z, .inr hz, rfl⟩
  | n, x :: a, [], h, z, hz => by rw [mg_nil] at hz; exact ⟨z, .inl hz, rfl⟩
  | n, x :: a, y :: b, h, z, hz => by
    rw [mg_cons] at hz
    simp only [List.length_cons] at h
    split at hz
    · rcases List.mem_cons.1 hz with rfl | hz
      · exact ⟨z, .inl (by simp), rfl⟩
      · obtain ⟨u, hu, he⟩ := mg_mem s (n - 1) a (y :: b) (by simp; omega) z hz
        exact ⟨u, hu.imp (fun h => by simp [h]) id, he⟩
    · split at hz
      · rcases List.mem_cons.1 hz with rfl | hz
        · exact ⟨z, .inr (by simp), rfl⟩
        · obtain ⟨u, hu, he⟩ := mg_mem s (n - 1) (x :: a) b (by simp; omega) z hz
          exact ⟨u, hu.imp id (fun h => by simp [h]), he⟩
      · rcases List.mem_cons.1 hz with rfl | hz
        · exact ⟨x, .inl (by simp), rfl⟩
        · obtain ⟨u, hu, he⟩ := mg_mem s (n - 2) a b (by omega) z hz
          exact ⟨u, hu.imp (fun h => by simp [h]) (fun h => by simp [h]), he⟩
termination_by n => n
theorem mg_up (s : Bool) : ∀ (n : Nat) (a b : List Tm), a.length + b.length = n → Up a → Up b → Up (mg s a b)
  | n, [], b, h, ha, hb => by rw [nil_mg]; exact hb
  | n, x :: a, [], h, ha, hb => by rw [mg_nil]; exact ha
  | n, x :: a, y :: b, h, ha, hb => by
    rw [mg_cons]
    simp only [List.length_cons] at h
    obtain ⟨a1, a2⟩ := List.pairwise_cons.1 ha
    obtain ⟨b1, b2⟩ := List.pairwise_cons.1 hb
    split
    · rename_i hl
      have hl := (lt_iff _ _).1 hl
      refine List.pairwise_cons.2 ⟨fun z hz => ?_, mg_up s (n - 1) a (y :: b) (by simp; omega) a2 hb⟩
      obtain ⟨u, hu, he⟩ := mg_mem s _ a (y :: b) rfl z hz
      rw [← he]
      rcases hu with hu | hu
      · exact a1 u hu
      · rcases List.mem_cons.1 hu with rfl | hu
        · exact hl
        · exact hl.trans (b1 u hu)
    · rename_i hn
      split
      · rename_i hl
        have hl := (lt_iff _ _).1 hl
        refine List.pairwise_cons.2 ⟨fun z hz => ?_, mg_up s (n - 1) (x :: a) b (by simp; omega) ha b2⟩
        obtain ⟨u, hu, he⟩ := mg_mem s _ (x :: a) b rfl z hz
        rw [← he]
        rcases hu with hu | hu
        · rcases List.mem_cons.1 hu with rfl | hu
          · exact hl
          · exact hl.trans (a1 u hu)
        · exact b1 u hu
      · rename_i hm
        have e : x.e = y.e := Lt.tri (fun h => hn ((lt_iff _ _).2 h)) (fun h => hm ((lt_iff _ _).2 h))
        refine List.pairwise_cons.2 ⟨fun z hz => ?_, mg_up s (n - 2) a b (by omega) a2 b2⟩
        obtain ⟨u, hu, he⟩ := mg_mem s _ a b rfl z hz
        rw [← he]
        show Lt x.e u.e
        rcases hu with hu | hu
        · exact a1 u hu
        · rw [e]; exact b1 u hu
termination_by n => n
theorem mg_pos (s : Bool) : ∀ (n : Nat) (a b : List Tm), a.length + b.length = n → Pos a → Pos b → Pos (mg s a b)
  | n, [], b, h, ha, hb => by rw [nil_mg]; exact hb
  | n, x :: a, [], h, ha, hb => by rw [mg_nil]; exact ha
  | n, x :: a, y :: b, h, ha, hb => by
    rw [mg_cons]
    simp only [List.length_cons] at h
    have hx := ha x (by simp)
    have hy := hb y (by simp)
    have ha2 : Pos a := fun z hz => ha z (by simp [hz])
    have hb2 : Pos b := fun z hz => hb z (by simp [hz])
    intro z hz
    split at hz
    · rcases List.mem_cons.1 hz with rfl | hz
      · exact hx
      · exact mg_pos s (n - 1) a (y :: b) (by simp; omega) ha2 hb z hz
    · split at hz
      · rcases List.mem_cons.1 hz with rfl | hz
        · exact hy
        · exact mg_pos s (n - 1) (x :: a) b (by simp; omega) ha hb2 z hz
      · rcases List.mem_cons.1 hz with rfl | hz
        · show 1 ≤ if s then x.c + y.c else max x.c y.c
          split <;> omega
        · exact mg_pos s (n - 2) a b (by omega) ha2 hb2 z hz
termination_by n => n
def opI (s : Bool) (a b : Int) : Int := if s then a + b else max a b
theorem mg_co (s : Bool) (f : Ex) : ∀ (n : Nat) (a b : List Tm), a.length + b.length = n → Up a → Up b → Pos a → Pos b → co (mg s a b) f = opI s (co a f) (co b f)
  | n, [], b, h, ha, hb, pa, pb => by
    have := co_pos pb f
    rw [nil_mg]
    unfold opI
    have e : co [] f = 0 := rfl
    rw [e]
    split <;> omega
  | n, x :: a, [], h, ha, hb, pa, pb => by
    have := co_pos pa f
    rw [mg_nil]
    unfold opI
    have e : co [] f = 0 := rfl
    rw [e]
    split <;> omega
  | n, x :: a, y :: b, h, ha, hb, pa, pb => by
    rw [mg_cons]
    simp only [List.length_cons] at h
    obtain ⟨a1, a2⟩ := List.pairwise_cons.1 ha
    obtain ⟨b1, b2⟩ := List.pairwise_cons.1 hb
    have hx := pa x (by simp)
    have hy := pb y (by simp)
    have pa2 : Pos a := fun z hz => pa z (by simp [hz])
    have pb2 : Pos b := fun z hz => pb z (by simp [hz])
    split
    · rename_i hl
      have hl := (lt_iff _ _).1 hl
      rw [co_cons, mg_co s f (n - 1) a (y :: b) (by simp; omega) a2 hb pa2 pb, co_cons x]
      unfold opI
      cases s
      rotate_left
      · simp only [if_true]; omega
      · simp only [Bool.false_eq_true, if_false]
        by_cases he : x.e = f
        · rw [if_pos he]
          have e1 : co a f = 0 := by rw [← he]; exact co_low (fun z hz => a1 z hz)
          have e2 : co (y :: b) f = 0 := by
            rw [← he]
            exact co_low (fun z hz => by
              rcases List.mem_cons.1 hz with rfl | hz
              · exact hl
              · exact hl.trans (b1 z hz))
          rw [e1, e2]; omega
        · rw [if_neg he]; omega
    · rename_i hn
      split
      · rename_i hl
        have hl := (lt_iff _ _).1 hl
        rw [co_cons, mg_co s f (n - 1) (x :: a) b (by simp; omega) ha b2 pa pb2, co_cons y]
        unfold opI
        cases s
        rotate_left
        · simp only [if_true]; omega
        · simp only [Bool.false_eq_true, if_false]
          by_cases he : y.e = f
          · rw [if_pos he]
            have e1 : co b f = 0 := by rw [← he]; exact co_low (fun z hz => b1 z hz)
            have e2 : co (x :: a) f = 0 := by
              rw [← he]
              exact co_low (fun z hz => by
                rcases List.mem_cons.1 hz with rfl | hz
                · exact hl
                · exact hl.trans (a1 z hz))
            rw [e1, e2]; omega
          · rw [if_neg he]; omega
      · rename_i hm
        have e : x.e = y.e := Lt.tri (fun h => hn ((lt_iff _ _).2 h)) (fun h => hm ((lt_iff _ _).2 h))
        rw [co_cons, mg_co s f (n - 2) a b (by omega) a2 b2 pa2 pb2, co_cons x, co_cons y]
        show (if x.e = f then (if s then x.c + y.c else max x.c y.c) else 0) + _ = _
        unfold opI
        by_cases he : x.e = f
        · have he2 : y.e = f := by rw [← e]; exact he
          have e1 : co a f = 0 := by rw [← he]; exact co_low (fun z hz => a1 z hz)
          have e2 : co b f = 0 := by rw [← he2]; exact co_low (fun z hz => b1 z hz)
          rw [if_pos he, if_pos he2, if_pos he, e1, e2]
          cases s
          · simp only [Bool.false_eq_true, if_false]; omega
          · simp only [if_true]; omega
        · have he2 : ¬ y.e = f := by rw [← e]; exact he
          rw [if_neg he, if_neg he2, if_neg he]
          cases s
          · simp only [Bool.false_eq_true, if_false]; omega
          · simp only [if_true]; omega
termination_by n => n
theorem mg_norm {a b : List Tm} (ha : Up a) (hb : Up b) (pa : Pos a) (pb : Pos b) : mg true a b = norm (a ++ b) :=
  uniq (mg_up _ _ _ _ rfl ha hb) (norm_up _) (mg_pos _ _ _ _ rfl pa pb) (norm_pos (pos_app pa pb)) (fun e => by
    rw [mg_co true e _ _ _ rfl ha hb pa pb, co_norm]; unfold co; rw [lin_app]; rfl)
theorem mg_lay {a b : List Tm} (ha : Up a) (hb : Up b) (pa : Pos a) (pb : Pos b) : mg false a b = lay false b a :=
  uniq (mg_up _ _ _ _ rfl ha hb) (lay_up ha) (mg_pos _ _ _ _ rfl pa pb) (lay_pos pb pa) (fun e => by
    rw [mg_co false e _ _ _ rfl ha hb pa pb, co_layMax hb pb ha pa]; rfl)
def satI (x y : Int) : Int := min (x * y) 1099511627777
def satT (x y : Tm) : Tm := ⟨satI x.c y.c, addE x.e y.e⟩
def rowF (t : Tm) (b : List Tm) : List Tm := b.map (satT t)
theorem addE_lt {e f g : Ex} (h : Lt f g) : Lt (addE e f) (addE e g) := by
  obtain ⟨i, hi, h1, h2⟩ := h
  exact ⟨i, hi, fun j hj => by rw [addE_at, addE_at, h1 j hj], by rw [addE_at, addE_at]; omega⟩
theorem rowF_up {t : Tm} {b : List Tm} (h : Up b) : Up (rowF t b) := by
  unfold rowF
  rw [Up, List.pairwise_map]
  exact h.imp (fun h => addE_lt h)
theorem satI_pos {x y : Int} (hx : 1 ≤ x) (hy : 1 ≤ y) : 1 ≤ satI x y := by
  have := Int.mul_le_mul hx hy (by decide) (by omega)
  unfold satI; omega
theorem rowF_pos {t : Tm} {b : List Tm} (ht : 1 ≤ t.c) (h : Pos b) : Pos (rowF t b) := by
  intro z hz
  obtain ⟨y, hy, rfl⟩ := List.mem_map.1 hz
  exact satI_pos ht (h y hy)
theorem big_no {p : List Tm} (hp : Pos p) {t : Tm} (ht : t ∈ p) (hb : 1099511627776 < t.c) : fitF (norm p) = false := by
  cases hq : fitF (norm p) with
  | false => rfl
  | true =>
    have hf := (fitF_iff _).1 hq
    have h3 : t.c ≤ co p t.e := by
      clear hq hf
      induction p with
      | nil => cases ht
      | cons x r ih =>
        have h0 := co_pos (p := r) (fun y hy => hp y (by simp [hy])) t.e
        have hx := hp x (by simp)
        rw [co_cons]
        rcases List.mem_cons.1 ht with rfl | ht
        · rw [if_pos rfl]; omega
        · have := ih (fun y hy => hp y (by simp [hy])) ht
          split <;> omega
    rw [← co_norm] at h3
    obtain ⟨z, hz, e⟩ := co_ex (p := norm p) (e := t.e) (by omega)
    have h5 := co_mem_eq hf.up hf.pos hz
    rw [e] at h5
    have := (hf.ok z hz).2.1
    omega
theorem mapT_pos {t : Tm} {b : List Tm} (ht : 1 ≤ t.c) (h : Pos b) : Pos (b.map (mulT t)) := by
  intro z hz
  obtain ⟨y, hy, rfl⟩ := List.mem_map.1 hz
  show 1 ≤ t.c * y.c
  have := Int.mul_le_mul ht (h y hy) (by decide) (by omega)
  omega
theorem sat_row {o : List Tm} {t : Tm} {b : List Tm} (ho : Pos o) (ht : 1 ≤ t.c) (hb : Pos b) : fitO (norm (o ++ rowF t b)) = fitO (norm (o ++ b.map (mulT t))) := by
  by_cases h : ∀ y ∈ b, t.c * y.c ≤ 1099511627776
  · have : rowF t b = b.map (mulT t) := List.map_congr_left (fun y hy => by
      have := h y hy
      unfold satT mulT satI
      congr 1
      omega)
    rw [this]
  · obtain ⟨y, hy, hyb⟩ : ∃ y ∈ b, 1099511627776 < t.c * y.c := by
      apply Classical.byContradiction
      intro hn
      exact h (fun y hy => by
        apply Classical.byContradiction
        intro hc
        exact hn ⟨y, hy, by omega⟩)
    unfold fitO
    rw [big_no (t := satT t y) (pos_app ho (rowF_pos ht hb)) (by simp only [List.mem_append]; exact .inr (List.mem_map_of_mem hy)) (by show _ < min (t.c * y.c) 1099511627777; omega), big_no (t := mulT t y) (pos_app ho (mapT_pos ht hb)) (by simp only [List.mem_append]; exact .inr (List.mem_map_of_mem hy)) hyb]
    rfl
def mulW (b : List Tm) : List Tm → List Tm → Res
  | o, [] => (o, 0)
  | o, t :: r => if (fitO (norm (o ++ rowF t b))).2 = 0 then mulW b (fitO (norm (o ++ rowF t b))).1 r else ([], 17)
theorem mulW_eq {b : List Tm} (hb : FitP b) : ∀ {a o : List Tm}, FitP o → (∀ t ∈ a, 1 ≤ t.c) → mulW b o a = fitO (norm (o ++ prodL a b))
  | [], o, ho, _ => by
    have : prodL [] b = [] := rfl
    rw [this, List.append_nil, norm_of ho.up ho.pos]
    unfold mulW fitO
    rw [(fitF_iff o).2 ho]; rfl
  | t :: r, o, ho, ha => by
    have ht := ha t (by simp)
    have hr : Pos r := fun x hx => ha x (by simp [hx])
    have p1 : Pos (o ++ b.map (mulT t)) := pos_app ho.pos (mapT_pos ht hb.pos)
    have p2 := prod_pos hr hb.pos
    rw [mulW, sat_row ho.pos ht hb.pos, prodL_cons, ← List.append_assoc]
    unfold fitO
    by_cases hf : fitF (norm (o ++ b.map (mulT t))) = true
    · rw [if_pos hf]
      simp only [if_true]
      rw [mulW_eq hb ((fitF_iff _).1 hf) hr]
      have e2 : norm (norm (o ++ b.map (mulT t)) ++ prodL r b) = norm ((o ++ b.map (mulT t)) ++ prodL r b) := norm_eq (pos_app (norm_pos p1) p2) (pos_app p1 p2) (fun e => by unfold co; rw [lin_app, lin_app, lin_norm])
      rw [e2]; rfl
    · rw [if_neg hf]
      have : fitF (norm ((o ++ b.map (mulT t)) ++ prodL r b)) = false := by
        cases hq : fitF (norm ((o ++ b.map (mulT t)) ++ prodL r b)) with
        | false => rfl
        | true => exact absurd ((fitF_iff _).2 (norm_more p1 p2 ((fitF_iff _).1 hq))) hf
      rw [this]; simp
theorem mulW_mulF {wr : Int → Int} (hw : Small wr) {a b : List Tm} (ha : FitP a) (hb : FitP b) : mulW b [] a = mulF wr a b := by
  rw [mulW_eq hb FitP.nil ha.pos, mul_eq hw ha hb, List.nil_append]
def nat0 (x : Int) : Int := max x 0
def sats (n : Int) (fs : List Int) : Int := fs.foldl (fun n x => satI n x) n
theorem sats_in : ∀ {fs : List Int} {n : Int}, 0 ≤ n → n ≤ 1099511627777 → (∀ x ∈ fs, 0 ≤ x) → 0 ≤ sats n fs ∧ sats n fs ≤ 1099511627777
  | [], n, h0, h1, _ => ⟨h0, h1⟩
  | x :: r, n, h0, h1, hx => by
    have hx0 := hx x (by simp)
    have := Int.mul_nonneg h0 hx0
    exact sats_in (fs := r) (n := satI n x) (by unfold satI; omega) (by unfold satI; omega) (fun y hy => hx y (by simp [hy]))
theorem sats_zero : ∀ {fs : List Int} {n : Int}, (∀ x ∈ fs, 0 ≤ x) → n = 0 → sats n fs = 0
  | [], n, _, h => h
  | x :: r, n, hx, h => by
    subst h
    exact sats_zero (fs := r) (fun y hy => hx y (by simp [hy])) (by unfold satI; simp; omega)
theorem sats_dead : ∀ {fs : List Int} {n : Int}, 0 ≤ n → (∀ x ∈ fs, 0 ≤ x) → (∃ x ∈ fs, x = 0) → sats n fs = 0
  | [], n, _, _, h => by obtain ⟨x, hx, _⟩ := h; cases hx
  | x :: r, n, h0, hx, h => by
    have hx0 := hx x (by simp)
    have hr : ∀ y ∈ r, 0 ≤ y := fun y hy => hx y (by simp [hy])
    by_cases e : x = 0
    · subst e
      exact sats_zero (fs := r) hr (by unfold satI; simp; omega)
    · obtain ⟨y, hy, rfl⟩ := h
      rcases List.mem_cons.1 hy with rfl | hy
      · exact absurd rfl e
      · have := Int.mul_nonneg h0 hx0
        exact sats_dead (fs := r) (n := satI n x) (by unfold satI; omega) hr ⟨0, hy, rfl⟩
theorem sats_big : ∀ {fs : List Int}, (∀ x ∈ fs, 1 ≤ x) → sats 1099511627777 fs = 1099511627777
  | [], _ => rfl
  | x :: r, hx => by
    have h1 := hx x (by simp)
    have : satI 1099511627777 x = 1099511627777 := by unfold satI; omega
    show sats (satI 1099511627777 x) r = _
    rw [this]
    exact sats_big (fun y hy => hx y (by simp [hy]))
theorem sats_all : ∀ {fs : List Int} {n : Int}, 0 ≤ n → n ≤ 1099511627776 → (∀ x ∈ fs, 1 ≤ x) → sats n fs = (match mulAll n fs with | some m => m | none => 1099511627777)
  | [], n, _, _, _ => rfl
  | x :: r, n, h0, h1, hx => by
    have hx1 := hx x (by simp)
    have hr : ∀ y ∈ r, 1 ≤ y := fun y hy => hx y (by simp [hy])
    show sats (satI n x) r = _
    unfold mulAll
    by_cases hb : n > Int.tdiv 1099511627776 x
    · rw [if_pos hb]
      have hbig : 1099511627776 < n * x := by
        rw [Int.tdiv_eq_ediv_of_nonneg (by decide)] at hb
        exact (Int.ediv_lt_iff_lt_mul (by omega)).1 hb
      have : satI n x = 1099511627777 := by unfold satI; omega
      rw [this]; exact sats_big hr
    · rw [if_neg hb]
      have hle : n * x ≤ 1099511627776 := by
        have hb : n ≤ Int.tdiv 1099511627776 x := by omega
        rw [Int.tdiv_eq_ediv_of_nonneg (by decide)] at hb
        exact (Int.le_ediv_iff_mul_le (by omega)).1 hb
      have e : satI n x = n * x := by unfold satI; omega
      rw [e]
      exact sats_all (Int.mul_nonneg h0 (by omega)) hle hr
def facsN (e : Ex) (l : List Int) (k : Nat) : List Int := ((List.range 12).drop k).flatMap fun k => List.replicate (e.at k) (nat0 (l.getD k 0))
theorem facsN_at {e : Ex} {l : List Int} {k : Nat} (h : k < 12) : facsN e l k = List.replicate (e.at k) (nat0 (l.getD k 0)) ++ facsN e l (k + 1) := by
  unfold facsN
  rw [range_drop h, List.flatMap_cons]
def termN (t : Tm) (l : List Int) : Int := sats t.c (facsN t.e l 0)
theorem facsN_low {e : Ex} {l : List Int} {k : Nat} : ∀ x ∈ facsN e l k, 0 ≤ x := by
  intro x hx
  simp only [facsN, List.mem_flatMap, List.mem_replicate] at hx
  obtain ⟨k, _, _, rfl⟩ := hx
  unfold nat0; omega
theorem termN_in {t : Tm} {l : List Int} (h0 : 1 ≤ t.c) (h1 : t.c ≤ 1099511627776) : 0 ≤ termN t l ∧ termN t l ≤ 1099511627777 := sats_in (by omega) (by omega) facsN_low
theorem termN_termF {t : Tm} {l : List Int} (h0 : 1 ≤ t.c) (h1 : t.c ≤ 1099511627776) : termF t l = if termN t l ≤ 1099511627776 then (termN t l, 0) else (0, 17) := by
  unfold termF
  by_cases hd : deadFrom t.e l 0 = true
  · rw [if_pos hd]
    have : termN t l = 0 := by
      refine sats_dead (by omega) facsN_low ?_
      unfold deadFrom at hd
      rw [List.any_eq_true] at hd
      obtain ⟨k, hk, h2⟩ := hd
      unfold deadK at h2
      rw [Bool.and_eq_true, decide_eq_true_iff, Bool.or_eq_true, decide_eq_true_iff, decide_eq_true_iff] at h2
      obtain ⟨h3, h4⟩ := h2
      refine ⟨0, ?_, rfl⟩
      simp only [facsN, List.mem_flatMap, List.mem_replicate]
      refine ⟨k, hk, by omega, ?_⟩
      unfold nat0
      rcases h4 with h4 | h4
      · rw [List.getD_eq_getElem?_getD, List.getElem?_eq_none h4]; rfl
      · omega
    rw [this]; rfl
  · rw [if_neg hd]
    have hd : deadFrom t.e l 0 = false := by simpa using hd
    have hp := facs_pos hd
    have e : facsN t.e l 0 = facsFrom t.e l 0 := by
      have hp2 := hp
      unfold facsFrom at hp2 ⊢
      unfold facsN
      generalize (List.range 12).drop 0 = ks at hp2 ⊢
      clear hd hp
      induction ks with
      | nil => rfl
      | cons k r ih =>
        rw [List.flatMap_cons, List.flatMap_cons, ih (fun x hx => hp2 x (by rw [List.flatMap_cons]; exact List.mem_append.2 (.inr hx)))]
        congr 1
        by_cases h : t.e.at k = 0
        · rw [h]; rfl
        · have := hp2 (l.getD k 0) (by rw [List.flatMap_cons]; exact List.mem_append.2 (.inl (List.mem_replicate.2 ⟨h, rfl⟩)))
          unfold nat0
          rw [show max (l.getD k 0) 0 = l.getD k 0 by omega]
    have h2 : termN t l = (match mulAll t.c (facsFrom t.e l 0) with | some m => m | none => 1099511627777) := by unfold termN; rw [e]; exact sats_all (by omega) h1 hp
    have h3 := mulAll_in (show (0 : Int) ≤ t.c by omega) h1 hp
    rw [h2]
    cases hm : mulAll t.c (facsFrom t.e l 0) with
    | none => rfl
    | some m =>
      have := h3 m hm
      simp only [numO]
      rw [if_pos this.2]
def sumN (l : List Int) : List Tm → Int
  | [] => 0
  | t :: r => termN t l + sumN l r
theorem sumN_in {l : List Int} : ∀ {p : List Tm}, (∀ t ∈ p, 1 ≤ t.c ∧ t.c ≤ 1099511627776) → 0 ≤ sumN l p ∧ sumN l p ≤ (p.length : Int) * 1099511627777
  | [], _ => by simp [sumN]
  | t :: r, h => by
    have h1 := termN_in (l := l) (h t (by simp)).1 (h t (by simp)).2
    have h2 := sumN_in (l := l) (p := r) (fun x hx => h x (by simp [hx]))
    rw [sumN, List.length_cons, Int.natCast_add, Int.add_mul]
    simp only [Int.natCast_one, Int.one_mul]
    omega
theorem atL_sum {l : List Int} : ∀ {p : List Tm} {s : Int}, (∀ t ∈ p, 1 ≤ t.c ∧ t.c ≤ 1099511627776) → 0 ≤ s → s ≤ 1099511627776 → numO (atL l s p) = if s + sumN l p ≤ 1099511627776 then (s + sumN l p, 0) else (0, 17)
  | [], s, _, h0, h1 => by
    simp only [atL, numO, sumN, Int.add_zero]
    rw [if_pos h1]
  | t :: r, s, h, h0, h1 => by
    have ht := h t (by simp)
    have hr : ∀ x ∈ r, 1 ≤ x.c ∧ x.c ≤ 1099511627776 := fun x hx => h x (by simp [hx])
    have h2 := termN_in (l := l) ht.1 ht.2
    have h3 := (sumN_in (l := l) hr).1
    rw [atL, termN_termF ht.1 ht.2, sumN]
    by_cases hb : termN t l ≤ 1099511627776
    · rw [if_pos hb]
      simp only [ne_eq, not_true_eq_false, if_false]
      by_cases hc : termN t l > 1099511627776 - s
      · rw [if_pos hc, if_neg (by omega)]; rfl
      · rw [if_neg hc, atL_sum hr (by omega) (by omega), Int.add_assoc]
    · rw [if_neg hb, if_pos (show ((0 : Int), (17 : Int)).2 ≠ 0 by decide), if_neg (show ¬ s + (termN t l + sumN l r) ≤ 1099511627776 by omega)]
      rfl
theorem atF_sum {p : List Tm} {l : List Int} (h : FitP p) : atF p l = if sumN l p ≤ 1099511627776 then (sumN l p, 0) else (0, 17) := by
  unfold atF
  rw [atL_sum (fun t ht => by have := h.ok t ht; exact ⟨this.1, this.2.1⟩) (Int.le_refl 0) (by decide), Int.zero_add]
def restL (k : Int) (p : List Tm) : List Tm := p.filter fun t => !isVarT k t
def lastC (k : Int) : List Tm → Int → Int
  | [], n => n
  | t :: r, n => lastC k r (if isVarT k t then t.c else n)
theorem split_rest (k : Int) : ∀ (p o : List Tm) (n : Int), splitL k p o n = if hasF (restL k p) k then none else some (o ++ restL k p, lastC k p n)
  | [], o, n => by simp [splitL, restL, hasF, lastC]
  | t :: r, o, n => by
    rw [splitL, lastC]
    by_cases hv : isVarT k t = true
    · rw [if_pos hv, split_rest k r o t.c, if_pos hv]
      have : restL k (t :: r) = restL k r := by unfold restL; rw [List.filter_cons, hv]; rfl
      rw [this]
    · have hv : isVarT k t = false := by simpa using hv
      have : restL k (t :: r) = t :: restL k r := by unfold restL; rw [List.filter_cons, hv]; rfl
      rw [this, hv]
      simp only [Bool.false_eq_true, if_false]
      have h2 : hasF (t :: restL k r) k = (hasT k t || hasF (restL k r) k) := rfl
      rw [h2]
      by_cases hh : hasT k t = true
      · rw [if_pos hh, hh, Bool.true_or, if_pos rfl]
      · have hh : hasT k t = false := by simpa using hh
        rw [hh, Bool.false_or, if_neg (by simp), split_rest k r (o ++ [t]) n, List.append_assoc]; rfl
end Go.Proofs.Ytbhbgaihhilfmaa.Poly
