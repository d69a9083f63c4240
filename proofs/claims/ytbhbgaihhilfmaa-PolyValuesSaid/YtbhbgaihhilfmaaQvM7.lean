/-
  Texts of one proof, in their order. No condition.
-/
import Derived.Test.YtbhbgaihhilfmaaQvM6
namespace Go.Proofs.Ytbhbgaihhilfmaa.Poly
set_option linter.unusedVariables false
set_option linter.unusedSimpArgs false
def pw (x : Int) : Nat → Int
  | 0 => 1
  | n + 1 => x * pw x n
theorem pw_add (x : Int) (m : Nat) : ∀ n, pw x (n + m) = pw x n * pw x m
  | 0 => by simp [pw]
  | n + 1 => by rw [Nat.add_right_comm, pw, pw, pw_add x m n, Int.mul_assoc]
theorem pw_nn {x : Int} (h : 0 ≤ x) : ∀ n, 0 ≤ pw x n
  | 0 => by simp [pw]
  | n + 1 => by rw [pw]; exact Int.mul_nonneg h (pw_nn h n)
def GL (X : Nat → Int) (e : Ex) : List Nat → Int
  | [] => 1
  | k :: r => pw (X k) (e.at k) * GL X e r
def G (X : Nat → Int) (e : Ex) : Int := GL X e (List.range 12)
theorem GL_nn {X : Nat → Int} (h : ∀ k, 0 ≤ X k) (e : Ex) : ∀ ks, 0 ≤ GL X e ks
  | [] => by simp [GL]
  | k :: r => by rw [GL]; exact Int.mul_nonneg (pw_nn (h k) _) (GL_nn h e r)
theorem G_nn {X : Nat → Int} (h : ∀ k, 0 ≤ X k) (e : Ex) : 0 ≤ G X e := GL_nn h e _
theorem GL_add (X : Nat → Int) (a b : Ex) : ∀ ks, GL X (addE a b) ks = GL X a ks * GL X b ks
  | [] => by simp [GL]
  | k :: r => by
    rw [GL, GL, GL, addE_at, pw_add, GL_add X a b r]
    simp only [Int.mul_assoc, Int.mul_left_comm]
theorem G_add (X : Nat → Int) (a b : Ex) : G X (addE a b) = G X a * G X b := GL_add X a b _
theorem lin_G_prod (X : Nat → Int) (a b : List Tm) : lin (G X) (prodL a b) = lin (G X) a * lin (G X) b := by
  rw [lin_prod]
  have : (fun e => lin (fun f => G X (addE e f)) b) = fun e => lin (G X) b * G X e := by
    funext e
    have : (fun f => G X (addE e f)) = fun f => G X e * G X f := by funext f; exact G_add X e f
    rw [this, lin_scale, Int.mul_comm]
  rw [this, lin_scale, Int.mul_comm]
theorem lin_nn {F : Ex → Int} (hF : ∀ e, 0 ≤ F e) {p : List Tm} (hp : Pos p) : 0 ≤ lin F p := lin_pos hF hp
def numB (v : Int) : Int × Int := if v ≤ 1099511627776 then (v, 0) else (0, 17)
def xAt (l : List Int) (k : Nat) : Int := if l.getD k 0 < 1 then 0 else l.getD k 0
theorem xAt_nn (l : List Int) (k : Nat) : 0 ≤ xAt l k := by unfold xAt; split <;> omega
def prodI : List Int → Int
  | [] => 1
  | x :: r => x * prodI r
theorem prodI_app : ∀ a b : List Int, prodI (a ++ b) = prodI a * prodI b
  | [], b => by simp [prodI]
  | x :: r, b => by rw [List.cons_append, prodI, prodI, prodI_app r b, Int.mul_assoc]
theorem prodI_rep (x : Int) : ∀ n, prodI (List.replicate n x) = pw x n
  | 0 => rfl
  | n + 1 => by rw [List.replicate_succ, prodI, pw, prodI_rep x n]
theorem prodI_pos : ∀ {l : List Int}, (∀ x ∈ l, 1 ≤ x) → 1 ≤ prodI l
  | [], _ => by simp [prodI]
  | x :: r, h => by
    rw [prodI]
    have h1 := h x (by simp)
    have h2 := prodI_pos (l := r) (fun y hy => h y (by simp [hy]))
    have := Int.mul_le_mul h1 h2 (by decide) (by omega)
    omega
theorem mulAll_val : ∀ {fs : List Int} {n : Int}, 1 ≤ n → n ≤ 1099511627776 → (∀ x ∈ fs, 1 ≤ x) → numO (mulAll n fs) = numB (n * prodI fs)
  | [], n, h0, h1, _ => by simp only [mulAll, numO, numB, prodI, Int.mul_one]; rw [if_pos h1]
  | x :: r, n, h0, h1, hx => by
    have x1 := hx x (by simp)
    have hr : ∀ y ∈ r, 1 ≤ y := fun y hy => hx y (by simp [hy])
    have p1 := prodI_pos hr
    unfold mulAll
    rw [prodI]
    by_cases hb : n > Int.tdiv 1099511627776 x
    · rw [if_pos hb]
      rw [Int.tdiv_eq_ediv_of_nonneg (by decide)] at hb
      have hb2 := (Int.ediv_lt_iff_lt_mul (by omega)).1 hb
      have h3 : 0 ≤ n * x := Int.mul_nonneg (by omega) (by omega)
      have h2 : n * x * 1 ≤ n * x * prodI r := Int.mul_le_mul_of_nonneg_left p1 h3
      rw [← Int.mul_assoc]
      unfold numB
      rw [if_neg (by omega)]; rfl
    · rw [if_neg hb]
      have hb : n ≤ Int.tdiv 1099511627776 x := by omega
      rw [Int.tdiv_eq_ediv_of_nonneg (by decide)] at hb
      have hb2 := (Int.le_ediv_iff_mul_le (by omega)).1 hb
      have h3 : 1 ≤ n * x := by have := Int.mul_le_mul h0 x1 (by decide) (by omega); omega
      rw [mulAll_val h3 hb2 hr, Int.mul_assoc]
theorem dead_zero {e : Ex} {l : List Int} : ∀ {ks : List Nat}, ks.any (deadK e l) = true → GL (xAt l) e ks = 0
  | [], h => by simp at h
  | k :: r, h => by
    rw [List.any_cons, Bool.or_eq_true] at h
    rw [GL]
    rcases h with h | h
    · unfold deadK at h
      rw [Bool.and_eq_true, decide_eq_true_iff, Bool.or_eq_true, decide_eq_true_iff, decide_eq_true_iff] at h
      have hx : xAt l k = 0 := by
        unfold xAt
        rcases h.2 with g | g
        · have : l.getD k 0 = 0 := by simp [List.getD, List.getElem?_eq_none g]
          rw [this]; rfl
        · rw [if_pos g]
      obtain ⟨n, hn⟩ : ∃ n, e.at k = n + 1 := ⟨e.at k - 1, by omega⟩
      rw [hx, hn, pw]; simp
    · rw [dead_zero h]; simp
theorem live_prod {e : Ex} {l : List Int} : ∀ {ks : List Nat}, ks.any (deadK e l) = false → prodI (ks.flatMap fun k => List.replicate (e.at k) (l.getD k 0)) = GL (xAt l) e ks
  | [], h => rfl
  | k :: r, h => by
    rw [List.any_cons, Bool.or_eq_false_iff] at h
    rw [List.flatMap_cons, prodI_app, GL, live_prod h.2, prodI_rep]
    congr 1
    have h := h.1
    unfold deadK at h
    by_cases g : 0 < e.at k
    · rw [decide_eq_true g, Bool.true_and, Bool.or_eq_false_iff, decide_eq_false_iff_not, decide_eq_false_iff_not] at h
      unfold xAt; rw [if_neg h.2]
    · have : e.at k = 0 := by omega
      rw [this, pw, pw]
theorem term_val {t : Tm} {l : List Int} (h0 : 1 ≤ t.c) (h1 : t.c ≤ 1099511627776) : termF t l = numB (t.c * G (xAt l) t.e) := by
  unfold termF G
  by_cases hd : deadFrom t.e l 0 = true
  · rw [if_pos hd, dead_zero (by unfold deadFrom at hd; simpa using hd)]
    rw [Int.mul_zero]; rfl
  · rw [if_neg hd]
    have hd : deadFrom t.e l 0 = false := by simpa using hd
    rw [mulAll_val h0 h1 (facs_pos hd)]
    unfold deadFrom at hd
    unfold facsFrom
    rw [List.drop_zero] at *
    rw [live_prod hd]
theorem at_val_from {l : List Int} : ∀ {p : List Tm} {s : Int}, 0 ≤ s → s ≤ 1099511627776 → (∀ t ∈ p, 1 ≤ t.c ∧ t.c ≤ 1099511627776) → numO (atL l s p) = numB (s + lin (G (xAt l)) p)
  | [], s, h0, h1, _ => by simp only [atL, numO, numB, lin, Int.add_zero]; rw [if_pos h1]
  | t :: r, s, h0, h1, h => by
    have ht := h t (by simp)
    have hr : ∀ t ∈ r, 1 ≤ t.c ∧ t.c ≤ 1099511627776 := fun t ht => h t (by simp [ht])
    have hv : 0 ≤ t.c * G (xAt l) t.e := Int.mul_nonneg (by omega) (G_nn (xAt_nn l) _)
    have hl : 0 ≤ lin (G (xAt l)) r := lin_nn (G_nn (xAt_nn l)) (fun t ht => (hr t ht).1)
    unfold atL
    rw [term_val ht.1 ht.2, lin]
    by_cases hb : t.c * G (xAt l) t.e ≤ 1099511627776
    · have e : numB (t.c * G (xAt l) t.e) = (t.c * G (xAt l) t.e, 0) := by unfold numB; rw [if_pos hb]
      rw [e]
      simp only [ne_eq, not_true_eq_false, if_false]
      by_cases hc : t.c * G (xAt l) t.e > 1099511627776 - s
      · rw [if_pos hc]
        unfold numB; rw [if_neg (by omega)]; rfl
      · rw [if_neg hc, at_val_from (by omega) (by omega) hr, Int.add_assoc]
    · have e : numB (t.c * G (xAt l) t.e) = (0, 17) := by unfold numB; rw [if_neg hb]
      rw [e, if_pos (by simp)]
      unfold numB; rw [if_neg (by omega)]; rfl
theorem at_val {p : List Tm} (h : FitP p) (l : List Int) : atF p l = numB (lin (G (xAt l)) p) := by
  unfold atF
  rw [at_val_from (by decide) (by decide) (fun t ht => ⟨(h.ok t ht).1, (h.ok t ht).2.1⟩), Int.zero_add]
theorem numB_zero {v : Int} (h : (numB v).2 = 0) : v ≤ 1099511627776 ∧ (numB v).1 = v := by
  unfold numB at *
  by_cases g : v ≤ 1099511627776
  · rw [if_pos g]; exact ⟨g, rfl⟩
  · rw [if_neg g] at h; simp at h
theorem numB_ok {v : Int} (h : v ≤ 1099511627776) : numB v = (v, 0) := by unfold numB; rw [if_pos h]
theorem numB_no {v : Int} (h : ¬ v ≤ 1099511627776) : numB v = (0, 17) := by unfold numB; rw [if_neg h]
end Go.Proofs.Ytbhbgaihhilfmaa.Poly
