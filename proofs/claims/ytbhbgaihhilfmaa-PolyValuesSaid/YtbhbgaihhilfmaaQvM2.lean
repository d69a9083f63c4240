/-
  Texts of one proof, in their order. No condition.
-/
import Derived.Test.YtbhbgaihhilfmaaQvM0
namespace Go.Proofs.Ytbhbgaihhilfmaa.Poly
set_option linter.unusedVariables false
set_option linter.unusedSimpArgs false
def zeroE : Ex := fun _ => 0
def oneE (k : Nat) : Ex := fun j => if j.1 = k then 1 else 0
def expOk (e : Ex) : Bool := (List.range 12).all fun k => decide (e.at k ≤ 6)
def tmOk (t : Tm) : Bool := decide (1 ≤ t.c) && decide (t.c ≤ 1099511627776) && expOk t.e
def fitL : Option Ex → List Tm → Bool
  | _, [] => true
  | pr, t :: r => (decide (1 ≤ t.c) && decide (t.c ≤ 1099511627776)) && (match pr with | none => true | some e => lt e t.e) && expOk t.e && fitL (some t.e) r
def fitF (p : List Tm) : Bool := decide (p.length ≤ 64) && fitL none p
theorem expOk_iff (e : Ex) : expOk e = true ↔ ∀ k, k < 12 → e.at k ≤ 6 := by
  unfold expOk
  rw [List.all_eq_true]
  exact ⟨fun h k hk => of_decide_eq_true (h k (by simpa using hk)), fun h k hk => decide_eq_true (h k (by simpa using hk))⟩
theorem tmOk_iff (t : Tm) : tmOk t = true ↔ 1 ≤ t.c ∧ t.c ≤ 1099511627776 ∧ ∀ k, k < 12 → t.e.at k ≤ 6 := by
  unfold tmOk
  rw [Bool.and_eq_true, Bool.and_eq_true, decide_eq_true_iff, decide_eq_true_iff, expOk_iff, and_assoc]
theorem fitL_iff : ∀ (p : List Tm) (pr : Option Ex), fitL pr p = true ↔ (∀ e, pr = some e → ∀ t ∈ p, Lt e t.e) ∧ Up p ∧ ∀ t ∈ p, tmOk t = true
  | [], pr => by simp [fitL]
  | t :: r, pr => by
    unfold fitL
    rw [Bool.and_eq_true, Bool.and_eq_true, Bool.and_eq_true, Bool.and_eq_true, fitL_iff r (some t.e)]
    constructor
    · rintro ⟨⟨⟨⟨h1, h2⟩, h3⟩, h4⟩, h5, h6, h7⟩
      have ht := h5 t.e rfl
      refine ⟨fun e he x hx => ?_, List.pairwise_cons.2 ⟨ht, h6⟩, fun x hx => ?_⟩
      · subst he
        have h3 := (lt_iff _ _).1 h3
        rcases List.mem_cons.1 hx with rfl | hx
        · exact h3
        · exact h3.trans (ht x hx)
      · rcases List.mem_cons.1 hx with rfl | hx
        · unfold tmOk; rw [h1, h2, h4]; rfl
        · exact h7 x hx
    · rintro ⟨h1, h2, h3⟩
      obtain ⟨g1, g2⟩ := List.pairwise_cons.1 h2
      have ht := h3 t (by simp)
      unfold tmOk at ht
      rw [Bool.and_eq_true, Bool.and_eq_true] at ht
      refine ⟨⟨⟨ht.1, ?_⟩, ht.2⟩, fun e he x hx => by injection he with he; subst he; exact g1 x hx, g2, fun x hx => h3 x (by simp [hx])⟩
      cases pr with
      | none => rfl
      | some e => exact (lt_iff _ _).2 (h1 e rfl t (by simp))
structure FitP (p : List Tm) : Prop where
  len : p.length ≤ 64
  up : Up p
  ok : ∀ t ∈ p, 1 ≤ t.c ∧ t.c ≤ 1099511627776 ∧ ∀ k, k < 12 → t.e.at k ≤ 6
theorem fitF_iff (p : List Tm) : fitF p = true ↔ FitP p := by
  unfold fitF
  rw [Bool.and_eq_true, decide_eq_true_iff, fitL_iff]
  constructor
  · rintro ⟨h1, _, h2, h3⟩
    exact ⟨h1, h2, fun t ht => (tmOk_iff t).1 (h3 t ht)⟩
  · rintro ⟨h1, h2, h3⟩
    exact ⟨h1, fun e he => by (try cases he), h2, fun t ht => (tmOk_iff t).2 (h3 t ht)⟩
theorem FitP.pos {p : List Tm} (h : FitP p) : Pos p := fun t ht => (h.ok t ht).1
def putC (wr : Int → Int) (s : Bool) (t : Tm) : Bool → List Tm → List Tm
  | d, [] => if d then [] else [t]
  | d, x :: r => (if !d && lt t.e x.e then [t] else []) ++ (if x.e = t.e then ⟨if s then wr (x.c + t.c) else max x.c t.c, x.e⟩ else x) :: putC wr s t ((d || lt t.e x.e) || decide (x.e = t.e)) r
theorem putC_done {wr : Int → Int} {s : Bool} {t : Tm} : ∀ {p : List Tm}, (∀ x ∈ p, Lt t.e x.e) → putC wr s t true p = p
  | [], _ => rfl
  | x :: r, h => by
    have hx := h x (by simp)
    have hne : ¬ x.e = t.e := fun e => by rw [e] at hx; exact Lt.irrefl _ hx
    rw [putC, if_neg hne]
    simp only [Bool.not_true, Bool.false_and, Bool.false_eq_true, if_false, List.nil_append, Bool.true_or]
    rw [putC_done (fun y hy => h y (by simp [hy]))]
theorem putC_put {wr : Int → Int} {s : Bool} {t : Tm} : ∀ {p : List Tm}, Up p → (∀ x ∈ p, wr (x.c + t.c) = x.c + t.c) → putC wr s t false p = put s t p
  | [], _, _ => rfl
  | x :: r, hu, hw => by
    obtain ⟨h1, h2⟩ := List.pairwise_cons.1 hu
    rw [putC, put]
    by_cases hl : lt t.e x.e = true
    · have hL := (lt_iff _ _).1 hl
      have hne : ¬ x.e = t.e := fun e => by rw [e] at hL; exact Lt.irrefl _ hL
      rw [if_pos hl, if_neg hne, hl]
      simp only [Bool.not_false, Bool.true_and, if_true, Bool.or_true, Bool.true_or]
      rw [putC_done (fun y hy => hL.trans (h1 y hy))]; rfl
    · have hl' : lt t.e x.e = false := by simpa using hl
      rw [hl']
      simp only [Bool.not_false, Bool.and_false, Bool.false_eq_true, if_false, List.nil_append, Bool.false_or]
      by_cases he : x.e = t.e
      · rw [if_pos he, if_pos he, decide_eq_true he, putC_done (fun y hy => by rw [← he]; exact h1 y hy), hw x (by simp)]
      · rw [if_neg he, if_neg he, decide_eq_false he, putC_put h2 (fun y hy => hw y (by simp [hy]))]
end Go.Proofs.Ytbhbgaihhilfmaa.Poly
