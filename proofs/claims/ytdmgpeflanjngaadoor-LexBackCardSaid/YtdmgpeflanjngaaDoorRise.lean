/-
  Places rise from token to token; and all that is told of a text of few bytes whose tokens are shown and read again. No program in it.
-/
import Derived.Test.YtdmgpeflanjngaaDoorAgain
namespace Go.Proofs.YtdmgpeflanjngaaDoor
open Go.RowKit
set_option linter.unusedVariables false

def Le2 (a b c d : Int) : Prop := a < c ∨ (a = c ∧ b ≤ d)
theorem Le2.refl (a b : Int) : Le2 a b a b := .inr ⟨rfl, Int.le_refl _⟩
theorem Le2.trans {a b c d e f : Int} (h : Le2 a b c d) (k : Le2 c d e f) : Le2 a b e f := by unfold Le2 at *; omega
theorem nl_rises (r L C : Int) : Le2 L C (nlL r L) (nlC r C) := by
  unfold Le2 nlL nlC; split <;> omega
theorem lineAt_out {rs : List Ent} {eL : Int} {k : Nat} (h : rs.length ≤ k) : lineAt rs eL k = eL := by simp [lineAt, List.getElem?_eq_none h]
theorem colAt_out {rs : List Ent} {eC : Int} {k : Nat} (h : rs.length ≤ k) : colAt rs eC k = eC := by simp [colAt, List.getElem?_eq_none h]
theorem place_at (s : ByteArray) : ∀ (f i : Nat) (L C : Int), s.size ≤ i + f → badF s f i L C = none →
    (lineAt (runesF s f i L C) (placeF s s.size f i L C).1 0 = L ∧ colAt (runesF s f i L C) (placeF s s.size f i L C).2 0 = C) ∧
    ∀ k, Le2 (lineAt (runesF s f i L C) (placeF s s.size f i L C).1 k) (colAt (runesF s f i L C) (placeF s s.size f i L C).2 k) (lineAt (runesF s f i L C) (placeF s s.size f i L C).1 (k + 1)) (colAt (runesF s f i L C) (placeF s s.size f i L C).2 (k + 1)) := by
  intro f
  induction f with
  | zero =>
    intro i L C h _
    rw [runesF_end s 0 i L C (by omega), placeF_end s _ 0 i L C (by omega)]
    exact ⟨⟨rfl, rfl⟩, fun k => by simp [lineAt, colAt]; exact Le2.refl _ _⟩
  | succ f ih =>
    intro i L C h hb
    by_cases hi : i < s.size
    · by_cases hbad : badAt s i = true
      · rw [badF_bad s f i L C hi hbad] at hb; cases hb
      · have hbad' : badAt s i = false := by simpa using hbad
        have hw := dec_width s i hi
        rw [badF_good s f i L C hi hbad'] at hb
        obtain ⟨⟨a1, a2⟩, a3⟩ := ih (i + (Utf8.decode s i).2) _ _ (by omega) hb
        rw [runesF_good s f i L C hi hbad', placeF_on s _ f i L C hi (by omega)]
        refine ⟨⟨rfl, rfl⟩, fun k => ?_⟩
        cases k with
        | zero =>
          have e1 : ∀ (e : Ent) (l : List Ent) (x : Int), lineAt (e :: l) x 1 = lineAt l x 0 := fun _ _ _ => rfl
          have e2 : ∀ (e : Ent) (l : List Ent) (x : Int), colAt (e :: l) x 1 = colAt l x 0 := fun _ _ _ => rfl
          rw [Nat.zero_add, e1, e2, a1, a2]
          exact nl_rises _ _ _
        | succ k => exact a3 k
    · rw [runesF_end s _ i L C hi, placeF_end s _ _ i L C hi]
      exact ⟨⟨rfl, rfl⟩, fun k => by simp [lineAt, colAt]; exact Le2.refl _ _⟩
theorem steps_le {P Q : Nat → Int} (h : ∀ k, Le2 (P k) (Q k) (P (k + 1)) (Q (k + 1))) : ∀ (n k : Nat), Le2 (P k) (Q k) (P (k + n)) (Q (k + n)) := by
  intro n
  induction n with
  | zero => intro k; exact Le2.refl _ _
  | succ n ih => intro k; exact (ih k).trans (h (k + n))
def Rise (T : List Tok) : Prop := ∀ i a b, T[i]? = some a → T[i + 1]? = some b → Le2 a.line a.col b.line b.col
theorem lexF_rise {rs : List Ent} {eL eC : Int} (hp : ∀ k, Le2 (lineAt rs eL k) (colAt rs eC k) (lineAt rs eL (k + 1)) (colAt rs eC (k + 1))) : ∀ (f k cnt : Nat) (T : List Tok), lexF rs eL eC f k cnt = .inr T → Rise T ∧ ∀ t, T[0]? = some t → Le2 (lineAt rs eL k) (colAt rs eC k) t.line t.col := by
  have hle : ∀ k n, k ≤ n → Le2 (lineAt rs eL k) (colAt rs eC k) (lineAt rs eL n) (colAt rs eC n) := fun k n hkn => by
    have := steps_le (P := fun k => lineAt rs eL k) (Q := fun k => colAt rs eC k) hp (n - k) k
    rwa [show k + (n - k) = n by omega] at this
  intro f
  induction f with
  | zero => intro k cnt T h; cases h; exact ⟨fun i a b h => (by cases h), fun t h => (by cases h)⟩
  | succ f ih =>
    intro k cnt T h
    rw [lexF] at h
    cases ho : oneF rs eL eC k with
    | inl e => rw [ho] at h; cases h
    | inr p =>
      obtain ⟨t, k'⟩ := p
      have hpl := oneF_place ho
      have h0 : Le2 (lineAt rs eL k) (colAt rs eC k) t.line t.col := by
        rw [hpl.1, hpl.2]
        exact hle _ _ (skipF_ge _ _ _)
      rw [ho] at h
      simp only at h
      split at h
      · cases h
      split at h
      · cases h
        refine ⟨fun i a b h1 h2 => by simp at h2, fun x hx => ?_⟩
        simp at hx; subst hx; exact h0
      · rename_i hk
        have hgt : passF rs k < k' := tokF_gt ho hk
        cases hl : lexF rs eL eC f k' (cnt + 1) with
        | inl e => rw [hl] at h; cases h
        | inr U =>
          rw [hl] at h; cases h
          obtain ⟨hr, hh⟩ := ih k' (cnt + 1) U hl
          refine ⟨fun i a b h1 h2 => ?_, fun x hx => ?_⟩
          · cases i with
            | zero =>
              simp at h1; subst h1
              simp at h2
              have := hh b (by simpa using h2)
              rw [hpl.1, hpl.2]
              exact (hle _ _ (by omega)).trans this
            | succ i => exact hr i a b (by simpa using h1) (by simpa using h2)
          · simp at hx; subst hx; exact h0
theorem lexOf_inr {s : ByteArray} {T : List Tok} (h : lexOf s = .inr T) : s.size ≤ 16384 ∧ badOf s = none ∧ lexF (runesOf s) (placeOf s s.size).1 (placeOf s s.size).2 ((runesOf s).length + 1) 0 0 = .inr T := by
  unfold lexOf at h
  split at h
  · cases h
  · cases hb : badOf s with
    | some p => rw [hb] at h; cases h
    | none => rw [hb] at h; exact ⟨by omega, rfl, h⟩
theorem lexOf_rise {s : ByteArray} {T : List Tok} (h : lexOf s = .inr T) : Rise T := by
  obtain ⟨_, hb, hl⟩ := lexOf_inr h
  exact (lexF_rise (place_at s s.size 0 1 1 (by omega) hb).2 _ _ _ _ hl).1
theorem shown_bare (T : List Tok) : shown (T.map bare) = shown T := by
  unfold shown
  rw [List.flatMap_map]
  rfl
structure BackOf (s : ByteArray) (T : List Tok) : Prop where
  again : ∃ T', lexOf ⟨(shown T).toArray⟩ = .inr T' ∧ T'.map bare = T.map bare
  small : (shown T).length ≤ 13601
  few : T.length ≤ 801
  known : ∀ t ∈ T, Known t
  ends : ∀ i t, T[i]? = some t → (t.kind = 0 ↔ i + 1 = T.length)
  some' : 0 < T.length
  rise : Rise T
theorem back_of {s : ByteArray} (hs : s.size ≤ 800) {T : List Tok} (h : lexOf s = .inr T) : BackOf s T := by
  obtain ⟨h0, hb, -⟩ := lexOf_inr h
  obtain ⟨hv, htx⟩ := sound_runes hb
  have hlen : (runesI (runesOf s)).length ≤ 800 := by
    have := runesOf_len s
    simp [runesI]; omega
  have hL := lexOf_bare h0 hb
  rw [h, lexL_lexP _ _ _ (by omega)] at hL
  have hP : lexP ((runesI (runesOf s)).length + 1) (runesI (runesOf s)) = .inr (T.map bare) := hL.symm
  obtain ⟨⟨R, hRv, hRs, hRr⟩, hk, hsz, hcnt⟩ := lexP_again _ _ _ (by omega) hv hP
  obtain ⟨U, hU, hUk⟩ := lexP_ends _ _ _ (by omega) hP
  rw [shown_bare] at hRs hsz
  have hTl : (T.map bare).length = T.length := List.length_map _
  have hUl : T.length = U.length + 1 := by rw [← hTl, hU]; simp
  refine ⟨?_, by omega, by omega, fun t ht => ?_, fun i t ht => ?_, by omega, lexOf_rise h⟩
  · obtain ⟨hb2, hr2⟩ := sound_of (s := ⟨(shown T).toArray⟩) hRv (by simpa using hRs)
    have hsize : (⟨(shown T).toArray⟩ : ByteArray).size ≤ 16384 := by
      show (shown T).toArray.size ≤ 16384
      simp; omega
    have h2 := lexOf_bare hsize hb2
    rw [hr2, lexL_of_lexP _ _ _ _ (hRr _ (by omega)) (by omega)] at h2
    cases hT' : lexOf ⟨(shown T).toArray⟩ with
    | inl e => rw [hT'] at h2; cases h2
    | inr T' =>
      rw [hT'] at h2
      exact ⟨T', rfl, by simpa [bareS] using h2⟩
  · have := hk (bare t) (List.mem_map_of_mem ht)
    exact ⟨this.num, this.bytes⟩
  · have hi : i < T.length := (List.getElem?_eq_some_iff.1 ht).1
    have hb2 : (T.map bare)[i]? = some (bare t) := by rw [List.getElem?_map, ht]; rfl
    rw [hU] at hb2
    by_cases hlt : i < U.length
    · rw [List.getElem?_append_left hlt] at hb2
      have := hUk _ (List.mem_of_getElem? hb2)
      rw [bare_kind] at this
      exact ⟨fun h => absurd h this, fun h => by omega⟩
    · have : i = U.length := by omega
      subst this
      rw [List.getElem?_append_right (Nat.le_refl _), Nat.sub_self] at hb2
      simp at hb2
      have : t.kind = 0 := by rw [← bare_kind, ← hb2]; rfl
      exact ⟨fun _ => by omega, fun _ => this⟩
end Go.Proofs.YtdmgpeflanjngaaDoor
