/-
  Texts of one proof, in the order in which they lean on one another. No condition.
-/
import Derived.Lib.SmallJoins
import Derived.Test.YtcmnjodjebcapaaGreatFaNamed
namespace Go.Proofs.YtcmnjodjebcapaaGreat
open Go.RowKit
set_option linter.unusedVariables false
theorem lexF_head {rs : List Ent} {eL eC : Int} : ∀ {f k cnt : Nat} {t : Tok} {r : List Tok}, lexF rs eL eC f k cnt = .inr (t :: r) → ∃ k', oneF rs eL eC k = .inr (t, k') := by
  intro f k cnt t r h
  cases f with
  | zero => simp [lexF] at h
  | succ f =>
    rw [lexF] at h
    cases ho : oneF rs eL eC k with
    | inl e => rw [ho] at h; cases h
    | inr p =>
      obtain ⟨t', k'⟩ := p
      rw [ho] at h
      simp only at h
      split at h
      · cases h
      split at h
      · cases h; exact ⟨k', rfl⟩
      · cases hl : lexF rs eL eC f k' (cnt + 1) with
        | inl e => rw [hl] at h; cases h
        | inr l => rw [hl] at h; cases h; exact ⟨k', rfl⟩
theorem lexOf_head {s : ByteArray} {t : Tok} {r : List Tok} (h : lexOf s = .inr (t :: r)) : ∃ k L C l k', tokF k L C l = .inr (t, k') := by
  unfold lexOf at h
  split at h
  · cases h
  · cases hb : badOf s with
    | some p => rw [hb] at h; cases h
    | none =>
      rw [hb] at h
      obtain ⟨k', hk⟩ := lexF_head h
      exact ⟨_, _, _, _, k', hk⟩
theorem flat_enc_le (l : List Int) : (l.flatMap enc).length ≤ 4 * l.length := by
  induction l with
  | nil => simp
  | cons c t ih =>
    have : (enc c).length ≤ 4 := by
      cases hv : validB c
      · rw [enc_no hv]; simp
      · exact (enc_len c hv).2
    simp at ih ⊢; omega
theorem tokF_names {k : Nat} {L C : Int} {l : List Int} {t : Tok} {k' : Nat} (h : tokF k L C l = .inr (t, k')) : (t.kind = 1 ∨ t.kind = 2 → t.text.length ≤ 96) ∧ (t.kind = 5 → wordB t.text = true) ∧ (t.kind = 1 ∨ t.kind = 2 → wordB t.text = false) := by
  cases l with
  | nil => rw [tokF_end rfl] at h; cases h; simp
  | cons c r =>
    by_cases h1 : lowB c = true ∨ upB c = true
    · rw [tokF_name h1] at h
      split at h
      · cases h
      · rename_i h24
        cases h
        have := flat_enc_le (namB (c :: r))
        refine ⟨fun _ => by simp only; omega, ?_, ?_⟩
        · simp only [kindF]
          intro hk
          split at hk
          · assumption
          · split at hk <;> omega
        · simp only [kindF]
          intro hk
          split at hk
          · omega
          · rename_i hn; simpa using hn
    by_cases h2 : digB c = true
    · cases hn : numF 0 k (c :: r) with
      | none => rw [tokF_num_no h1 h2 hn] at h; cases h
      | some p => obtain ⟨n, j⟩ := p
                  rw [tokF_num h1 h2 hn] at h; cases h; simp
    by_cases h3 : c = 34
    · subst h3
      cases hn : textF [] (k + 1) r with
      | none => rw [tokF_text_no hn] at h; cases h
      | some p => obtain ⟨b, j⟩ := p
                  rw [tokF_text hn] at h
                  split at h
                  · cases h
                  · cases h; simp
    · rw [tokF_sign h1 h2 h3] at h
      split at h
      · cases h
      · cases h; simp
theorem oneB_some {s : ByteArray} {k : Int} (h : oneB s k = true) : ∃ t e, lexOf s = .inr [t, e] ∧ t.text = s.data.toList ∧ t.kind = k := by
  cases hl : lexOf s with
  | inl e => rw [oneB_fault hl] at h; cases h
  | inr l =>
    by_cases h2 : l.length = 2
    · obtain ⟨t, e, rfl⟩ : ∃ t e, l = [t, e] := by
        match l, h2 with
        | [t, e], _ => exact ⟨t, e, rfl⟩
      rw [oneB_two hl] at h
      simp at h
      exact ⟨t, e, rfl, h.1, h.2⟩
    · rw [oneB_many hl h2] at h; cases h
theorem named_one (s : ByteArray) (up : Bool) : namedB s up = oneB s (if up then 2 else 1) := by
  unfold namedB
  by_cases hs : s.size ≤ 96
  · simp [hs]
  · cases ho : oneB s (if up then 2 else 1)
    · simp
    · exfalso
      obtain ⟨t, e, hl, htx, hk⟩ := oneB_some ho
      obtain ⟨k, L, C, l, k', ht⟩ := lexOf_head hl
      have := (tokF_names ht).1 (by cases up <;> simp at hk <;> omega)
      rw [htx] at this
      exact hs this
end Go.Proofs.YtcmnjodjebcapaaGreat
