/-
  Texts of one proof, in the order in which they lean on one another. No condition.
-/
import Derived.Test.YtcmnjodjebcapaaGreatFaBare
namespace Go.Proofs.YtcmnjodjebcapaaGreat
open Go.RowKit
set_option linter.unusedVariables false
theorem numF_le : ∀ (l : List Int) (n : Int) (k : Nat) (n' : Int) (k' : Nat), numF n k l = some (n', k') → k' ≤ k + l.length := by
  intro l
  induction l with
  | nil => intro n k n' k' h; simp [numF] at h; simp; omega
  | cons c t ih =>
    intro n k n' k' h
    rw [numF] at h
    rw [List.length_cons]
    split at h
    · split at h
      · cases h
      · have := ih _ _ _ _ h; omega
    · simp at h; omega
theorem txtF_le : ∀ (f : Nat) (acc : List UInt8) (k : Nat) (l : List Int) (b : List UInt8) (k' : Nat), txtF f acc k l = some (b, k') → k' ≤ k + l.length := by
  intro f
  induction f with
  | zero => intro acc k l b k' h; simp [txtF] at h
  | succ f ih =>
    intro acc k l b k' h
    cases l with
    | nil => simp [txtF] at h
    | cons c t =>
      rw [txtF] at h
      rw [List.length_cons]
      split at h
      · simp at h; omega
      split at h
      · cases h
      split at h
      · cases he : escF t with
        | none => rw [he] at h; cases h
        | some p =>
          obtain ⟨x, m⟩ := p
          have hm := escF_pos he
          rw [he] at h
          have := ih _ _ _ _ _ h
          simp only [List.length_drop] at this; omega
      · have := ih _ _ _ _ _ h; omega
theorem signF_le (c d : Int) (t : List Int) (h : t.headD (-1) = d) : (signF c d).length ≤ (c :: t).length := by
  rw [List.length_cons]
  unfold signF
  split
  · rename_i h1
    cases t with
    | nil => simp at h; omega
    | cons x r => simp
  split
  · cases t with
    | nil => simp at h; omega
    | cons x r => simp
  split
  · cases t with
    | nil => simp at h; omega
    | cons x r => simp
  split <;> simp
theorem tokF_le {l : List Int} {t : Tok} {j : Nat} (h : tokF 0 0 0 l = .inr (t, j)) : j ≤ l.length := by
  cases l with
  | nil => rw [tokF_end rfl] at h; cases h; simp
  | cons c r =>
    by_cases h1 : lowB c = true ∨ upB c = true
    · rw [tokF_name h1] at h
      split at h
      · cases h
      · cases h
        have := (List.takeWhile_sublist nameB (l := c :: r)).length_le
        unfold namB; omega
    by_cases h2 : digB c = true
    · cases hn : numF 0 0 (c :: r) with
      | none => rw [tokF_num_no h1 h2 hn] at h; cases h
      | some p => obtain ⟨n, j'⟩ := p
                  have := numF_le _ _ _ _ _ hn
                  rw [tokF_num h1 h2 hn] at h; cases h; omega
    by_cases h3 : c = 34
    · subst h3
      cases hn : textF [] (0 + 1) r with
      | none => rw [tokF_text_no hn] at h; cases h
      | some p => obtain ⟨b, j'⟩ := p
                  have := txtF_le _ _ _ _ _ _ hn
                  rw [tokF_text hn] at h
                  split at h
                  · cases h
                  · cases h; rw [List.length_cons]; omega
    · rw [tokF_sign h1 h2 h3] at h
      split at h
      · cases h
      · cases h
        have := signF_le c _ r rfl
        omega
def endT : Tok := ⟨0, [], 0, [], 0, 0⟩
theorem headL_nil {l : List Int} (h : l.length ≤ skipF false 0 l) : headL l = .inr (endT, []) := by
  have : l.drop (skipF false 0 l) = [] := List.drop_eq_nil_of_le h
  rw [headL, this]; rfl
theorem headL_less {l : List Int} {t : Tok} {r : List Int} (h : headL l = .inr (t, r)) (hk : t.kind ≠ 0) : r.length < l.length := by
  unfold headL at h
  cases ht : tokF 0 0 0 (l.drop (skipF false 0 l)) with
  | inl e => rw [ht] at h; cases h
  | inr p =>
    obtain ⟨t', j⟩ := p
    rw [ht] at h
    simp only [Sum.inr.injEq, Prod.mk.injEq] at h
    obtain ⟨rfl, rfl⟩ := h
    have h1 := tokF_le ht
    have h2 := tokF_gt ht hk
    simp only [List.length_drop] at h1 ⊢
    omega
def lexP : Nat → List Int → Sum Int (List Tok)
  | 0, _ => .inr []
  | f + 1, l => match headL l with
    | .inl e => .inl e
    | .inr (t, r) => if t.kind = 0 then .inr [t] else (match lexP f r with | .inl e => .inl e | .inr T => .inr (t :: T))
theorem lexP_fault {f : Nat} {l : List Int} {e : Int} (h : headL l = .inl e) : lexP (f + 1) l = .inl e := by rw [lexP, h]
theorem lexP_end {f : Nat} {l : List Int} {t : Tok} {r : List Int} (h : headL l = .inr (t, r)) (hk : t.kind = 0) : lexP (f + 1) l = .inr [t] := by rw [lexP, h]; simp only; rw [if_pos hk]
theorem lexP_on {f : Nat} {l : List Int} {t : Tok} {r : List Int} (h : headL l = .inr (t, r)) (hk : t.kind ≠ 0) : lexP (f + 1) l = match lexP f r with | .inl e => .inl e | .inr T => .inr (t :: T) := by rw [lexP, h]; simp only; rw [if_neg hk]
theorem lexL_lexP : ∀ (f : Nat) (l : List Int) (cnt : Nat), cnt + l.length < 4096 → lexL f l cnt = lexP f l := by
  intro f
  induction f with
  | zero => intro l cnt h; rfl
  | succ f ih =>
    intro l cnt hc
    cases h : headL l with
    | inl e => rw [lexP_fault h, lexL, h]
    | inr p =>
      obtain ⟨t, r⟩ := p
      rw [lexL, h]
      simp only
      rw [if_neg (by omega)]
      by_cases hk : t.kind = 0
      · rw [if_pos hk, lexP_end h hk]
      · have := headL_less h hk
        rw [if_neg hk, lexP_on h hk, ih r (cnt + 1) (by omega)]
        cases lexP f r <;> rfl
end Go.Proofs.YtcmnjodjebcapaaGreat
