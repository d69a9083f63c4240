/-
  Texts of one proof, in the order in which they lean on one another. No condition.
-/
import Derived.Test.YtcmnjodjebcapaaGreatFaLine
import Derived.Test.YtcmnjodjebcapaaGreatFaOne1
namespace Go.Proofs.YtcmnjodjebcapaaGreat
open Go.RowKit
set_option linter.unusedVariables false
theorem takeW_mem (l : List Int) : ∀ c ∈ l.takeWhile nameB, nameB c = true := by
  induction l with
  | nil => intro c h; cases h
  | cons d t ih =>
    intro c hc
    rw [List.takeWhile_cons] at hc
    by_cases hd : nameB d = true
    · rw [if_pos hd] at hc
      rcases List.mem_cons.1 hc with rfl | hc
      · exact hd
      · exact ih c hc
    · rw [if_neg hd] at hc; cases hc
theorem headL_of {l : List Int} {t : Tok} {r : List Int} (h : headL l = .inr (t, r)) : ∃ j, tokF 0 0 0 (l.drop (skipF false 0 l)) = .inr (t, j) ∧ r = (l.drop (skipF false 0 l)).drop j := by
  unfold headL at h
  cases ht : tokF 0 0 0 (l.drop (skipF false 0 l)) with
  | inl e => rw [ht] at h; cases h
  | inr p =>
    obtain ⟨t', j⟩ := p
    rw [ht] at h
    simp only [Sum.inr.injEq, Prod.mk.injEq] at h
    obtain ⟨rfl, rfl⟩ := h
    exact ⟨j, rfl, rfl⟩
end Go.Proofs.YtcmnjodjebcapaaGreat
