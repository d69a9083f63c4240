/-
  Texts of one proof, in the order in which they lean on one another. No condition.
-/
import Derived.Test.YtcmnjodjebcapaaGreatFaAgain
namespace Go.Proofs.YtcmnjodjebcapaaGreat
open Go.RowKit
set_option linter.unusedVariables false
theorem size_len (s : ByteArray) : s.size = s.data.toList.length := (Array.length_toList).symm
theorem bare_sound {s : ByteArray} (hs : s.size ≤ 3000) {R : List Int} (hv : ∀ c ∈ R, validB c = true) (h : s.data.toList = R.flatMap enc) : bareS (lexOf s) = lexP (R.length + 1) R ∧ R.length ≤ 3000 := by
  obtain ⟨hb, hr⟩ := sound_of hv h
  have hl := enc_len_pos hv
  have hz := size_len s
  rw [h] at hz
  have := lexOf_bare (s := s) (by omega) hb
  rw [hr] at this
  rw [this, lexL_lexP _ _ _ (by omega)]
  exact ⟨rfl, by omega⟩
end Go.Proofs.YtcmnjodjebcapaaGreat
