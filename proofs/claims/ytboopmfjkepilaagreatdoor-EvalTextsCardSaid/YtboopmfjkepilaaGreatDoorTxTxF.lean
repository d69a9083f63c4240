/-
  Texts of one proof, in their order. No condition.
-/
import Derived.Test.YtboopmfjkepilaaGreatDoorRows
import Derived.JoinedOf
import Derived.KernelRfl
namespace Go.Proofs.YtboopmfjkepilaaGreatDoor.evalTexts
open Go
set_option maxHeartbeats 0 in
set_option maxRecDepth 100000 in
theorem closed : joinedFacts Tryz.pinned.checked.prog 3 Tryz.f3 Rows.evalTextsSpec Rows.evalTextsRow = true := by
  unfold joinedFacts
  simp only [Bool.and_eq_true]
  repeat' apply And.intro
  all_goals (as_aux_lemma => kernel_rfl)
theorem namedF : Tryz.pinned.checked.prog.funcNamed "handloom/handloomlaw12.EvalTexts" = some 3 := by kernel_rfl
end Go.Proofs.YtboopmfjkepilaaGreatDoor.evalTexts
