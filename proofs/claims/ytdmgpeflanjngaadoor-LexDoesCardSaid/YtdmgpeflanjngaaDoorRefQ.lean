/-
  What is asked of the document's own quoted, in plain words.
-/
import Derived.Test.YtdmgpeflanjngaaDoorRefC
import Derived.Test.YtdmgpeflanjngaaDoorLine
namespace Go.Proofs.YtdmgpeflanjngaaDoor
open Go.ChangeShapes Go.WideShapes Go.ChangeAt Go.RowKit
set_option linter.unusedVariables false

def QuotTells (i : Nat) (T : Option (List UInt8 × Nat)) (w : World) (e : Ending) (w' : World) : Prop :=
  Below w.heap.size w w' ∧ ((T = none ∧ e = .returned (.tuple #[.slice none 0 0, .int .i64 0, .int .i64 4])) ∨
    (∃ b k', T = some (b, k') ∧ 64 < b.length ∧ e = .returned (.tuple #[.slice none 0 0, .int .i64 0, .int .i64 5])) ∨
    (∃ b k' A n c, T = some (b, k') ∧ b.length ≤ 64 ∧ e = .returned (.tuple #[.slice A n c, .int .i64 ((k' : Int) - i), .int .i64 0]) ∧ w'.ownsRow w.heap.size 5 1 (.slice A n c) b.length (Lib.byteCells b)))
/-- Between two rounds. -/
structure QuotI (rs : List Ent) (i k : Nat) (acc : List UInt8) : Prop where
  ge : i + 1 ≤ k
  le : k ≤ rs.length
  few : acc.length ≤ 4 * k
  rest : textF acc k ((runesI rs).drop k) = textF [] (i + 1) ((runesI rs).drop (i + 1))
theorem text_at {rs : List Ent} {k : Nat} (acc : List UInt8) (h : rs.length ≤ k ∨ runeAt rs k = 34 ∨ runeAt rs k = 10) : textF acc k ((runesI rs).drop k) = if runeAt rs k = 34 then some (acc, k + 1) else none := by
  refine textF_done acc ?_
  unfold moreB
  rcases h with h | h | h
  · simp; omega
  · simp [h, textB]
  · simp [h, textB]
theorem escF_short {l : List Int} (h : l.length < 2) : escF (120 :: l) = none := by
  match l, h with
  | [], _ => rfl
  | [_], _ => rfl
  | _ :: _ :: _, h => simp at h; omega
theorem QuotI.esc {rs : List Ent} {i k : Nat} {acc : List UInt8} (h : QuotI rs i k acc) (hm : moreB rs textB k = true) (hc : runeAt rs k = 92) {b : UInt8} {m : Nat} (he : escF ((runesI rs).drop (k + 1)) = some (b, m)) : QuotI rs i (k + 1 + m) (acc ++ [b]) := by
  have hp := escF_pos he
  have hl : ((runesI rs).drop (k + 1)).length = rs.length - (k + 1) := by simp [runesI]
  have h1 := h.ge
  have h2 := h.few
  have h3 := (more_at hm).1
  refine ⟨by omega, by omega, by simp; omega, ?_⟩
  rw [← h.rest, textF_back acc hm hc he]
theorem QuotI.bad {rs : List Ent} {i k : Nat} {acc : List UInt8} (h : QuotI rs i k acc) (hm : moreB rs textB k = true) (hc : runeAt rs k = 92) (he : escF ((runesI rs).drop (k + 1)) = none) : textF [] (i + 1) ((runesI rs).drop (i + 1)) = none := by
  rw [← h.rest, textF_bad acc hm hc he]
end Go.Proofs.YtdmgpeflanjngaaDoor
