/-
  Texts of one proof, in their order. No condition.
-/
import Derived.Shelf.Abstract
import Derived.Test.YtcmnjodjebcapaaGreatFtSame
namespace Go.Proofs.YtcmnjodjebcapaaGreat
open Go.ChangeShapes Go.WideShapes Go.ChangeAt Go.RowKit
set_option linter.unusedVariables false
set_option linter.unusedSimpArgs false
def AllTo (b0 : Bool) (q : Nat → Bool) (k : Nat) : Bool := b0 && (List.range k).all q
theorem AllTo.succ (b0 : Bool) (q : Nat → Bool) (k : Nat) : AllTo b0 q (k + 1) = (AllTo b0 q k && q k) := by
  unfold AllTo; rw [List.range_succ, List.all_append]; simp [Bool.and_assoc]
def CellsAt (W : World) (A : Option Addr) (n sz : Nat) (F : Nat → List Value) : Prop :=
  0 < n → ∃ g o, A = some ⟨g, o, none⟩ ∧ g < W.heap.size ∧ ∀ i, i < n → ∀ j, j < sz → W.cell? ⟨g, o + i * sz + j, none⟩ = (F i)[j]?
theorem CellsAt.below {W W' : World} {A : Option Addr} {n sz : Nat} {F : Nat → List Value} (h : CellsAt W A n sz F) (hb : Below W.heap.size W W') : CellsAt W' A n sz F := fun h0 => by
  obtain ⟨g, o, hA, hg, hx⟩ := h h0
  exact ⟨g, o, hA, Nat.lt_of_lt_of_le hg hb.size, fun i hi j hj => (hb.cell (p := ⟨g, o + i * sz + j, none⟩) hg).trans (hx i hi j hj)⟩
end Go.Proofs.YtcmnjodjebcapaaGreat
