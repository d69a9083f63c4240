/-
  Texts of one proof, in their order. No condition.
-/
import Derived.Lib.SmallJoins
import Derived.Test.YtcmnjodjebcapaaGreatFtNamed
namespace Go.Proofs.YtcmnjodjebcapaaGreat
open Go.ChangeShapes Go.WideShapes Go.ChangeAt Go.RowKit
set_option linter.unusedVariables false
theorem cells_below {w w' : World} {g : Nat} (hb : Below w.heap.size w w') (hg : g < w.heap.size) {o : Nat} {v : Value} (h : w.cell? ⟨g, o, none⟩ = some v) : w'.cell? ⟨g, o, none⟩ = some v := (hb.cell (p := ⟨g, o, none⟩) hg).trans h
end Go.Proofs.YtcmnjodjebcapaaGreat
