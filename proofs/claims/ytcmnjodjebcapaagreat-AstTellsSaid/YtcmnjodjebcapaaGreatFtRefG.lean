/-
  Texts of one proof, in their order. No condition.
-/
import Derived.Lib.SmallJoins
import Derived.Test.YtcmnjodjebcapaaGreatFtRefA
import Derived.Test.YtcmnjodjebcapaaGreatFtBare
import Derived.Test.YtcmnjodjebcapaaGreatFtNamed
namespace Go.Proofs.YtcmnjodjebcapaaGreat
open Go.ChangeShapes Go.WideShapes Go.ChangeAt Go.RowKit
set_option linter.unusedVariables false
def firstB (up : Bool) (c : Int) : Bool := if up then upB c else lowB c
def nameRunes (up : Bool) (R : List Int) : Bool := decide (0 < R.length ∧ R.length ≤ 24) && R.all nameB && firstB up (R.headD 0)
def rnamedB (s : ByteArray) (up : Bool) : Bool := (badOf s).isNone && nameRunes up (runesI (runesOf s)) && !wordB s.data.toList
end Go.Proofs.YtcmnjodjebcapaaGreat
