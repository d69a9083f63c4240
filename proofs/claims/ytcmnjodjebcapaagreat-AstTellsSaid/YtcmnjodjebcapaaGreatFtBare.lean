/-
  Texts of one proof, in their order. No condition.
-/
import Derived.Shelf.Strconv.Itoa4
import Derived.Ground.NamesProg
import Derived.Lib.AppendIntMem
import Derived.Test.YtcmnjodjebcapaaGreatFtSame
namespace Go.Proofs.YtcmnjodjebcapaaGreat
open Go.RowKit
set_option linter.unusedVariables false
def bare (t : Tok) : Tok := ⟨t.kind, t.text, t.num, t.bytes, 0, 0⟩
end Go.Proofs.YtcmnjodjebcapaaGreat
