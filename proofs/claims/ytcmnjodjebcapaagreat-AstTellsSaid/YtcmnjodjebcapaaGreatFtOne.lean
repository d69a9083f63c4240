/-
  Texts of one proof, in their order. No condition.
-/
import Derived.Test.YtcmnjodjebcapaaGreatFtSplit
namespace Go.Proofs.YtcmnjodjebcapaaGreat
open Go.ChangeShapes Go.WideShapes Go.ChangeAt Go.RowKit
set_option linter.unusedVariables false
def byteN (s : ByteArray) (j : Nat) : Nat := (s.get! j).toNat
def contB (s : ByteArray) (j : Nat) : Bool := decide (j < s.size ∧ 128 ≤ byteN s j ∧ byteN s j ≤ 191)
def okT (s : ByteArray) (i : Nat) : Nat → Bool
  | 0 => true
  | k + 1 => okT s i k && contB s (i + k)
end Go.Proofs.YtcmnjodjebcapaaGreat
