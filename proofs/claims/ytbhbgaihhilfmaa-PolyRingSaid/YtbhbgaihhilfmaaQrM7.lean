/-
  Texts of one proof, in their order. No condition.
-/
import Derived.Test.YtbhbgaihhilfmaaQrM6
namespace Go.Proofs.Ytbhbgaihhilfmaa.Poly
set_option linter.unusedVariables false
set_option linter.unusedSimpArgs false
def pw (x : Int) : Nat → Int
  | 0 => 1
  | n + 1 => x * pw x n
def GL (X : Nat → Int) (e : Ex) : List Nat → Int
  | [] => 1
  | k :: r => pw (X k) (e.at k) * GL X e r
def G (X : Nat → Int) (e : Ex) : Int := GL X e (List.range 12)
end Go.Proofs.Ytbhbgaihhilfmaa.Poly
