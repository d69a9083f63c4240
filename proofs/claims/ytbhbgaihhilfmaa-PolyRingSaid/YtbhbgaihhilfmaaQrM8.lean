/-
  Texts of one proof, in their order. No condition.
-/
import Derived.Test.YtbhbgaihhilfmaaQrM7
namespace Go.Proofs.Ytbhbgaihhilfmaa.Poly
set_option linter.unusedVariables false
set_option linter.unusedSimpArgs false
theorem FitP.sub {p q : List Tm} (h : FitP p) (s : q.Sublist p) : FitP q := ⟨Nat.le_trans s.length_le h.len, h.up.sublist s, fun t ht => h.ok t (s.subset ht)⟩
end Go.Proofs.Ytbhbgaihhilfmaa.Poly
