/-
  Which programs, expressions, patterns and types can be, is the document's: package ast and the document's own answer tell the same, for any program, expression, pattern and type of few parts, and chapter 4's examples hold. Conditions: none but the statement's own.
-/
import Derived.Test.YtcmnjodjebcapaaGreatFaPke
namespace Go.Proofs.YtcmnjodjebcapaaGreat.astFits
open Go.Proofs.YtcmnjodjebcapaaGreat.Deep
theorem proved : Rows.AstFitsSaid := over awake_p
end Go.Proofs.YtcmnjodjebcapaaGreat.astFits
