/-
  Texts of one proof, in their order. No condition.
-/
import Derived.Test.YtdffmciedieikaaTkR17
namespace Go.Proofs.Ytdffmciedieikaa.Run
open Go.RowKit
def toldT (P : Program) (N : Nat) (g : FuncId) : Bool := match run P N (.call g [] ⟨.lf, .lf, .e⟩) with
  | some (.ret c _) => (match c with | .lit v => (match v with | .bool b => b | _ => false) | _ => false)
  | _ => false
theorem run_true {P : Program} (hm : P.follows .mixedOrders = true) {N : Nat} {g : FuncId} (hc : toldT P N g = true) (w : World) : Calls P g #[] w fun e w' => e = .returned (.bool true) ∧ Below w.heap.size w w' := by
  unfold toldT at hc
  split at hc
  · rename_i c h' hr
    split at hc
    · rename_i v
      split at hc
      · rename_i b
        subst hc
        exact run_calls hm hr w
      · cases hc
    · cases hc
  · cases hc
end Go.Proofs.Ytdffmciedieikaa.Run
