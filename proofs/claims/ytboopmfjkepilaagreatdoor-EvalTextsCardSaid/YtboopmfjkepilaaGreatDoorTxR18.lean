/-
  Texts of one proof, in their order. No condition.
-/
import Derived.Test.YtboopmfjkepilaaGreatDoorTxR17
namespace Go.Proofs.YtboopmfjkepilaaGreatDoor.Run
open Go.RowKit
def toldT (P : Program) (N : Nat) (g : FuncId) : Bool := match run P N (.call g [] ⟨.lf, .lf, .e⟩) with
  | some (.ret c _) => (match c with | .lit v => (match v with | .bool b => b | _ => false) | _ => false)
  | _ => false
theorem run_true {P : Program} (hm : P.follows .mixedOrders = true) {N : Nat} {g : FuncId} (hc : toldT P N g = true) (w : World) : Calls P g #[] w fun e w' => e = .returned (.bool true) ∧ Below w.heap.size w w' := by
  unfold toldT at hc
  split at hc
  · rename_i c h' hr
    split at hc
    · rename_i v
      split at hc
      · rename_i b
        subst hc
        exact run_calls hm hr w
      · cases hc
    · cases hc
  · cases hc
def toldA (P : Program) (N : Nat) (g : FuncId) (cs : List CV) : Bool := match run P N (.call g cs ⟨.lf, .lf, .e⟩) with
  | some (.ret c _) => (match c with | .lit v => (match v with | .bool b => b | _ => false) | _ => false)
  | _ => false
theorem run_args {P : Program} (hm : P.follows .mixedOrders = true) {N : Nat} {g : FuncId} {cs : List CV} (hc : toldA P N g cs = true) {us : Array Value} (hu : LR (fun _ => none) us.toList cs) (w : World) : Calls P g us w fun e w' => e = .returned (.bool true) ∧ Below w.heap.size w w' := by
  unfold toldA at hc
  split at hc
  · rename_i c h' hr
    split at hc
    · rename_i v
      split at hc
      · rename_i b
        subst hc
        exact callsIn_wide.1 ((run_snd hm N).call hr 0 (fun _ => none) us w none _ (SR.zero w) hu (fun m' v' w' _ s' hr => ⟨by rw [hr.lit_eq], s'.bel.1⟩))
      · cases hc
    · cases hc
  · cases hc
end Go.Proofs.YtboopmfjkepilaaGreatDoor.Run
