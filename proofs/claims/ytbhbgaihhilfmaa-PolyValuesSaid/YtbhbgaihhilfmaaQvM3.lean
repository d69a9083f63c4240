/-
  Texts of one proof, in their order. No condition.
-/
import Derived.Test.YtbhbgaihhilfmaaQvM2
namespace Go.Proofs.Ytbhbgaihhilfmaa.Poly
set_option linter.unusedVariables false
set_option linter.unusedSimpArgs false
abbrev Res := List Tm × Int
def layC (wr : Int → Int) (s : Bool) (q p : List Tm) : List Tm := q.foldl (fun o t => putC wr s t false o) p
def mergeF (wr : Int → Int) (s : Bool) (a b : List Tm) : Res := if fitF (layC wr s b a) then (layC wr s b a, 0) else ([], 17)
def addE (a b : Ex) : Ex := fun j => a j + b j
theorem addE_at (a b : Ex) (k : Nat) : (addE a b).at k = a.at k + b.at k := by unfold addE Ex.at; split <;> rfl
def mulT (x y : Tm) : Tm := ⟨x.c * y.c, addE x.e y.e⟩
def mulS (wr : Int → Int) (o : List Tm) (xy : Tm × Tm) : Option (List Tm) := if xy.1.c > Int.tdiv 1099511627776 xy.2.c then none else if fitF (putC wr true (mulT xy.1 xy.2) false o) then some (putC wr true (mulT xy.1 xy.2) false o) else none
def pairs (a b : List Tm) : List (Tm × Tm) := a.flatMap fun x => b.map fun y => (x, y)
def mulL (wr : Int → Int) (o : List Tm) : List (Tm × Tm) → Option (List Tm)
  | [] => some o
  | xy :: r => match mulS wr o xy with | some o' => mulL wr o' r | none => none
def resO : Option (List Tm) → Res
  | some o => (o, 0)
  | none => ([], 17)
def mulF (wr : Int → Int) (a b : List Tm) : Res := resO (mulL wr [] (pairs a b))
end Go.Proofs.Ytbhbgaihhilfmaa.Poly
