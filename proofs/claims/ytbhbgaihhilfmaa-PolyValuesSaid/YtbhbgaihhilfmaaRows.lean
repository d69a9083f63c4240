/-
  No cell of these rows narrows 'for every input' (looked for: loops, veiled, ifaces, maps, wideKeys, modest, calm, conditions, laid).
  DERIVED. THE GIVEN ROWS OF THIS SEAT. 6 by the template 'for every input the law returns true; each argument reads behind the call as it read before'; 0 by the template 'total and deterministic' (their statements: YtbhbgaihhilfmaaTotals.lean).
  GIVEN WITH THE SEED: the statements are not yours to turn. If you find one false, say at which input.
  Laid BY PROGRAM, IN A SANDBOX (cutbox-rows.mjs): the forced cells as the released guide's own fill.sh prints them over the translation c11d08ca1a0deb56… (all of the seat's roots in one cut). By AI agents, Wed Nov 11 2026. No macro, syntax, notation, axiom, sorry.
-/
import Derived.Test.YtbhbgaihhilfmaaChecked
import GoSem.Claim
import GoSem.ClaimJoined
import GoSem.ClaimMapViews
import Derived.JoinedTies
import Derived.KernelRfl
namespace Go.Proofs.Ytbhbgaihhilfmaa
/- THE CELL 'sum', in the pinned program and in every row, IS THE sha256 OF THE DUMP (.gsa) THAT YtbhbgaihhilfmaaProg.lean LOADS. Nothing in Lean hashes anything: it is a label: what it is worth is what the hold of that sum in a sandbox is worth. -/
noncomputable def Try.pinned : Pinned := { name := "ytbhbgaihhilfmaa", sum := "c11d08ca1a0deb563f837907636dc7ec92f4ee11f5878a41e25310cb7e396f40", checked := Try.checked }
namespace Rows
def none {H : Type} : Left H := { results := [], args := [] }

/-- 'handloomlaw13.PolyTells': WHATEVER THE INPUT: true; the input reads as it did. -/
def polyTellsSpec : ChangeSpec := { name := "polyTells", fn := fun _ => fun
  | [d1, d2, d3, d4, d5] => { results := [.lit (.bool true)], args := [d1, d2, d3, d4, d5] }
  | _ => none }
def polyTellsRow : OpenClaim := { program := "ytbhbgaihhilfmaa", sum := "c11d08ca1a0deb563f837907636dc7ec92f4ee11f5878a41e25310cb7e396f40", func := "handloom/handloomlaw13.PolyTells", spec := "polyTells", unfollowed := true, recurses := true, apart := false }
def PolyTellsSaid : Prop := polyTellsRow.holds Try.pinned (OpenSpec.ofChange polyTellsSpec)

/-- ITS FALSE NEIGHBOUR: 'it returns false'. Refute it at one input. -/
def polyTellsWrong : ChangeSpec := { name := "polyTells", fn := fun _ => fun
  | [d1, d2, d3, d4, d5] => { results := [.lit (.bool false)], args := [d1, d2, d3, d4, d5] }
  | _ => none }
def PolyTellsWrongFalsely : Prop := polyTellsRow.holds Try.pinned (OpenSpec.ofChange polyTellsWrong)

/-- 'handloomlaw13.PolyDoes': WHATEVER THE INPUT: true; the input reads as it did. -/
def polyDoesSpec : ChangeSpec := { name := "polyDoes", fn := fun _ => fun
  | [d1, d2, d3] => { results := [.lit (.bool true)], args := [d1, d2, d3] }
  | _ => none }
def polyDoesRow : OpenClaim := { program := "ytbhbgaihhilfmaa", sum := "c11d08ca1a0deb563f837907636dc7ec92f4ee11f5878a41e25310cb7e396f40", func := "handloom/handloomlaw13.PolyDoes", spec := "polyDoes", unfollowed := true, recurses := true, apart := false }
def PolyDoesSaid : Prop := polyDoesRow.holds Try.pinned (OpenSpec.ofChange polyDoesSpec)

/-- ITS FALSE NEIGHBOUR: 'it returns false'. Refute it at one input. -/
def polyDoesWrong : ChangeSpec := { name := "polyDoes", fn := fun _ => fun
  | [d1, d2, d3] => { results := [.lit (.bool false)], args := [d1, d2, d3] }
  | _ => none }
def PolyDoesWrongFalsely : Prop := polyDoesRow.holds Try.pinned (OpenSpec.ofChange polyDoesWrong)

/-- 'handloomlaw13.PolyRing': WHATEVER THE INPUT: true; the input reads as it did. -/
def polyRingSpec : ChangeSpec := { name := "polyRing", fn := fun _ => fun
  | [d1, d2, d3] => { results := [.lit (.bool true)], args := [d1, d2, d3] }
  | _ => none }
def polyRingRow : OpenClaim := { program := "ytbhbgaihhilfmaa", sum := "c11d08ca1a0deb563f837907636dc7ec92f4ee11f5878a41e25310cb7e396f40", func := "handloom/handloomlaw13.PolyRing", spec := "polyRing", unfollowed := true, recurses := true, apart := false }
def PolyRingSaid : Prop := polyRingRow.holds Try.pinned (OpenSpec.ofChange polyRingSpec)

/-- ITS FALSE NEIGHBOUR: 'it returns false'. Refute it at one input. -/
def polyRingWrong : ChangeSpec := { name := "polyRing", fn := fun _ => fun
  | [d1, d2, d3] => { results := [.lit (.bool false)], args := [d1, d2, d3] }
  | _ => none }
def PolyRingWrongFalsely : Prop := polyRingRow.holds Try.pinned (OpenSpec.ofChange polyRingWrong)

/-- 'handloomlaw13.PolyValues': WHATEVER THE INPUT: true; the input reads as it did. -/
def polyValuesSpec : ChangeSpec := { name := "polyValues", fn := fun _ => fun
  | [d1, d2, d3, d4] => { results := [.lit (.bool true)], args := [d1, d2, d3, d4] }
  | _ => none }
def polyValuesRow : OpenClaim := { program := "ytbhbgaihhilfmaa", sum := "c11d08ca1a0deb563f837907636dc7ec92f4ee11f5878a41e25310cb7e396f40", func := "handloom/handloomlaw13.PolyValues", spec := "polyValues", unfollowed := true, recurses := true, apart := false }
def PolyValuesSaid : Prop := polyValuesRow.holds Try.pinned (OpenSpec.ofChange polyValuesSpec)

/-- ITS FALSE NEIGHBOUR: 'it returns false'. Refute it at one input. -/
def polyValuesWrong : ChangeSpec := { name := "polyValues", fn := fun _ => fun
  | [d1, d2, d3, d4] => { results := [.lit (.bool false)], args := [d1, d2, d3, d4] }
  | _ => none }
def PolyValuesWrongFalsely : Prop := polyValuesRow.holds Try.pinned (OpenSpec.ofChange polyValuesWrong)

/-- 'handloomlaw13.PolyPuts': WHATEVER THE INPUT: true; the input reads as it did. -/
def polyPutsSpec : ChangeSpec := { name := "polyPuts", fn := fun _ => fun
  | [d1, d2, d3] => { results := [.lit (.bool true)], args := [d1, d2, d3] }
  | _ => none }
def polyPutsRow : OpenClaim := { program := "ytbhbgaihhilfmaa", sum := "c11d08ca1a0deb563f837907636dc7ec92f4ee11f5878a41e25310cb7e396f40", func := "handloom/handloomlaw13.PolyPuts", spec := "polyPuts", unfollowed := true, recurses := true, apart := false }
def PolyPutsSaid : Prop := polyPutsRow.holds Try.pinned (OpenSpec.ofChange polyPutsSpec)

/-- ITS FALSE NEIGHBOUR: 'it returns false'. Refute it at one input. -/
def polyPutsWrong : ChangeSpec := { name := "polyPuts", fn := fun _ => fun
  | [d1, d2, d3] => { results := [.lit (.bool false)], args := [d1, d2, d3] }
  | _ => none }
def PolyPutsWrongFalsely : Prop := polyPutsRow.holds Try.pinned (OpenSpec.ofChange polyPutsWrong)

/-- 'handloomlaw13.PolyRises': WHATEVER THE INPUT: true; the input reads as it did. -/
def polyRisesSpec : ChangeSpec := { name := "polyRises", fn := fun _ => fun
  | [d1, d2, d3, d4, d5] => { results := [.lit (.bool true)], args := [d1, d2, d3, d4, d5] }
  | _ => none }
def polyRisesRow : OpenClaim := { program := "ytbhbgaihhilfmaa", sum := "c11d08ca1a0deb563f837907636dc7ec92f4ee11f5878a41e25310cb7e396f40", func := "handloom/handloomlaw13.PolyRises", spec := "polyRises", unfollowed := true, recurses := true, apart := false }
def PolyRisesSaid : Prop := polyRisesRow.holds Try.pinned (OpenSpec.ofChange polyRisesSpec)

/-- ITS FALSE NEIGHBOUR: 'it returns false'. Refute it at one input. -/
def polyRisesWrong : ChangeSpec := { name := "polyRises", fn := fun _ => fun
  | [d1, d2, d3, d4, d5] => { results := [.lit (.bool false)], args := [d1, d2, d3, d4, d5] }
  | _ => none }
def PolyRisesWrongFalsely : Prop := polyRisesRow.holds Try.pinned (OpenSpec.ofChange polyRisesWrong)

/- THE SECOND FORM. 'bulk': how many values and letters a reading holds, each counted each time it is reached (what is shared counts as often as it is met; a slice's spare places count too). A statement '..UptoSaid' is the law's where the arguments, and the package variables that the reading takes, are together of bulk at most 1048576: NARROWER than '..Said'. Prove '..Said' where nothing that the law and all that it calls make is longer than what came in: it says more and counts as full. Else prove '..UptoSaid'. A law counts once. -/
mutual
def uptoBulk {H : Type} : DataW H → Nat
  | .lit (.string bytes) => bytes.length + 1
  | .lit _ => 1
  | .nil => 1
  | .ptr d => uptoBulk d + 1
  | .slice elems spare => uptoBulkAll elems + uptoBulkAll spare + 1
  | .agg parts => uptoBulkAll parts + 1
  | .iface _ d => uptoBulk d + 1
  | .map entries => uptoBulkEntries entries + 1
  | .held _ => 1
def uptoBulkAll {H : Type} : List (DataW H) → Nat
  | [] => 0
  | d :: r => uptoBulk d + uptoBulkAll r
def uptoBulkEntries {H : Type} : List (Lit × DataW H) → Nat
  | [] => 0
  | x :: r => uptoBulkEntry x + uptoBulkEntries r
def uptoBulkEntry {H : Type} : Lit × DataW H → Nat
  | (.string bytes, d) => bytes.length + uptoBulk d + 1
  | (_, d) => uptoBulk d + 1
 end
def uptoSmall : (H : Type) → List (DataW H) → Bool := fun _ ds => decide (uptoBulkAll ds ≤ 1048576)
def OpenSpec.upto (s : _root_.Go.ChangeSpec) : _root_.Go.OpenSpec := { _root_.Go.OpenSpec.ofChange s with cond := some uptoSmall }

/-- 'handloomlaw13.PolyTells', WHERE WHAT IT READS IS OF BULK AT MOST 1048576: true; the input reads as it did. -/
def polyTellsUptoRow : OpenClaim := { program := "ytbhbgaihhilfmaa", sum := "c11d08ca1a0deb563f837907636dc7ec92f4ee11f5878a41e25310cb7e396f40", func := "handloom/handloomlaw13.PolyTells", spec := "polyTells", unfollowed := true, recurses := true, apart := false, narrowed := true }
def PolyTellsUptoSaid : Prop := polyTellsUptoRow.holds Try.pinned (OpenSpec.upto polyTellsSpec)

/-- 'handloomlaw13.PolyDoes', WHERE WHAT IT READS IS OF BULK AT MOST 1048576: true; the input reads as it did. -/
def polyDoesUptoRow : OpenClaim := { program := "ytbhbgaihhilfmaa", sum := "c11d08ca1a0deb563f837907636dc7ec92f4ee11f5878a41e25310cb7e396f40", func := "handloom/handloomlaw13.PolyDoes", spec := "polyDoes", unfollowed := true, recurses := true, apart := false, narrowed := true }
def PolyDoesUptoSaid : Prop := polyDoesUptoRow.holds Try.pinned (OpenSpec.upto polyDoesSpec)

/-- 'handloomlaw13.PolyRing', WHERE WHAT IT READS IS OF BULK AT MOST 1048576: true; the input reads as it did. -/
def polyRingUptoRow : OpenClaim := { program := "ytbhbgaihhilfmaa", sum := "c11d08ca1a0deb563f837907636dc7ec92f4ee11f5878a41e25310cb7e396f40", func := "handloom/handloomlaw13.PolyRing", spec := "polyRing", unfollowed := true, recurses := true, apart := false, narrowed := true }
def PolyRingUptoSaid : Prop := polyRingUptoRow.holds Try.pinned (OpenSpec.upto polyRingSpec)

/-- 'handloomlaw13.PolyValues', WHERE WHAT IT READS IS OF BULK AT MOST 1048576: true; the input reads as it did. -/
def polyValuesUptoRow : OpenClaim := { program := "ytbhbgaihhilfmaa", sum := "c11d08ca1a0deb563f837907636dc7ec92f4ee11f5878a41e25310cb7e396f40", func := "handloom/handloomlaw13.PolyValues", spec := "polyValues", unfollowed := true, recurses := true, apart := false, narrowed := true }
def PolyValuesUptoSaid : Prop := polyValuesUptoRow.holds Try.pinned (OpenSpec.upto polyValuesSpec)

/-- 'handloomlaw13.PolyPuts', WHERE WHAT IT READS IS OF BULK AT MOST 1048576: true; the input reads as it did. -/
def polyPutsUptoRow : OpenClaim := { program := "ytbhbgaihhilfmaa", sum := "c11d08ca1a0deb563f837907636dc7ec92f4ee11f5878a41e25310cb7e396f40", func := "handloom/handloomlaw13.PolyPuts", spec := "polyPuts", unfollowed := true, recurses := true, apart := false, narrowed := true }
def PolyPutsUptoSaid : Prop := polyPutsUptoRow.holds Try.pinned (OpenSpec.upto polyPutsSpec)

/-- 'handloomlaw13.PolyRises', WHERE WHAT IT READS IS OF BULK AT MOST 1048576: true; the input reads as it did. -/
def polyRisesUptoRow : OpenClaim := { program := "ytbhbgaihhilfmaa", sum := "c11d08ca1a0deb563f837907636dc7ec92f4ee11f5878a41e25310cb7e396f40", func := "handloom/handloomlaw13.PolyRises", spec := "polyRises", unfollowed := true, recurses := true, apart := false, narrowed := true }
def PolyRisesUptoSaid : Prop := polyRisesUptoRow.holds Try.pinned (OpenSpec.upto polyRisesSpec)

end Rows
end Go.Proofs.Ytbhbgaihhilfmaa
