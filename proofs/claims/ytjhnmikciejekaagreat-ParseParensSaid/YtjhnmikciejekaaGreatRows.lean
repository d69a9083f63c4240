/-
  No cell of these rows narrows 'for every input' (looked for: loops, veiled, ifaces, maps, wideKeys, modest, calm, conditions, laid).
  DERIVED. THE GIVEN ROWS OF THIS SEAT. 4 by the template 'for every input the law returns true; each argument reads behind the call as it read before'; 0 by the template 'total and deterministic' (their statements: YtjhnmikciejekaaGreatTotals.lean).
  GIVEN WITH THE SEED: the statements are not yours to turn. If you find one false, say at which input.
  Laid BY PROGRAM, IN A SANDBOX (cutbox-rows.mjs): the forced cells as the released guide's own fill.sh prints them over the translation 5420282f90353f17… (all of the seat's roots in one cut). By AI agents, Wed Nov 11 2026. No macro, syntax, notation, axiom, sorry.
-/
import Derived.Test.YtjhnmikciejekaaGreatChecked
import GoSem.Claim
import GoSem.ClaimJoined
import GoSem.ClaimMapViews
import Derived.JoinedTies
import Derived.KernelRfl
namespace Go.Proofs.YtjhnmikciejekaaGreat
/- THE CELL 'sum', in the pinned program and in every row, IS THE sha256 OF THE DUMP (.gsa) THAT YtjhnmikciejekaaGreatProg.lean LOADS. Nothing in Lean hashes anything: it is a label: what it is worth is what the hold of that sum in a sandbox is worth. -/
noncomputable def Tryz.pinned : Pinned := { name := "ytjhnmikciejekaagreat", sum := "5420282f90353f17214af9a47bfc8cb985553450623498d38c6cbb2b660ccd32", checked := Tryz.checked }
namespace Rows
def none {H : Type} : Left H := { results := [], args := [] }

/-- 'handloomlaw05.ParseDoes': WHATEVER THE INPUT: true; the input reads as it did. -/
def parseDoesSpec : ChangeSpec := { name := "parseDoes", fn := fun _ => fun
  | [d] => { results := [.lit (.bool true)], args := [d] }
  | _ => none }
def parseDoesRow : OpenClaim := { program := "ytjhnmikciejekaagreat", sum := "5420282f90353f17214af9a47bfc8cb985553450623498d38c6cbb2b660ccd32", func := "handloom/handloomlaw05.ParseDoes", spec := "parseDoes", unfollowed := true, recurses := true, apart := false }
def ParseDoesSaid : Prop := parseDoesRow.holds Tryz.pinned (OpenSpec.ofChange parseDoesSpec)

/-- ITS FALSE NEIGHBOUR: 'it returns false'. Refute it at one input. -/
def parseDoesWrong : ChangeSpec := { name := "parseDoes", fn := fun _ => fun
  | [d] => { results := [.lit (.bool false)], args := [d] }
  | _ => none }
def ParseDoesWrongFalsely : Prop := parseDoesRow.holds Tryz.pinned (OpenSpec.ofChange parseDoesWrong)

/-- 'handloomlaw05.ParseParts': WHATEVER THE INPUT: true; the input reads as it did. -/
def parsePartsSpec : ChangeSpec := { name := "parseParts", fn := fun _ => fun
  | [d] => { results := [.lit (.bool true)], args := [d] }
  | _ => none }
def parsePartsRow : OpenClaim := { program := "ytjhnmikciejekaagreat", sum := "5420282f90353f17214af9a47bfc8cb985553450623498d38c6cbb2b660ccd32", func := "handloom/handloomlaw05.ParseParts", spec := "parseParts", unfollowed := true, recurses := true, apart := false }
def ParsePartsSaid : Prop := parsePartsRow.holds Tryz.pinned (OpenSpec.ofChange parsePartsSpec)

/-- ITS FALSE NEIGHBOUR: 'it returns false'. Refute it at one input. -/
def parsePartsWrong : ChangeSpec := { name := "parseParts", fn := fun _ => fun
  | [d] => { results := [.lit (.bool false)], args := [d] }
  | _ => none }
def ParsePartsWrongFalsely : Prop := parsePartsRow.holds Tryz.pinned (OpenSpec.ofChange parsePartsWrong)

/-- 'handloomlaw05.ParseFit': WHATEVER THE INPUT: true; the input reads as it did. -/
def parseFitSpec : ChangeSpec := { name := "parseFit", fn := fun _ => fun
  | [d1, d2] => { results := [.lit (.bool true)], args := [d1, d2] }
  | _ => none }
def parseFitRow : OpenClaim := { program := "ytjhnmikciejekaagreat", sum := "5420282f90353f17214af9a47bfc8cb985553450623498d38c6cbb2b660ccd32", func := "handloom/handloomlaw05.ParseFit", spec := "parseFit", unfollowed := true, recurses := true, apart := false }
def ParseFitSaid : Prop := parseFitRow.holds Tryz.pinned (OpenSpec.ofChange parseFitSpec)

/-- ITS FALSE NEIGHBOUR: 'it returns false'. Refute it at one input. -/
def parseFitWrong : ChangeSpec := { name := "parseFit", fn := fun _ => fun
  | [d1, d2] => { results := [.lit (.bool false)], args := [d1, d2] }
  | _ => none }
def ParseFitWrongFalsely : Prop := parseFitRow.holds Tryz.pinned (OpenSpec.ofChange parseFitWrong)

/-- 'handloomlaw05.ParseParens': WHATEVER THE INPUT: true; the input reads as it did. -/
def parseParensSpec : ChangeSpec := { name := "parseParens", fn := fun _ => fun
  | [d1, d2, d3] => { results := [.lit (.bool true)], args := [d1, d2, d3] }
  | _ => none }
def parseParensRow : OpenClaim := { program := "ytjhnmikciejekaagreat", sum := "5420282f90353f17214af9a47bfc8cb985553450623498d38c6cbb2b660ccd32", func := "handloom/handloomlaw05.ParseParens", spec := "parseParens", unfollowed := true, recurses := true, apart := false }
def ParseParensSaid : Prop := parseParensRow.holds Tryz.pinned (OpenSpec.ofChange parseParensSpec)

/-- ITS FALSE NEIGHBOUR: 'it returns false'. Refute it at one input. -/
def parseParensWrong : ChangeSpec := { name := "parseParens", fn := fun _ => fun
  | [d1, d2, d3] => { results := [.lit (.bool false)], args := [d1, d2, d3] }
  | _ => none }
def ParseParensWrongFalsely : Prop := parseParensRow.holds Tryz.pinned (OpenSpec.ofChange parseParensWrong)

/- THE SECOND FORM. 'bulk': how many values and letters a reading holds, each counted each time it is reached (what is shared counts as often as it is met; a slice's spare places count too). A statement '..UptoSaid' is the law's where the arguments, and the package variables that the reading takes, are together of bulk at most 1048576: NARROWER than '..Said'. Prove '..Said' where nothing that the law and all that it calls make is longer than what came in: it says more and counts as full. Else prove '..UptoSaid'. A law counts once. -/
mutual
def uptoBulk {H : Type} : DataW H → Nat
  | .lit (.string bytes) => bytes.length + 1
  | .lit _ => 1
  | .nil => 1
  | .ptr d => uptoBulk d + 1
  | .slice elems spare => uptoBulkAll elems + uptoBulkAll spare + 1
  | .agg parts => uptoBulkAll parts + 1
  | .iface _ d => uptoBulk d + 1
  | .map entries => uptoBulkEntries entries + 1
  | .held _ => 1
def uptoBulkAll {H : Type} : List (DataW H) → Nat
  | [] => 0
  | d :: r => uptoBulk d + uptoBulkAll r
def uptoBulkEntries {H : Type} : List (Lit × DataW H) → Nat
  | [] => 0
  | x :: r => uptoBulkEntry x + uptoBulkEntries r
def uptoBulkEntry {H : Type} : Lit × DataW H → Nat
  | (.string bytes, d) => bytes.length + uptoBulk d + 1
  | (_, d) => uptoBulk d + 1
 end
def uptoSmall : (H : Type) → List (DataW H) → Bool := fun _ ds => decide (uptoBulkAll ds ≤ 1048576)
def OpenSpec.upto (s : _root_.Go.ChangeSpec) : _root_.Go.OpenSpec := { _root_.Go.OpenSpec.ofChange s with cond := some uptoSmall }

/-- 'handloomlaw05.ParseDoes', WHERE WHAT IT READS IS OF BULK AT MOST 1048576: true; the input reads as it did. -/
def parseDoesUptoRow : OpenClaim := { program := "ytjhnmikciejekaagreat", sum := "5420282f90353f17214af9a47bfc8cb985553450623498d38c6cbb2b660ccd32", func := "handloom/handloomlaw05.ParseDoes", spec := "parseDoes", unfollowed := true, recurses := true, apart := false, narrowed := true }
def ParseDoesUptoSaid : Prop := parseDoesUptoRow.holds Tryz.pinned (OpenSpec.upto parseDoesSpec)

/-- 'handloomlaw05.ParseParts', WHERE WHAT IT READS IS OF BULK AT MOST 1048576: true; the input reads as it did. -/
def parsePartsUptoRow : OpenClaim := { program := "ytjhnmikciejekaagreat", sum := "5420282f90353f17214af9a47bfc8cb985553450623498d38c6cbb2b660ccd32", func := "handloom/handloomlaw05.ParseParts", spec := "parseParts", unfollowed := true, recurses := true, apart := false, narrowed := true }
def ParsePartsUptoSaid : Prop := parsePartsUptoRow.holds Tryz.pinned (OpenSpec.upto parsePartsSpec)

/-- 'handloomlaw05.ParseFit', WHERE WHAT IT READS IS OF BULK AT MOST 1048576: true; the input reads as it did. -/
def parseFitUptoRow : OpenClaim := { program := "ytjhnmikciejekaagreat", sum := "5420282f90353f17214af9a47bfc8cb985553450623498d38c6cbb2b660ccd32", func := "handloom/handloomlaw05.ParseFit", spec := "parseFit", unfollowed := true, recurses := true, apart := false, narrowed := true }
def ParseFitUptoSaid : Prop := parseFitUptoRow.holds Tryz.pinned (OpenSpec.upto parseFitSpec)

/-- 'handloomlaw05.ParseParens', WHERE WHAT IT READS IS OF BULK AT MOST 1048576: true; the input reads as it did. -/
def parseParensUptoRow : OpenClaim := { program := "ytjhnmikciejekaagreat", sum := "5420282f90353f17214af9a47bfc8cb985553450623498d38c6cbb2b660ccd32", func := "handloom/handloomlaw05.ParseParens", spec := "parseParens", unfollowed := true, recurses := true, apart := false, narrowed := true }
def ParseParensUptoSaid : Prop := parseParensUptoRow.holds Tryz.pinned (OpenSpec.upto parseParensSpec)

end Rows
end Go.Proofs.YtjhnmikciejekaaGreat
