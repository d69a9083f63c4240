/-
  NARROWER THAN 'FOR EVERY INPUT', by the rows' own cells (each row's printed sentence says how): AstFits: loops · AstTells: loops · AstParts: loops · AstSame: loops.
  DERIVED. THE GIVEN ROWS OF THIS SEAT. 4 by the template 'for every input the law returns true; each argument reads behind the call as it read before'; 0 by the template 'total and deterministic' (their statements: YtcmnjodjebcapaaGreatTotals.lean).
  GIVEN WITH THE SEED: the statements are not yours to turn. If you find one false, say at which input.
  Laid BY PROGRAM, IN A SANDBOX (cutbox-rows.mjs): the forced cells as the released guide's own fill.sh prints them over the translation 2fdd36dc88229791… (all of the seat's roots in one cut). By AI agents, Wed Nov 11 2026. No macro, syntax, notation, axiom, sorry.
-/
import Derived.Test.YtcmnjodjebcapaaGreatChecked
import GoSem.Claim
import GoSem.ClaimJoined
import GoSem.ClaimMapViews
import Derived.JoinedTies
import Derived.KernelRfl
namespace Go.Proofs.YtcmnjodjebcapaaGreat
/- THE CELL 'sum', in the pinned program and in every row, IS THE sha256 OF THE DUMP (.gsa) THAT YtcmnjodjebcapaaGreatProg.lean LOADS. Nothing in Lean hashes anything: it is a label: what it is worth is what the hold of that sum in a sandbox is worth. -/
noncomputable def Tryz.pinned : Pinned := { name := "ytcmnjodjebcapaagreat", sum := "2fdd36dc8822979121561ac5a2fd13b35352fac95baff8cbf2ec4473e0e7b102", checked := Tryz.checked }
namespace Rows
def none {H : Type} : Left H := { results := [], args := [] }

/-- 'handloomlaw04.AstFits': WHATEVER THE INPUT: true; the input reads as it did. -/
def astFitsSpec : ChangeSpec := { name := "astFits", fn := fun _ => fun
  | [d1, d2, d3, d4] => { results := [.lit (.bool true)], args := [d1, d2, d3, d4] }
  | _ => none }
def astFitsRow : OpenClaim := { program := "ytcmnjodjebcapaagreat", sum := "2fdd36dc8822979121561ac5a2fd13b35352fac95baff8cbf2ec4473e0e7b102", func := "handloom/handloomlaw04.AstFits", spec := "astFits", unfollowed := true, recurses := true, loops := true, apart := false }
def AstFitsSaid : Prop := astFitsRow.holds Tryz.pinned (OpenSpec.ofChange astFitsSpec)

/-- ITS FALSE NEIGHBOUR: 'it returns false'. Refute it at one input. -/
def astFitsWrong : ChangeSpec := { name := "astFits", fn := fun _ => fun
  | [d1, d2, d3, d4] => { results := [.lit (.bool false)], args := [d1, d2, d3, d4] }
  | _ => none }
def AstFitsWrongFalsely : Prop := astFitsRow.holds Tryz.pinned (OpenSpec.ofChange astFitsWrong)

/-- 'handloomlaw04.AstTells': WHATEVER THE INPUT: true; the input reads as it did. -/
def astTellsSpec : ChangeSpec := { name := "astTells", fn := fun _ => fun
  | [d1, d2, d3, d4] => { results := [.lit (.bool true)], args := [d1, d2, d3, d4] }
  | _ => none }
def astTellsRow : OpenClaim := { program := "ytcmnjodjebcapaagreat", sum := "2fdd36dc8822979121561ac5a2fd13b35352fac95baff8cbf2ec4473e0e7b102", func := "handloom/handloomlaw04.AstTells", spec := "astTells", unfollowed := true, recurses := true, loops := true, apart := false }
def AstTellsSaid : Prop := astTellsRow.holds Tryz.pinned (OpenSpec.ofChange astTellsSpec)

/-- ITS FALSE NEIGHBOUR: 'it returns false'. Refute it at one input. -/
def astTellsWrong : ChangeSpec := { name := "astTells", fn := fun _ => fun
  | [d1, d2, d3, d4] => { results := [.lit (.bool false)], args := [d1, d2, d3, d4] }
  | _ => none }
def AstTellsWrongFalsely : Prop := astTellsRow.holds Tryz.pinned (OpenSpec.ofChange astTellsWrong)

/-- 'handloomlaw04.AstParts': WHATEVER THE INPUT: true; the input reads as it did. -/
def astPartsSpec : ChangeSpec := { name := "astParts", fn := fun _ => fun
  | [d] => { results := [.lit (.bool true)], args := [d] }
  | _ => none }
def astPartsRow : OpenClaim := { program := "ytcmnjodjebcapaagreat", sum := "2fdd36dc8822979121561ac5a2fd13b35352fac95baff8cbf2ec4473e0e7b102", func := "handloom/handloomlaw04.AstParts", spec := "astParts", unfollowed := true, recurses := true, loops := true, apart := false }
def AstPartsSaid : Prop := astPartsRow.holds Tryz.pinned (OpenSpec.ofChange astPartsSpec)

/-- ITS FALSE NEIGHBOUR: 'it returns false'. Refute it at one input. -/
def astPartsWrong : ChangeSpec := { name := "astParts", fn := fun _ => fun
  | [d] => { results := [.lit (.bool false)], args := [d] }
  | _ => none }
def AstPartsWrongFalsely : Prop := astPartsRow.holds Tryz.pinned (OpenSpec.ofChange astPartsWrong)

/-- 'handloomlaw04.AstSame': WHATEVER THE INPUT: true; the input reads as it did. -/
def astSameSpec : ChangeSpec := { name := "astSame", fn := fun _ => fun
  | [d1, d2, d3] => { results := [.lit (.bool true)], args := [d1, d2, d3] }
  | _ => none }
def astSameRow : OpenClaim := { program := "ytcmnjodjebcapaagreat", sum := "2fdd36dc8822979121561ac5a2fd13b35352fac95baff8cbf2ec4473e0e7b102", func := "handloom/handloomlaw04.AstSame", spec := "astSame", unfollowed := true, recurses := true, loops := true, apart := false }
def AstSameSaid : Prop := astSameRow.holds Tryz.pinned (OpenSpec.ofChange astSameSpec)

/-- ITS FALSE NEIGHBOUR: 'it returns false'. Refute it at one input. -/
def astSameWrong : ChangeSpec := { name := "astSame", fn := fun _ => fun
  | [d1, d2, d3] => { results := [.lit (.bool false)], args := [d1, d2, d3] }
  | _ => none }
def AstSameWrongFalsely : Prop := astSameRow.holds Tryz.pinned (OpenSpec.ofChange astSameWrong)

/- THE SECOND FORM. 'bulk': how many values and letters a reading holds, each counted each time it is reached (what is shared counts as often as it is met; a slice's spare places count too). A statement '..UptoSaid' is the law's where the arguments, and the package variables that the reading takes, are together of bulk at most 1048576: NARROWER than '..Said'. Prove '..Said' where nothing that the law and all that it calls make is longer than what came in: it says more and counts as full. Else prove '..UptoSaid'. A law counts once. -/
mutual
def uptoBulk {H : Type} : DataW H → Nat
  | .lit (.string bytes) => bytes.length + 1
  | .lit _ => 1
  | .nil => 1
  | .ptr d => uptoBulk d + 1
  | .slice elems spare => uptoBulkAll elems + uptoBulkAll spare + 1
  | .agg parts => uptoBulkAll parts + 1
  | .iface _ d => uptoBulk d + 1
  | .map entries => uptoBulkEntries entries + 1
  | .held _ => 1
def uptoBulkAll {H : Type} : List (DataW H) → Nat
  | [] => 0
  | d :: r => uptoBulk d + uptoBulkAll r
def uptoBulkEntries {H : Type} : List (Lit × DataW H) → Nat
  | [] => 0
  | x :: r => uptoBulkEntry x + uptoBulkEntries r
def uptoBulkEntry {H : Type} : Lit × DataW H → Nat
  | (.string bytes, d) => bytes.length + uptoBulk d + 1
  | (_, d) => uptoBulk d + 1
 end
def uptoSmall : (H : Type) → List (DataW H) → Bool := fun _ ds => decide (uptoBulkAll ds ≤ 1048576)
def OpenSpec.upto (s : _root_.Go.ChangeSpec) : _root_.Go.OpenSpec := { _root_.Go.OpenSpec.ofChange s with cond := some uptoSmall }

/-- 'handloomlaw04.AstFits', WHERE WHAT IT READS IS OF BULK AT MOST 1048576: true; the input reads as it did. -/
def astFitsUptoRow : OpenClaim := { program := "ytcmnjodjebcapaagreat", sum := "2fdd36dc8822979121561ac5a2fd13b35352fac95baff8cbf2ec4473e0e7b102", func := "handloom/handloomlaw04.AstFits", spec := "astFits", unfollowed := true, recurses := true, loops := true, apart := false, narrowed := true }
def AstFitsUptoSaid : Prop := astFitsUptoRow.holds Tryz.pinned (OpenSpec.upto astFitsSpec)

/-- 'handloomlaw04.AstTells', WHERE WHAT IT READS IS OF BULK AT MOST 1048576: true; the input reads as it did. -/
def astTellsUptoRow : OpenClaim := { program := "ytcmnjodjebcapaagreat", sum := "2fdd36dc8822979121561ac5a2fd13b35352fac95baff8cbf2ec4473e0e7b102", func := "handloom/handloomlaw04.AstTells", spec := "astTells", unfollowed := true, recurses := true, loops := true, apart := false, narrowed := true }
def AstTellsUptoSaid : Prop := astTellsUptoRow.holds Tryz.pinned (OpenSpec.upto astTellsSpec)

/-- 'handloomlaw04.AstParts', WHERE WHAT IT READS IS OF BULK AT MOST 1048576: true; the input reads as it did. -/
def astPartsUptoRow : OpenClaim := { program := "ytcmnjodjebcapaagreat", sum := "2fdd36dc8822979121561ac5a2fd13b35352fac95baff8cbf2ec4473e0e7b102", func := "handloom/handloomlaw04.AstParts", spec := "astParts", unfollowed := true, recurses := true, loops := true, apart := false, narrowed := true }
def AstPartsUptoSaid : Prop := astPartsUptoRow.holds Tryz.pinned (OpenSpec.upto astPartsSpec)

/-- 'handloomlaw04.AstSame', WHERE WHAT IT READS IS OF BULK AT MOST 1048576: true; the input reads as it did. -/
def astSameUptoRow : OpenClaim := { program := "ytcmnjodjebcapaagreat", sum := "2fdd36dc8822979121561ac5a2fd13b35352fac95baff8cbf2ec4473e0e7b102", func := "handloom/handloomlaw04.AstSame", spec := "astSame", unfollowed := true, recurses := true, loops := true, apart := false, narrowed := true }
def AstSameUptoSaid : Prop := astSameUptoRow.holds Tryz.pinned (OpenSpec.upto astSameSpec)

end Rows
end Go.Proofs.YtcmnjodjebcapaaGreat
