/-
  Texts of one proof, in their order. No condition.
-/
import Derived.WalkKit
import Derived.ProofKit
import Derived.OpenShut
import Derived.Carry
import Derived.ChangeSlices
import Derived.ChangeMaps5
import Derived.Test.YtjhnmikciejekaaGreatPqPkb
set_option linter.unusedSectionVars false
set_option linter.unusedSimpArgs false
set_option linter.unusedVariables false
namespace Go.Proofs.YtjhnmikciejekaaGreat.Deep
open Go.RowKit
set_option linter.unusedVariables false
inductive TS where
  | leaf
  | node (k : Nat) (x : Sg) (l r : TS)
def lookS (t : Nat) : TS → Option Sg
  | .leaf => none
  | .node k x l r => match Nat.beq t k with
    | true => some x
    | false => match Nat.ble t k with | true => lookS t l | false => lookS t r
def tblS : TS := (.node 108 (.thr [.sh (.ptr 0 0), .weak, .weak] [.cells [.list, .bool]] [.cell (.int .i64)] [.cells [.list, .bool]]) (.node 55 (.pure [[]]) (.node 29 (.eff [.sh (.ptr 0 0), .weak, .weak] [.cells [.list, .int .i64, .int .i64, .int .i64, .int .i64]] [.agg [.list, .list, .int .i64, .int .i64, .int .i64, .str, .list, .int .i64, .int .i64, .int .i64, .int .i64, .int .i64, .list, .str, .list, .list, .list], .agg [.bool, .bool, .bool]] [.cells [.list, .int .i64, .int .i64, .int .i64, .int .i64]]) (.node 16 (.pure [[.cell (.bool)]]) (.node 9 (.pure [[.agg [.list, .list, .int .i64, .int .i64, .int .i64, .str, .list, .int .i64, .int .i64, .int .i64, .int .i64, .int .i64, .list, .str, .list, .list, .list], .agg [.int .i64, .int .i64, .int .i64]]]) (.node 6 (.pure [[.cell (.bool)]]) (.node 4 (.pure [[.cell (.bool)]]) (.node 3 (.pure [[.cell (.bool)]]) .leaf .leaf) (.node 5 (.pure [[.cell (.bool)]]) .leaf .leaf)) (.node 8 (.pure [[.agg [.list, .list, .int .i64, .int .i64, .int .i64, .str, .list, .int .i64, .int .i64, .int .i64, .int .i64, .int .i64, .list, .str, .list, .list, .list], .agg [.int .i64, .int .i64, .int .i64]]]) (.node 7 (.pure [[.cell (.bool)]]) .leaf .leaf) .leaf)) (.node 13 (.pure [[.agg [.int .i64, .str, .list], .agg [.int .i64, .int .i64, .int .i64]]]) (.node 11 (.pure [[.agg [.int .i64, .int .i64, .int .i64, .int .i64, .list, .str, .list, .list], .agg [.int .i64, .int .i64, .int .i64]]]) (.node 10 (.pure [[.cell (.bool)]]) .leaf .leaf) (.node 12 (.pure [[.agg [.int .i64, .int .i64, .int .i64, .int .i64, .list, .str, .list, .list], .agg [.int .i64, .int .i64, .int .i64]]]) .leaf .leaf)) (.node 15 (.pure [[.cell (.bool)]]) (.node 14 (.pure [[.agg [.int .i64, .str, .list], .agg [.int .i64, .int .i64, .int .i64]]]) .leaf .leaf) .leaf))) (.node 23 (.pure [[.cell (.bool)]]) (.node 20 (.pure [[.cell (.bool)]]) (.node 18 (.pure [[.cell (.bool)]]) (.node 17 (.pure [[.cell (.bool)]]) .leaf .leaf) (.node 19 (.pure [[.cell (.bool)]]) .leaf .leaf)) (.node 22 (.pure [[.cell (.str)]]) (.node 21 (.pure [[.cell (.list), .agg [.int .i64, .int .i64, .int .i64]]]) .leaf .leaf) .leaf)) (.node 26 (.thr [.sh (.ptr 0 0)] [.cells [.list, .bool]] [.agg [.list, .list, .int .i64, .int .i64, .int .i64, .str, .list, .int .i64, .int .i64, .int .i64, .int .i64, .int .i64, .list, .str, .list, .list, .list]] [.cells [.list, .bool]]) (.node 25 (.pure [[.agg [.list, .list, .int .i64, .int .i64, .int .i64, .str, .list, .int .i64, .int .i64, .int .i64, .int .i64, .int .i64, .list, .str, .list, .list, .list], .agg [.int .i64, .int .i64, .int .i64]]]) (.node 24 (.pure [[.cell (.int .i64)]]) .leaf .leaf) .leaf) (.node 28 (.eff [.sh (.ptr 0 0)] [.cells [.list, .int .i64, .int .i64, .int .i64, .int .i64]] [.agg [.int .i64, .str, .int .i64, .list, .int .i64, .int .i64]] [.keep]) (.node 27 (.eff [.sh (.ptr 0 0)] [.cells [.list, .int .i64, .int .i64, .int .i64, .int .i64]] [.cell (.bool)] [.keep]) .leaf .leaf) .leaf)))) (.node 42 (.pure [[.cell (.bool)]]) (.node 36 (.thr [.sh (.ptr 0 0)] [.cells [.list, .bool]] [.agg [.int .i64, .str, .list]] [.cells [.list, .bool]]) (.node 33 (.eff [.sh (.ptr 0 0)] [.cells [.list, .int .i64, .int .i64, .int .i64, .int .i64]] [.agg [.int .i64, .int .i64, .int .i64, .int .i64, .list, .str, .list, .list]] [.cells [.list, .int .i64, .int .i64, .int .i64, .int .i64]]) (.node 31 (.pure [[.agg [.int .i64, .int .i64, .int .i64, .int .i64, .list, .str, .list, .list], .agg [.int .i64, .int .i64, .int .i64]]]) (.node 30 (.eff [.sh (.ptr 0 0), .weak, .weak] [.cells [.list, .int .i64, .int .i64, .int .i64, .int .i64]] [] [.cells [.list, .int .i64, .int .i64, .int .i64, .int .i64]]) .leaf .leaf) (.node 32 (.thr [.sh (.ptr 0 0)] [.cells [.list, .bool]] [.agg [.int .i64, .int .i64, .int .i64, .int .i64, .list, .str, .list, .list]] [.cells [.list, .bool]]) .leaf .leaf)) (.node 35 (.pure [[.agg [.int .i64, .str, .list], .agg [.int .i64, .int .i64, .int .i64]]]) (.node 34 (.eff [.sh (.ptr 0 0), .weak] [.cells [.list, .int .i64, .int .i64, .int .i64, .int .i64]] [.agg [.int .i64, .str, .int .i64, .list, .int .i64, .int .i64]] [.cells [.list, .int .i64, .int .i64, .int .i64, .int .i64]]) .leaf .leaf) .leaf)) (.node 39 (.pure [[.cell (.bool)]]) (.node 38 (.pure [[.cell (.bool)]]) (.node 37 (.eff [.sh (.ptr 0 0)] [.cells [.list, .int .i64, .int .i64, .int .i64, .int .i64]] [.agg [.int .i64, .str, .list]] [.cells [.list, .int .i64, .int .i64, .int .i64, .int .i64]]) .leaf .leaf) .leaf) (.node 41 (.pure [[.cell (.bool)]]) (.node 40 (.pure [[.cell (.bool)]]) .leaf .leaf) .leaf))) (.node 49 (.pure [[.agg [.int .i64, .int .i64]]]) (.node 46 (.pure [[.cell (.list), .agg [.int .i64, .int .i64, .int .i64]]]) (.node 44 (.pure [[.cell (.bool)]]) (.node 43 (.pure [[.cell (.bool)]]) .leaf .leaf) (.node 45 (.pure [[.cell (.bool)]]) .leaf .leaf)) (.node 48 (.pure [[.agg [.int .i64, .str, .int .i64, .list, .int .i64, .int .i64], .cell (.int .i64), .cell (.int .i64)]]) (.node 47 (.pure [[.cell (.bool)]]) .leaf .leaf) .leaf)) (.node 52 (.pure [[.cell (.bool)]]) (.node 51 (.pure [[.cell (.bool)]]) (.node 50 (.pure [[.cell (.str)]]) .leaf .leaf) .leaf) (.node 54 (.pure [[.cell (.int .i64)]]) (.node 53 (.pure [[.cell (.bool)]]) .leaf .leaf) .leaf))))) (.node 82 (.eff [.sh (.ptr 0 0), .weak] [.cells [.list, .bool]] [.cell (.bool)] [.keep]) (.node 69 (.eff [.sh (.ptr 0 0), .weak] [.cells [.list, .int .i64, .int .i64, .int .i64, .int .i64]] [] [.cells [.list, .int .i64, .int .i64, .int .i64, .int .i64]]) (.node 62 (.eff [.sh (.ptr 0 0), .weak, .weak] [.cells [.list, .int .i64, .int .i64, .int .i64, .int .i64]] [] [.cells [.list, .int .i64, .int .i64, .int .i64, .int .i64]]) (.node 59 (.thr [.sh (.ptr 0 0), .sh (.ptr 1 0)] [.cells [.list, .bool], .cells [.own 2 79 4, .own 3 82 15, .int .i64, .int .i64, .int .i64, .str, .list, .int .i64, .int .i64, .int .i64, .int .i64, .int .i64, .list, .str, .list, .list, .own 4 86 16, .bool, .bool, .bool], .tip, .tip, .tip] [] [.cells [.list, .bool], .cells [.own 5 79 4, .own 6 82 15, .int .i64, .int .i64, .int .i64, .str, .list, .int .i64, .int .i64, .int .i64, .int .i64, .int .i64, .list, .str, .list, .list, .own 7 86 16, .bool, .bool, .bool], .dead, .dead, .dead, .tip, .tip, .tip]) (.node 57 (.thr [.sh (.ptr 0 0)] [.cells [.list, .bool]] [] [.cells [.list, .bool]]) (.node 56 (.pure [[.cell (.list), .agg [.int .i64, .int .i64, .int .i64]]]) .leaf .leaf) (.node 58 (.eff [.sh (.ptr 0 0)] [.cells [.list, .bool]] [.cell (.bool)] [.keep]) .leaf .leaf)) (.node 61 (.eff [.sh (.ptr 0 0), .weak] [.cells [.list, .int .i64, .int .i64, .int .i64, .int .i64]] [.cell (.bool)] [.keep]) (.node 60 (.eff [.sh (.ptr 0 0)] [.cells [.list, .bool]] [.agg [.int .i64, .str, .int .i64, .list, .int .i64, .int .i64]] [.keep]) .leaf .leaf) .leaf)) (.node 66 (.eff [.sh (.ptr 0 0), .weak] [.cells [.list, .int .i64, .int .i64, .int .i64, .int .i64]] [.cell (.bool)] [.cells [.list, .int .i64, .int .i64, .int .i64, .int .i64]]) (.node 64 (.eff [.sh (.ptr 0 0), .weak] [.cells [.list, .int .i64, .int .i64, .int .i64, .int .i64]] [.agg [.int .i64, .int .i64, .str, .list, .int .i64, .str, .list, .int .i64, .int .i64, .int .i64, .int .i64, .list, .str, .list, .list]] [.cells [.list, .int .i64, .int .i64, .int .i64, .int .i64]]) (.node 63 (.eff [.sh (.ptr 0 0), .weak] [.cells [.list, .int .i64, .int .i64, .int .i64, .int .i64]] [.agg [.int .i64, .int .i64, .str, .list]] [.cells [.list, .int .i64, .int .i64, .int .i64, .int .i64]]) .leaf .leaf) (.node 65 (.eff [.sh (.ptr 0 0), .weak] [.cells [.list, .int .i64, .int .i64, .int .i64, .int .i64]] [.agg [.int .i64, .int .i64, .str, .str, .int .i64, .str, .list, .int .i64, .int .i64, .int .i64, .int .i64, .int .i64, .list, .str, .list, .list]] [.cells [.list, .int .i64, .int .i64, .int .i64, .int .i64]]) .leaf .leaf)) (.node 68 (.eff [.sh (.ptr 0 0), .weak, .weak] [.cells [.list, .int .i64, .int .i64, .int .i64, .int .i64]] [.cell (.int .i64)] [.cells [.list, .int .i64, .int .i64, .int .i64, .int .i64]]) (.node 67 (.eff [.sh (.ptr 0 0), .weak, .weak] [.cells [.list, .int .i64, .int .i64, .int .i64, .int .i64]] [] [.cells [.list, .int .i64, .int .i64, .int .i64, .int .i64]]) .leaf .leaf) .leaf))) (.node 76 (.thr [.sh (.ptr 0 0)] [.cells [.list, .bool]] [.agg [.int .i64, .int .i64, .int .i64, .int .i64, .list, .str, .list, .list]] [.cells [.list, .bool]]) (.node 73 (.thr [.sh (.ptr 0 0)] [.cells [.list, .bool]] [.agg [.int .i64, .int .i64, .int .i64, .int .i64, .list, .str, .list, .list]] [.cells [.list, .bool]]) (.node 71 (.eff [.sh (.ptr 0 0)] [.cells [.list, .bool]] [.cell (.str)] [.keep]) (.node 70 (.pure [[]]) .leaf .leaf) (.node 72 (.thr [.sh (.ptr 0 0)] [.cells [.list, .bool]] [.agg [.int .i64, .int .i64, .int .i64, .int .i64, .list, .str, .list, .list]] [.cells [.list, .bool]]) .leaf .leaf)) (.node 75 (.thr [.sh (.ptr 0 0)] [.cells [.list, .bool]] [.agg [.int .i64, .int .i64, .int .i64, .int .i64, .list, .str, .list, .list]] [.cells [.list, .bool]]) (.node 74 (.thr [.sh (.ptr 0 0)] [.cells [.list, .bool]] [.agg [.int .i64, .int .i64, .int .i64, .int .i64, .list, .str, .list, .list]] [.cells [.list, .bool]]) .leaf .leaf) .leaf)) (.node 79 (.eff [.sh (.ptr 0 0), .asis] [.cells [.list, .int .i64, .int .i64, .int .i64, .int .i64]] [.agg [.int .i64, .int .i64, .int .i64, .int .i64, .list, .str, .list, .list]] [.cells [.list, .int .i64, .int .i64, .int .i64, .int .i64]]) (.node 78 (.eff [.sh (.ptr 0 0), .weak] [.cells [.list, .int .i64, .int .i64, .int .i64, .int .i64]] [.agg [.int .i64, .int .i64, .int .i64, .int .i64, .list, .str, .list, .list]] [.cells [.list, .int .i64, .int .i64, .int .i64, .int .i64]]) (.node 77 (.eff [.sh (.ptr 0 0)] [.cells [.list, .int .i64, .int .i64, .int .i64, .int .i64]] [.cell (.str)] [.cells [.list, .int .i64, .int .i64, .int .i64, .int .i64]]) .leaf .leaf) .leaf) (.node 81 (.pure [[]]) (.node 80 (.eff [.sh (.ptr 0 0)] [.cells [.list, .int .i64, .int .i64, .int .i64, .int .i64]] [.agg [.int .i64, .int .i64, .int .i64, .int .i64, .list, .str, .list, .list]] [.cells [.list, .int .i64, .int .i64, .int .i64, .int .i64]]) .leaf .leaf) .leaf)))) (.node 95 (.pure [[.agg [.int .i64, .int .i64]]]) (.node 89 (.pure [[.cell (.bool)]]) (.node 86 (.pure [[.cell (.bool)]]) (.node 84 (.thr [.sh (.ptr 0 0)] [.cells [.list, .bool]] [.cell (.str)] [.cells [.list, .bool]]) (.node 83 (.thr [.sh (.ptr 0 0)] [.cells [.list, .bool]] [.agg [.int .i64, .str, .list]] [.cells [.list, .bool]]) .leaf .leaf) (.node 85 (.pure [[.cell (.int .i64)]]) .leaf .leaf)) (.node 88 (.pure [[.cell (.int .i32), .cell (.int .i64)]]) (.node 87 (.pure [[.cell (.bool)]]) .leaf .leaf) .leaf)) (.node 92 (.pure [[.cell (.bool)]]) (.node 91 (.pure [[.cell (.bool)]]) (.node 90 (.pure [[.cell (.bool)]]) .leaf .leaf) .leaf) (.node 94 (.pure [[.cell (.bool)]]) (.node 93 (.pure [[.cell (.bool)]]) .leaf .leaf) .leaf))) (.node 102 (.pure [[.agg [.int .i64, .str, .int .i64, .list, .int .i64, .int .i64], .cell (.int .i64)]]) (.node 99 (.pure [[.cell (.str)]]) (.node 97 (.pure [[.cell (.bool)]]) (.node 96 (.pure [[.cell (.str), .cell (.int .i64)]]) .leaf .leaf) (.node 98 (.pure [[.cell (.list), .cell (.int .i64), .cell (.int .i64)]]) .leaf .leaf)) (.node 101 (.pure [[.agg [.int .i64, .int .i64]]]) (.node 100 (.pure [[.cell (.list), .agg [.int .i64, .int .i64, .int .i64]]]) .leaf .leaf) .leaf)) (.node 105 (.thr [.sh (.ptr 0 0)] [.cells [.list, .bool]] [.agg [.int .i64, .int .i64, .str, .list, .int .i64, .str, .list, .int .i64, .int .i64, .int .i64, .int .i64, .list, .str, .list, .list]] [.cells [.list, .bool]]) (.node 104 (.thr [.sh (.ptr 0 0)] [.cells [.list, .bool]] [.agg [.int .i64, .int .i64, .str, .list]] [.cells [.list, .bool]]) (.node 103 (.eff [.sh (.ptr 0 0)] [.cells [.list, .bool]] [.agg [.int .i64, .int .i64, .int .i64]] [.keep]) .leaf .leaf) .leaf) (.node 107 (.thr [.sh (.ptr 0 0), .pa 1] [.cells [.list, .bool], .cells [.own 2 79 4, .own 3 82 15, .int .i64, .int .i64, .int .i64, .str, .list, .int .i64, .int .i64, .int .i64, .int .i64, .int .i64, .list, .str, .list, .list, .own 4 86 16, .bool, .bool, .bool], .tip, .tip, .tip] [] [.cells [.list, .bool], .cells [.own 2 79 4, .own 3 82 15, .int .i64, .int .i64, .int .i64, .str, .list, .int .i64, .int .i64, .int .i64, .int .i64, .int .i64, .list, .str, .list, .list, .own 4 86 16, .bool, .bool, .bool], .keep, .keep, .keep]) (.node 106 (.thr [.sh (.ptr 0 0)] [.cells [.list, .bool]] [.agg [.int .i64, .int .i64, .str, .str, .int .i64, .str, .list, .int .i64, .int .i64, .int .i64, .int .i64, .int .i64, .list, .str, .list, .list]] [.cells [.list, .bool]]) .leaf .leaf) .leaf)))))) (.node 161 (.pure [[.cell (.int .i64)]]) (.node 135 (.pure [[.cell (.bool)]]) (.node 122 (.thr [.sh (.ptr 0 0), .weak, .weak] [.cells [.list, .bool]] [.cell (.int .i64)] [.cells [.list, .bool]]) (.node 115 (.thr [.sh (.ptr 0 0)] [.cells [.list, .bool]] [.agg [.int .i64, .str, .int .i64, .list, .int .i64, .int .i64]] [.cells [.list, .bool]]) (.node 112 (.eff [.sh (.ptr 0 0)] [.cells [.list, .int .i64, .int .i64, .int .i64, .int .i64]] [.agg [.str, .list]] [.cells [.list, .int .i64, .int .i64, .int .i64, .int .i64]]) (.node 110 (.thr [.sh (.ptr 0 0)] [.cells [.list, .bool]] [.agg [.int .i64, .int .i64, .int .i64, .int .i64, .list, .str, .list, .list]] [.cells [.list, .bool]]) (.node 109 (.thr [.sh (.ptr 0 0), .weak] [.cells [.list, .bool]] [.cell (.int .i64)] [.cells [.list, .bool]]) .leaf .leaf) (.node 111 (.eff [.sh (.ptr 0 0), .weak] [.cells [.list, .int .i64, .int .i64, .int .i64, .int .i64]] [.cell (.str)] [.cells [.list, .int .i64, .int .i64, .int .i64, .int .i64]]) .leaf .leaf)) (.node 114 (.eff [.sh (.ptr 0 0), .weak] [.cells [.list, .bool]] [.cell (.str)] [.keep]) (.node 113 (.eff [.sh (.ptr 0 0)] [.cells [.list, .int .i64, .int .i64, .int .i64, .int .i64]] [.agg [.str, .int .i64, .str, .list]] [.cells [.list, .int .i64, .int .i64, .int .i64, .int .i64]]) .leaf .leaf) .leaf)) (.node 119 (.thr [.sh (.ptr 0 0), .weak] [.cells [.list, .bool]] [.cell (.bool)] [.cells [.list, .bool]]) (.node 117 (.thr [.weak] [] [.agg [.int .i64, .int .i64, .int .i64, .int .i64, .list, .str, .list, .list]] []) (.node 116 (.thr [.sh (.ptr 0 0), .weak] [.cells [.list, .bool]] [.agg [.int .i64, .int .i64, .int .i64, .int .i64, .list, .str, .list, .list]] [.cells [.list, .bool]]) .leaf .leaf) (.node 118 (.thr [.sh (.ptr 0 0), .weak] [.cells [.list, .bool]] [] [.cells [.list, .bool]]) .leaf .leaf)) (.node 121 (.thr [.sh (.ptr 0 0)] [.cells [.list, .bool]] [.agg [.int .i64, .int .i64, .int .i64, .str, .int .i64, .list, .int .i64, .int .i64, .int .i64, .int .i64, .list, .str, .list, .list]] [.cells [.list, .bool]]) (.node 120 (.thr [.sh (.ptr 0 0), .weak, .weak, .fp 0 0] [.cells [.list, .bool]] [.cell (.list)] [.cells [.list, .bool]]) .leaf .leaf) .leaf))) (.node 129 (.eff [.sh (.ptr 0 0), .weak, .weak] [.cells [.list, .int .i64, .int .i64, .int .i64, .int .i64]] [.cell (.int .i64)] [.keep]) (.node 126 (.thr [.sh (.ptr 0 0), .weak, .weak, .fp 0 0] [.cells [.list, .bool]] [.agg [.int .i64, .int .i64, .int .i64, .int .i64, .list, .str, .list, .list]] [.cells [.list, .bool]]) (.node 124 (.pure [[.cell (.int .i64), .cell (.bool)]]) (.node 123 (.thr [.sh (.ptr 0 0)] [.cells [.list, .bool]] [.agg [.int .i64, .int .i64, .int .i64, .int .i64, .list, .str, .list, .list]] [.cells [.list, .bool]]) .leaf .leaf) (.node 125 (.eff [.sh (.ptr 0 0)] [.cells [.list, .bool]] [.cell (.str)] [.keep]) .leaf .leaf)) (.node 128 (.eff [.sh (.ptr 0 0)] [.cells [.list, .int .i64, .int .i64, .int .i64, .int .i64]] [.agg [.int .i64, .int .i64, .int .i64, .int .i64, .list, .str, .list, .list]] [.cells [.list, .int .i64, .int .i64, .int .i64, .int .i64]]) (.node 127 (.eff [.sh (.ptr 0 0)] [.cells [.list, .int .i64, .int .i64, .int .i64, .int .i64]] [.agg [.int .i64, .int .i64, .int .i64, .str, .int .i64, .list]] [.cells [.list, .int .i64, .int .i64, .int .i64, .int .i64]]) .leaf .leaf) .leaf)) (.node 132 (.thr [.weak, .weak] [] [.agg [.int .i64, .str, .list]] []) (.node 131 (.thr [.sh (.ptr 0 0), .weak, .weak, .fp 0 0] [.cells [.list, .bool]] [.cell (.list)] [.cells [.list, .bool]]) (.node 130 (.eff [.sh (.ptr 0 0), .weak, .weak, .weak, .weak] [.cells [.list, .int .i64, .int .i64, .int .i64, .int .i64]] [.agg [.int .i64, .int .i64, .int .i64, .int .i64, .list, .str, .list, .list]] [.cells [.list, .int .i64, .int .i64, .int .i64, .int .i64]]) .leaf .leaf) .leaf) (.node 134 (.pure [[.cell (.int .i32), .cell (.bool)]]) (.node 133 (.thr [.sh (.ptr 0 0), .weak] [.cells [.list, .bool]] [.agg [.int .i64, .str, .int .i64, .list, .int .i64, .int .i64]] [.cells [.list, .bool]]) .leaf .leaf) .leaf)))) (.node 148 (.pure [[.cell (.str), .cell (.int .i64)]]) (.node 142 (.pure [[.agg [.int .i64, .int .i64]]]) (.node 139 (.pure [[.cell (.int .i64)]]) (.node 137 (.pure [[.cell (.int .i64)]]) (.node 136 (.pure [[.cell (.bool)]]) .leaf .leaf) (.node 138 (.pure [[.cell (.list)]]) .leaf .leaf)) (.node 141 (.pure [[.cell (.bool)]]) (.node 140 (.pure [[.agg [.int .i64, .int .i64]]]) .leaf .leaf) .leaf)) (.node 145 (.pure [[.cell (.int .i32)]]) (.node 144 (.pure [[.agg [.int .i64, .int .i64]]]) (.node 143 (.pure [[]]) .leaf .leaf) .leaf) (.node 147 (.pure [[.cell (.bool)]]) (.node 146 (.pure [[.cell (.bool)]]) .leaf .leaf) .leaf))) (.node 155 (.pure [[.cell (.bool)]]) (.node 152 (.pure [[.cell (.list), .cell (.int .i64)]]) (.node 150 (.pure [[.cell (.bool)]]) (.node 149 (.pure [[.cell (.int .i64)]]) .leaf .leaf) (.node 151 (.pure [[.cell (.int .i64), .cell (.int .i64)]]) .leaf .leaf)) (.node 154 (.thr [.sh (.ptr 0 0), .weak] [.cells [.list, .bool]] [.cell (.str)] [.cells [.list, .bool]]) (.node 153 (.pure [[.cell (.str), .cell (.int .i64)]]) .leaf .leaf) .leaf)) (.node 158 (.pure [[.cell (.bool)]]) (.node 157 (.thr [.sh (.ptr 0 0)] [.cells [.list, .bool]] [.agg [.str, .list]] [.cells [.list, .bool]]) (.node 156 (.thr [.sh (.ptr 0 0), .weak, .weak, .fp 0 0] [.cells [.list, .bool]] [.cell (.list)] [.cells [.list, .bool]]) .leaf .leaf) .leaf) (.node 160 (.thr [.sh (.ptr 0 0)] [.cells [.list, .bool]] [.agg [.str, .int .i64, .str, .list]] [.cells [.list, .bool]]) (.node 159 (.thr [.sh (.ptr 0 0), .weak, .weak, .fp 0 0] [.cells [.list, .bool]] [.cell (.list)] [.cells [.list, .bool]]) .leaf .leaf) .leaf))))) (.node 188 (.pure [[.cell (.int .i64)]]) (.node 175 (.pure [[.cell (.bool)]]) (.node 168 (.thr [.sh (.ptr 0 0)] [.cells [.list, .bool]] [.agg [.int .i64, .int .i64, .int .i64, .int .i64, .list, .str, .list, .list]] [.cells [.list, .bool]]) (.node 165 (.thr [.sh (.ptr 0 0)] [.cells [.list, .bool]] [.agg [.int .i64, .int .i64, .int .i64, .str, .int .i64, .list]] [.cells [.list, .bool]]) (.node 163 (.thr [.weak, .weak] [] [] []) (.node 162 (.pure [[.cell (.int .i64)]]) .leaf .leaf) (.node 164 (.pure [[.cell (.int .i64)]]) .leaf .leaf)) (.node 167 (.pure [[.cell (.int .i64), .cell (.bool)]]) (.node 166 (.thr [.sh (.ptr 0 0), .weak, .fp 0 0] [.cells [.list, .bool]] [.agg [.int .i64, .int .i64, .int .i64, .int .i64, .list, .str, .list, .list]] [.cells [.list, .bool]]) .leaf .leaf) .leaf)) (.node 171 (.pure [[.cell (.int .i64)]]) (.node 170 (.eff [.sh (.ptr 0 0)] [.cells [.list, .int .i64, .int .i64, .int .i64, .int .i64]] [.agg [.int .i64, .int .i64, .int .i64, .int .i64, .list, .str, .list, .list]] [.cells [.list, .int .i64, .int .i64, .int .i64, .int .i64]]) (.node 169 (.eff [.sh (.ptr 0 0)] [.cells [.list, .int .i64, .int .i64, .int .i64, .int .i64]] [.cell (.list)] [.cells [.list, .int .i64, .int .i64, .int .i64, .int .i64]]) .leaf .leaf) .leaf) (.node 174 (.pure [[.cell (.bool)]]) (.node 172 (.pure [[.cell (.bool)]]) .leaf .leaf) .leaf))) (.node 182 (.pure [[.cell (.int .u8), .cell (.bool)]]) (.node 179 (.pure [[.cell (.int .i32)]]) (.node 177 (.pure [[.cell (.bool)]]) (.node 176 (.pure [[.cell (.bool)]]) .leaf .leaf) (.node 178 (.pure [[.cell (.bool)]]) .leaf .leaf)) (.node 181 (.pure [[.cell (.list)]]) (.node 180 (.pure [[.cell (.bool)]]) .leaf .leaf) .leaf)) (.node 185 (.thr [.sh (.ptr 0 0), .weak, .weak, .fp 0 0] [.cells [.list, .bool]] [.cell (.list)] [.cells [.list, .bool]]) (.node 184 (.pure [[.cell (.int .i64), .cell (.bool)]]) (.node 183 (.pure [[.cell (.str)]]) .leaf .leaf) .leaf) (.node 187 (.pure [[.cell (.int .i64)]]) (.node 186 (.pure [[.cell (.int .i64)]]) .leaf .leaf) .leaf)))) (.node 201 (.pure [[.cell (.int .i32)]]) (.node 195 (.eff [.sh (.ptr 0 0)] [.cells [.list, .int .i64, .int .i64, .int .i64, .int .i64]] [.agg [.int .i64, .int .i64, .int .i64, .int .i64, .list, .str, .list, .list]] [.cells [.list, .int .i64, .int .i64, .int .i64, .int .i64]]) (.node 192 (.thr [.sh (.ptr 0 0)] [.cells [.list, .bool]] [.agg [.int .i64, .int .i64, .int .i64, .str, .int .i64, .list]] [.cells [.list, .bool]]) (.node 190 (.thr [.weak] [] [.agg [.int .i64, .int .i64, .int .i64, .str, .int .i64, .list]] []) (.node 189 (.thr [.sh (.ptr 0 0)] [.cells [.list, .bool]] [.cell (.int .i64)] [.cells [.list, .bool]]) .leaf .leaf) (.node 191 (.thr [.sh (.ptr 0 0), .fp 0 0] [.cells [.list, .bool]] [.cell (.list)] [.cells [.list, .bool]]) .leaf .leaf)) (.node 194 (.thr [.sh (.ptr 0 0)] [.cells [.list, .bool]] [.agg [.int .i64, .int .i64, .int .i64, .int .i64, .list, .str, .list, .list]] [.cells [.list, .bool]]) (.node 193 (.pure [[.cell (.int .i64), .cell (.bool)]]) .leaf .leaf) .leaf)) (.node 198 (.pure [[]]) (.node 197 (.pure [[.cell (.bool)]]) (.node 196 (.pure [[.cell (.int .i64)]]) .leaf .leaf) .leaf) (.node 200 (.pure [[.cell (.list)]]) (.node 199 (.pure [[.cell (.bool)]]) .leaf .leaf) .leaf))) (.node 208 (.eff [.sh (.ptr 0 0), .weak] [.cells [.list, .int .i64, .int .i64, .int .i64, .int .i64]] [.cell (.list)] [.cells [.list, .int .i64, .int .i64, .int .i64, .int .i64]]) (.node 205 (.thr [.sh (.ptr 0 0), .fp 0 0] [.cells [.list, .bool]] [.cell (.list)] [.cells [.list, .bool]]) (.node 203 (.thr [.sh (.ptr 0 0), .weak, .weak, .fp 0 0] [.cells [.list, .bool]] [.cell (.list)] [.cells [.list, .bool]]) (.node 202 (.pure [[.cell (.int .i64)]]) .leaf .leaf) (.node 204 (.thr [.sh (.ptr 0 0)] [.cells [.list, .bool]] [.agg [.int .i64, .int .i64, .int .i64, .int .i64, .list, .str, .list, .list]] [.cells [.list, .bool]]) .leaf .leaf)) (.node 207 (.eff [.sh (.ptr 0 0), .weak] [.cells [.list, .int .i64, .int .i64, .int .i64, .int .i64]] [.agg [.int .i64, .int .i64, .int .i64, .int .i64, .list, .str, .list, .list]] [.cells [.list, .int .i64, .int .i64, .int .i64, .int .i64]]) (.node 206 (.thr [.sh (.ptr 0 0)] [.cells [.list, .bool]] [.agg [.int .i64, .int .i64, .int .i64, .int .i64, .list, .str, .list, .list]] [.cells [.list, .bool]]) .leaf .leaf) .leaf)) (.node 211 (.thr [.sh (.ptr 0 0), .weak, .weak, .fp 0 0] [.cells [.list, .bool]] [.cell (.list)] [.cells [.list, .bool]]) (.node 210 (.pure [[.cell (.int .i64)]]) (.node 209 (.pure [[.cell (.list)]]) .leaf .leaf) .leaf) (.node 213 (.thr [.sh (.ptr 0 0), .weak, .weak, .fp 0 0] [.cells [.list, .bool]] [.cell (.list)] [.cells [.list, .bool]]) (.node 212 (.thr [.sh (.ptr 0 0), .weak, .weak, .fp 0 0] [.cells [.list, .bool]] [.cell (.list)] [.cells [.list, .bool]]) .leaf .leaf) .leaf)))))))
def S (f : FuncId) : Option Sg := lookS f tblS
instance : Coe Int PV := ⟨fun n => .con (.int .i64 n)⟩
instance : Coe Bool PV := ⟨fun b => .con (.bool b)⟩
instance : Coe ByteArray PV := ⟨fun s => .con (.string s)⟩
instance : Coe (List (List PV)) PV := ⟨fun l => .sl l⟩
theorem mixed : Tryz.prog.follows .mixedOrders = true := by kernel_rfl
def bodyOf (f : Func) : Code := match f.body with | some c => c | none => .skip
end Go.Proofs.YtjhnmikciejekaaGreat.Deep

namespace Go.Proofs.YtjhnmikciejekaaGreat.Deep
open Go.ChangeShapes Go.WideShapes Go.ChangeAt Go.RowKit
set_option linter.unusedVariables false
theorem args_again {H : Type} {enc : TypeId × Value → H} {P : Program} {W W' : World} (hl : laidOutB P = true) (hb : Below W.heap.size W W') : ∀ (ts : List TypeId), (∀ t ∈ ts, P.readableRec t = true ∧ t < P.types.size) → ∀ (vs : List Value) (ds : List (DataW H)) (ps : List MemPlace),
    DataW.TrodAll enc P W 0 (fun _ => true) true ts vs ds ps → (∀ x ∈ ps, x.block < W.heap.size) → ∀ sp : Nat → Bool, (∀ x ∈ ps, sp x.block = true) → DataW.TrodAll enc P W' 0 sp true ts vs ds ps := by
  intro ts
  induction ts with
  | nil => intro _ vs ds ps h _ sp _; obtain ⟨rfl, rfl, rfl⟩ := trodAll_nil h; exact trodAll_mk0
  | cons t ts ih =>
    intro ht vs ds ps h hlt sp hsp
    obtain ⟨v, vs1, d, ds1, a, b, rfl, rfl, rfl, h1, h2⟩ := trodAll_cons h
    have h0 := ht t (by simp)
    exact trodAll_cons_mk (WideElems.Trod_stays hl h0.1 h0.2 h1 (fun x hx => hb.same (hlt x (List.mem_append_left _ hx))) (fun x hx => hsp x (List.mem_append_left _ hx)))
      (ih (fun t h => ht t (by simp [h])) _ _ _ h2 (fun x hx => hlt x (List.mem_append_right _ hx)) sp (fun x hx => hsp x (List.mem_append_right _ hx)))
theorem post_law {H : Type} {enc : TypeId × Value → H} {P : Program} {f : Func} {s : ChangeSpec} {apart fresh handsOn : Bool} {W W' : World} {args : Array Value} {v : Value} {ds gs : List (DataW H)} {before pa pv : List MemPlace}
    (hW : DataW.Whole enc P f.params.toList s.vars apart W args.toList ds gs before)
    (hres : ∀ (b : Nat) (sp : Nat → Bool) (hd : Bool), DataW.TrodAll enc P W' b sp hd f.resultTypes.toList (v.resultList f.resultTypes.size) (s.fn H (ds ++ gs)).results [])
    (hargs : ∀ sp : Nat → Bool, (∀ p ∈ before, sp p.block = true) → DataW.TrodAll enc P W' 0 sp true f.params.toList args.toList (s.fn H (ds ++ gs)).args pa)
    (hvars : ∀ sp : Nat → Bool, (∀ p ∈ before, sp p.block = true) → DataW.TrodVars enc P W' sp s.vars (s.fn H (ds ++ gs)).vars pv)
    (hps : before = pa ++ pv) (hb : Below W.heap.size W W') : s.post enc P f apart fresh handsOn false W args v W' := by
  have hold : ∀ p ∈ before, (fun b => decide (b < W.heap.size)) p.block = true := fun p hp => by simpa using hW.lt p hp
  exact ⟨ds, gs, before, [], pa, pv, hW, hres _ _ _, hargs _ hold, hvars _ hold, World.keptBut_mono (fun p hp => ⟨hp, Or.inr (List.mem_append.1 (hps ▸ hp))⟩) (hb.frame (· ∈ before)), fun h => by cases h⟩
theorem hs_start (P : Program) (W : World) : HS P (blockCells W) (fun _ => ⟨0, 0⟩) W [] := ⟨fun b hb => absurd hb (Nat.not_lt_zero _), fun b _ hb => absurd hb (Nat.not_lt_zero _), block_old⟩
theorem law_calls {f : FuncId} {ps : List PV} (h : PCalls Tryz.prog f ps (fun r => r = .con (.bool true))) {W : World} {vs : Array Value} (ha : Args (blockCells W) (fun _ => ⟨0, 0⟩) W 0 vs ps) : Calls Tryz.prog f vs W fun e W' => e = .returned (.bool true) ∧ Below W.heap.size W W' :=
  (h (blockCells W) (fun _ => ⟨0, 0⟩) W vs (hs_start _ W) ha).mono fun e W' ⟨v, r, h', G', m', he, ⟨hr, _⟩, hrep, _, hg⟩ => by
    subst hr
    obtain rfl := hrep.con_eq
    exact ⟨he, hg.below⟩
theorem args_list {w : World} {G : Nat → Nat} {m : Nat → Pl} {n : Nat} : ∀ (vs : List Value) (ps : List PV), vs.length = ps.length → (∀ i (h : i < vs.length) (h2 : i < ps.length), Rep G m w n vs[i] ps[i]) → Args G m w n vs.toArray ps := fun vs ps hl h => by
  refine ⟨by simpa using hl, fun i hi => ?_⟩
  have := h i (by omega) hi
  simp only [List.getD_eq_getElem?_getD, List.getElem?_eq_getElem hi, Option.getD_some]
  simpa [Array.getD, hl, hi] using this
end Go.Proofs.YtjhnmikciejekaaGreat.Deep

namespace Go.Proofs.YtjhnmikciejekaaGreat.Deep
open Go.ChangeShapes Go.WideShapes Go.ChangeAt Go.RowKit
set_option linter.unusedVariables false
theorem open_str {P : Program} {H : Type} {enc : TypeId × Value → H} {t : TypeId} (ht : P.underlying t = some .string) {W : World} {r : Reach} {b0 : Nat} {v : Value} {d : DataW H} {p : List MemPlace} (hv : Value.okWide P W r b0 t v)
    (h : DataW.Trod enc P W 0 (fun _ => true) true t v d p) : ∃ s : ByteArray, s.size ≤ maxLen ∧ Rep (blockCells W) (fun _ => ⟨0, 0⟩) W 0 v (.con (.string s)) := by
  obtain ⟨s, rfl, _, _, hs⟩ := ChangeMaps.open_string ht hv h
  exact ⟨s, hs, .con _ _⟩
end Go.Proofs.YtjhnmikciejekaaGreat.Deep

namespace Go.Proofs.YtjhnmikciejekaaGreat.Deep
open Go.RowKit
set_option linter.unusedVariables false
set_option linter.unusedSimpArgs false
inductive Ty where
  | mk (kind : Int) (name : ByteArray) (parts : List Ty)
inductive Pt where
  | mk (kind line col : Int) (name : ByteArray) (num : Int) (kids : List Pt)
inductive Ex where
  | mk (kind line col num : Int) (bytes : List UInt8) (name : ByteArray) (kids : List Ex) (pats : List Pt) (bodies : List Ex)
def Ty.zero : Ty := .mk 0 ⟨#[]⟩ []
def Pt.zero : Pt := .mk 0 0 0 ⟨#[]⟩ 0 []
def Ex.zero : Ex := .mk 0 0 0 0 [] ⟨#[]⟩ [] [] []
def Ty.kind : Ty → Int | .mk k _ _ => k
def Ty.name : Ty → ByteArray | .mk _ n _ => n
def Ty.parts : Ty → List Ty | .mk _ _ ps => ps
def Pt.kind : Pt → Int | .mk k _ _ _ _ _ => k
def Pt.line : Pt → Int | .mk _ l _ _ _ _ => l
def Pt.col : Pt → Int | .mk _ _ c _ _ _ => c
def Pt.name : Pt → ByteArray | .mk _ _ _ n _ _ => n
def Pt.num : Pt → Int | .mk _ _ _ _ m _ => m
def Pt.kids : Pt → List Pt | .mk _ _ _ _ _ ks => ks
def Ex.kind : Ex → Int | .mk k _ _ _ _ _ _ _ _ => k
def Ex.line : Ex → Int | .mk _ l _ _ _ _ _ _ _ => l
def Ex.col : Ex → Int | .mk _ _ c _ _ _ _ _ _ => c
def Ex.num : Ex → Int | .mk _ _ _ m _ _ _ _ _ => m
def Ex.bytes : Ex → List UInt8 | .mk _ _ _ _ b _ _ _ _ => b
def Ex.name : Ex → ByteArray | .mk _ _ _ _ _ n _ _ _ => n
def Ex.kids : Ex → List Ex | .mk _ _ _ _ _ _ ks _ _ => ks
def Ex.pats : Ex → List Pt | .mk _ _ _ _ _ _ _ ps _ => ps
def Ex.bodies : Ex → List Ex | .mk _ _ _ _ _ _ _ _ bs => bs
mutual
def tyP : Ty → List PV
  | .mk k n ps => [.con (.int .i64 k), .con (.string n), .sl (tyPs ps)]
def tyPs : List Ty → List (List PV)
  | [] => []
  | t :: ts => tyP t :: tyPs ts
end
mutual
def ptP : Pt → List PV
  | .mk k li co n m ks => [.con (.int .i64 k), .con (.int .i64 li), .con (.int .i64 co), .con (.string n), .con (.int .i64 m), .sl (ptPs ks)]
def ptPs : List Pt → List (List PV)
  | [] => []
  | t :: ts => ptP t :: ptPs ts
end
def byP (b : List UInt8) : List (List PV) := b.map fun x => [.con (.int .u8 (x.toNat : Int))]
mutual
def exP : Ex → List PV
  | .mk k li co m b n ks ps bs => [.con (.int .i64 k), .con (.int .i64 li), .con (.int .i64 co), .con (.int .i64 m), .sl (byP b), .con (.string n), .sl (exPs ks), .sl (arPs bs ps)]
def exPs : List Ex → List (List PV)
  | [] => []
  | t :: ts => exP t :: exPs ts
def arPs : List Ex → List Pt → List (List PV)
  | b :: bs, p :: ps => (ptP p ++ exP b) :: arPs bs ps
  | _, _ => []
end
theorem tyPs_len : ∀ ts : List Ty, (tyPs ts).length = ts.length
  | [] => rfl
  | t :: ts => by simp [tyPs, tyPs_len ts]
theorem ptPs_len : ∀ ts : List Pt, (ptPs ts).length = ts.length
  | [] => rfl
  | t :: ts => by simp [ptPs, ptPs_len ts]
theorem exPs_len : ∀ ts : List Ex, (exPs ts).length = ts.length
  | [] => rfl
  | t :: ts => by simp [exPs, exPs_len ts]
theorem arPs_len : ∀ (bs : List Ex) (ps : List Pt), ps.length = bs.length → (arPs bs ps).length = bs.length
  | [], ps, _ => by cases ps <;> rfl
  | b :: bs, [], h => by simp at h
  | b :: bs, p :: ps, h => by simp [arPs, arPs_len bs ps (by simpa using h)]
theorem tyPs_get : ∀ (ts : List Ty) (i : Nat) (h : i < ts.length), (tyPs ts)[i]? = some (tyP ts[i])
  | t :: ts, 0, _ => rfl
  | t :: ts, i + 1, h => by simpa [tyPs] using tyPs_get ts i (by simpa using h)
theorem ptPs_get : ∀ (ts : List Pt) (i : Nat) (h : i < ts.length), (ptPs ts)[i]? = some (ptP ts[i])
  | t :: ts, 0, _ => rfl
  | t :: ts, i + 1, h => by simpa [ptPs] using ptPs_get ts i (by simpa using h)
theorem exPs_get : ∀ (ts : List Ex) (i : Nat) (h : i < ts.length), (exPs ts)[i]? = some (exP ts[i])
  | t :: ts, 0, _ => rfl
  | t :: ts, i + 1, h => by simpa [exPs] using exPs_get ts i (by simpa using h)
theorem arPs_get : ∀ (bs : List Ex) (ps : List Pt) (i : Nat) (h : i < bs.length) (h2 : i < ps.length), (arPs bs ps)[i]? = some (ptP ps[i] ++ exP bs[i])
  | b :: bs, p :: ps, 0, _, _ => rfl
  | b :: bs, p :: ps, i + 1, h, h2 => by simpa [arPs] using arPs_get bs ps i (by simpa using h) (by simpa using h2)
mutual
theorem Ty.ind {M : Ty → Prop} (h : ∀ k n ps, (∀ i, (hi : i < ps.length) → M ps[i]) → M (.mk k n ps)) : ∀ t, M t
  | .mk k n ps => h k n ps (Ty.inds h ps)
theorem Ty.inds {M : Ty → Prop} (h : ∀ k n ps, (∀ i, (hi : i < ps.length) → M ps[i]) → M (.mk k n ps)) : ∀ (ts : List Ty) i, (hi : i < ts.length) → M ts[i]
  | t :: ts, 0, _ => Ty.ind h t
  | t :: ts, i + 1, hi => by simpa using Ty.inds h ts i (by simpa using hi)
end
mutual
theorem Pt.ind {M : Pt → Prop} (h : ∀ k li co n m ps, (∀ i, (hi : i < ps.length) → M ps[i]) → M (.mk k li co n m ps)) : ∀ t, M t
  | .mk k li co n m ps => h k li co n m ps (Pt.inds h ps)
theorem Pt.inds {M : Pt → Prop} (h : ∀ k li co n m ps, (∀ i, (hi : i < ps.length) → M ps[i]) → M (.mk k li co n m ps)) : ∀ (ts : List Pt) i, (hi : i < ts.length) → M ts[i]
  | t :: ts, 0, _ => Pt.ind h t
  | t :: ts, i + 1, hi => by simpa using Pt.inds h ts i (by simpa using hi)
end
mutual
theorem Ex.ind {M : Ex → Prop} (h : ∀ k li co m b n ks ps bs, (∀ i, (hi : i < ks.length) → M ks[i]) → (∀ i, (hi : i < bs.length) → M bs[i]) → M (.mk k li co m b n ks ps bs)) : ∀ t, M t
  | .mk k li co m b n ks ps bs => h k li co m b n ks ps bs (Ex.inds h ks) (Ex.inds h bs)
theorem Ex.inds {M : Ex → Prop} (h : ∀ k li co m b n ks ps bs, (∀ i, (hi : i < ks.length) → M ks[i]) → (∀ i, (hi : i < bs.length) → M bs[i]) → M (.mk k li co m b n ks ps bs)) : ∀ (ts : List Ex) i, (hi : i < ts.length) → M ts[i]
  | t :: ts, 0, _ => Ex.ind h t
  | t :: ts, i + 1, hi => by simpa using Ex.inds h ts i (by simpa using hi)
end
structure Co where
  name : ByteArray
  fields : List Ty
structure Da where
  line : Int
  col : Int
  name : ByteArray
  cons : List Co
structure Pa where
  name : ByteArray
  ty : Ty
structure Fu where
  line : Int
  col : Int
  name : ByteArray
  params : List Pa
  result : Ty
  body : Ex
structure Ha where
  line : Int
  col : Int
  name : ByteArray
  param : Pa
  cap : Int
  body : Ex
structure Pr where
  datas : List Da
  funs : List Fu
  queue : Int
  timers : Int
  state : Ty
  cap : Int
  init : Ex
  hands : List Ha
def coP (c : Co) : List PV := [.con (.string c.name), .sl (tyPs c.fields)]
def daP (d : Da) : List PV := [.con (.int .i64 d.line), .con (.int .i64 d.col), .con (.string d.name), .sl (d.cons.map coP)]
def paP (p : Pa) : List PV := .con (.string p.name) :: tyP p.ty
def fuP (f : Fu) : List PV := [.con (.int .i64 f.line), .con (.int .i64 f.col), .con (.string f.name), .sl (f.params.map paP)] ++ (tyP f.result ++ exP f.body)
def haP (h : Ha) : List PV := [.con (.int .i64 h.line), .con (.int .i64 h.col), .con (.string h.name)] ++ (paP h.param ++ (.con (.int .i64 h.cap) :: exP h.body))
def prP (p : Pr) : List PV := [.sl (p.datas.map daP), .sl (p.funs.map fuP), .con (.int .i64 p.queue), .con (.int .i64 p.timers)] ++ (tyP p.state ++ (.con (.int .i64 p.cap) :: (exP p.init ++ [.sl (p.hands.map haP)])))
theorem pt_mk (t : Pt) : ∃ k li co n m ps, t = .mk k li co n m ps := by cases t; exact ⟨_, _, _, _, _, _, rfl⟩
theorem ex_mk (t : Ex) : ∃ k li co m b n ks ps bs, t = .mk k li co m b n ks ps bs := by cases t; exact ⟨_, _, _, _, _, _, _, _, _, rfl⟩
theorem map_get {α : Type} (f : α → List PV) (l : List α) (j : Nat) (h : j < l.length) : (l.map f)[j]? = some (f l[j]) := by
  rw [List.getElem?_map, List.getElem?_eq_getElem h]; rfl
theorem le_not {b : Bool} (h : (!b) = true) : b = false := by simpa using h
theorem le_yes {b : Bool} (h : (!b) = false) : b = true := by simpa using h
end Go.Proofs.YtjhnmikciejekaaGreat.Deep

namespace Go.Proofs.YtjhnmikciejekaaGreat.Deep
open Go.RowKit
set_option linter.unusedVariables false
structure Tk where
  kind : Int
  text : ByteArray
  num : Int
  bytes : List UInt8
  li : Int
  co : Int
structure Flt where
  e : Int
  li : Int
  co : Int
def tkP (t : Tk) : List PV := [.con (.int .i64 t.kind), .con (.string t.text), .con (.int .i64 t.num), .sl (byP t.bytes), .con (.int .i64 t.li), .con (.int .i64 t.co)]
def tksP (z : Tk) (l : List Tk) : List (List PV) := (l ++ [z]).map tkP
def fltV (f : Flt) : Value := .iface 40 (.agg (List.toArray [.int .i64 f.e, .int .i64 f.li, .int .i64 f.co]))
abbrev Re (α : Type) := Except Flt (α × List Tk × Bool)
abbrev Rd (α : Type) := List Tk → Bool → Re α
def bnd {α β : Type} (x : Re α) (k : α → List Tk → Bool → Re β) : Re β := match x with
  | .error f => .error f
  | .ok (a, l, b) => k a l b
def bndE {α β : Type} (x : Except Flt α) (k : α → Re β) : Re β := match x with
  | .error f => .error f
  | .ok a => k a
def ifB {α : Type} (c : Bool) (x y : α) : α := match c with | true => x | false => y
def e0 : ByteArray := ⟨#[]⟩
def eqB (s t : ByteArray) : Bool := ByteArray.toList s == ByteArray.toList t
section
variable (z : Tk)
def hd (l : List Tk) : Tk := match l with | [] => z | t :: _ => t
def wantF (l : List Tk) : Flt := ⟨7, (hd z l).li, (hd z l).co⟩
def textB (k : Int) (l : List Tk) : ByteArray := ifB ((hd z l).kind == k) (hd z l).text e0
def stB (l : List Tk) (s : ByteArray) : Bool := ifB (eqB (textB z 6 l) s) true (eqB (textB z 5 l) s)
def takeS : Rd Tk := fun l b => ifB b (.error ⟨27, (hd z l).li, (hd z l).co⟩) (.ok (hd z l, l.tail, b))
def skipS (s : ByteArray) : Rd Bool := fun l b => ifB (stB z l s) (bnd (takeS z l b) fun _ l b => .ok (true, l, b)) (.ok (false, l, b))
def wantS (s : ByteArray) : Rd Unit := fun l b => bnd (skipS z s l b) fun t l b => ifB (!t) (.error (wantF z l)) (.ok ((), l, b))
def wantEndS : Rd Unit := fun l b => ifB (!((hd z l).kind == 0)) (.error (wantF z l)) (.ok ((), l, b))
def kindS (k : Int) : Rd Tk := fun l b => ifB ((hd z l).kind != k) (.error (wantF z l)) (bnd (takeS z l b) fun t l b => .ok (t, l, b))
def lowS : Rd ByteArray := fun l b => bnd (kindS z 1 l b) fun t l b => .ok (t.text, l, b)
def withinS (lo hi : Int) : Rd Int := fun l b => bnd (kindS z 3 l b) fun t l b => ifB (decide (t.num < lo)) (.error ⟨20, t.li, t.co⟩) (ifB (decide (t.num > hi)) (.error ⟨20, t.li, t.co⟩) (.ok (t.num, l, b)))
def manyS (lo hi : Int) : Rd Int := fun l b => bnd (withinS z lo hi l b) fun n l b => .ok (n, l, b)
def numberS : Rd Int := fun l b => bnd (skipS z ⟨#[126]⟩ l b) fun t l b => ifB t (bnd (kindS z 3 l b) fun t l b => .ok (IntKind.i64.wrap (0 - t.num), l, b)) (bnd (kindS z 3 l b) fun t l b => .ok (t.num, l, b))
def opComp (s : ByteArray) : Int × Bool := ifB (eqB s ⟨#[60]⟩) (5, true) (ifB (eqB s ⟨#[60, 61]⟩) (6, true) (ifB (eqB s ⟨#[61, 61]⟩) (7, true) (0, false)))
def opSum (s : ByteArray) : Int × Bool := ifB (eqB s ⟨#[43]⟩) (0, true) (ifB (eqB s ⟨#[45]⟩) (1, true) (0, false))
def opTim (s : ByteArray) : Int × Bool := ifB (eqB s ⟨#[42]⟩) (2, true) (ifB (eqB s ⟨#[47]⟩) (3, true) (ifB (eqB s ⟨#[37]⟩) (4, true) (0, false)))
def opName (s : ByteArray) : Int × Bool := ifB (eqB s ⟨#[108, 101, 110]⟩) (8, true) (ifB (eqB s ⟨#[97, 116]⟩) (9, true) (ifB (eqB s ⟨#[99, 97, 116]⟩) (10, true) (ifB (eqB s ⟨#[99, 117, 116]⟩) (11, true) (0, false))))
def isTypeB (s : ByteArray) : Bool := ifB (eqB s ⟨#[105, 110, 116]⟩) true (eqB s ⟨#[98, 121, 116, 101, 115]⟩)
def isOwnB (s : ByteArray) : Bool := ifB (opName s).2 true (isTypeB s)
def argsI (n : Int) : Int := ifB (n == 8) 1 (ifB (n == 11) 3 2)
mutual
def depT : Ty → Int
  | .mk _ _ ps => IntKind.i64.wrap (1 + depTs 0 ps)
def depTs : Int → List Ty → Int
  | a, [] => a
  | a, t :: ts => depTs (maxI a (depT t)) ts
end
mutual
def depP : Pt → Int
  | .mk _ _ _ _ _ ks => IntKind.i64.wrap (1 + depPs 0 ks)
def depPs : Int → List Pt → Int
  | a, [] => a
  | a, t :: ts => depPs (maxI a (depP t)) ts
end
mutual
def depE : Ex → Int
  | .mk _ _ _ _ _ _ ks ps bs => IntKind.i64.wrap (1 + maxI (depEs 0 ks) (depAs 0 bs ps))
def depEs : Int → List Ex → Int
  | a, [] => a
  | a, t :: ts => depEs (maxI a (depE t)) ts
def depAs : Int → List Ex → List Pt → Int
  | a, b :: bs, p :: ps => depAs (maxI a (maxI (depP p) (depE b))) bs ps
  | a, _, _ => a
end
def deepS {α : Type} (d : Int) (li co : Int) (v : α) : Except Flt α := ifB (decide (d > 64)) (.error ⟨6, li, co⟩) (.ok v)
def wholeE (e : Ex) : Except Flt Ex := ifB (e.kind == 9) (ifB (((exPs e.kids).length : Int) != argsI e.num) (.error ⟨11, e.line, e.col⟩) (deepS (depE e) e.line e.col e)) (deepS (depE e) e.line e.col e)
def wholeP (p : Pt) : Except Flt Pt := deepS (depP p) p.line p.col p
def wholeT (t : Ty) (li co : Int) : Except Flt Ty := deepS (depT t) li co t
def listS {α : Type} (part : Rd α) (btw : ByteArray) (most : Int) : Nat → List α → Rd (List α)
  | 0, acc, l, b => .ok (acc, l, b)
  | n + 1, acc, l, b => bnd (part l ((acc.length : Int) == most)) fun a l b => bnd (skipS z btw l b) fun t l b => ifB (!t) (.ok (acc ++ [a], l, b)) (listS part btw most n (acc ++ [a]) l b)
def lisS {α : Type} (part : Rd α) (btw : ByteArray) (most : Int) : Rd (List α) := fun l b => listS z part btw most (l.length + 1) [] l b
def insideS {α : Type} (part : Rd α) (btw : ByteArray) (most : Int) : Rd (List α) := fun l b => bnd (wantS z ⟨#[40]⟩ l b) fun _ l b => bnd (lisS z part btw most l b) fun ks l b => bnd (wantS z ⟨#[41]⟩ l b) fun _ l b => .ok (ks, l, b)
def optS {α : Type} (part : Rd α) : Rd (List α) := fun l b => ifB (!(stB z l ⟨#[40]⟩)) (.ok ([], l, b)) (bnd (insideS z part ⟨#[44]⟩ 6 l b) fun ks l b => .ok (ks, l, b))
def tupleS (ty : Rd Ty) : Rd Ty := fun l b => let t := hd z l; bnd (wantS z ⟨#[40]⟩ l b) fun _ l b => bnd (lisS z ty ⟨#[42]⟩ 6 l b) fun ks l b => ifB (((tyPs ks).length : Int) == 1) (.error (wantF z l)) (bnd (wantS z ⟨#[41]⟩ l b) fun _ l b => bndE (wholeT (.mk 3 e0 ks) t.li t.co) fun v => .ok (v, l, b))
def typS (ty : Rd Ty) : Rd Ty := fun l b => ifB (stB z l ⟨#[40]⟩) (bnd (tupleS z ty l b) fun v l b => .ok (v, l, b)) (bnd (lowS z l b) fun s l b => ifB (eqB s ⟨#[105, 110, 116]⟩) (.ok (.mk 0 e0 [], l, b)) (ifB (eqB s ⟨#[98, 121, 116, 101, 115]⟩) (.ok (.mk 1 e0 [], l, b)) (.ok (.mk 2 s [], l, b))))
def pT : Nat → Rd Ty
  | 0 => fun l b => .error (wantF z l)
  | n + 1 => typS z (pT n)
def sevPS (pt : Rd Pt) : Rd Pt := fun l b => let t := hd z l; bnd (insideS z pt ⟨#[44]⟩ 6 l b) fun ks l b => ifB (((ptPs ks).length : Int) == 1) (.ok (ks.headD .zero, l, b)) (bndE (wholeP (.mk 4 t.li t.co e0 0 ks)) fun v => .ok (v, l, b))
def patS (pt : Rd Pt) : Rd Pt := fun l b => let t := hd z l
  ifB (t.kind == 3) (bnd (numberS z l b) fun m l b => .ok (.mk 2 t.li t.co e0 m [], l, b))
  (ifB (stB z l ⟨#[126]⟩) (bnd (numberS z l b) fun m l b => .ok (.mk 2 t.li t.co e0 m [], l, b))
  (ifB (t.kind == 1) (bnd (takeS z l b) fun u l b => .ok (.mk 1 t.li t.co u.text 0 [], l, b))
  (ifB (t.kind == 2) (bnd (takeS z l b) fun u l b => bnd (optS z pt l b) fun ks l b => bndE (wholeP (.mk 3 t.li t.co u.text 0 ks)) fun v => .ok (v, l, b))
  (ifB (stB z l ⟨#[40]⟩) (bnd (sevPS z pt l b) fun v l b => .ok (v, l, b))
  (bnd (wantS z ⟨#[95]⟩ l b) fun _ l b => .ok (.mk 0 t.li t.co e0 0 [], l, b))))))
def pP : Nat → Rd Pt
  | 0 => fun l b => .error (wantF z l)
  | n + 1 => patS z (pP n)
def behindS (ex : Rd Ex) (s : ByteArray) : Rd Ex := fun l b => bnd (wantS z s l b) fun _ l b => bnd (ex l b) fun v l b => .ok (v, l, b)
def letS (ex : Rd Ex) : Rd Ex := fun l b => bnd (takeS z l b) fun t l b => bnd (lowS z l b) fun s l b => bnd (behindS z ex ⟨#[61]⟩ l b) fun v l b => bnd (behindS z ex ⟨#[105, 110]⟩ l b) fun w l b => bndE (wholeE (.mk 6 t.li t.co 0 [] s [v, w] [] [])) fun v => .ok (v, l, b)
def condS (ex : Rd Ex) : Rd Ex := fun l b => let t := hd z l; bnd (behindS z ex ⟨#[105, 102]⟩ l b) fun u l b => bnd (behindS z ex ⟨#[116, 104, 101, 110]⟩ l b) fun v l b => bnd (behindS z ex ⟨#[101, 108, 115, 101]⟩ l b) fun w l b => bndE (wholeE (.mk 7 t.li t.co 0 [] e0 [u, v, w] [] [])) fun v => .ok (v, l, b)
def armS (ex : Rd Ex) (pt : Rd Pt) : Rd (Pt × Ex) := fun l b => bnd (pt l b) fun p l b => bnd (behindS z ex ⟨#[45, 62]⟩ l b) fun v l b => .ok ((p, v), l, b)
def matchS (ex : Rd Ex) (pt : Rd Pt) : Rd Ex := fun l b => let t := hd z l; bnd (behindS z ex ⟨#[109, 97, 116, 99, 104]⟩ l b) fun v l b => bnd (wantS z ⟨#[119, 105, 116, 104]⟩ l b) fun _ l b => bnd (skipS z ⟨#[124]⟩ l b) fun _ l b => bnd (lisS z (armS z ex pt) ⟨#[124]⟩ 32 l b) fun rs l b => bnd (wantS z ⟨#[101, 110, 100]⟩ l b) fun _ l b => bndE (wholeE (.mk 8 t.li t.co 0 [] e0 [v] (rs.map Prod.fst) (rs.map Prod.snd))) fun v => .ok (v, l, b)
def loopS (ex : Rd Ex) : Rd Ex := fun l b => bnd (takeS z l b) fun t l b => bnd (withinS z 0 1000 l b) fun m l b => bnd (wantS z ⟨#[119, 105, 116, 104]⟩ l b) fun _ l b => bnd (lowS z l b) fun s l b => bnd (behindS z ex ⟨#[61]⟩ l b) fun v l b => bnd (behindS z ex ⟨#[100, 111]⟩ l b) fun w l b => bndE (wholeE (.mk 10 t.li t.co m [] s [v, w] [] [])) fun v => .ok (v, l, b)
def namedS (ex : Rd Ex) : Rd Ex := fun l b => bnd (takeS z l b) fun t l b => ifB (!(stB z l ⟨#[40]⟩)) (.ok (.mk 2 t.li t.co 0 [] t.text [] [] [], l, b))
  (ifB (isTypeB t.text) (.error ⟨8, t.li, t.co⟩) (bnd (insideS z ex ⟨#[44]⟩ 6 l b) fun ks l b => ifB (opName t.text).2
    (bndE (wholeE (.mk 9 t.li t.co (opName t.text).1 [] e0 ks [] [])) fun v => .ok (v, l, b))
    (bndE (wholeE (.mk 5 t.li t.co 0 [] t.text ks [] [])) fun v => .ok (v, l, b))))
def sevS (ex : Rd Ex) : Rd Ex := fun l b => let t := hd z l; bnd (insideS z ex ⟨#[44]⟩ 6 l b) fun ks l b => ifB (((exPs ks).length : Int) == 1) (.ok (ks.headD .zero, l, b)) (bndE (wholeE (.mk 4 t.li t.co 0 [] e0 ks [] [])) fun v => .ok (v, l, b))
def atomS (ex : Rd Ex) : Rd Ex := fun l b => let t := hd z l
  ifB (t.kind == 3) (bnd (numberS z l b) fun m l b => .ok (.mk 0 t.li t.co m [] e0 [] [] [], l, b))
  (ifB (stB z l ⟨#[126]⟩) (bnd (numberS z l b) fun m l b => .ok (.mk 0 t.li t.co m [] e0 [] [] [], l, b))
  (ifB (t.kind == 4) (bnd (takeS z l b) fun u l b => .ok (.mk 1 t.li t.co 0 u.bytes e0 [] [] [], l, b))
  (ifB (stB z l ⟨#[115, 116, 97, 116, 101]⟩) (bnd (takeS z l b) fun u l b => .ok (.mk 2 t.li t.co 0 [] u.text [] [] [], l, b))
  (ifB (t.kind == 1) (bnd (namedS z ex l b) fun v l b => .ok (v, l, b))
  (ifB (t.kind == 2) (bnd (takeS z l b) fun u l b => bnd (optS z ex l b) fun ks l b => bndE (wholeE (.mk 3 t.li t.co 0 [] u.text ks [] [])) fun v => .ok (v, l, b))
  (ifB (stB z l ⟨#[40]⟩) (bnd (sevS z ex l b) fun v l b => .ok (v, l, b))
  (.error (wantF z l))))))))
def opS (right : Rd Ex) (op : Int) (left : Ex) : Rd Ex := fun l b => bnd (takeS z l b) fun t l b => bnd (right l b) fun v l b => bndE (wholeE (.mk 9 t.li t.co op [] e0 [left, v] [] [])) fun w => .ok (w, l, b)
def chS (opf : ByteArray → Int × Bool) (part : Rd Ex) : Nat → Ex → Rd Ex
  | 0, e, l, b => .ok (e, l, b)
  | n + 1, e, l, b => ifB (!(opf (textB z 6 l)).2) (.ok (e, l, b)) (bnd (opS z part (opf (textB z 6 l)).1 e l b) fun v l b => chS opf part n v l b)
def chainS (opf : ByteArray → Int × Bool) (part : Rd Ex) : Rd Ex := fun l b => bnd (part l b) fun v l b => chS z opf part (l.length + 1) v l b
def prodS (ex : Rd Ex) : Rd Ex := fun l b => bnd (chainS z opTim (atomS z ex) l b) fun v l b => .ok (v, l, b)
def sumS (ex : Rd Ex) : Rd Ex := fun l b => bnd (chainS z opSum (prodS z ex) l b) fun v l b => .ok (v, l, b)
def cmpS (ex : Rd Ex) : Rd Ex := fun l b => bnd (sumS z ex l b) fun v l b => ifB (opComp (textB z 6 l)).2 (bnd (opS z (sumS z ex) (opComp (textB z 6 l)).1 v l b) fun v l b => .ok (v, l, b)) (.ok (v, l, b))
def exprS (ex : Rd Ex) (pt : Rd Pt) : Rd Ex := fun l b => let s := textB z 5 l
  ifB (eqB s ⟨#[108, 101, 116]⟩) (bnd (letS z ex l b) fun v l b => .ok (v, l, b))
  (ifB (eqB s ⟨#[105, 102]⟩) (bnd (condS z ex l b) fun v l b => .ok (v, l, b))
  (ifB (eqB s ⟨#[109, 97, 116, 99, 104]⟩) (bnd (matchS z ex pt l b) fun v l b => .ok (v, l, b))
  (ifB (eqB s ⟨#[102, 111, 114]⟩) (bnd (loopS z ex l b) fun v l b => .ok (v, l, b))
  (bnd (cmpS z ex l b) fun v l b => .ok (v, l, b)))))
def pE : Nat → Rd Ex
  | 0 => fun l b => .error (wantF z l)
  | n + 1 => exprS z (pE n) (pP z n)
end
def MonoR {α : Type} (n : Nat) (x : Re α) : Prop := ∀ v l' b', x = .ok (v, l', b') → l'.length ≤ n
def Mono {α : Type} (p : Rd α) : Prop := ∀ l b, MonoR l.length (p l b)
theorem bnd_ok {α β : Type} {x : Re α} {k : α → List Tk → Bool → Re β} {r : β × List Tk × Bool} (h : bnd x k = .ok r) : ∃ a l b, x = .ok (a, l, b) ∧ k a l b = .ok r := by
  unfold bnd at h
  split at h
  · cases h
  · rename_i a l b; exact ⟨a, l, b, rfl, h⟩
theorem bndE_ok {α β : Type} {x : Except Flt α} {k : α → Re β} {r : β × List Tk × Bool} (h : bndE x k = .ok r) : ∃ a, x = .ok a ∧ k a = .ok r := by
  unfold bndE at h
  split at h
  · cases h
  · rename_i a; exact ⟨a, rfl, h⟩
theorem ifB_cases {α : Type} {c : Bool} {x y r : α} (h : ifB c x y = r) : (c = true ∧ x = r) ∨ (c = false ∧ y = r) := by
  cases c
  · exact .inr ⟨rfl, h⟩
  · exact .inl ⟨rfl, h⟩
theorem deepS_ok {α : Type} {d li co : Int} {v w : α} (h : deepS d li co v = .ok w) : w = v ∧ d ≤ 64 := by
  rcases ifB_cases h with ⟨h1, h2⟩ | ⟨h1, h2⟩
  · cases h2
  · injection h2 with h2
    exact ⟨h2.symm, by simpa using h1⟩
theorem wholeE_ok {e v : Ex} (h : wholeE e = .ok v) : v = e := by
  rcases ifB_cases h with ⟨h1, h2⟩ | ⟨h1, h2⟩
  · rcases ifB_cases h2 with ⟨h3, h4⟩ | ⟨h3, h4⟩
    · cases h4
    · exact (deepS_ok h4).1
  · exact (deepS_ok h2).1
theorem wholeP_ok {e v : Pt} (h : wholeP e = .ok v) : v = e := (deepS_ok h).1
theorem wholeT_ok {e v : Ty} {li co : Int} (h : wholeT e li co = .ok v) : v = e := (deepS_ok h).1
theorem MonoR.bind {α β : Type} {n : Nat} {x : Re α} {k : α → List Tk → Bool → Re β} (hx : MonoR n x) (hk : ∀ v (l : List Tk) b, l.length ≤ n → MonoR n (k v l b)) : MonoR n (bnd x k) := fun v l' b' h => by
  obtain ⟨a, l, b, h1, h2⟩ := bnd_ok h
  exact hk a l b (hx _ _ _ h1) _ _ _ h2
theorem MonoR.bindE {α β : Type} {n : Nat} {x : Except Flt α} {k : α → Re β} (hk : ∀ v, MonoR n (k v)) : MonoR n (bndE x k) := fun v l' b' h => by
  obtain ⟨a, h1, h2⟩ := bndE_ok h
  exact hk a _ _ _ h2
theorem MonoR.ite {α : Type} {n : Nat} {c : Bool} {x y : Re α} (hx : MonoR n x) (hy : MonoR n y) : MonoR n (ifB c x y) := by cases c <;> assumption
theorem MonoR.err {α : Type} {n : Nat} {f : Flt} : MonoR (α := α) n (.error f) := fun v l' b' h => by cases h
theorem MonoR.end' {α : Type} {n : Nat} {v : α} {l : List Tk} {b : Bool} (h : l.length ≤ n) : MonoR n (.ok (v, l, b)) := fun v' l' b' e => by
  injection e with e; injection e with e1 e2; injection e2 with e2 e3; rw [← e2]; exact h
theorem MonoR.of {α : Type} {n : Nat} {p : Rd α} {l : List Tk} {b : Bool} (hp : Mono p) (h : l.length ≤ n) : MonoR n (p l b) := fun v l' b' e => Nat.le_trans (hp l b v l' b' e) h
section
variable {z : Tk}
theorem take_lt {l : List Tk} {b : Bool} {v : Tk} {l' : List Tk} {b' : Bool} (h : takeS z l b = .ok (v, l', b')) (hl : l ≠ []) : l'.length < l.length ∧ b' = false ∧ v = hd z l := by
  rcases ifB_cases h with ⟨h1, h2⟩ | ⟨h1, h2⟩
  · cases h2
  · injection h2 with h2; injection h2 with h3 h4; injection h4 with h4 h5; subst h4
    cases l with
    | nil => exact absurd rfl hl
    | cons t r => exact ⟨by simp, by rw [← h5, h1], h3.symm⟩
theorem mono_take : Mono (takeS z) := fun l b => by
  unfold takeS
  exact MonoR.ite MonoR.err (MonoR.end' (by simp))
theorem mono_skip (s : ByteArray) : Mono (skipS z s) := fun l b => by
  unfold skipS
  repeat' (first | exact MonoR.err | exact MonoR.end' (by simp; done) | exact MonoR.end' (by simp; omega) | exact MonoR.end' (by assumption) | refine MonoR.ite ?_ ?_ | refine MonoR.bindE (fun _ => ?_) | refine MonoR.bind (MonoR.of (by first | exact mono_take) (by first | assumption | exact Nat.le_refl _)) (fun _ _ _ _ => ?_) | (dsimp only))
theorem mono_want (s : ByteArray) : Mono (wantS z s) := fun l b => by
  unfold wantS
  repeat' (first | exact MonoR.err | exact MonoR.end' (by simp; done) | exact MonoR.end' (by simp; omega) | exact MonoR.end' (by assumption) | refine MonoR.ite ?_ ?_ | refine MonoR.bindE (fun _ => ?_) | refine MonoR.bind (MonoR.of (by first | exact mono_take | exact mono_skip _) (by first | assumption | exact Nat.le_refl _)) (fun _ _ _ _ => ?_) | (dsimp only))
theorem mono_kind (k : Int) : Mono (kindS z k) := fun l b => by
  unfold kindS
  repeat' (first | exact MonoR.err | exact MonoR.end' (by simp; done) | exact MonoR.end' (by simp; omega) | exact MonoR.end' (by assumption) | refine MonoR.ite ?_ ?_ | refine MonoR.bindE (fun _ => ?_) | refine MonoR.bind (MonoR.of (by first | exact mono_take | exact mono_skip _) (by first | assumption | exact Nat.le_refl _)) (fun _ _ _ _ => ?_) | (dsimp only))
theorem mono_low : Mono (lowS z) := fun l b => by
  unfold lowS
  repeat' (first | exact MonoR.err | exact MonoR.end' (by simp; done) | exact MonoR.end' (by simp; omega) | exact MonoR.end' (by assumption) | refine MonoR.ite ?_ ?_ | refine MonoR.bindE (fun _ => ?_) | refine MonoR.bind (MonoR.of (by first | exact mono_take | exact mono_skip _ | exact mono_want _ | exact mono_kind _) (by first | assumption | exact Nat.le_refl _)) (fun _ _ _ _ => ?_) | (dsimp only))
theorem mono_within (lo hi : Int) : Mono (withinS z lo hi) := fun l b => by
  unfold withinS
  repeat' (first | exact MonoR.err | exact MonoR.end' (by simp; done) | exact MonoR.end' (by simp; omega) | exact MonoR.end' (by assumption) | refine MonoR.ite ?_ ?_ | refine MonoR.bindE (fun _ => ?_) | refine MonoR.bind (MonoR.of (by first | exact mono_take | exact mono_skip _ | exact mono_want _ | exact mono_kind _) (by first | assumption | exact Nat.le_refl _)) (fun _ _ _ _ => ?_) | (dsimp only))
theorem mono_number : Mono (numberS z) := fun l b => by
  unfold numberS
  repeat' (first | exact MonoR.err | exact MonoR.end' (by simp; done) | exact MonoR.end' (by simp; omega) | exact MonoR.end' (by assumption) | refine MonoR.ite ?_ ?_ | refine MonoR.bindE (fun _ => ?_) | refine MonoR.bind (MonoR.of (by first | exact mono_take | exact mono_skip _ | exact mono_want _ | exact mono_kind _) (by first | assumption | exact Nat.le_refl _)) (fun _ _ _ _ => ?_) | (dsimp only))
theorem mono_list {α : Type} {part : Rd α} (hp : Mono part) (btw : ByteArray) (most : Int) : ∀ (n : Nat) (acc : List α), Mono (listS z part btw most n acc)
  | 0, acc => fun l b => MonoR.end' (Nat.le_refl _)
  | n + 1, acc => fun l b => by
    unfold listS
    refine MonoR.bind (MonoR.of hp (Nat.le_refl _)) (fun a l1 b1 h1 => MonoR.bind (MonoR.of (mono_skip _) h1) (fun t l2 b2 h2 => MonoR.ite (MonoR.end' h2) (MonoR.of (mono_list hp btw most n _) h2)))
theorem mono_lis {α : Type} {part : Rd α} (hp : Mono part) (btw : ByteArray) (most : Int) : Mono (lisS z part btw most) := fun l b => mono_list hp btw most _ _ l b
theorem mono_inside {α : Type} {part : Rd α} (hp : Mono part) (btw : ByteArray) (most : Int) : Mono (insideS z part btw most) := fun l b => by
  unfold insideS
  repeat' (first | exact MonoR.err | exact MonoR.end' (by simp; done) | exact MonoR.end' (by simp; omega) | exact MonoR.end' (by assumption) | refine MonoR.ite ?_ ?_ | refine MonoR.bindE (fun _ => ?_) | refine MonoR.bind (MonoR.of (by first | exact mono_take | exact mono_skip _ | exact mono_want _ | exact mono_kind _ | exact mono_low | exact mono_within _ _ | exact mono_number | exact mono_lis hp _ _) (by first | assumption | exact Nat.le_refl _)) (fun _ _ _ _ => ?_) | (dsimp only))
theorem mono_opt {α : Type} {part : Rd α} (hp : Mono part) : Mono (optS z part) := fun l b => by
  unfold optS
  repeat' (first | exact MonoR.err | exact MonoR.end' (by simp; done) | exact MonoR.end' (by simp; omega) | exact MonoR.end' (by assumption) | refine MonoR.ite ?_ ?_ | refine MonoR.bindE (fun _ => ?_) | refine MonoR.bind (MonoR.of (by first | exact mono_take | exact mono_skip _ | exact mono_want _ | exact mono_kind _ | exact mono_low | exact mono_within _ _ | exact mono_number | exact mono_inside hp _ _) (by first | assumption | exact Nat.le_refl _)) (fun _ _ _ _ => ?_) | (dsimp only))
theorem mono_tuple {ty : Rd Ty} (hp : Mono ty) : Mono (tupleS z ty) := fun l b => by
  unfold tupleS
  repeat' (first | exact MonoR.err | exact MonoR.end' (by simp; done) | exact MonoR.end' (by simp; omega) | exact MonoR.end' (by assumption) | refine MonoR.ite ?_ ?_ | refine MonoR.bindE (fun _ => ?_) | refine MonoR.bind (MonoR.of (by first | exact mono_take | exact mono_skip _ | exact mono_want _ | exact mono_kind _ | exact mono_low | exact mono_within _ _ | exact mono_number | exact mono_lis hp _ _) (by first | assumption | exact Nat.le_refl _)) (fun _ _ _ _ => ?_) | (dsimp only))
theorem mono_typ {ty : Rd Ty} (hp : Mono ty) : Mono (typS z ty) := fun l b => by
  unfold typS
  repeat' (first | exact MonoR.err | exact MonoR.end' (by simp; done) | exact MonoR.end' (by simp; omega) | exact MonoR.end' (by assumption) | refine MonoR.ite ?_ ?_ | refine MonoR.bindE (fun _ => ?_) | refine MonoR.bind (MonoR.of (by first | exact mono_take | exact mono_skip _ | exact mono_want _ | exact mono_kind _ | exact mono_low | exact mono_within _ _ | exact mono_number | exact mono_tuple hp) (by first | assumption | exact Nat.le_refl _)) (fun _ _ _ _ => ?_) | (dsimp only))
theorem mono_T : ∀ n, Mono (pT z n)
  | 0 => fun l b => MonoR.err
  | n + 1 => mono_typ (mono_T n)
theorem mono_sevP {pt : Rd Pt} (hp : Mono pt) : Mono (sevPS z pt) := fun l b => by
  unfold sevPS
  repeat' (first | exact MonoR.err | exact MonoR.end' (by simp; done) | exact MonoR.end' (by simp; omega) | exact MonoR.end' (by assumption) | refine MonoR.ite ?_ ?_ | refine MonoR.bindE (fun _ => ?_) | refine MonoR.bind (MonoR.of (by first | exact mono_take | exact mono_skip _ | exact mono_want _ | exact mono_kind _ | exact mono_low | exact mono_within _ _ | exact mono_number | exact mono_inside hp _ _) (by first | assumption | exact Nat.le_refl _)) (fun _ _ _ _ => ?_) | (dsimp only))
theorem mono_pat {pt : Rd Pt} (hp : Mono pt) : Mono (patS z pt) := fun l b => by
  unfold patS
  repeat' (first | exact MonoR.err | exact MonoR.end' (by simp; done) | exact MonoR.end' (by simp; omega) | exact MonoR.end' (by assumption) | refine MonoR.ite ?_ ?_ | refine MonoR.bindE (fun _ => ?_) | refine MonoR.bind (MonoR.of (by first | exact mono_take | exact mono_skip _ | exact mono_want _ | exact mono_kind _ | exact mono_low | exact mono_within _ _ | exact mono_number | exact mono_opt hp | exact mono_sevP hp) (by first | assumption | exact Nat.le_refl _)) (fun _ _ _ _ => ?_) | (dsimp only))
theorem mono_P : ∀ n, Mono (pP z n)
  | 0 => fun l b => MonoR.err
  | n + 1 => mono_pat (mono_P n)
theorem mono_behind {ex : Rd Ex} (hp : Mono ex) (s : ByteArray) : Mono (behindS z ex s) := fun l b => by
  unfold behindS
  repeat' (first | exact MonoR.err | exact MonoR.end' (by simp; done) | exact MonoR.end' (by simp; omega) | exact MonoR.end' (by assumption) | refine MonoR.ite ?_ ?_ | refine MonoR.bindE (fun _ => ?_) | refine MonoR.bind (MonoR.of (by first | exact mono_take | exact mono_skip _ | exact mono_want _ | exact mono_kind _ | exact mono_low | exact mono_within _ _ | exact mono_number | exact hp) (by first | assumption | exact Nat.le_refl _)) (fun _ _ _ _ => ?_) | (dsimp only))
theorem mono_let {ex : Rd Ex} (hp : Mono ex) : Mono (letS z ex) := fun l b => by
  unfold letS
  repeat' (first | exact MonoR.err | exact MonoR.end' (by simp; done) | exact MonoR.end' (by simp; omega) | exact MonoR.end' (by assumption) | refine MonoR.ite ?_ ?_ | refine MonoR.bindE (fun _ => ?_) | refine MonoR.bind (MonoR.of (by first | exact mono_take | exact mono_skip _ | exact mono_want _ | exact mono_kind _ | exact mono_low | exact mono_within _ _ | exact mono_number | exact mono_behind hp _) (by first | assumption | exact Nat.le_refl _)) (fun _ _ _ _ => ?_) | (dsimp only))
theorem mono_cond {ex : Rd Ex} (hp : Mono ex) : Mono (condS z ex) := fun l b => by
  unfold condS
  repeat' (first | exact MonoR.err | exact MonoR.end' (by simp; done) | exact MonoR.end' (by simp; omega) | exact MonoR.end' (by assumption) | refine MonoR.ite ?_ ?_ | refine MonoR.bindE (fun _ => ?_) | refine MonoR.bind (MonoR.of (by first | exact mono_take | exact mono_skip _ | exact mono_want _ | exact mono_kind _ | exact mono_low | exact mono_within _ _ | exact mono_number | exact mono_behind hp _) (by first | assumption | exact Nat.le_refl _)) (fun _ _ _ _ => ?_) | (dsimp only))
theorem mono_arm {ex : Rd Ex} (hp : Mono ex) {pt : Rd Pt} (hq : Mono pt) : Mono (armS z ex pt) := fun l b => by
  unfold armS
  repeat' (first | exact MonoR.err | exact MonoR.end' (by simp; done) | exact MonoR.end' (by simp; omega) | exact MonoR.end' (by assumption) | refine MonoR.ite ?_ ?_ | refine MonoR.bindE (fun _ => ?_) | refine MonoR.bind (MonoR.of (by first | exact mono_take | exact mono_skip _ | exact mono_want _ | exact mono_kind _ | exact mono_low | exact mono_within _ _ | exact mono_number | exact mono_behind hp _ | exact hq) (by first | assumption | exact Nat.le_refl _)) (fun _ _ _ _ => ?_) | (dsimp only))
theorem mono_match {ex : Rd Ex} (hp : Mono ex) {pt : Rd Pt} (hq : Mono pt) : Mono (matchS z ex pt) := fun l b => by
  unfold matchS
  repeat' (first | exact MonoR.err | exact MonoR.end' (by simp; done) | exact MonoR.end' (by simp; omega) | exact MonoR.end' (by assumption) | refine MonoR.ite ?_ ?_ | refine MonoR.bindE (fun _ => ?_) | refine MonoR.bind (MonoR.of (by first | exact mono_take | exact mono_skip _ | exact mono_want _ | exact mono_kind _ | exact mono_low | exact mono_within _ _ | exact mono_number | exact mono_behind hp _ | exact mono_lis (mono_arm hp hq) _ _) (by first | assumption | exact Nat.le_refl _)) (fun _ _ _ _ => ?_) | (dsimp only))
theorem mono_loop {ex : Rd Ex} (hp : Mono ex) : Mono (loopS z ex) := fun l b => by
  unfold loopS
  repeat' (first | exact MonoR.err | exact MonoR.end' (by simp; done) | exact MonoR.end' (by simp; omega) | exact MonoR.end' (by assumption) | refine MonoR.ite ?_ ?_ | refine MonoR.bindE (fun _ => ?_) | refine MonoR.bind (MonoR.of (by first | exact mono_take | exact mono_skip _ | exact mono_want _ | exact mono_kind _ | exact mono_low | exact mono_within _ _ | exact mono_number | exact mono_behind hp _) (by first | assumption | exact Nat.le_refl _)) (fun _ _ _ _ => ?_) | (dsimp only))
theorem mono_named {ex : Rd Ex} (hp : Mono ex) : Mono (namedS z ex) := fun l b => by
  unfold namedS
  repeat' (first | exact MonoR.err | exact MonoR.end' (by simp; done) | exact MonoR.end' (by simp; omega) | exact MonoR.end' (by assumption) | refine MonoR.ite ?_ ?_ | refine MonoR.bindE (fun _ => ?_) | refine MonoR.bind (MonoR.of (by first | exact mono_take | exact mono_skip _ | exact mono_want _ | exact mono_kind _ | exact mono_low | exact mono_within _ _ | exact mono_number | exact mono_inside hp _ _) (by first | assumption | exact Nat.le_refl _)) (fun _ _ _ _ => ?_) | (dsimp only))
theorem mono_sev {ex : Rd Ex} (hp : Mono ex) : Mono (sevS z ex) := fun l b => by
  unfold sevS
  repeat' (first | exact MonoR.err | exact MonoR.end' (by simp; done) | exact MonoR.end' (by simp; omega) | exact MonoR.end' (by assumption) | refine MonoR.ite ?_ ?_ | refine MonoR.bindE (fun _ => ?_) | refine MonoR.bind (MonoR.of (by first | exact mono_take | exact mono_skip _ | exact mono_want _ | exact mono_kind _ | exact mono_low | exact mono_within _ _ | exact mono_number | exact mono_inside hp _ _) (by first | assumption | exact Nat.le_refl _)) (fun _ _ _ _ => ?_) | (dsimp only))
theorem mono_atom {ex : Rd Ex} (hp : Mono ex) : Mono (atomS z ex) := fun l b => by
  unfold atomS
  repeat' (first | exact MonoR.err | exact MonoR.end' (by simp; done) | exact MonoR.end' (by simp; omega) | exact MonoR.end' (by assumption) | refine MonoR.ite ?_ ?_ | refine MonoR.bindE (fun _ => ?_) | refine MonoR.bind (MonoR.of (by first | exact mono_take | exact mono_skip _ | exact mono_want _ | exact mono_kind _ | exact mono_low | exact mono_within _ _ | exact mono_number | exact mono_named hp | exact mono_opt hp | exact mono_sev hp) (by first | assumption | exact Nat.le_refl _)) (fun _ _ _ _ => ?_) | (dsimp only))
theorem mono_op {right : Rd Ex} (hp : Mono right) (op : Int) (left : Ex) : Mono (opS z right op left) := fun l b => by
  unfold opS
  repeat' (first | exact MonoR.err | exact MonoR.end' (by simp; done) | exact MonoR.end' (by simp; omega) | exact MonoR.end' (by assumption) | refine MonoR.ite ?_ ?_ | refine MonoR.bindE (fun _ => ?_) | refine MonoR.bind (MonoR.of (by first | exact mono_take | exact mono_skip _ | exact mono_want _ | exact mono_kind _ | exact mono_low | exact mono_within _ _ | exact mono_number | exact hp) (by first | assumption | exact Nat.le_refl _)) (fun _ _ _ _ => ?_) | (dsimp only))
theorem mono_ch {part : Rd Ex} (hp : Mono part) (opf : ByteArray → Int × Bool) : ∀ (n : Nat) (e : Ex), Mono (chS z opf part n e)
  | 0, e => fun l b => MonoR.end' (Nat.le_refl _)
  | n + 1, e => fun l b => by
    unfold chS
    exact MonoR.ite (MonoR.end' (Nat.le_refl _)) (MonoR.bind (MonoR.of (mono_op hp _ _) (Nat.le_refl _)) (fun v l1 b1 h1 => MonoR.of (mono_ch hp opf n v) h1))
theorem mono_chain {part : Rd Ex} (hp : Mono part) (opf : ByteArray → Int × Bool) : Mono (chainS z opf part) := fun l b => MonoR.bind (MonoR.of hp (Nat.le_refl _)) (fun v l1 b1 h1 => MonoR.of (mono_ch hp opf _ v) h1)
theorem mono_prod {ex : Rd Ex} (hp : Mono ex) : Mono (prodS z ex) := fun l b => by
  unfold prodS
  repeat' (first | exact MonoR.err | exact MonoR.end' (by simp; done) | exact MonoR.end' (by simp; omega) | exact MonoR.end' (by assumption) | refine MonoR.ite ?_ ?_ | refine MonoR.bindE (fun _ => ?_) | refine MonoR.bind (MonoR.of (by first | exact mono_chain (mono_atom hp) _) (by first | assumption | exact Nat.le_refl _)) (fun _ _ _ _ => ?_) | (dsimp only))
theorem mono_sum {ex : Rd Ex} (hp : Mono ex) : Mono (sumS z ex) := fun l b => by
  unfold sumS
  repeat' (first | exact MonoR.err | exact MonoR.end' (by simp; done) | exact MonoR.end' (by simp; omega) | exact MonoR.end' (by assumption) | refine MonoR.ite ?_ ?_ | refine MonoR.bindE (fun _ => ?_) | refine MonoR.bind (MonoR.of (by first | exact mono_chain (mono_prod hp) _) (by first | assumption | exact Nat.le_refl _)) (fun _ _ _ _ => ?_) | (dsimp only))
theorem mono_cmp {ex : Rd Ex} (hp : Mono ex) : Mono (cmpS z ex) := fun l b => by
  unfold cmpS
  repeat' (first | exact MonoR.err | exact MonoR.end' (by simp; done) | exact MonoR.end' (by simp; omega) | exact MonoR.end' (by assumption) | refine MonoR.ite ?_ ?_ | refine MonoR.bindE (fun _ => ?_) | refine MonoR.bind (MonoR.of (by first | exact mono_sum hp | exact mono_op (mono_sum hp) _ _) (by first | assumption | exact Nat.le_refl _)) (fun _ _ _ _ => ?_) | (dsimp only))
theorem mono_expr {ex : Rd Ex} (hp : Mono ex) {pt : Rd Pt} (hq : Mono pt) : Mono (exprS z ex pt) := fun l b => by
  unfold exprS
  repeat' (first | exact MonoR.err | exact MonoR.end' (by simp; done) | exact MonoR.end' (by simp; omega) | exact MonoR.end' (by assumption) | refine MonoR.ite ?_ ?_ | refine MonoR.bindE (fun _ => ?_) | refine MonoR.bind (MonoR.of (by first | exact mono_let hp | exact mono_cond hp | exact mono_match hp hq | exact mono_loop hp | exact mono_cmp hp) (by first | assumption | exact Nat.le_refl _)) (fun _ _ _ _ => ?_) | (dsimp only))
theorem mono_E : ∀ n, Mono (pE z n)
  | 0 => fun l b => MonoR.err
  | n + 1 => mono_expr (mono_E n) (mono_P n)
end
end Go.Proofs.YtjhnmikciejekaaGreat.Deep
