/-
  Texts of one proof, in their order. No condition.
-/
import Derived.Test.YtdffmciedieikaaProg
import Derived.KernelRfl
import Derived.ChangeArms
import Derived.ChangeShapes
import Derived.WideShapes
import Derived.DataReads
import Derived.WalkKit
import Derived.ProofKit
import Derived.OpenShut
import Derived.Carry
import Derived.ChangeSlices
import Derived.Test.YtdffmciedieikaaTkR18
import Derived.Test.YtdffmciedieikaaTkPkb
namespace Go.Proofs.Ytdffmciedieikaa.Deep
set_option linter.unusedVariables false
inductive TT where
  | leaf
  | node (k : Nat) (x : TI) (l r : TT)
def look (t : Nat) : TT → Option TI
  | .leaf => none
  | .node k x l r => match Nat.beq t k with
    | true => some x
    | false => match Nat.ble t k with | true => look t l | false => look t r
def tbl : TT :=
  (.node 106 ⟨true, 1, false, true, 177, false, false, [], false, some [.con (.slice none 0 0)], 24, none, none⟩ (.node 53 ⟨true, 1, false, false, 0, false, false, [], false, some [.con .nilFunc], 8, none, none⟩ (.node 26 ⟨true, 6, true, false, 0, false, false, [(0, 3), (1, 23), (3, 9), (4, 2), (5, 24)], true, some [.con (.int .i64 0), .con (.int .i64 0), .con (.int .i64 0), .con (.string ⟨#[]⟩), .con (.int .i64 0), .con (.slice none 0 0)], 72, none, none⟩ (.node 13 ⟨true, 2, true, false, 0, false, false, [(0, 9), (1, 12)], true, some [.con (.string ⟨#[]⟩), .con (.int .u64 0)], 24, none, none⟩ (.node 7 ⟨true, 4, true, false, 0, false, false, [(0, 2), (1, 3), (2, 4), (3, 6)], true, some [.con (.int .i64 0), .con (.int .i64 0), .con (.bool false), .con (.int .u8 0)], 24, none, none⟩ (.node 4 ⟨true, 1, false, false, 0, false, true, [], false, some [.con (.bool false)], 1, none, none⟩ (.node 2 ⟨true, 1, false, false, 0, false, false, [], false, some [.con (.int .i64 0)], 8, none, some .i64⟩ (.node 1 ⟨true, 1, false, false, 0, false, false, [], false, some [.con .nilFunc], 8, none, none⟩ .leaf
  .leaf)
  (.node 3 ⟨true, 1, false, false, 0, false, false, [], false, some [.con (.int .i64 0)], 8, none, some .i64⟩ .leaf
  .leaf))
  (.node 6 ⟨true, 1, false, false, 0, false, false, [], false, some [.con (.int .u8 0)], 1, none, some .u8⟩ (.node 5 ⟨true, 1, false, false, 0, false, false, [], false, some [.con (.int .u8 0)], 1, none, some .u8⟩ .leaf
  .leaf)
  .leaf))
  (.node 10 ⟨true, 1, false, false, 0, true, false, [], false, some [.con (.string ⟨#[]⟩)], 16, none, none⟩ (.node 9 ⟨true, 1, false, false, 0, true, false, [], false, some [.con (.string ⟨#[]⟩)], 16, none, none⟩ (.node 8 ⟨true, 4, true, false, 0, false, false, [(0, 2), (1, 3), (2, 4), (3, 6)], true, some [.con (.int .i64 0), .con (.int .i64 0), .con (.bool false), .con (.int .u8 0)], 24, none, none⟩ .leaf
  .leaf)
  .leaf)
  (.node 12 ⟨true, 1, false, false, 0, false, false, [], false, some [.con (.int .u64 0)], 8, none, some .u64⟩ (.node 11 ⟨true, 1, false, false, 0, true, false, [], false, some [.con (.string ⟨#[]⟩)], 16, none, none⟩ .leaf
  .leaf)
  .leaf)))
  (.node 20 ⟨true, 1, false, false, 0, false, false, [], false, some [.con .nilIface], 16, none, none⟩ (.node 17 ⟨true, 1, false, false, 0, false, false, [], false, some [.con (.pointer none)], 8, none, none⟩ (.node 15 ⟨true, 1, false, false, 0, false, false, [], false, some [.con (.pointer none)], 8, none, none⟩ (.node 14 ⟨true, 2, true, false, 0, false, false, [(0, 9), (1, 12)], true, some [.con (.string ⟨#[]⟩), .con (.int .u64 0)], 24, none, none⟩ .leaf
  .leaf)
  (.node 16 ⟨true, 1, false, false, 0, false, false, [], false, some [.con (.pointer none)], 8, none, none⟩ .leaf
  .leaf))
  (.node 19 ⟨true, 1, true, false, 0, false, false, [(0, 17)], true, some [.con (.pointer none)], 8, none, none⟩ (.node 18 ⟨true, 1, true, false, 0, false, false, [(0, 17)], true, some [.con (.pointer none)], 8, none, none⟩ .leaf
  .leaf)
  .leaf))
  (.node 23 ⟨true, 2, true, false, 0, false, false, [(0, 3), (1, 3)], true, some [.con (.int .i64 0), .con (.int .i64 0)], 16, none, none⟩ (.node 22 ⟨true, 2, true, false, 0, false, false, [(0, 3), (1, 3)], true, some [.con (.int .i64 0), .con (.int .i64 0)], 16, none, none⟩ (.node 21 ⟨true, 1, false, false, 0, false, false, [], false, some [.con (.int .i32 0)], 4, none, some .i32⟩ .leaf
  .leaf)
  .leaf)
  (.node 25 ⟨true, 6, true, false, 0, false, false, [(0, 3), (1, 23), (3, 9), (4, 2), (5, 24)], true, some [.con (.int .i64 0), .con (.int .i64 0), .con (.int .i64 0), .con (.string ⟨#[]⟩), .con (.int .i64 0), .con (.slice none 0 0)], 72, none, none⟩ (.node 24 ⟨true, 1, false, true, 26, false, false, [], false, some [.con (.slice none 0 0)], 24, none, none⟩ .leaf
  .leaf)
  .leaf))))
  (.node 40 ⟨true, 1, false, false, 0, false, false, [], false, some [.con .nilFunc], 8, none, none⟩ (.node 33 ⟨true, 1, false, false, 0, false, false, [], false, some [.con .nilFunc], 8, none, none⟩ (.node 30 ⟨true, 5, true, false, 0, false, false, [(0, 3), (1, 2), (2, 27), (3, 9), (4, 28)], true, some [.con (.int .i64 0), .con (.int .i64 0), .con (.slice none 0 0), .con (.string ⟨#[]⟩), .con (.slice none 0 0)], 80, none, none⟩ (.node 28 ⟨true, 1, false, true, 30, false, false, [], false, some [.con (.slice none 0 0)], 24, none, none⟩ (.node 27 ⟨true, 1, false, true, 5, false, false, [], false, some [.con (.slice none 0 0)], 24, none, none⟩ .leaf
  .leaf)
  (.node 29 ⟨true, 5, true, false, 0, false, false, [(0, 3), (1, 2), (2, 27), (3, 9), (4, 28)], true, some [.con (.int .i64 0), .con (.int .i64 0), .con (.slice none 0 0), .con (.string ⟨#[]⟩), .con (.slice none 0 0)], 80, none, none⟩ .leaf
  .leaf))
  (.node 32 ⟨true, 1, false, false, 0, false, false, [], false, some [.con .nilFunc], 8, none, none⟩ (.node 31 ⟨true, 1, false, false, 0, false, false, [], false, some [.con .nilFunc], 8, none, none⟩ .leaf
  .leaf)
  .leaf))
  (.node 37 ⟨true, 1, false, false, 0, false, false, [], false, some [.con .nilFunc], 8, none, none⟩ (.node 36 ⟨true, 1, false, false, 0, false, false, [], false, some [.con .nilFunc], 8, none, none⟩ (.node 34 ⟨true, 1, false, true, 58, false, false, [], false, some [.con (.slice none 0 0)], 24, none, none⟩ .leaf
  .leaf)
  .leaf)
  (.node 39 ⟨true, 1, false, true, 64, false, false, [], false, some [.con (.slice none 0 0)], 24, none, none⟩ (.node 38 ⟨true, 1, false, false, 0, false, false, [], false, some [.con .nilFunc], 8, none, none⟩ .leaf
  .leaf)
  .leaf)))
  (.node 46 ⟨true, 1, false, true, 205, false, false, [], false, some [.con (.slice none 0 0)], 24, none, none⟩ (.node 43 ⟨true, 3, true, false, 0, false, false, [(0, 3), (1, 9), (2, 42)], true, some [.con (.int .i64 0), .con (.string ⟨#[]⟩), .con (.slice none 0 0)], 48, none, none⟩ (.node 42 ⟨true, 1, false, true, 44, false, false, [], false, some [.con (.slice none 0 0)], 24, none, none⟩ (.node 41 ⟨true, 1, false, true, 203, false, false, [], false, some [.con (.slice none 0 0)], 24, none, none⟩ .leaf
  .leaf)
  .leaf)
  (.node 45 ⟨true, 1, false, true, 48, false, false, [], false, some [.con (.slice none 0 0)], 24, none, none⟩ (.node 44 ⟨true, 3, true, false, 0, false, false, [(0, 3), (1, 9), (2, 42)], true, some [.con (.int .i64 0), .con (.string ⟨#[]⟩), .con (.slice none 0 0)], 48, none, none⟩ .leaf
  .leaf)
  .leaf))
  (.node 49 ⟨true, 1, false, true, 209, false, false, [], false, some [.con (.slice none 0 0)], 24, none, none⟩ (.node 48 ⟨true, 8, true, false, 0, false, false, [(0, 3), (1, 23), (3, 2), (4, 27), (5, 9), (6, 45), (7, 46)], true, some [.con (.int .i64 0), .con (.int .i64 0), .con (.int .i64 0), .con (.int .i64 0), .con (.slice none 0 0), .con (.string ⟨#[]⟩), .con (.slice none 0 0), .con (.slice none 0 0)], 120, none, none⟩ (.node 47 ⟨true, 8, true, false, 0, false, false, [(0, 3), (1, 23), (3, 2), (4, 27), (5, 9), (6, 45), (7, 46)], true, some [.con (.int .i64 0), .con (.int .i64 0), .con (.int .i64 0), .con (.int .i64 0), .con (.slice none 0 0), .con (.string ⟨#[]⟩), .con (.slice none 0 0), .con (.slice none 0 0)], 120, none, none⟩ .leaf
  .leaf)
  .leaf)
  (.node 51 ⟨true, 17, true, false, 0, false, false, [(0, 39), (1, 41), (2, 3), (3, 3), (4, 44), (7, 3), (8, 48), (16, 49)], true, some [.con (.slice none 0 0), .con (.slice none 0 0), .con (.int .i64 0), .con (.int .i64 0), .con (.int .i64 0), .con (.string ⟨#[]⟩), .con (.slice none 0 0), .con (.int .i64 0), .con (.int .i64 0), .con (.int .i64 0), .con (.int .i64 0), .con (.int .i64 0), .con (.slice none 0 0), .con (.string ⟨#[]⟩), .con (.slice none 0 0), .con (.slice none 0 0), .con (.slice none 0 0)], 264, none, none⟩ (.node 50 ⟨true, 17, true, false, 0, false, false, [(0, 39), (1, 41), (2, 3), (3, 3), (4, 44), (7, 3), (8, 48), (16, 49)], true, some [.con (.slice none 0 0), .con (.slice none 0 0), .con (.int .i64 0), .con (.int .i64 0), .con (.int .i64 0), .con (.string ⟨#[]⟩), .con (.slice none 0 0), .con (.int .i64 0), .con (.int .i64 0), .con (.int .i64 0), .con (.int .i64 0), .con (.int .i64 0), .con (.slice none 0 0), .con (.string ⟨#[]⟩), .con (.slice none 0 0), .con (.slice none 0 0), .con (.slice none 0 0)], 264, none, none⟩ .leaf
  .leaf)
  .leaf)))))
  (.node 80 ⟨true, 1, false, false, 0, false, false, [], false, some [.con .nilFunc], 8, none, none⟩ (.node 66 ⟨true, 1, false, false, 0, false, false, [], false, some [.con (.pointer none)], 8, none, none⟩ (.node 60 ⟨true, 1, false, false, 0, false, false, [], false, some [.con .nilFunc], 8, none, none⟩ (.node 57 ⟨true, 6, true, false, 0, false, false, [(0, 9), (1, 30)], true, some [.con (.string ⟨#[]⟩), .con (.int .i64 0), .con (.int .i64 0), .con (.slice none 0 0), .con (.string ⟨#[]⟩), .con (.slice none 0 0)], 96, none, none⟩ (.node 55 ⟨true, 1, false, false, 0, false, false, [], false, some [.con .nilFunc], 8, none, none⟩ (.node 54 ⟨true, 1, false, false, 0, false, false, [], false, some [.con .nilFunc], 8, none, none⟩ .leaf
  .leaf)
  (.node 56 ⟨true, 1, false, false, 0, false, false, [], false, some [.con .nilFunc], 8, none, none⟩ .leaf
  .leaf))
  (.node 59 ⟨true, 1, false, false, 0, false, false, [], false, some [.con .nilFunc], 8, none, none⟩ (.node 58 ⟨true, 6, true, false, 0, false, false, [(0, 9), (1, 30)], true, some [.con (.string ⟨#[]⟩), .con (.int .i64 0), .con (.int .i64 0), .con (.slice none 0 0), .con (.string ⟨#[]⟩), .con (.slice none 0 0)], 96, none, none⟩ .leaf
  .leaf)
  .leaf))
  (.node 63 ⟨true, 4, true, false, 0, false, false, [(0, 23), (2, 9), (3, 62)], true, some [.con (.int .i64 0), .con (.int .i64 0), .con (.string ⟨#[]⟩), .con (.slice none 0 0)], 56, none, none⟩ (.node 62 ⟨true, 1, false, true, 85, false, false, [], false, some [.con (.slice none 0 0)], 24, none, none⟩ (.node 61 ⟨true, 1, false, false, 0, false, false, [], false, some [.con .nilFunc], 8, none, none⟩ .leaf
  .leaf)
  .leaf)
  (.node 65 ⟨true, 1, false, false, 0, false, false, [], false, some [.con .nilFunc], 8, none, none⟩ (.node 64 ⟨true, 4, true, false, 0, false, false, [(0, 23), (2, 9), (3, 62)], true, some [.con (.int .i64 0), .con (.int .i64 0), .con (.string ⟨#[]⟩), .con (.slice none 0 0)], 56, none, none⟩ .leaf
  .leaf)
  .leaf)))
  (.node 73 ⟨true, 6, true, false, 0, false, false, [(0, 3), (1, 30)], true, some [.con (.int .i64 0), .con (.int .i64 0), .con (.int .i64 0), .con (.slice none 0 0), .con (.string ⟨#[]⟩), .con (.slice none 0 0)], 88, none, none⟩ (.node 70 ⟨true, 1, false, false, 0, false, false, [], false, some [.con (.map none)], 8, some (9, 3), none⟩ (.node 68 ⟨true, 1, false, false, 0, false, false, [], false, some [.con .nilFunc], 8, none, none⟩ (.node 67 ⟨true, 1, false, false, 0, false, false, [], false, some [.con .nilFunc], 8, none, none⟩ .leaf
  .leaf)
  (.node 69 ⟨true, 1, false, true, 88, false, false, [], false, some [.con (.slice none 0 0)], 24, none, none⟩ .leaf
  .leaf))
  (.node 72 ⟨true, 4, true, false, 0, false, false, [(0, 69), (1, 70), (2, 69), (3, 2)], true, some [.con (.slice none 0 0), .con (.map none), .con (.slice none 0 0), .con (.int .i64 0)], 64, none, none⟩ (.node 71 ⟨true, 4, true, false, 0, false, false, [(0, 69), (1, 70), (2, 69), (3, 2)], true, some [.con (.slice none 0 0), .con (.map none), .con (.slice none 0 0), .con (.int .i64 0)], 64, none, none⟩ .leaf
  .leaf)
  .leaf))
  (.node 77 ⟨true, 1, false, false, 0, false, false, [], false, some [.con .nilIface], 16, none, none⟩ (.node 76 ⟨true, 1, false, false, 0, false, false, [], false, some [.con .nilFunc], 8, none, none⟩ (.node 74 ⟨true, 6, true, false, 0, false, false, [(0, 3), (1, 30)], true, some [.con (.int .i64 0), .con (.int .i64 0), .con (.int .i64 0), .con (.slice none 0 0), .con (.string ⟨#[]⟩), .con (.slice none 0 0)], 88, none, none⟩ .leaf
  .leaf)
  .leaf)
  (.node 79 ⟨true, 1, false, false, 0, false, false, [], false, some [.con .nilFunc], 8, none, none⟩ (.node 78 ⟨true, 1, false, false, 0, false, false, [], false, some [.con .nilIface], 16, none, none⟩ .leaf
  .leaf)
  .leaf))))
  (.node 94 ⟨true, 1, false, false, 0, false, false, [], false, some [.con .nilFunc], 8, none, none⟩ (.node 87 ⟨true, 1, false, false, 0, false, false, [], false, some [.con .nilFunc], 8, none, none⟩ (.node 84 ⟨true, 2, true, false, 0, false, false, [(0, 9), (1, 42)], true, some [.con (.string ⟨#[]⟩), .con (.slice none 0 0)], 40, none, none⟩ (.node 82 ⟨true, 1, false, false, 0, false, false, [], false, some [.con .nilFunc], 8, none, none⟩ (.node 81 ⟨true, 1, false, false, 0, false, false, [], false, some [.con .nilFunc], 8, none, none⟩ .leaf
  .leaf)
  (.node 83 ⟨true, 1, false, false, 0, false, false, [], false, some [.con .nilFunc], 8, none, none⟩ .leaf
  .leaf))
  (.node 86 ⟨true, 1, false, false, 0, false, false, [], false, some [.con .nilFunc], 8, none, none⟩ (.node 85 ⟨true, 2, true, false, 0, false, false, [(0, 9), (1, 42)], true, some [.con (.string ⟨#[]⟩), .con (.slice none 0 0)], 40, none, none⟩ .leaf
  .leaf)
  .leaf))
  (.node 90 ⟨true, 1, false, true, 142, false, false, [], false, some [.con (.slice none 0 0)], 24, none, none⟩ (.node 89 ⟨true, 1, false, true, 97, false, false, [], false, some [.con (.slice none 0 0)], 24, none, none⟩ (.node 88 ⟨true, 1, false, false, 0, false, false, [], false, some [.con (.pointer none)], 8, none, none⟩ .leaf
  .leaf)
  .leaf)
  (.node 92 ⟨true, 4, true, false, 0, false, false, [(0, 89), (1, 90), (2, 69), (3, 3)], true, some [.con (.slice none 0 0), .con (.slice none 0 0), .con (.slice none 0 0), .con (.int .i64 0)], 80, none, none⟩ (.node 91 ⟨true, 4, true, false, 0, false, false, [(0, 89), (1, 90), (2, 69), (3, 3)], true, some [.con (.slice none 0 0), .con (.slice none 0 0), .con (.slice none 0 0), .con (.int .i64 0)], 80, none, none⟩ .leaf
  .leaf)
  .leaf)))
  (.node 100 ⟨true, 1, false, false, 0, false, false, [], false, some [.con (.map none)], 8, some (2, 3), none⟩ (.node 97 ⟨true, 3, true, false, 0, false, false, [(0, 3), (1, 9), (2, 95)], true, some [.con (.int .i64 0), .con (.string ⟨#[]⟩), .con (.slice none 0 0)], 48, none, none⟩ (.node 96 ⟨true, 3, true, false, 0, false, false, [(0, 3), (1, 9), (2, 95)], true, some [.con (.int .i64 0), .con (.string ⟨#[]⟩), .con (.slice none 0 0)], 48, none, none⟩ (.node 95 ⟨true, 1, false, true, 78, false, false, [], false, some [.con (.slice none 0 0)], 24, none, none⟩ .leaf
  .leaf)
  .leaf)
  (.node 99 ⟨true, 1, false, false, 0, false, false, [], false, some [.con (.map none)], 8, some (2, 3), none⟩ (.node 98 ⟨true, 1, false, false, 0, false, false, [], false, some [.con .nilFunc], 8, none, none⟩ .leaf
  .leaf)
  .leaf))
  (.node 103 ⟨true, 1, true, false, 0, false, false, [(0, 66)], true, some [.con (.pointer none)], 8, none, none⟩ (.node 102 ⟨true, 1, true, false, 0, false, false, [(0, 66)], true, some [.con (.pointer none)], 8, none, none⟩ (.node 101 ⟨true, 1, false, false, 0, false, false, [], false, some [.con .nilFunc], 8, none, none⟩ .leaf
  .leaf)
  .leaf)
  (.node 105 ⟨true, 0, true, false, 0, false, false, [], true, some [], 0, none, none⟩ (.node 104 ⟨true, 0, true, false, 0, false, false, [], true, some [], 0, none, none⟩ .leaf
  .leaf)
  .leaf))))))
  (.node 160 ⟨true, 1, false, false, 0, false, false, [], false, some [.con .nilFunc], 8, none, none⟩ (.node 132 ⟨true, 1, false, false, 0, false, false, [], false, some [.con .nilFunc], 8, none, none⟩ (.node 119 ⟨true, 1, false, false, 0, false, false, [], false, some [.con .nilFunc], 8, none, none⟩ (.node 113 ⟨true, 1, false, false, 0, false, false, [], false, some [.con (.pointer none)], 8, none, none⟩ (.node 110 ⟨true, 1, false, false, 0, false, false, [], false, some [.con .nilFunc], 8, none, none⟩ (.node 108 ⟨true, 2, true, false, 0, false, false, [(0, 88), (1, 107)], true, some [.con (.pointer none), .con (.slice none 0 0)], 32, none, none⟩ (.node 107 ⟨true, 1, false, true, 177, false, false, [], false, some [.con (.slice none 0 0)], 24, none, none⟩ .leaf
  .leaf)
  (.node 109 ⟨true, 2, true, false, 0, false, false, [(0, 88), (1, 107)], true, some [.con (.pointer none), .con (.slice none 0 0)], 32, none, none⟩ .leaf
  .leaf))
  (.node 112 ⟨true, 1, false, false, 0, false, false, [], false, some [.con (.map none)], 8, some (115, 24), none⟩ (.node 111 ⟨true, 1, false, false, 0, false, false, [], false, some [.con .nilFunc], 8, none, none⟩ .leaf
  .leaf)
  .leaf))
  (.node 116 ⟨true, 1, false, false, 0, false, false, [], false, some [.con .nilFunc], 8, none, none⟩ (.node 115 ⟨true, 3, true, false, 0, false, false, [(0, 3), (1, 2), (2, 9)], true, some [.con (.int .i64 0), .con (.int .i64 0), .con (.string ⟨#[]⟩)], 32, none, none⟩ (.node 114 ⟨true, 3, true, false, 0, false, false, [(0, 3), (1, 2), (2, 9)], true, some [.con (.int .i64 0), .con (.int .i64 0), .con (.string ⟨#[]⟩)], 32, none, none⟩ .leaf
  .leaf)
  .leaf)
  (.node 118 ⟨true, 1, false, false, 0, false, false, [], false, some [.con .nilFunc], 8, none, none⟩ (.node 117 ⟨true, 1, false, false, 0, false, false, [], false, some [.con .nilFunc], 8, none, none⟩ .leaf
  .leaf)
  .leaf)))
  (.node 126 ⟨true, 1, false, false, 0, false, false, [], false, some [.con .nilFunc], 8, none, none⟩ (.node 123 ⟨true, 1, false, false, 0, false, false, [], false, some [.con (.map none)], 8, some (3, 69), none⟩ (.node 121 ⟨true, 1, false, false, 0, false, false, [], false, some [.con .nilFunc], 8, none, none⟩ (.node 120 ⟨true, 1, false, false, 0, false, false, [], false, some [.con .nilFunc], 8, none, none⟩ .leaf
  .leaf)
  (.node 122 ⟨true, 1, false, false, 0, false, false, [], false, some [.con (.map none)], 8, some (3, 69), none⟩ .leaf
  .leaf))
  (.node 125 ⟨true, 1, false, false, 0, false, false, [], false, some [.con .nilFunc], 8, none, none⟩ (.node 124 ⟨true, 1, false, false, 0, false, false, [], false, some [.con .nilFunc], 8, none, none⟩ .leaf
  .leaf)
  .leaf))
  (.node 129 ⟨true, 2, true, false, 0, false, false, [(0, 78), (1, 24)], true, some [.con .nilIface, .con (.slice none 0 0)], 40, none, none⟩ (.node 128 ⟨true, 2, true, false, 0, false, false, [(0, 78), (1, 24)], true, some [.con .nilIface, .con (.slice none 0 0)], 40, none, none⟩ (.node 127 ⟨true, 1, false, false, 0, false, false, [], false, some [.con .nilFunc], 8, none, none⟩ .leaf
  .leaf)
  .leaf)
  (.node 131 ⟨true, 1, false, false, 0, false, false, [], false, some [.con .nilFunc], 8, none, none⟩ (.node 130 ⟨true, 1, false, false, 0, false, false, [], false, some [.con .nilFunc], 8, none, none⟩ .leaf
  .leaf)
  .leaf))))
  (.node 147 ⟨true, 1, false, true, 151, false, false, [], false, some [.con (.slice none 0 0)], 24, none, none⟩ (.node 141 ⟨true, 7, true, false, 0, false, false, [(0, 74), (6, 3)], true, some [.con (.int .i64 0), .con (.int .i64 0), .con (.int .i64 0), .con (.slice none 0 0), .con (.string ⟨#[]⟩), .con (.slice none 0 0), .con (.int .i64 0)], 96, none, none⟩ (.node 136 ⟨true, 1, false, false, 0, false, false, [], false, some [.con .nilFunc], 8, none, none⟩ (.node 134 ⟨true, 1, false, true, 129, false, false, [], false, some [.con (.slice none 0 0)], 24, none, none⟩ (.node 133 ⟨true, 1, false, false, 0, false, false, [], false, some [.con .nilFunc], 8, none, none⟩ .leaf
  .leaf)
  (.node 135 ⟨true, 1, false, false, 0, false, false, [], false, some [.con .nilFunc], 8, none, none⟩ .leaf
  .leaf))
  (.node 139 ⟨true, 1, false, false, 0, false, false, [], false, some [.con .nilFunc], 8, none, none⟩ (.node 137 ⟨true, 1, false, false, 0, false, false, [], false, some [.con .nilFunc], 8, none, none⟩ .leaf
  .leaf)
  .leaf))
  (.node 144 ⟨true, 1, false, false, 0, false, false, [], false, some [.con .nilFunc], 8, none, none⟩ (.node 143 ⟨true, 1, false, false, 0, false, false, [], false, some [.con .nilFunc], 8, none, none⟩ (.node 142 ⟨true, 7, true, false, 0, false, false, [(0, 74), (6, 3)], true, some [.con (.int .i64 0), .con (.int .i64 0), .con (.int .i64 0), .con (.slice none 0 0), .con (.string ⟨#[]⟩), .con (.slice none 0 0), .con (.int .i64 0)], 96, none, none⟩ .leaf
  .leaf)
  .leaf)
  (.node 146 ⟨true, 1, false, false, 0, false, false, [], false, some [.con .nilFunc], 8, none, none⟩ (.node 145 ⟨true, 1, false, false, 0, false, false, [], false, some [.con .nilFunc], 8, none, none⟩ .leaf
  .leaf)
  .leaf)))
  (.node 154 ⟨true, 1, false, false, 0, false, false, [], false, some [.con (.int .i64 0)], 8, none, some .i64⟩ (.node 150 ⟨true, 1, false, true, 3, false, false, [], false, some [.con (.slice none 0 0)], 24, none, none⟩ (.node 149 ⟨true, 1, false, false, 0, false, false, [], false, some [.con .nilFunc], 8, none, none⟩ (.node 148 ⟨true, 1, false, false, 0, false, false, [], false, some [.con .nilFunc], 8, none, none⟩ .leaf
  .leaf)
  .leaf)
  (.node 153 ⟨true, 1, false, false, 0, false, false, [], false, some [.con .nilFunc], 8, none, none⟩ (.node 151 ⟨true, 1, false, true, 3, false, false, [], false, some [.con (.slice none 0 0)], 24, none, none⟩ .leaf
  .leaf)
  .leaf))
  (.node 157 ⟨true, 1, false, false, 0, false, false, [], false, some [.con .nilFunc], 8, none, none⟩ (.node 156 ⟨true, 1, false, false, 0, false, false, [], false, some [.con .nilFunc], 8, none, none⟩ (.node 155 ⟨true, 1, false, false, 0, false, false, [], false, some [.con .nilFunc], 8, none, none⟩ .leaf
  .leaf)
  .leaf)
  (.node 159 ⟨true, 1, false, false, 0, false, false, [], false, some [.con .nilFunc], 8, none, none⟩ (.node 158 ⟨true, 1, false, false, 0, false, false, [], false, some [.con .nilFunc], 8, none, none⟩ .leaf
  .leaf)
  .leaf)))))
  (.node 186 ⟨true, 1, false, false, 0, false, false, [], false, some [.con .nilFunc], 8, none, none⟩ (.node 173 ⟨true, 1, false, false, 0, false, false, [], false, some [.con .nilFunc], 8, none, none⟩ (.node 167 ⟨true, 2, true, false, 0, false, false, [(0, 151), (1, 3)], true, some [.con (.slice none 0 0), .con (.int .i64 0)], 32, none, none⟩ (.node 164 ⟨true, 1, false, false, 0, false, false, [], false, some [.con .nilFunc], 8, none, none⟩ (.node 162 ⟨true, 1, false, false, 0, false, false, [], false, some [.con .nilFunc], 8, none, none⟩ (.node 161 ⟨true, 1, false, false, 0, false, false, [], false, some [.con .nilFunc], 8, none, none⟩ .leaf
  .leaf)
  (.node 163 ⟨true, 1, false, false, 0, false, false, [], false, some [.con .nilFunc], 8, none, none⟩ .leaf
  .leaf))
  (.node 166 ⟨true, 1, false, false, 0, false, false, [], false, some [.con .nilFunc], 8, none, none⟩ (.node 165 ⟨true, 1, false, true, 168, false, false, [], false, some [.con (.slice none 0 0)], 24, none, none⟩ .leaf
  .leaf)
  .leaf))
  (.node 170 ⟨true, 1, false, false, 0, false, false, [], false, some [.con .nilFunc], 8, none, none⟩ (.node 169 ⟨true, 1, false, false, 0, false, false, [], false, some [.con .nilFunc], 8, none, none⟩ (.node 168 ⟨true, 2, true, false, 0, false, false, [(0, 151), (1, 3)], true, some [.con (.slice none 0 0), .con (.int .i64 0)], 32, none, none⟩ .leaf
  .leaf)
  .leaf)
  (.node 172 ⟨true, 1, false, false, 0, false, false, [], false, some [.con .nilFunc], 8, none, none⟩ (.node 171 ⟨true, 1, false, false, 0, false, false, [], false, some [.con .nilFunc], 8, none, none⟩ .leaf
  .leaf)
  .leaf)))
  (.node 180 ⟨true, 1, false, false, 0, false, false, [], false, some [.con .nilFunc], 8, none, none⟩ (.node 177 ⟨true, 1, false, false, 0, false, false, [], false, some [.con (.int .u64 0)], 8, none, some .u64⟩ (.node 175 ⟨true, 1, false, false, 0, false, false, [], false, some [.con .nilFunc], 8, none, none⟩ (.node 174 ⟨true, 1, false, false, 0, false, false, [], false, some [.con .nilFunc], 8, none, none⟩ .leaf
  .leaf)
  (.node 176 ⟨true, 1, false, false, 0, false, false, [], false, some [.con .nilFunc], 8, none, none⟩ .leaf
  .leaf))
  (.node 179 ⟨true, 1, false, false, 0, false, false, [], false, some [.con .nilFunc], 8, none, none⟩ (.node 178 ⟨true, 1, false, false, 0, false, false, [], false, some [.con .nilFunc], 8, none, none⟩ .leaf
  .leaf)
  .leaf))
  (.node 183 ⟨true, 1, false, false, 0, false, false, [], false, some [.con .nilFunc], 8, none, none⟩ (.node 182 ⟨true, 1, false, false, 0, false, false, [], false, some [.con .nilFunc], 8, none, none⟩ (.node 181 ⟨true, 1, false, false, 0, false, false, [], false, some [.con (.int .u64 0)], 8, none, some .u64⟩ .leaf
  .leaf)
  .leaf)
  (.node 185 ⟨true, 1, false, false, 0, false, false, [], false, some [.con .nilFunc], 8, none, none⟩ (.node 184 ⟨true, 1, false, false, 0, false, false, [], false, some [.con .nilFunc], 8, none, none⟩ .leaf
  .leaf)
  .leaf))))
  (.node 199 ⟨true, 11, true, false, 0, false, false, [(0, 12), (1, 12), (2, 192), (3, 193), (4, 5), (5, 5), (6, 194), (7, 195), (8, 196), (9, 197), (10, 198)], true, some [.con (.int .u64 0), .con (.int .u64 0), .con (.int .u32 0), .con (.int .u8 0), .con (.int .u8 0), .con (.int .u8 0), .con (.int .u8 0), .con .nilFunc, .con (.pointer none), .con (.int .i32 0), .con (.int .i32 0)], 48, none, none⟩ (.node 193 ⟨true, 1, false, false, 0, false, false, [], false, some [.con (.int .u8 0)], 1, none, some .u8⟩ (.node 190 ⟨true, 0, true, false, 0, false, false, [(0, 189)], true, some [], 0, none, none⟩ (.node 188 ⟨true, 4, true, false, 0, false, false, [(0, 17), (1, 17), (2, 17), (3, 9)], true, some [.con (.pointer none), .con (.pointer none), .con (.pointer none), .con (.string ⟨#[]⟩)], 40, none, none⟩ (.node 187 ⟨true, 4, true, false, 0, false, false, [(0, 17), (1, 17), (2, 17), (3, 9)], true, some [.con (.pointer none), .con (.pointer none), .con (.pointer none), .con (.string ⟨#[]⟩)], 40, none, none⟩ .leaf
  .leaf)
  (.node 189 ⟨true, 0, true, false, 0, false, false, [], false, some [], 0, none, none⟩ .leaf
  .leaf))
  (.node 192 ⟨true, 1, false, false, 0, false, false, [], false, some [.con (.int .u32 0)], 4, none, some .u32⟩ (.node 191 ⟨true, 0, true, false, 0, false, false, [(0, 189)], true, some [], 0, none, none⟩ .leaf
  .leaf)
  .leaf))
  (.node 196 ⟨true, 1, false, false, 0, false, false, [], false, some [.con (.pointer none)], 8, none, none⟩ (.node 195 ⟨true, 1, false, false, 0, false, false, [], false, some [.con .nilFunc], 8, none, none⟩ (.node 194 ⟨true, 1, false, false, 0, false, false, [], false, some [.con (.int .u8 0)], 1, none, some .u8⟩ .leaf
  .leaf)
  .leaf)
  (.node 198 ⟨true, 1, false, false, 0, false, false, [], false, some [.con (.int .i32 0)], 4, none, some .i32⟩ (.node 197 ⟨true, 1, false, false, 0, false, false, [], false, some [.con (.int .i32 0)], 4, none, some .i32⟩ .leaf
  .leaf)
  .leaf)))
  (.node 205 ⟨true, 14, true, false, 0, false, false, [(0, 26), (6, 48)], true, some [.con (.int .i64 0), .con (.int .i64 0), .con (.int .i64 0), .con (.string ⟨#[]⟩), .con (.int .i64 0), .con (.slice none 0 0), .con (.int .i64 0), .con (.int .i64 0), .con (.int .i64 0), .con (.int .i64 0), .con (.slice none 0 0), .con (.string ⟨#[]⟩), .con (.slice none 0 0), .con (.slice none 0 0)], 192, none, none⟩ (.node 202 ⟨true, 15, true, false, 0, false, false, [(0, 23), (2, 9), (3, 201), (4, 44), (7, 48)], true, some [.con (.int .i64 0), .con (.int .i64 0), .con (.string ⟨#[]⟩), .con (.slice none 0 0), .con (.int .i64 0), .con (.string ⟨#[]⟩), .con (.slice none 0 0), .con (.int .i64 0), .con (.int .i64 0), .con (.int .i64 0), .con (.int .i64 0), .con (.slice none 0 0), .con (.string ⟨#[]⟩), .con (.slice none 0 0), .con (.slice none 0 0)], 224, none, none⟩ (.node 201 ⟨true, 1, false, true, 207, false, false, [], false, some [.con (.slice none 0 0)], 24, none, none⟩ (.node 200 ⟨true, 11, true, false, 0, false, false, [(0, 12), (1, 12), (2, 192), (3, 193), (4, 5), (5, 5), (6, 194), (7, 195), (8, 196), (9, 197), (10, 198)], true, some [.con (.int .u64 0), .con (.int .u64 0), .con (.int .u32 0), .con (.int .u8 0), .con (.int .u8 0), .con (.int .u8 0), .con (.int .u8 0), .con .nilFunc, .con (.pointer none), .con (.int .i32 0), .con (.int .i32 0)], 48, none, none⟩ .leaf
  .leaf)
  .leaf)
  (.node 204 ⟨true, 14, true, false, 0, false, false, [(0, 26), (6, 48)], true, some [.con (.int .i64 0), .con (.int .i64 0), .con (.int .i64 0), .con (.string ⟨#[]⟩), .con (.int .i64 0), .con (.slice none 0 0), .con (.int .i64 0), .con (.int .i64 0), .con (.int .i64 0), .con (.int .i64 0), .con (.slice none 0 0), .con (.string ⟨#[]⟩), .con (.slice none 0 0), .con (.slice none 0 0)], 192, none, none⟩ (.node 203 ⟨true, 15, true, false, 0, false, false, [(0, 23), (2, 9), (3, 201), (4, 44), (7, 48)], true, some [.con (.int .i64 0), .con (.int .i64 0), .con (.string ⟨#[]⟩), .con (.slice none 0 0), .con (.int .i64 0), .con (.string ⟨#[]⟩), .con (.slice none 0 0), .con (.int .i64 0), .con (.int .i64 0), .con (.int .i64 0), .con (.int .i64 0), .con (.slice none 0 0), .con (.string ⟨#[]⟩), .con (.slice none 0 0), .con (.slice none 0 0)], 224, none, none⟩ .leaf
  .leaf)
  .leaf))
  (.node 208 ⟨true, 16, true, false, 0, false, false, [(0, 23), (2, 9), (3, 207), (7, 3), (8, 48)], true, some [.con (.int .i64 0), .con (.int .i64 0), .con (.string ⟨#[]⟩), .con (.string ⟨#[]⟩), .con (.int .i64 0), .con (.string ⟨#[]⟩), .con (.slice none 0 0), .con (.int .i64 0), .con (.int .i64 0), .con (.int .i64 0), .con (.int .i64 0), .con (.int .i64 0), .con (.slice none 0 0), .con (.string ⟨#[]⟩), .con (.slice none 0 0), .con (.slice none 0 0)], 224, none, none⟩ (.node 207 ⟨true, 4, true, false, 0, false, false, [(0, 9), (1, 44)], true, some [.con (.string ⟨#[]⟩), .con (.int .i64 0), .con (.string ⟨#[]⟩), .con (.slice none 0 0)], 64, none, none⟩ (.node 206 ⟨true, 4, true, false, 0, false, false, [(0, 9), (1, 44)], true, some [.con (.string ⟨#[]⟩), .con (.int .i64 0), .con (.string ⟨#[]⟩), .con (.slice none 0 0)], 64, none, none⟩ .leaf
  .leaf)
  .leaf)
  (.node 210 ⟨true, 1, false, false, 0, false, false, [], false, some [.con (.pointer none)], 8, none, none⟩ (.node 209 ⟨true, 16, true, false, 0, false, false, [(0, 23), (2, 9), (3, 207), (7, 3), (8, 48)], true, some [.con (.int .i64 0), .con (.int .i64 0), .con (.string ⟨#[]⟩), .con (.string ⟨#[]⟩), .con (.int .i64 0), .con (.string ⟨#[]⟩), .con (.slice none 0 0), .con (.int .i64 0), .con (.int .i64 0), .con (.int .i64 0), .con (.int .i64 0), .con (.int .i64 0), .con (.slice none 0 0), .con (.string ⟨#[]⟩), .con (.slice none 0 0), .con (.slice none 0 0)], 224, none, none⟩ .leaf
  .leaf)
  .leaf)))))))
def T (t : TypeId) : Option TI := look t tbl
def goodT (P : Program) : TT → Prop
  | .leaf => True
  | .node k x l r => infoP P k = x ∧ (P.underlying k).isSome = true ∧ goodT P l ∧ goodT P r
def infosT (P : Program) : TT → List (TI × Bool)
  | .leaf => []
  | .node k _ l r => (infoP P k, (P.underlying k).isSome) :: (infosT P l ++ infosT P r)
def wantT : TT → List (TI × Bool)
  | .leaf => []
  | .node _ x l r => (x, true) :: (wantT l ++ wantT r)
theorem infosT_length (P : Program) : ∀ t : TT, (infosT P t).length = (wantT t).length
  | .leaf => rfl
  | .node _ _ l r => by simp [infosT, wantT, infosT_length P l, infosT_length P r]
theorem good_of {P : Program} : ∀ t : TT, infosT P t = wantT t → goodT P t
  | .leaf, _ => trivial
  | .node k x l r, h => by
    simp only [infosT, wantT, List.cons.injEq, Prod.mk.injEq] at h
    obtain ⟨⟨h1, h2⟩, h3⟩ := h
    obtain ⟨h4, h5⟩ := List.append_inj h3 (infosT_length P l)
    exact ⟨h1, h2, good_of l h4, good_of r h5⟩
theorem look_good {P : Program} {t : Nat} {ti : TI} : ∀ (x : TT), goodT P x → look t x = some ti → infoP P t = ti ∧ (P.underlying t).isSome = true
  | .leaf, _, h => by cases h
  | .node k x l r, g, h => by
    obtain ⟨g1, g2, g3, g4⟩ := g
    unfold look at h
    split at h
    · rename_i hb
      have e := Nat.eq_of_beq_eq_true hb
      injection h with h
      subst e h
      exact ⟨g1, g2⟩
    · split at h
      · exact look_good l g3 h
      · exact look_good r g4 h
theorem tok : Tok Try.prog T := fun t ti h => look_good tbl (good_of tbl (by kernel_rfl)) h
end Go.Proofs.Ytdffmciedieikaa.Deep

namespace Go.Proofs.Ytdffmciedieikaa.Deep
open Go.RowKit
set_option linter.unusedVariables false
variable {P : Program}
theorem br_i {b : Bool} {X Y : Prop} (h1 : b = true → X) (h2 : b = false → Y) : br b X Y := by
  cases b
  · exact h2 rfl
  · exact h1 rfl
theorem acalls_eq {T : TypeId → Option TI} {S : FuncId → Option Sg} {L : Nat → Option (List Nat × List (Nat × Sh))} (hm : P.follows .mixedOrders = true) {f : FuncId} {fn : Func} {c : Code} {args : List PV} {h : Heap} {Q : PV → Heap → Prop} {X : Prop} (hT : Tok P T) (hf : P.funcs[f]? = some fn) (hb : fn.body = some c) (e : funA P T S L (fun _ => False) fn c args h Q = X) (hx : X) : ACalls P f args h Q :=
  acalls_of hm hT hf hb (e.mpr hx)
theorem call_p {f : FuncId} {args : List PV} {h : Heap} {r : PV} {X : Prop} (he : Enters P f) (hc : PCalls P f args fun r' => r' = r) (hu : undersL 0 args = true) (hk : X) : CallN P f args h r X :=
  ⟨he, (hc.at hu h), hk⟩
theorem wrap_id {n : Int} (h1 : -9223372036854775808 ≤ n) (h2 : n ≤ 9223372036854775807) : IntKind.i64.wrap n = n := by
  simp only [IntKind.wrap, IntKind.bits, IntKind.signed, Bool.true_and]
  split <;> (rename_i h; simp at h; omega)
def unpack : List RSh → PV → List PV
  | [_], r => [r]
  | _, .tup l => l
  | _, _ => []
def canPost (n0 : Nat) (h : Heap) : List BT → Nat → Option Heap
  | [], _ => some []
  | t :: r, i => match Nat.blt i n0 with
    | true => match canB n0 t (h.getD i []) with
      | some l => match canPost n0 h r (i + 1) with | some ls => some (l :: ls) | none => none
      | none => none
    | false => match t with
      | .tip => match canPost n0 h r (i + 1) with | some ls => some ([.tip] :: ls) | none => none
      | _ => none
def postToks (n0 : Nat) (h : Heap) : List BT → Nat → Bd
  | [], _ => []
  | t :: r, i => match Nat.blt i n0 with
    | true => tokB t (h.getD i []) ++ postToks n0 h r (i + 1)
    | false => []
def deadAt (H : List (List PV)) (t : Nat) : Bool := match H.getD t [] with | [] => true | _ => false
def pastX (n0 : Nat) (H : Heap) : Bd → Bool
  | [] => true
  | (b, some t) :: r => (Nat.blt b n0 || Nat.ble n0 t || deadAt H t) && pastX n0 H r
  | (_, none) :: r => pastX n0 H r
def isUnit : PV → Bool
  | .tup [] => true
  | _ => false
def canX (n0 : Nat) (res : List RSh) (post : List BT) (r : PV) (h : Heap) (Q : PV → Heap → Prop) : Prop :=
  match canRs res (unpack res r) with
  | none => False
  | some rs => match canPost n0 h post 0 with
    | none => False
    | some H => match okB n0 H.length h (tokRs res (unpack res r) ++ postToks n0 h post 0) [] && nodupN ((keysB (tokRs res (unpack res r) ++ postToks n0 h post 0)).filter (Nat.ble n0)) && pastX n0 H (tokRs res (unpack res r) ++ postToks n0 h post 0) && Nat.ble n0 h.length && Nat.ble n0 H.length && Nat.beq rs.length res.length && (Nat.blt 0 rs.length || isUnit r) with
      | true => Q (packR rs) H
      | false => False
theorem canR_seen {σ : Nat → Option Nat} {n : Nat} {s : RSh} {p q : PV} (hc : canR s p = some q) (hb : Bound σ n (tokR s p)) : SeenAs σ n p q := by
  cases s with
  | cell s => exact canS_seen hc hb
  | agg l =>
    unfold canR at hc
    split at hc
    · rename_i e; cases e
    · rename_i l' ps e
      injection e with e
      subst e
      split at hc
      case h_2 => cases hc
      rename_i qs hqs
      injection hc with hc
      subst hc
      obtain ⟨k1, k2⟩ := canL_seen hqs hb
      intro G m w n0 v hr
      cases hr with
      | agg _ vs _ hl hrr => exact .agg _ _ _ (by omega) (fun i hi => k2 i hi G m w n0 _ (hrr i (by omega)))
    · cases hc
theorem canRs_seen {σ : Nat → Option Nat} {n : Nat} : ∀ {ss : List RSh} {ps qs : List PV}, canRs ss ps = some qs → Bound σ n (tokRs ss ps) → ps.length = qs.length ∧ ∀ j, j < qs.length → SeenAs σ n (ps.getD j .any) (qs.getD j .any)
  | [], [], qs, hc, _ => by
    simp only [canRs, Option.some.injEq] at hc
    subst hc
    exact ⟨rfl, fun j hj => absurd hj (Nat.not_lt_zero _)⟩
  | [], _ :: _, qs, hc, _ => by simp [canRs] at hc
  | _ :: _, [], qs, hc, _ => by simp [canRs] at hc
  | s :: ss, p :: ps, qs, hc, hb => by
    simp only [canRs] at hc
    split at hc
    case h_2 => cases hc
    rename_i q hq
    split at hc
    case h_2 => cases hc
    rename_i qs' hqs
    injection hc with hc
    subst hc
    obtain ⟨h1, h2⟩ := Bound.app (ps := tokR s p) (qs := tokRs ss ps) hb
    obtain ⟨k1, k2⟩ := canRs_seen hqs h2
    refine ⟨by simp [k1], fun j hj => ?_⟩
    cases j with
    | zero => exact canR_seen hq h1
    | succ j => exact k2 j (by simpa using hj)
theorem pack_seen {σ : Nat → Option Nat} {n : Nat} {res : List RSh} {r : PV} {rs : List PV} (hl : rs.length = res.length) (h0 : 0 < rs.length ∨ isUnit r = true) (hs : (unpack res r).length = rs.length ∧ ∀ j, j < rs.length → SeenAs σ n ((unpack res r).getD j .any) (rs.getD j .any)) : SeenAs σ n r (packR rs) := by
  obtain ⟨h1, h2⟩ := hs
  match res, rs, hl with
  | [], [], _ =>
    rcases h0 with h0 | h0
    · simp at h0
    · unfold isUnit at h0
      split at h0
      · exact SeenAs.same (d := 0) rfl (fun b hb => absurd hb (Nat.not_lt_zero _)) (Nat.zero_le _)
      · cases h0
  | [x], [q], _ => exact h2 0 (by simp)
  | x :: y :: l, p :: q :: ps, _ =>
    cases r <;> first
      | (simp [unpack] at h1; done)
      | skip
    rename_i us
    intro G m w n0 v hr
    cases hr with
    | tup _ vs _ hl2 hrr =>
      have h1' : us.length = (p :: q :: ps).length := h1
      exact .tup _ _ _ (by rw [hl2, h1']) (fun i hi => h2 i hi G m w n0 _ (hrr i (by rw [h1']; exact hi)))
theorem canPost_spec {σ : Nat → Option Nat} {n n0 : Nat} {h : Heap} (hσ : ∀ b, b < n0 → σ b = some b) (hn : n0 ≤ n) : ∀ {bs : List BT} {i : Nat} {H : Heap}, canPost n0 h bs i = some H → Bound σ n (postToks n0 h bs i) →
    ∀ k, k < H.length → (i + k < n0 → kind (H.getD k []) = .dead ∨ SeenB σ n (h.getD (i + k) []) (H.getD k [])) ∧ (n0 ≤ i + k → H.getD k [] = [.tip])
  | [], i, H, hc, _ => by
    simp only [canPost, Option.some.injEq] at hc
    subst hc
    exact fun k hk => absurd hk (Nat.not_lt_zero _)
  | t :: r, i, H, hc, hb => by
    simp only [canPost] at hc
    split at hc
    · rename_i hi
      have hi' := blt_lt hi
      split at hc
      case h_2 => cases hc
      rename_i l hl
      split at hc
      case h_2 => cases hc
      rename_i ls hls
      injection hc with hc
      subst hc
      have hb' : Bound σ n (tokB t (h.getD i []) ++ postToks n0 h r (i + 1)) := by
        have : postToks n0 h (t :: r) i = tokB t (h.getD i []) ++ postToks n0 h r (i + 1) := by simp only [postToks, hi]
        rw [this] at hb; exact hb
      obtain ⟨b1, b2⟩ := hb'.app
      have ih := canPost_spec hσ hn hls b2
      intro k hk
      cases k with
      | zero => exact ⟨fun _ => canB_seen hl b1 hσ hn, fun hge => absurd hge (by omega)⟩
      | succ k =>
        have := ih k (by simpa using hk)
        rw [show i + 1 + k = i + (k + 1) by omega] at this
        exact this
    · rename_i hi
      have hi' : n0 ≤ i := by
        apply Classical.byContradiction
        intro hn
        have : Nat.blt i n0 = true := Nat.ble_eq_true_of_le (by omega)
        rw [this] at hi; cases hi
      split at hc
      case h_2 => cases hc
      split at hc
      case h_2 => cases hc
      rename_i ls hls
      injection hc with hc
      subst hc
      have ih := canPost_spec (σ := σ) (n := n) hσ hn hls (by
        have : postToks n0 h r (i + 1) = [] := by
          cases r with
          | nil => rfl
          | cons t r =>
            have : Nat.blt (i + 1) n0 = false := by
              cases hq : Nat.blt (i + 1) n0
              · rfl
              · have := blt_lt hq; omega
            simp only [postToks, this]
        rw [this]
        intro b t hb; cases hb)
      intro k hk
      cases k with
      | zero => exact ⟨fun hlt => absurd hlt (by omega), fun _ => rfl⟩
      | succ k =>
        have := ih k (by simpa using hk)
        rw [show i + 1 + k = i + (k + 1) by omega] at this
        exact this
theorem pastX_mem {n0 : Nat} {H : Heap} : ∀ {ps : Bd}, pastX n0 H ps = true → ∀ b t, (b, some t) ∈ ps → n0 ≤ b → n0 ≤ t ∨ H.getD t [] = []
  | [], _, b, t, hm, _ => by cases hm
  | (b', none) :: r, hp, b, t, hm, hb => by
    rcases List.mem_cons.1 hm with e | e
    · injection e with e1 e2; cases e2
    · exact pastX_mem (by simpa only [pastX] using hp) b t e hb
  | (b', some t') :: r, hp, b, t, hm, hb => by
    simp only [pastX, Bool.and_eq_true, Bool.or_eq_true] at hp
    rcases List.mem_cons.1 hm with e | e
    · injection e with e1 e2
      injection e2 with e2
      subst e1 e2
      rcases hp.1 with (q | q) | q
      · have := blt_lt q; omega
      · exact .inl (Nat.le_of_ble_eq_true q)
      · right
        unfold deadAt at q
        cases hq : H.getD t [] with
        | nil => rfl
        | cons x l => rw [hq] at q; cases q
    · exact pastX_mem hp.2 b t e hb
theorem tcalls_canon {f : FuncId} {args : List PV} {h : Heap} {res : List RSh} {post : List BT} {Q : PV → Heap → Prop} {H0 : Value → Prop} (hc : TCalls P f args h (fun r h' => canX h.length res post r h' Q) H0) : TCalls P f args h Q H0 := by
  intro G m w vs hs ha
  refine (hc G m w vs hs ha).mono ?_
  rintro e w' (⟨v, r, h', G', m', rfl, hX, hrep, hs', hg⟩ | q)
  rotate_left
  · exact .inr q
  unfold canX at hX
  split at hX
  case h_1 => exact hX.elim
  rename_i rs hrs
  split at hX
  case h_1 => exact hX.elim
  rename_i H hH
  split at hX
  case h_2 => exact hX.elim
  rename_i hck
  simp only [Bool.and_eq_true] at hck
  obtain ⟨⟨⟨⟨⟨⟨c1, c2⟩, c3⟩, c4⟩, c5⟩, c6⟩, c7⟩ := hck
  obtain ⟨ps, hps⟩ : ∃ ps, ps = tokRs res (unpack res r) ++ postToks h.length h' post 0 := ⟨_, rfl⟩
  rw [← hps] at c1 c2 c3
  have d4 := Nat.le_of_ble_eq_true c4
  have d5 := Nat.le_of_ble_eq_true c5
  have hid : ∀ b, b < h.length → headN h.length ps b = some b := fun b hb => headN_lt hb
  have hBd : Bound (headN h.length ps) H.length ps := fun b t hm => by
    obtain ⟨q1, q2⟩ := okB_mem c1 b t hm
    by_cases hb : b < h.length
    · refine ⟨by omega, fun x hx => ?_⟩
      rw [headN_lt hb]
      rcases q1 hb with q | ⟨_, q⟩
      · rw [hx] at q; exact q.symm
      · exact q.elim
    · obtain ⟨r1, r2⟩ := q2 (by omega)
      refine ⟨r1, fun x hx => ?_⟩
      rw [headN_ge (by omega), lookB_of c2 b t (by omega) hm, hx]
  have hmemσ : ∀ b t, h.length ≤ b → headN h.length ps b = some t → (b, some t) ∈ ps := fun b t hb he => by
    rw [headN_ge hb] at he
    split at he
    · rename_i x hx
      injection he with he
      subst he
      exact lookB_mem hx
    · cases he
  obtain ⟨b1, b2⟩ := Bound.app (by rw [← hps]; exact hBd)
  have hP := canPost_spec hid d5 hH b2
  have N : Norm (headN h.length ps) h' H := by
    refine ⟨fun b hb => ?_, fun b b' t hb hb' hd hd' e1 e2 => ?_⟩
    · obtain ⟨p1, p2⟩ := hP b hb
      rw [Nat.zero_add] at p1 p2
      by_cases hb2 : b < h.length
      · rcases p1 hb2 with q | q
        · exact .inl q
        · exact .inr (.inr ⟨b, hid b hb2, by omega, q⟩)
      · rw [p2 (by omega)]
        cases he : headN h.length ps b with
        | none => exact .inr (.inl ⟨rfl, rfl⟩)
        | some t =>
          right; right
          obtain ⟨_, q2⟩ := okB_mem c1 b (some t) (hmemσ b t (by omega) he)
          have htip := isTip_kind ((q2 (by omega)).2 t rfl).1
          exact ⟨t, rfl, kind_lt (by rw [htip]; exact fun h => by cases h), htip, fun hk => by cases hk⟩
    · by_cases hb2 : b < h.length <;> by_cases hb3 : b' < h.length
      · rw [hid b hb2] at e1; rw [hid b' hb3] at e2
        injection e1 with e1; injection e2 with e2; omega
      · rw [hid b hb2] at e1
        injection e1 with e1
        subst e1
        rcases pastX_mem c3 b' b (hmemσ b' b (by omega) e2) (by omega) with q | q
        · omega
        · rw [q] at hd; exact absurd rfl hd
      · rw [hid b' hb3] at e2
        injection e2 with e2
        subst e2
        rcases pastX_mem c3 b b' (hmemσ b b' (by omega) e1) (by omega) with q | q
        · omega
        · rw [q] at hd'; exact absurd rfl hd'
      · exact okB_inj c1 b b' t (hmemσ b t (by omega) e1) (hmemσ b' t (by omega) e2) (by omega) (by omega)
  exact .inl ⟨v, _, H, G', _, rfl, hX, pack_seen (Nat.eq_of_beq_eq_true c6) (by rw [Bool.or_eq_true] at c7; exact c7.imp blt_lt id) (canRs_seen hrs b1) _ _ _ _ _ hrep, hs'.norm N, hg.norm N hid d5⟩
theorem acalls_canon {f : FuncId} {args : List PV} {h : Heap} {res : List RSh} {post : List BT} {Q : PV → Heap → Prop} (hc : ACalls P f args h fun r h' => canX h.length res post r h' Q) : ACalls P f args h Q := (tcalls_canon hc.t).a
theorem pcalls_weak {f : FuncId} {args : List PV} {Q : PV → Prop} (hc : ACalls P f args [] fun r _ => Q (weak r) ∧ (weak r).under 0 = true) : PCalls P f args Q := by
  intro G m w vs hs ha
  refine (hc G m w vs hs ha).mono ?_
  rintro e w' ⟨v, r, h', G', m', rfl, hX, hrep, hs', hg⟩
  exact ⟨v, weak r, h', G', m', rfl, hX, hrep.weak, hs', hg⟩
end Go.Proofs.Ytdffmciedieikaa.Deep

namespace Go.Proofs.Ytdffmciedieikaa.Deep
open Go.RowKit
set_option linter.unusedVariables false
def blockCells (w : World) (g : Nat) : Nat := match w.heap[g]? with | some (.cells c _ _) => c.size | _ => 0
theorem lies_lt {w : World} {g o : Nat} {v : Value} (h : w.cell? ⟨g, o, none⟩ = some v) : o < blockCells w g := by
  unfold World.cell? at h
  unfold blockCells
  split at h
  · rename_i c T fz hc
    dsimp only at hc
    rw [hc]
    have h : c[o]? = some v := by simpa using h
    exact (Array.getElem?_eq_some_iff.1 h).1
  · cases h
theorem block_old {w : World} (g : Nat) (h : blockCells w g ≠ 0) : g < w.heap.size := by
  rcases Nat.lt_or_ge g w.heap.size with h' | h'
  · exact h'
  · unfold blockCells at h
    rw [Array.getElem?_eq_none h'] at h
    exact absurd rfl h
structure CR (w : World) (cs : List Value) (ps : List PV) : Prop where
  len : cs.length = ps.length
  rep : ∀ i, i < ps.length → Rep (blockCells w) (fun _ => ⟨0, 0⟩) w 0 (cs.getD i undef) (ps.getD i .any)
theorem CR.nil {w : World} {cs : List Value} (h : cs.length = 0) : CR w cs [] := ⟨by simpa using h, fun i hi => absurd hi (Nat.not_lt_zero _)⟩
theorem CR.one {w : World} {v : Value} {p : PV} (h : Rep (blockCells w) (fun _ => ⟨0, 0⟩) w 0 v p) : CR w [v] [p] := ⟨rfl, fun i hi => by
  obtain rfl : i = 0 := by simpa using hi
  exact h⟩
theorem CR.append {w : World} {a b : List Value} {p q : List PV} (h : CR w a p) (k : CR w b q) : CR w (a ++ b) (p ++ q) := by
  refine ⟨by rw [List.length_append, List.length_append, h.len, k.len], fun i hi => ?_⟩
  rw [List.length_append] at hi
  have hl := h.len
  by_cases hlt : i < p.length
  · have := h.rep i hlt
    simp only [List.getD_eq_getElem?_getD] at this ⊢
    rwa [List.getElem?_append_left (by omega), List.getElem?_append_left hlt]
  · have := k.rep (i - p.length) (by omega)
    simp only [List.getD_eq_getElem?_getD] at this ⊢
    rwa [List.getElem?_append_right (by omega), List.getElem?_append_right (by omega), hl]
theorem CR.seg {w : World} {cs : List Value} {o n : Nat} {p q : List PV} (h : CR w ((cs.drop o).take n) p) (k : CR w (cs.drop (o + n)) q) : CR w (cs.drop o) (p ++ q) := by
  have := h.append k
  rwa [← List.drop_drop, List.take_append_drop] at this
theorem CR.int (w : World) (k : IntKind) (n : Int) : CR w [.int k n] [.con (.int k n)] := .one (.con _ _)
theorem CR.str (w : World) (s : ByteArray) : CR w [.string s] [.con (.string s)] := .one (.con _ _)
theorem list_of {α : Type} {M : Nat → α → Prop} : ∀ n : Nat, (∀ i, i < n → ∃ a, M i a) → ∃ zs : List α, zs.length = n ∧ ∀ i (h : i < zs.length), M i zs[i]
  | 0, _ => ⟨[], rfl, fun i h => absurd h (Nat.not_lt_zero _)⟩
  | n + 1, h => by
    obtain ⟨zs, hl, ha⟩ := list_of n (fun i hi => h i (by omega))
    obtain ⟨a, hx⟩ := h n (by omega)
    refine ⟨zs ++ [a], by simp [hl], fun i hi => ?_⟩
    by_cases hlt : i < zs.length
    · rw [List.getElem_append_left hlt]; exact ha i hlt
    · have : i = zs.length := by simp at hi; omega
      subst this
      rw [List.getElem_append_right (Nat.le_refl _)]
      simpa [hl] using hx
section
variable {H : Type} {enc : TypeId × Value → H} {P : Program} {w : World} {spare : Nat → Bool} {held : Bool}
theorem open_slice {α : Type} (view : α → List PV) (M : α → Prop) {t e : TypeId} (ht : P.underlying t = some (.slice e)) (hs : 0 < P.cellsOf e) {fuel : Nat} {cs : List Value} {x : DataW H × List MemPlace} (h : DataW.trod enc P w 0 spare held fuel t cs = some x)
    (hv : ∀ n us y, n < fuel → us.length = P.cellsOf e → DataW.trod enc P w 0 spare held n e us = some y → ∃ a, M a ∧ CR w us (view a)) : ∃ zs : List α, (∀ a ∈ zs, M a) ∧ CR w cs [.sl (zs.map view)] := by
  rcases DataW.trod_slice ht h with ⟨rfl, rfl⟩ | ⟨a, len, cap, elems, rest, n, rfl, rfl, rfl, hb, hle, hcap, hel, hget, _, _⟩
  · exact ⟨[], fun a ha => absurd ha (List.not_mem_nil), .one (.sl 0 none 0 0 [] (fun _ _ => undef) (Nat.le_refl _) (by decide) (fun i hi => absurd hi (Nat.not_lt_zero _)) (fun hi => absurd hi (Nat.not_lt_zero _)) (fun i hi => absurd hi (Nat.not_lt_zero _)))⟩
  · obtain ⟨zs, hl, has⟩ := list_of (M := fun i b => M b ∧ ∃ us, w.cells? 0 (a.add (i * P.cellsOf e)) (P.cellsOf e) = some us ∧ CR w us (view b)) len (fun i hi => by
      have hg := hget i hi
      rw [List.getElem?_eq_getElem (by omega)] at hg
      obtain ⟨us, h1, h2⟩ := Option.bind_eq_some_iff.1 hg
      obtain ⟨b, hb1, hb2⟩ := hv n us _ (by omega) (World.cells?_some h1).2.1 h2
      exact ⟨b, hb1, us, h1, hb2⟩)
    subst hl
    refine ⟨zs, fun b hb => ?_, .one ?_⟩
    · obtain ⟨i, hi, rfl⟩ := List.getElem_of_mem hb
      exact (has i hi).1
    · obtain ⟨b, off, spot⟩ := a
      have hcell : ∀ i (hi : i < zs.length), ∀ j, j < P.cellsOf e → ∃ v, w.cell? ((Addr.mk b off spot).add (i * P.cellsOf e) |>.add j) = some v ∧ Rep (blockCells w) (fun _ => ⟨0, 0⟩) w 0 v ((view zs[i]).getD j .any) := fun i hi j hj => by
        obtain ⟨us, h1, h2⟩ := (has i hi).2
        obtain ⟨_, g1, g2⟩ := World.cells?_some h1
        have hl := h2.len
        have hr := h2.rep j (by omega)
        rw [g2 j hj, List.getElem?_eq_getElem (by omega)]
        refine ⟨us[j], rfl, ?_⟩
        rwa [List.getD_eq_getElem?_getD, List.getElem?_eq_getElem (by omega), Option.getD_some] at hr
      have hxs : ∀ i, i < (zs.map view).length → ∃ hi : i < zs.length, (zs.map view).getD i [] = view zs[i] := fun i hi => by
        have hi' : i < zs.length := by simpa using hi
        exact ⟨hi', by rw [List.getD_eq_getElem?_getD, List.getElem?_map, List.getElem?_eq_getElem hi']; rfl⟩
      have hspot : 0 < zs.length → spot = none := fun h0 => by
        obtain ⟨v, h1, _⟩ := hcell 0 h0 0 hs
        simpa [Addr.add] using World.cell?_spot h1
      have hcell' : ∀ i (hi : i < zs.length), ∀ j, j < P.cellsOf e → ∃ v, w.cell? ⟨b, off + i * P.cellsOf e + j, none⟩ = some v ∧ Rep (blockCells w) (fun _ => ⟨0, 0⟩) w 0 v ((view zs[i]).getD j .any) := fun i hi j hj => by
        obtain rfl := hspot (by omega)
        have := hcell i hi j hj
        rwa [Go.WideShapes.add_plain, Go.WideShapes.add_plain] at this
      rw [show zs.length = (zs.map view).length by simp]
      refine .sl 0 _ cap (P.cellsOf e) (zs.map view) (fun i j => (w.cell? ⟨b, off + i * P.cellsOf e + j, none⟩).getD undef) (by simpa using hle) (by unfold maxLen at hcap; exact hcap) (fun i hi => ?_) (fun h0 => ?_) (fun i hi j hj => ?_)
      · obtain ⟨hi', hq⟩ := hxs i hi
        rw [hq]
        obtain ⟨us, h1, h2⟩ := (has i hi').2
        exact h2.len.symm.trans (World.cells?_some h1).2.1
      · have h0' : 0 < zs.length := by simpa using h0
        obtain rfl := hspot h0'
        refine ⟨b, off, rfl, ?_, fun i hi j hj => ?_⟩
        · obtain ⟨v, h1, _⟩ := hcell' (zs.length - 1) (by omega) (P.cellsOf e - 1) (by omega)
          have := lies_lt h1
          obtain ⟨k, hk⟩ : ∃ k, zs.length = k + 1 := ⟨zs.length - 1, by omega⟩
          rw [List.length_map, hk, Nat.succ_mul]
          rw [hk, Nat.add_sub_cancel] at this
          omega
        · obtain ⟨hi', _⟩ := hxs i hi
          obtain ⟨v, h1, _⟩ := hcell' i hi' j hj
          rw [h1]; rfl
      · obtain ⟨hi', hq⟩ := hxs i hi
        obtain ⟨v, h1, h2⟩ := hcell' i hi' j hj
        rw [h1, hq]
        exact h2
theorem open_flds {T : TypeId → Option TI} (hT : Tok P T) {t : TypeId} {ti : TI} (hi : T t = some ti) (hst : ti.isStruct = true) {fuel : Nat} {cs : List Value} {x : DataW H × List MemPlace} (h : DataW.trod enc P w 0 spare held fuel t cs = some x) :
    ∃ n, n < fuel ∧ cs.length = ti.size ∧ ∀ (i o : Nat) (ft : TypeId) (fi : TI), ti.flds[i]? = some (o, ft) → T ft = some fi → ∃ y, DataW.trod enc P w 0 spare held n ft ((cs.drop o).take fi.size) = some y := by
  obtain ⟨h1, h2⟩ := hT t ti hi
  obtain ⟨d, hd⟩ := Option.isSome_iff_exists.1 h2
  subst h1
  have : ∃ fs, d = .struct fs := by
    unfold infoP at hst
    dsimp only at hst
    rw [hd] at hst
    cases d <;> first | exact ⟨_, rfl⟩ | (exact absurd hst Bool.false_ne_true)
  obtain ⟨fs, rfl⟩ := this
  obtain ⟨xs, n, rfl, rfl, hl, hlen, hf⟩ := DataW.trod_struct hd h
  refine ⟨n, by omega, hl, fun i o ft fi hfi hTf => ?_⟩
  have hfl : (infoP P t).flds = fs.toList.map (fun f => (f.offset, f.type)) := by unfold infoP; dsimp only; rw [hd]
  rw [hfl, List.getElem?_map] at hfi
  obtain ⟨f, hf1, hf2⟩ := Option.map_eq_some_iff.1 hfi
  cases hf2
  have hf1' : fs[i]? = some f := by simpa using hf1
  have hlt : i < xs.length := by rw [hlen]; exact (Array.getElem?_eq_some_iff.1 hf1').1
  have := hf i f hf1'
  rw [List.getElem?_eq_getElem hlt] at this
  have hz : fi.size = P.cellsOf f.type := by rw [← (hT _ _ hTf).1]; rfl
  rw [hz]
  exact ⟨_, this⟩
end
end Go.Proofs.Ytdffmciedieikaa.Deep

namespace Go.Proofs.Ytdffmciedieikaa.Deep
open Go.RowKit
set_option linter.unusedVariables false
inductive TS where
  | leaf
  | node (k : Nat) (x : Sg) (l r : TS)
def lookS (t : Nat) : TS → Option Sg
  | .leaf => none
  | .node k x l r => match Nat.beq t k with
    | true => some x
    | false => match Nat.ble t k with | true => lookS t l | false => lookS t r
def tblS : TS := (.node 13 (.pure [[.cell (.bool)]]) (.node 6 (.pure [[.cell (.bool)]]) (.node 4 (.pure [[.cell (.int .i64)]]) (.node 3 (.pure [[.cell (.bool)]]) .leaf .leaf) (.node 5 (.pure [[.cell (.int .i64)]]) .leaf .leaf)) (.node 8 (.pure [[.cell (.list), .cell (.bool)]]) (.node 7 (.pure [[.cell (.list), .cell (.bool)]]) .leaf .leaf) (.node 9 (.pure [[.cell (.bool)]]) .leaf .leaf))) (.node 26 (.pure [[.cell (.bool)]]) (.node 15 (.eff [.weak, .weak, .sh (.own 0 58 6)] [.tip] [.cell (.own 1 58 6), .cell (.bool)] [.dead, .tip]) (.node 14 (.eff [.sh (.own 0 58 6), .weak, .weak] [.tip] [.cell (.own 1 58 6)] [.dead, .tip]) .leaf .leaf) (.node 16 (.pure [[.cell (.bool)]]) .leaf .leaf)) (.node 40 (.pure [[.cell (.list)]]) (.node 27 (.pure [[.agg [.int .i64, .int .i64, .list, .str, .list]]]) .leaf .leaf) .leaf)))
def S (f : FuncId) : Option Sg := lookS f tblS
abbrev LL := List (List PV)
instance : Coe Int PV := ⟨fun n => .con (.int .i64 n)⟩
instance : Coe Bool PV := ⟨fun b => .con (.bool b)⟩
instance : Coe ByteArray PV := ⟨fun s => .con (.string s)⟩
instance : Coe (List (List PV)) PV := ⟨fun l => .sl l⟩
theorem mixed : Try.prog.follows .mixedOrders = true := by kernel_rfl
def bodyOf (f : Func) : Code := match f.body with | some c => c | none => .skip
end Go.Proofs.Ytdffmciedieikaa.Deep

namespace Go.Proofs.Ytdffmciedieikaa.Deep
open Go.RowKit
set_option linter.unusedVariables false
set_option linter.unusedSimpArgs false
inductive Pt where
  | mk (kind line col : Int) (name : ByteArray) (num : Int) (kids : List Pt)
inductive Va where
  | mk (kind num : Int) (bytes : List UInt8) (name : ByteArray) (kids : List Va)
def Va.kind : Va → Int | .mk k _ _ _ _ => k
def Va.num : Va → Int | .mk _ n _ _ _ => n
def Va.name : Va → ByteArray | .mk _ _ _ s _ => s
def Va.kids : Va → List Va | .mk _ _ _ _ ks => ks
def byP (b : List UInt8) : List (List PV) := b.map fun x => [.con (.int .u8 (x.toNat : Int))]
mutual
def ptP : Pt → List PV
  | .mk k li co n m ks => [.con (.int .i64 k), .con (.int .i64 li), .con (.int .i64 co), .con (.string n), .con (.int .i64 m), .sl (ptPs ks)]
def ptPs : List Pt → List (List PV)
  | [] => []
  | t :: ts => ptP t :: ptPs ts
end
mutual
def vaP : Va → List PV
  | .mk k n b s ks => [.con (.int .i64 k), .con (.int .i64 n), .sl (byP b), .con (.string s), .sl (vaPs ks)]
def vaPs : List Va → List (List PV)
  | [] => []
  | t :: ts => vaP t :: vaPs ts
end
theorem ptPs_mp : ∀ l : List Pt, ptPs l = l.map ptP
  | [] => rfl
  | t :: ts => by simp [ptPs, ptPs_mp ts]
theorem vaPs_mp : ∀ l : List Va, vaPs l = l.map vaP
  | [] => rfl
  | t :: ts => by simp [vaPs, vaPs_mp ts]
theorem map_get {α : Type} (f : α → List PV) (l : List α) (i : Nat) (h : i < l.length) : (l.map f)[i]? = some (f l[i]) := by simp [h]
mutual
theorem Pt.ind {M : Pt → Prop} (h : ∀ k li co n m ps, (∀ i, (hi : i < ps.length) → M ps[i]) → M (.mk k li co n m ps)) : ∀ t, M t
  | .mk k li co n m ps => h k li co n m ps (Pt.inds h ps)
theorem Pt.inds {M : Pt → Prop} (h : ∀ k li co n m ps, (∀ i, (hi : i < ps.length) → M ps[i]) → M (.mk k li co n m ps)) : ∀ (ts : List Pt) i, (hi : i < ts.length) → M ts[i]
  | t :: ts, 0, _ => Pt.ind h t
  | t :: ts, i + 1, hi => by simpa using Pt.inds h ts i (by simpa using hi)
end
mutual
theorem Va.ind {M : Va → Prop} (h : ∀ k n b s ps, (∀ i, (hi : i < ps.length) → M ps[i]) → M (.mk k n b s ps)) : ∀ t, M t
  | .mk k n b s ps => h k n b s ps (Va.inds h ps)
theorem Va.inds {M : Va → Prop} (h : ∀ k n b s ps, (∀ i, (hi : i < ps.length) → M ps[i]) → M (.mk k n b s ps)) : ∀ (ts : List Va) i, (hi : i < ts.length) → M ts[i]
  | t :: ts, 0, _ => Va.ind h t
  | t :: ts, i + 1, hi => by simpa using Va.inds h ts i (by simpa using hi)
end
def take20 (n : Nat) : Int := if (n : Int) ≤ 1048576 then n else 1048576
theorem take20_le (n : Nat) : 0 ≤ take20 n ∧ take20 n ≤ 1048576 := by unfold take20; split <;> omega
theorem take20_small {n : Nat} (h : take20 n ≤ 3000) : n ≤ 3000 := by unfold take20 at h; split at h <;> omega
mutual
def lightPt : Pt → Int → Int
  | .mk _ _ _ n _ ks, l => lightPts ks (l - 1 - take20 n.size)
def lightPts : List Pt → Int → Int
  | [], l => l
  | t :: ts, l => if l < 0 then l else lightPts ts (lightPt t l)
end
mutual
def lightVa : Va → Int → Int
  | .mk _ _ b s ks, l => lightVas ks (l - 1 - take20 b.length - take20 s.size)
def lightVas : List Va → Int → Int
  | [], l => l
  | t :: ts, l => if l < 0 then l else lightVas ts (lightVa t l)
end
theorem lightPts_neg (ts : List Pt) (l : Int) (h : l < 0) : lightPts ts l = l := by cases ts <;> simp [lightPts, h]
theorem lightVas_neg (ts : List Va) (l : Int) (h : l < 0) : lightVas ts l = l := by cases ts <;> simp [lightVas, h]
mutual
def smallPt : Pt → Prop
  | .mk _ _ _ n _ ks => ks.length ≤ 3000 ∧ smallPts ks
def smallPts : List Pt → Prop
  | [] => True
  | t :: ts => smallPt t ∧ smallPts ts
end
mutual
def smallVa : Va → Prop
  | .mk _ _ b s ks => b.length ≤ 3000 ∧ ks.length ≤ 3000 ∧ smallVas ks
def smallVas : List Va → Prop
  | [] => True
  | t :: ts => smallVa t ∧ smallVas ts
end
mutual
def sizePt : Pt → Nat
  | .mk _ _ _ _ _ ks => 1 + sizePts ks
def sizePts : List Pt → Nat
  | [] => 0
  | t :: ts => sizePt t + sizePts ts
end
theorem smallPts_at : ∀ (ts : List Pt), smallPts ts → ∀ i, (hi : i < ts.length) → smallPt ts[i]
  | t :: ts, h, 0, _ => h.1
  | t :: ts, h, i + 1, hi => by simpa using smallPts_at ts h.2 i (by simpa using hi)
theorem smallVas_at : ∀ (ts : List Va), smallVas ts → ∀ i, (hi : i < ts.length) → smallVa ts[i]
  | t :: ts, h, 0, _ => h.1
  | t :: ts, h, i + 1, hi => by simpa using smallVas_at ts h.2 i (by simpa using hi)
mutual
theorem lightPt_ok : ∀ (t : Pt) (l : Int), lightPt t l ≤ l - 1 ∧ (0 ≤ l → -1048577 ≤ lightPt t l) ∧ (l < 0 → l - 1048577 ≤ lightPt t l) ∧ (l ≤ 3000 → 0 ≤ lightPt t l → smallPt t ∧ (sizePt t : Int) + lightPt t l ≤ l)
  | .mk k li co n m ps, l => by
    have hn := take20_le n.size
    obtain ⟨h1, h2, h3, h4⟩ := lightPts_ok ps (l - 1 - take20 n.size)
    unfold lightPt smallPt sizePt
    refine ⟨by omega, fun h => ?_, fun h => ?_, fun h h0 => ?_⟩
    · by_cases hl : l - 1 - take20 n.size < 0
      · rw [lightPts_neg _ _ hl]; omega
      · have := h2 (by omega); omega
    · rw [lightPts_neg _ _ (by omega)]; omega
    · obtain ⟨k1, k2⟩ := h4 (by omega) h0
      exact ⟨⟨by omega, k1⟩, by omega⟩
theorem lightPts_ok : ∀ (ts : List Pt) (l : Int), lightPts ts l ≤ l ∧ (0 ≤ l → -1048577 ≤ lightPts ts l) ∧ (0 ≤ lightPts ts l → (ts.length : Int) ≤ l) ∧ (l ≤ 3000 → 0 ≤ lightPts ts l → smallPts ts ∧ (sizePts ts : Int) + lightPts ts l ≤ l)
  | [], l => by unfold lightPts smallPts sizePts; refine ⟨by omega, fun h => by omega, fun h => by simpa using h, fun _ _ => ⟨trivial, by omega⟩⟩
  | t :: ts, l => by
    unfold lightPts smallPts sizePts
    split
    · rename_i h
      exact ⟨by omega, fun h => by omega, fun h => by omega, fun _ h => by omega⟩
    · rename_i h
      obtain ⟨a1, a2, a3, a4⟩ := lightPt_ok t l
      obtain ⟨b1, b2, b3, b4⟩ := lightPts_ok ts (lightPt t l)
      refine ⟨by omega, fun _ => ?_, fun h0 => ?_, fun hl h0 => ?_⟩
      · by_cases hn : lightPt t l < 0
        · rw [lightPts_neg _ _ hn]; exact a2 (by omega)
        · exact b2 (by omega)
      · have := b3 h0; simp; omega
      · by_cases hn : lightPt t l < 0
        · rw [lightPts_neg _ _ hn] at h0; omega
        · obtain ⟨c1, c2⟩ := a4 hl (by omega)
          obtain ⟨d1, d2⟩ := b4 (by omega) h0
          exact ⟨⟨c1, d1⟩, by omega⟩
end
mutual
theorem lightVa_ok : ∀ (t : Va) (l : Int), lightVa t l ≤ l - 1 ∧ (0 ≤ l → -2097153 ≤ lightVa t l) ∧ (l < 0 → l - 2097153 ≤ lightVa t l) ∧ (l ≤ 3000 → 0 ≤ lightVa t l → smallVa t)
  | .mk k n b s ps, l => by
    have hn := take20_le s.size
    have hb := take20_le b.length
    obtain ⟨h1, h2, h3, h4⟩ := lightVas_ok ps (l - 1 - take20 b.length - take20 s.size)
    unfold lightVa smallVa
    refine ⟨by omega, fun h => ?_, fun h => ?_, fun h h0 => ?_⟩
    · by_cases hl : l - 1 - take20 b.length - take20 s.size < 0
      · rw [lightVas_neg _ _ hl]; omega
      · have := h2 (by omega); omega
    · rw [lightVas_neg _ _ (by omega)]; omega
    · have := h4 (by omega) h0
      exact ⟨take20_small (by omega), by omega, this⟩
theorem lightVas_ok : ∀ (ts : List Va) (l : Int), lightVas ts l ≤ l ∧ (0 ≤ l → -2097153 ≤ lightVas ts l) ∧ (0 ≤ lightVas ts l → (ts.length : Int) ≤ l) ∧ (l ≤ 3000 → 0 ≤ lightVas ts l → smallVas ts)
  | [], l => by unfold lightVas smallVas; refine ⟨by omega, fun h => by omega, fun h => by simpa using h, fun _ _ => trivial⟩
  | t :: ts, l => by
    unfold lightVas smallVas
    split
    · rename_i h
      exact ⟨by omega, fun h => by omega, fun h => by omega, fun _ h => by omega⟩
    · rename_i h
      obtain ⟨a1, a2, a3, a4⟩ := lightVa_ok t l
      obtain ⟨b1, b2, b3, b4⟩ := lightVas_ok ts (lightVa t l)
      refine ⟨by omega, fun _ => ?_, fun h0 => ?_, fun hl h0 => ?_⟩
      · by_cases hn : lightVa t l < 0
        · rw [lightVas_neg _ _ hn]; exact a2 (by omega)
        · exact b2 (by omega)
      · have := b3 h0; simp; omega
      · by_cases hn : lightVa t l < 0
        · rw [lightVas_neg _ _ hn] at h0; omega
        · exact ⟨a4 hl (by omega), b4 (by omega) h0⟩
end
mutual
def takesF : Pt → Va → Bool
  | .mk k _ _ n m ks, v => if k = 0 then true else if k = 1 then true else if k = 2 then (v.kind == 0 && v.num == m) else if k = 3 then (v.kind == 2 && v.name.toList == n.toList && takesL ks v.kids) else if k = 4 then (v.kind == 3 && takesL ks v.kids) else false
def takesL : List Pt → List Va → Bool
  | [], [] => true
  | p :: ps, v :: vs => takesF p v && takesL ps vs
  | [], _ :: _ => false
  | _ :: _, [] => false
end
mutual
def bindsF : Pt → Va → List (ByteArray × Va)
  | .mk k _ _ n _ ks, v => if k = 1 then [(n, v)] else if k = 3 then bindsL ks v.kids else if k = 4 then bindsL ks v.kids else []
def bindsL : List Pt → List Va → List (ByteArray × Va)
  | [], _ => []
  | _ :: _, [] => []
  | p :: ps, v :: vs => bindsF p v ++ bindsL ps vs
end
def bdP (b : ByteArray × Va) : List PV := .con (.string b.1) :: vaP b.2
mutual
theorem bindsF_len : ∀ (p : Pt) (v : Va), (bindsF p v).length ≤ sizePt p
  | .mk k _ _ n _ ks, v => by
    unfold bindsF sizePt
    have := bindsL_len ks v.kids
    split
    · simp
    · split
      · omega
      · split
        · omega
        · simp
theorem bindsL_len : ∀ (ps : List Pt) (vs : List Va), (bindsL ps vs).length ≤ sizePts ps
  | [], _ => by simp [bindsL]
  | _ :: _, [] => by simp [bindsL]
  | p :: ps, v :: vs => by
    have h1 := bindsF_len p v
    have h2 := bindsL_len ps vs
    simp only [bindsL, List.length_append, sizePts]; omega
end
theorem takesL_len : ∀ (ps : List Pt) (vs : List Va), takesL ps vs = true → ps.length = vs.length
  | [], [], _ => rfl
  | p :: ps, v :: vs, h => by simp only [takesL, Bool.and_eq_true] at h; simp [takesL_len ps vs h.2]
  | [], _ :: _, h => by simp [takesL] at h
  | _ :: _, [], h => by simp [takesL] at h
theorem takesL_at : ∀ (ps : List Pt) (vs : List Va), takesL ps vs = true → ∀ i, (h1 : i < ps.length) → (h2 : i < vs.length) → takesF ps[i] vs[i] = true
  | p :: ps, v :: vs, h, 0, _, _ => by simp only [takesL, Bool.and_eq_true] at h; exact h.1
  | p :: ps, v :: vs, h, i + 1, h1, h2 => by
    simp only [takesL, Bool.and_eq_true] at h
    simpa using takesL_at ps vs h.2 i (by simpa using h1) (by simpa using h2)
theorem takesL_ne : ∀ (ps : List Pt) (vs : List Va), ps.length ≠ vs.length → takesL ps vs = false
  | [], [], h => absurd rfl h
  | p :: ps, v :: vs, h => by simp only [takesL, takesL_ne ps vs (by simpa using h), Bool.and_false]
  | [], _ :: _, _ => rfl
  | _ :: _, [], _ => rfl
theorem takesL_drop {ps : List Pt} {vs : List Va} {i : Nat} (h1 : i < ps.length) (h2 : i < vs.length) : takesL (ps.drop i) (vs.drop i) = (takesF ps[i] vs[i] && takesL (ps.drop (i + 1)) (vs.drop (i + 1))) := by
  rw [List.drop_eq_getElem_cons h1, List.drop_eq_getElem_cons h2]; rfl
theorem bindsL_drop {ps : List Pt} {vs : List Va} {i : Nat} (h1 : i < ps.length) (h2 : i < vs.length) : bindsL (ps.drop i) (vs.drop i) = bindsF ps[i] vs[i] ++ bindsL (ps.drop (i + 1)) (vs.drop (i + 1)) := by
  rw [List.drop_eq_getElem_cons h1, List.drop_eq_getElem_cons h2]; rfl
theorem cells_Va (v : Va) : ∃ a b c d e, vaP v = [.con (.int .i64 a), .con (.int .i64 b), .sl c, .con (.string d), .sl e] := by
  cases v; exact ⟨_, _, _, _, _, rfl⟩
theorem cells_Pt (v : Pt) : ∃ a b c d e f, ptP v = [.con (.int .i64 a), .con (.int .i64 b), .con (.int .i64 c), .con (.string d), .con (.int .i64 e), .sl f] := by
  cases v; exact ⟨_, _, _, _, _, _, rfl⟩
end Go.Proofs.Ytdffmciedieikaa.Deep

namespace Go.Proofs.Ytdffmciedieikaa.Deep
open Go.RowKit
set_option linter.unusedVariables false
def I3 : TI := ⟨true, 1, false, false, 0, false, false, [], false, some [.con (.int .i64 0)], 8, none, some .i64⟩
theorem T3 : T 3 = some I3 := by kernel_rfl
def I2 : TI := ⟨true, 1, false, false, 0, false, false, [], false, some [.con (.int .i64 0)], 8, none, some .i64⟩
theorem T2 : T 2 = some I2 := by kernel_rfl
def I9 : TI := ⟨true, 1, false, false, 0, true, false, [], false, some [.con (.string ⟨#[]⟩)], 16, none, none⟩
theorem T9 : T 9 = some I9 := by kernel_rfl
def I23 : TI := ⟨true, 2, true, false, 0, false, false, [(0, 3), (1, 3)], true, some [.con (.int .i64 0), .con (.int .i64 0)], 16, none, none⟩
theorem T23 : T 23 = some I23 := by kernel_rfl
def I26 : TI := ⟨true, 6, true, false, 0, false, false, [(0, 3), (1, 23), (3, 9), (4, 2), (5, 24)], true, some [.con (.int .i64 0), .con (.int .i64 0), .con (.int .i64 0), .con (.string ⟨#[]⟩), .con (.int .i64 0), .con (.slice none 0 0)], 72, none, none⟩
theorem T26 : T 26 = some I26 := by kernel_rfl
def I24 : TI := ⟨true, 1, false, true, 26, false, false, [], false, some [.con (.slice none 0 0)], 24, none, none⟩
theorem T24 : T 24 = some I24 := by kernel_rfl
def I27 : TI := ⟨true, 1, false, true, 5, false, false, [], false, some [.con (.slice none 0 0)], 24, none, none⟩
theorem T27 : T 27 = some I27 := by kernel_rfl
def I28 : TI := ⟨true, 1, false, true, 30, false, false, [], false, some [.con (.slice none 0 0)], 24, none, none⟩
theorem T28 : T 28 = some I28 := by kernel_rfl
def I30 : TI := ⟨true, 5, true, false, 0, false, false, [(0, 3), (1, 2), (2, 27), (3, 9), (4, 28)], true, some [.con (.int .i64 0), .con (.int .i64 0), .con (.slice none 0 0), .con (.string ⟨#[]⟩), .con (.slice none 0 0)], 80, none, none⟩
theorem T30 : T 30 = some I30 := by kernel_rfl
theorem u3 : Try.prog.underlying 3 = some (.int .i64) := by kernel_rfl
theorem u2 : Try.prog.underlying 2 = some (.int .i64) := by kernel_rfl
theorem u5 : Try.prog.underlying 5 = some (.int .u8) := by kernel_rfl
theorem u9 : Try.prog.underlying 9 = some .string := by kernel_rfl
theorem u24 : Try.prog.underlying 24 = some (.slice 26) := by kernel_rfl
theorem u27 : Try.prog.underlying 27 = some (.slice 5) := by kernel_rfl
theorem u28 : Try.prog.underlying 28 = some (.slice 30) := by kernel_rfl
theorem z26 : 0 < Try.prog.cellsOf 26 := by rw [show Try.prog.cellsOf 26 = 6 by kernel_rfl]; decide
theorem z5 : 0 < Try.prog.cellsOf 5 := by rw [show Try.prog.cellsOf 5 = 1 by kernel_rfl]; decide
theorem z30 : 0 < Try.prog.cellsOf 30 := by rw [show Try.prog.cellsOf 30 = 5 by kernel_rfl]; decide
theorem CR.last {w : World} {cs : List Value} {o n : Nat} {p : List PV} (h : CR w ((cs.drop o).take n) p) (hl : cs.length = o + n) : CR w (cs.drop o) p := by
  rwa [List.take_of_length_le (by rw [List.length_drop]; omega)] at h
section
variable {H : Type} {enc : TypeId × Value → H} {w : World} {spare : Nat → Bool} {held : Bool}
theorem op_i {P : Program} {t : TypeId} {k : IntKind} (u : P.underlying t = some (.int k)) {fuel : Nat} {cs : List Value} {x : DataW H × List MemPlace} (h : DataW.trod enc P w 0 spare held fuel t cs = some x) : ∃ n : Int, (Lit.int k n).wf = true ∧ CR w cs [.con (.int k n)] := by
  obtain ⟨n, rfl, _, hw⟩ := DataW.trod_int u h
  exact ⟨n, hw, .int _ _ _⟩
theorem op_s {P : Program} {t : TypeId} (u : P.underlying t = some .string) {fuel : Nat} {cs : List Value} {x : DataW H × List MemPlace} (h : DataW.trod enc P w 0 spare held fuel t cs = some x) : ∃ s : ByteArray, s.size ≤ maxLen ∧ CR w cs [.con (.string s)] := by
  obtain ⟨s, rfl, _, hs⟩ := DataW.trod_string u h
  exact ⟨s, hs, .str _ _⟩
theorem op_pos {fuel : Nat} {cs : List Value} {x : DataW H × List MemPlace} (h : DataW.trod enc Try.prog w 0 spare held fuel 23 cs = some x) : ∃ l c : Int, CR w cs [.con (.int .i64 l), .con (.int .i64 c)] := by
  obtain ⟨n, hn, hl, hf⟩ := open_flds tok T23 rfl h
  obtain ⟨y0, h0⟩ := hf 0 0 3 I3 rfl T3
  obtain ⟨y1, h1⟩ := hf 1 1 3 I3 rfl T3
  obtain ⟨l, _, c0⟩ := op_i u3 h0
  obtain ⟨c, _, c1⟩ := op_i u3 h1
  exact ⟨l, c, CR.seg (o := 0) c0 (CR.last c1 hl)⟩
theorem op_by {fuel : Nat} {cs : List Value} {x : DataW H × List MemPlace} (h : DataW.trod enc Try.prog w 0 spare held fuel 27 cs = some x) : ∃ b : List UInt8, CR w cs [.sl (byP b)] := by
  obtain ⟨b, _, c⟩ := open_slice (fun x : UInt8 => [.con (.int .u8 (x.toNat : Int))]) (fun _ => True) u27 z5 h (fun m us y hm _ hu => by
    obtain ⟨n, hw, c⟩ := op_i u5 hu
    have hb : 0 ≤ n ∧ n ≤ 255 := by
      simp only [Lit.wf, Bool.and_eq_true, decide_eq_true_eq] at hw
      exact hw
    refine ⟨UInt8.ofNat n.toNat, trivial, ?_⟩
    rwa [show ((UInt8.ofNat n.toNat).toNat : Int) = n by rw [UInt8.toNat_ofNat']; omega])
  exact ⟨b, c⟩
theorem open_pt (fuel : Nat) : ∀ (cs : List Value) (x : DataW H × List MemPlace), DataW.trod enc Try.prog w 0 spare held fuel 26 cs = some x → ∃ a : Pt, CR w cs (ptP a) := by
  induction fuel using Nat.strongRecOn with
  | _ fuel ih =>
  intro cs x h
  obtain ⟨n, hn, hl, hf⟩ := open_flds tok T26 rfl h
  obtain ⟨y0, h0⟩ := hf 0 0 3 I3 rfl T3
  obtain ⟨k, _, c0⟩ := op_i u3 h0
  obtain ⟨y1, h1⟩ := hf 1 1 23 I23 rfl T23
  obtain ⟨l, c, c1⟩ := op_pos h1
  obtain ⟨y2, h2⟩ := hf 2 3 9 I9 rfl T9
  obtain ⟨s, _, c2⟩ := op_s u9 h2
  obtain ⟨y3, h3⟩ := hf 3 4 2 I2 rfl T2
  obtain ⟨m, _, c3⟩ := op_i u2 h3
  obtain ⟨y4, h4⟩ := hf 4 5 24 I24 rfl T24
  obtain ⟨ps, _, c4⟩ := open_slice ptP (fun _ => True) u24 z26 h4 (fun m us y hm _ hu => by obtain ⟨a, ha⟩ := ih m (by omega) us y hu; exact ⟨a, trivial, ha⟩)
  refine ⟨.mk k l c s m ps, ?_⟩
  rw [ptP, ptPs_mp]
  have hz := CR.seg (o := 0) c0 (CR.seg c1 (CR.seg c2 (CR.seg c3 (CR.last c4 hl))))
  exact hz
theorem open_va (fuel : Nat) : ∀ (cs : List Value) (x : DataW H × List MemPlace), DataW.trod enc Try.prog w 0 spare held fuel 30 cs = some x → ∃ a : Va, CR w cs (vaP a) := by
  induction fuel using Nat.strongRecOn with
  | _ fuel ih =>
  intro cs x h
  obtain ⟨n, hn, hl, hf⟩ := open_flds tok T30 rfl h
  obtain ⟨y0, h0⟩ := hf 0 0 3 I3 rfl T3
  obtain ⟨k, _, c0⟩ := op_i u3 h0
  obtain ⟨y1, h1⟩ := hf 1 1 2 I2 rfl T2
  obtain ⟨m, _, c1⟩ := op_i u2 h1
  obtain ⟨y2, h2⟩ := hf 2 2 27 I27 rfl T27
  obtain ⟨b, c2⟩ := op_by h2
  obtain ⟨y3, h3⟩ := hf 3 3 9 I9 rfl T9
  obtain ⟨s, _, c3⟩ := op_s u9 h3
  obtain ⟨y4, h4⟩ := hf 4 4 28 I28 rfl T28
  obtain ⟨ps, _, c4⟩ := open_slice vaP (fun _ => True) u28 z30 h4 (fun m us y hm _ hu => by obtain ⟨a, ha⟩ := ih m (by omega) us y hu; exact ⟨a, trivial, ha⟩)
  refine ⟨.mk k m b s ps, ?_⟩
  rw [vaP, vaPs_mp]
  have hz := CR.seg (o := 0) c0 (CR.seg c1 (CR.seg c2 (CR.seg c3 (CR.last c4 hl))))
  exact hz
end
theorem CR.agg {w : World} {vs : Array Value} {ps : List PV} (h : CR w vs.toList ps) : Rep (blockCells w) (fun _ => ⟨0, 0⟩) w 0 (.agg vs) (.agg ps) := by
  have := Rep.agg (G := blockCells w) (m := fun _ => ⟨0, 0⟩) (w := w) 0 vs.toList ps h.len h.rep
  simpa using this
end Go.Proofs.Ytdffmciedieikaa.Deep

namespace Go.Proofs.Ytdffmciedieikaa.Deep
open Go.ChangeShapes Go.WideShapes Go.ChangeAt Go.RowKit
set_option linter.unusedVariables false
theorem args_again {H : Type} {enc : TypeId × Value → H} {P : Program} {W W' : World} (hl : laidOutB P = true) (hb : Below W.heap.size W W') : ∀ (ts : List TypeId), (∀ t ∈ ts, P.readableRec t = true ∧ t < P.types.size) → ∀ (vs : List Value) (ds : List (DataW H)) (ps : List MemPlace),
    DataW.TrodAll enc P W 0 (fun _ => true) true ts vs ds ps → (∀ x ∈ ps, x.block < W.heap.size) → ∀ sp : Nat → Bool, (∀ x ∈ ps, sp x.block = true) → DataW.TrodAll enc P W' 0 sp true ts vs ds ps := by
  intro ts
  induction ts with
  | nil => intro _ vs ds ps h _ sp _; obtain ⟨rfl, rfl, rfl⟩ := trodAll_nil h; exact trodAll_mk0
  | cons t ts ih =>
    intro ht vs ds ps h hlt sp hsp
    obtain ⟨v, vs1, d, ds1, a, b, rfl, rfl, rfl, h1, h2⟩ := trodAll_cons h
    have h0 := ht t (by simp)
    exact trodAll_cons_mk (WideElems.Trod_stays hl h0.1 h0.2 h1 (fun x hx => hb.same (hlt x (List.mem_append_left _ hx))) (fun x hx => hsp x (List.mem_append_left _ hx)))
      (ih (fun t h => ht t (by simp [h])) _ _ _ h2 (fun x hx => hlt x (List.mem_append_right _ hx)) sp (fun x hx => hsp x (List.mem_append_right _ hx)))
theorem post_law {H : Type} {enc : TypeId × Value → H} {P : Program} {f : Func} {s : ChangeSpec} {apart fresh handsOn : Bool} {W W' : World} {args : Array Value} {v : Value} {ds gs : List (DataW H)} {before pa pv : List MemPlace}
    (hW : DataW.Whole enc P f.params.toList s.vars apart W args.toList ds gs before)
    (hres : ∀ (b : Nat) (sp : Nat → Bool) (hd : Bool), DataW.TrodAll enc P W' b sp hd f.resultTypes.toList (v.resultList f.resultTypes.size) (s.fn H (ds ++ gs)).results [])
    (hargs : ∀ sp : Nat → Bool, (∀ p ∈ before, sp p.block = true) → DataW.TrodAll enc P W' 0 sp true f.params.toList args.toList (s.fn H (ds ++ gs)).args pa)
    (hvars : ∀ sp : Nat → Bool, (∀ p ∈ before, sp p.block = true) → DataW.TrodVars enc P W' sp s.vars (s.fn H (ds ++ gs)).vars pv)
    (hps : before = pa ++ pv) (hb : Below W.heap.size W W') : s.post enc P f apart fresh handsOn false W args v W' := by
  have hold : ∀ p ∈ before, (fun b => decide (b < W.heap.size)) p.block = true := fun p hp => by simpa using hW.lt p hp
  exact ⟨ds, gs, before, [], pa, pv, hW, hres _ _ _, hargs _ hold, hvars _ hold, World.keptBut_mono (fun p hp => ⟨hp, Or.inr (List.mem_append.1 (hps ▸ hp))⟩) (hb.frame (· ∈ before)), fun h => by cases h⟩
theorem struct_of {P : Program} {T : TypeId → Option TI} (hT : Tok P T) {t : TypeId} {ti : TI} (hi : T t = some ti) (hst : ti.isStruct = true) : ∃ fs, P.underlying t = some (.struct fs) := by
  obtain ⟨h1, h2⟩ := hT t ti hi
  obtain ⟨d, hd⟩ := Option.isSome_iff_exists.1 h2
  subst h1
  unfold infoP at hst
  dsimp only at hst
  rw [hd] at hst
  cases d <;> first | exact ⟨_, hd⟩ | (exact absurd hst Bool.false_ne_true)
theorem open_arg {P : Program} {T : TypeId → Option TI} (hT : Tok P T) {α : Type} {H : Type} {enc : TypeId × Value → H} {M : α → Prop} {view : α → List PV} {t : TypeId} {ti : TI} (hi : T t = some ti) (hst : ti.isStruct = true) {W : World} {r : Reach} {b0 : Nat} {v : Value} {d : DataW H} {p : List MemPlace} (hv : Value.okWide P W r b0 t v)
    (h : DataW.Trod enc P W 0 (fun _ => true) true t v d p) (ho : ∀ (fuel : Nat) (cs : List Value) (x : DataW H × List MemPlace), DataW.trod enc P W 0 (fun _ => true) true fuel t cs = some x → ∃ a : α, M a ∧ CR W cs (view a)) :
    ∃ a : α, M a ∧ Rep (blockCells W) (fun _ => ⟨0, 0⟩) W 0 v (.agg (view a)) := by
  obtain ⟨fs, hfs⟩ := struct_of hT hi hst
  obtain ⟨cs, rfl, _⟩ := okWide_struct hfs hv
  obtain ⟨fuel, h⟩ := h
  obtain ⟨a, ha, hc⟩ := ho _ _ _ h
  exact ⟨a, ha, hc.agg⟩
theorem hs_start (P : Program) (W : World) : HS P (blockCells W) (fun _ => ⟨0, 0⟩) W [] := ⟨fun b hb => absurd hb (Nat.not_lt_zero _), fun b _ hb => absurd hb (Nat.not_lt_zero _), block_old⟩
theorem law_calls {f : FuncId} {ps : List PV} (h : PCalls Try.prog f ps (fun r => r = .con (.bool true))) {W : World} {vs : Array Value} (ha : Args (blockCells W) (fun _ => ⟨0, 0⟩) W 0 vs ps) : Calls Try.prog f vs W fun e W' => e = .returned (.bool true) ∧ Below W.heap.size W W' :=
  (h (blockCells W) (fun _ => ⟨0, 0⟩) W vs (hs_start _ W) ha).mono fun e W' ⟨v, r, h', G', m', he, ⟨hr, _⟩, hrep, _, hg⟩ => by
    subst hr
    obtain rfl := hrep.con_eq
    exact ⟨he, hg.below⟩
theorem args_list {w : World} {G : Nat → Nat} {m : Nat → Pl} {n : Nat} : ∀ (vs : List Value) (ps : List PV), vs.length = ps.length → (∀ i (h : i < vs.length) (h2 : i < ps.length), Rep G m w n vs[i] ps[i]) → Args G m w n vs.toArray ps := fun vs ps hl h => by
  refine ⟨by simpa using hl, fun i hi => ?_⟩
  have := h i (by omega) hi
  simp only [List.getD_eq_getElem?_getD, List.getElem?_eq_getElem hi, Option.getD_some]
  simpa [Array.getD, hl, hi] using this
end Go.Proofs.Ytdffmciedieikaa.Deep

namespace Go.Proofs.Ytdffmciedieikaa.Deep
open Go.RowKit
set_option linter.unusedVariables false
def loops4 (id : Nat) : Option (List Nat × List (Nat × Sh)) := match Nat.beq id 3 with | true => some ([2], [(1, .int .i64), (5, .int .i64)]) | false => none
def p4 (i1 i2 i3 : Int) (s4 : ByteArray) (i5 : Int) (l6 : List (List PV)) (i7 : Int) (Q : PV → Heap → Prop) : Prop :=
∃ I8 : Nat → ((Int) × (Int) × Unit) → Prop, (∃ n, I8 n ((IntKind.wrap .i64 ((IntKind.wrap .i64 (i7 - 1)) - (minI (ByteArray.size s4 : Int) 1048576))), 0, ())) ∧ ∀ (n9 : Nat) (v10 : (Int) × (Int) × Unit), I8 n9 v10 →
  (br ((decide ((v10.2.1 : Int) < (List.length l6 : Int))))
  (br ((decide ((v10.1 : Int) ≥ 0)))
  (∃ (i11 i12 i13 : Int) (s14 : ByteArray) (i15 : Int) (l16 : LL), IdxN l6 v10.2.1 [i11, i12, i13, s14, i15, l16]
  (∃ i17 : Int, CallN Try.prog 4 [(.agg [i11, i12, i13, s14, i15, l16]), v10.1] [[i1, i2, i3, s4, i5, l6]] i17
  ((@Eq PV (.ptr 0 0) (.ptr 0 0) ∧ True) ∧ @Eq Heap [[i1, i2, i3, s4, i5, l6]] [[i1, i2, i3, s4, i5, l6]] ∧ ∃ k18, k18 < n9 ∧ I8 k18 (i17, (IntKind.wrap .i64 (v10.2.1 + 1)), ()))))
  (Q v10.1 [[i1, i2, i3, s4, i5, l6]]))
  (Q v10.1 [[i1, i2, i3, s4, i5, l6]]))
theorem a4 (i1 i2 i3 : Int) (s4 : ByteArray) (i5 : Int) (l6 : List (List PV)) (i7 : Int) (Q : PV → Heap → Prop) (h : p4 i1 i2 i3 s4 i5 l6 i7 Q) : ACalls Try.prog 4 [(.agg [i1, i2, i3, s4, i5, l6]), i7] [] Q := by
  have hb : Option.some (bodyOf Try.f4) = Try.f4.body := by kernel_rfl
  exact acalls_eq (S := S) (L := loops4) mixed tok Try.func4 hb.symm (by kernel_rfl) h
def loops5 (id : Nat) : Option (List Nat × List (Nat × Sh)) := match Nat.beq id 3 with | true => some ([2], [(1, .int .i64), (5, .int .i64)]) | false => none
def p5 (i1 i2 : Int) (l3 : List (List PV)) (s4 : ByteArray) (l5 : List (List PV)) (i6 : Int) (Q : PV → Heap → Prop) : Prop :=
∃ I7 : Nat → ((Int) × (Int) × Unit) → Prop, (∃ n, I7 n ((IntKind.wrap .i64 ((IntKind.wrap .i64 ((IntKind.wrap .i64 (i6 - 1)) - (minI (List.length l3 : Int) 1048576))) - (minI (ByteArray.size s4 : Int) 1048576))), 0, ())) ∧ ∀ (n8 : Nat) (v9 : (Int) × (Int) × Unit), I7 n8 v9 →
  (br ((decide ((v9.2.1 : Int) < (List.length l5 : Int))))
  (br ((decide ((v9.1 : Int) ≥ 0)))
  (∃ (i10 i11 : Int) (l12 : LL) (s13 : ByteArray) (l14 : LL), IdxN l5 v9.2.1 [i10, i11, l12, s13, l14]
  (∃ i15 : Int, CallN Try.prog 5 [(.agg [i10, i11, l12, s13, l14]), v9.1] [[i1, i2, l3, s4, l5]] i15
  ((@Eq PV (.ptr 0 0) (.ptr 0 0) ∧ True) ∧ @Eq Heap [[i1, i2, l3, s4, l5]] [[i1, i2, l3, s4, l5]] ∧ ∃ k16, k16 < n8 ∧ I7 k16 (i15, (IntKind.wrap .i64 (v9.2.1 + 1)), ()))))
  (Q v9.1 [[i1, i2, l3, s4, l5]]))
  (Q v9.1 [[i1, i2, l3, s4, l5]]))
theorem a5 (i1 i2 : Int) (l3 : List (List PV)) (s4 : ByteArray) (l5 : List (List PV)) (i6 : Int) (Q : PV → Heap → Prop) (h : p5 i1 i2 l3 s4 l5 i6 Q) : ACalls Try.prog 5 [(.agg [i1, i2, l3, s4, l5]), i6] [] Q := by
  have hb : Option.some (bodyOf Try.f5) = Try.f5.body := by kernel_rfl
  exact acalls_eq (S := S) (L := loops5) mixed tok Try.func5 hb.symm (by kernel_rfl) h
def loops16 (id : Nat) : Option (List Nat × List (Nat × Sh)) := match Nat.beq id 4 with | true => some ([2, 3], [(5, .int .i64)]) | false => none
def p16 (i1 i2 : Int) (l3 : List (List PV)) (s4 : ByteArray) (l5 : List (List PV)) (i6 i7 : Int) (l8 : List (List PV)) (s9 : ByteArray) (l10 : List (List PV)) (Q : PV → Heap → Prop) : Prop :=
br (((i1 : Int) != i6))
  (Q (.con (.bool false)) [[i1, i2, l3, s4, l5], [i6, i7, l8, s9, l10]])
  (br (((i2 : Int) != i7))
  (Q (.con (.bool false)) [[i1, i2, l3, s4, l5], [i6, i7, l8, s9, l10]])
  (∃ y11 : List UInt8, BytesN Try.prog 27 9 l3 y11
  (∃ y12 : List UInt8, BytesN Try.prog 27 9 l8 y12
  (br ((!(ByteArray.toList ⟨List.toArray y11⟩ == ByteArray.toList ⟨List.toArray y12⟩)))
  (Q (.con (.bool false)) [[i1, i2, l3, s4, l5], [i6, i7, l8, s9, l10]])
  (br ((!(ByteArray.toList s4 == ByteArray.toList s9)))
  (Q (.con (.bool false)) [[i1, i2, l3, s4, l5], [i6, i7, l8, s9, l10]])
  (br ((((List.length l5 : Int) : Int) != (List.length l10 : Int)))
  (Q (.con (.bool false)) [[i1, i2, l3, s4, l5], [i6, i7, l8, s9, l10]])
  (∃ I13 : Nat → ((Int) × Unit) → Prop, (∃ n, I13 n (0, ())) ∧ ∀ (n14 : Nat) (v15 : (Int) × Unit), I13 n14 v15 →
  (br ((decide ((v15.1 : Int) < (List.length l5 : Int))))
  (∃ (i16 i17 : Int) (l18 : LL) (s19 : ByteArray) (l20 : LL), IdxN l5 v15.1 [i16, i17, l18, s19, l20]
  (∃ (i21 i22 : Int) (l23 : LL) (s24 : ByteArray) (l25 : LL), IdxN l10 v15.1 [i21, i22, l23, s24, l25]
  (∃ b26 : Bool, CallN Try.prog 16 [(.agg [i16, i17, l18, s19, l20]), (.agg [i21, i22, l23, s24, l25])] [[i1, i2, l3, s4, l5], [i6, i7, l8, s9, l10]] b26
  (br ((!b26))
  (Q (.con (.bool false)) [[i1, i2, l3, s4, l5], [i6, i7, l8, s9, l10]])
  ((@Eq PV (.ptr 0 0) (.ptr 0 0) ∧ @Eq PV (.ptr 1 0) (.ptr 1 0) ∧ True) ∧ @Eq Heap [[i1, i2, l3, s4, l5], [i6, i7, l8, s9, l10]] [[i1, i2, l3, s4, l5], [i6, i7, l8, s9, l10]] ∧ ∃ k27, k27 < n14 ∧ I13 k27 ((IntKind.wrap .i64 (v15.1 + 1)), ()))))))
  (Q (.con (.bool true)) [[i1, i2, l3, s4, l5], [i6, i7, l8, s9, l10]])))))))))
theorem a16 (i1 i2 : Int) (l3 : List (List PV)) (s4 : ByteArray) (l5 : List (List PV)) (i6 i7 : Int) (l8 : List (List PV)) (s9 : ByteArray) (l10 : List (List PV)) (Q : PV → Heap → Prop) (h : p16 i1 i2 l3 s4 l5 i6 i7 l8 s9 l10 Q) : ACalls Try.prog 16 [(.agg [i1, i2, l3, s4, l5]), (.agg [i6, i7, l8, s9, l10])] [] Q := by
  have hb : Option.some (bodyOf Try.f16) = Try.f16.body := by kernel_rfl
  exact acalls_eq (S := S) (L := loops16) mixed tok Try.func16 hb.symm (by kernel_rfl) h
def loops9 (id : Nat) : Option (List Nat × List (Nat × Sh)) := match Nat.beq id 4 with | true => some ([0, 1], [(5, .int .i64)]) | false => none
def p9 (l1 l2 : List (List PV)) (Q : PV → Heap → Prop) : Prop :=
br ((((List.length l1 : Int) : Int) != (List.length l2 : Int)))
  (Q (.con (.bool false)) [])
  (∃ I3 : Nat → ((Int) × Unit) → Prop, (∃ n, I3 n (0, ())) ∧ ∀ (n4 : Nat) (v5 : (Int) × Unit), I3 n4 v5 →
  (br ((decide ((v5.1 : Int) < (List.length l1 : Int))))
  (∃ (s6 : ByteArray) (i7 i8 : Int) (l9 : LL) (s10 : ByteArray) (l11 : LL), IdxN l1 v5.1 [s6, i7, i8, l9, s10, l11]
  (∃ (s12 : ByteArray) (i13 i14 : Int) (l15 : LL) (s16 : ByteArray) (l17 : LL), IdxN l2 v5.1 [s12, i13, i14, l15, s16, l17]
  (br ((!(ByteArray.toList s6 == ByteArray.toList s12)))
  (Q (.con (.bool false)) [])
  (∃ (s18 : ByteArray) (i19 i20 : Int) (l21 : LL) (s22 : ByteArray) (l23 : LL), IdxN l1 v5.1 [s18, i19, i20, l21, s22, l23]
  (∃ (s24 : ByteArray) (i25 i26 : Int) (l27 : LL) (s28 : ByteArray) (l29 : LL), IdxN l2 v5.1 [s24, i25, i26, l27, s28, l29]
  (∃ b30 : Bool, CallN Try.prog 16 [(.agg [i19, i20, l21, s22, l23]), (.agg [i25, i26, l27, s28, l29])] [] b30
  (br ((!b30))
  (Q (.con (.bool false)) [])
  ((@Eq PV l1 l1 ∧ @Eq PV l2 l2 ∧ True) ∧ @Eq Heap [] [] ∧ ∃ k31, k31 < n4 ∧ I3 k31 ((IntKind.wrap .i64 (v5.1 + 1)), ())))))))))
  (Q (.con (.bool true)) [])))
theorem a9 (l1 l2 : List (List PV)) (Q : PV → Heap → Prop) (h : p9 l1 l2 Q) : ACalls Try.prog 9 [l1, l2] [] Q := by
  have hb : Option.some (bodyOf Try.f9) = Try.f9.body := by kernel_rfl
  exact acalls_eq (S := S) (L := loops9) mixed tok Try.func9 hb.symm (by kernel_rfl) h
end Go.Proofs.Ytdffmciedieikaa.Deep

namespace Go.Proofs.Ytdffmciedieikaa.Deep
open Go.RowKit
set_option linter.unusedVariables false
def loops26 (id : Nat) : Option (List Nat × List (Nat × Sh)) := match Nat.beq id 4 with | true => some ([1, 12, 13], [(14, .int .i64)]) | false => none
def p26 (l1 l2 : List (List PV)) (Q : PV → Heap → Prop) : Prop :=
br ((((List.length l1 : Int) : Int) != (List.length l2 : Int)))
  (Q (.con (.bool false)) [])
  (∃ I3 : Nat → ((Int) × Unit) → Prop, (∃ n, I3 n (0, ())) ∧ ∀ (n4 : Nat) (v5 : (Int) × Unit), I3 n4 v5 →
  (br ((decide ((v5.1 : Int) < (List.length l1 : Int))))
  (∃ (i6 i7 i8 : Int) (s9 : ByteArray) (i10 : Int) (l11 : LL), IdxN l1 v5.1 [i6, i7, i8, s9, i10, l11]
  (∃ (i12 i13 : Int) (l14 : LL) (s15 : ByteArray) (l16 : LL), IdxN l2 v5.1 [i12, i13, l14, s15, l16]
  (∃ b17 : Bool, CallN Try.prog 13 [(.agg [i6, i7, i8, s9, i10, l11]), (.agg [i12, i13, l14, s15, l16])] [[i6, i7, i8, s9, i10, l11]] b17
  (br ((!b17))
  (Q (.con (.bool false)) [[i6, i7, i8, s9, i10, l11]])
  ((@Eq PV l2 l2 ∧ @Eq PV l1 l1 ∧ @Eq PV (.con (.int .i64 (List.length l1 : Int))) (.con (.int .i64 (List.length l1 : Int))) ∧ True) ∧ @Eq Heap [] [] ∧ ∃ k18, k18 < n4 ∧ I3 k18 ((IntKind.wrap .i64 (v5.1 + 1)), ()))))))
  (Q (.con (.bool true)) [])))
theorem a26 (l1 l2 : List (List PV)) (Q : PV → Heap → Prop) (h : p26 l1 l2 Q) : ACalls Try.prog 26 [l1, l2] [] Q := by
  have hb : Option.some (bodyOf Try.f26) = Try.f26.body := by kernel_rfl
  exact acalls_eq (S := S) (L := loops26) mixed tok Try.func26 hb.symm (by kernel_rfl) h
def loops13 (id : Nat) : Option (List Nat × List (Nat × Sh)) := none
def p13 (i1 i2 i3 : Int) (s4 : ByteArray) (i5 : Int) (l6 : List (List PV)) (i7 i8 : Int) (l9 : List (List PV)) (s10 : ByteArray) (l11 : List (List PV)) (Q : PV → Heap → Prop) : Prop :=
br (((i1 : Int) == 0))
  (Q (.con (.bool true)) [[i1, i2, i3, s4, i5, l6], [i7, i8, l9, s10, l11]])
  (br (((i1 : Int) == 1))
  (Q (.con (.bool true)) [[i1, i2, i3, s4, i5, l6], [i7, i8, l9, s10, l11]])
  (br (((i1 : Int) == 2))
  (br (((i7 : Int) == 0))
  (Q (.con (.bool ((i8 : Int) == i5))) [[i1, i2, i3, s4, i5, l6], [i7, i8, l9, s10, l11]])
  (Q (.con (.bool false)) [[i1, i2, i3, s4, i5, l6], [i7, i8, l9, s10, l11]]))
  (br (((i1 : Int) == 3))
  (br (((i7 : Int) == 2))
  (br ((ByteArray.toList s10 == ByteArray.toList s4))
  (∃ b12 : Bool, CallN Try.prog 26 [l6, l11] [[i1, i2, i3, s4, i5, l6], [i7, i8, l9, s10, l11]] b12
  (Q b12 [[i1, i2, i3, s4, i5, l6], [i7, i8, l9, s10, l11]]))
  (Q (.con (.bool false)) [[i1, i2, i3, s4, i5, l6], [i7, i8, l9, s10, l11]]))
  (Q (.con (.bool false)) [[i1, i2, i3, s4, i5, l6], [i7, i8, l9, s10, l11]]))
  (br (((i1 : Int) == 4))
  (br (((i7 : Int) == 3))
  (∃ b13 : Bool, CallN Try.prog 26 [l6, l11] [[i1, i2, i3, s4, i5, l6], [i7, i8, l9, s10, l11]] b13
  (Q b13 [[i1, i2, i3, s4, i5, l6], [i7, i8, l9, s10, l11]]))
  (Q (.con (.bool false)) [[i1, i2, i3, s4, i5, l6], [i7, i8, l9, s10, l11]]))
  (Q (.con (.bool false)) [[i1, i2, i3, s4, i5, l6], [i7, i8, l9, s10, l11]])))))
theorem a13 (i1 i2 i3 : Int) (s4 : ByteArray) (i5 : Int) (l6 : List (List PV)) (i7 i8 : Int) (l9 : List (List PV)) (s10 : ByteArray) (l11 : List (List PV)) (Q : PV → Heap → Prop) (h : p13 i1 i2 i3 s4 i5 l6 i7 i8 l9 s10 l11 Q) : ACalls Try.prog 13 [(.agg [i1, i2, i3, s4, i5, l6]), (.agg [i7, i8, l9, s10, l11])] [] Q := by
  have hb : Option.some (bodyOf Try.f13) = Try.f13.body := by kernel_rfl
  exact acalls_eq (S := S) (L := loops13) mixed tok Try.func13 hb.symm (by kernel_rfl) h
end Go.Proofs.Ytdffmciedieikaa.Deep

namespace Go.Proofs.Ytdffmciedieikaa.Deep
open Go.RowKit
set_option linter.unusedVariables false
set_option linter.unusedSimpArgs false
theorem min_take (n : Nat) : minI (n : Int) 1048576 = take20 n := by unfold minI take20; split <;> split <;> omega
theorem light_pt (t : Pt) : ∀ l : Int, -1099511627776 ≤ l → l ≤ 3000 → PCalls Try.prog 4 [.agg (ptP t), .con (.int .i64 l)] (fun r => r = .con (.int .i64 (lightPt t l))) := by
  induction t using Pt.ind with
  | h k li co n m ps ih =>
  intro l h0 h1
  have hn := take20_le n.size
  refine a4 _ _ _ _ _ _ _ _ ?_
  unfold p4
  rw [min_take, wrap_id (n := l - 1) (by omega) (by omega), wrap_id (by omega) (by omega)]
  obtain ⟨L, hL⟩ : ∃ L, lightPt (.mk k li co n m ps) l = L := ⟨_, rfl⟩
  rw [hL]
  unfold lightPt at hL
  rw [ptPs_mp, List.length_map]
  refine ⟨fun c v => ∃ j : Nat, j ≤ ps.length ∧ c = ps.length - j ∧ v.2.1 = (j : Int) ∧ lightPts (ps.drop j) v.1 = L ∧ -1099513627776 ≤ v.1 ∧ v.1 + j ≤ 3000, ⟨_, 0, Nat.zero_le _, rfl, rfl, by simpa using hL, by dsimp only; omega, by dsimp only; omega⟩, ?_⟩
  rintro c ⟨cur, i, u⟩ ⟨j, hj, rfl, hi, hLj, b0, b1⟩
  dsimp only at hi hLj b0 b1 ⊢
  subst hi
  refine br_i (fun hlt => ?_) (fun hge => ?_)
  · have hlt : j < ps.length := by simpa using hlt
    rw [List.drop_eq_getElem_cons hlt, lightPts] at hLj
    refine br_i (fun hc => ?_) (fun hc => ?_)
    · have hc : 0 ≤ cur := by simpa using hc
      rw [if_neg (by omega)] at hLj
      have hx := map_get ptP ps j hlt
      obtain ⟨a1, a2, a3, a4⟩ := lightPt_ok ps[j] cur
      have hi := ih j hlt cur (by omega) (by omega)
      obtain ⟨x1, x2, x3, x4, x5, x6, hp⟩ := cells_Pt ps[j]
      rw [hp] at hx hi
      refine ⟨_, _, _, _, _, _, ⟨by omega, by rw [Int.toNat_natCast]; exact hx, ?_⟩⟩
      refine ⟨_, call_p (enters_of Try.func4 (by kernel_rfl) rfl) hi rfl ⟨⟨rfl, trivial⟩, rfl, ps.length - (j + 1), by omega, j + 1, by omega, rfl, ?_, hLj, ?_, ?_⟩⟩
      · rw [wrap_id (by omega) (by omega)]; simp
      · have := a2 hc; omega
      · omega
    · have hc : cur < 0 := by have : ¬ 0 ≤ cur := by simpa using hc
                              omega
      rw [if_pos hc] at hLj
      exact ⟨by rw [← hLj], rfl⟩
  · have hge : ¬ j < ps.length := by simpa using hge
    rw [List.drop_of_length_le (by omega), lightPts] at hLj
    exact ⟨by rw [← hLj], rfl⟩
theorem light_va (t : Va) : ∀ l : Int, -1099511627776 ≤ l → l ≤ 3000 → PCalls Try.prog 5 [.agg (vaP t), .con (.int .i64 l)] (fun r => r = .con (.int .i64 (lightVa t l))) := by
  induction t using Va.ind with
  | h k n b s ps ih =>
  intro l h0 h1
  have hn := take20_le s.size
  have hb := take20_le b.length
  refine a5 _ _ _ _ _ _ _ ?_
  unfold p5
  rw [show (byP b).length = b.length by simp [byP], min_take, min_take, wrap_id (n := l - 1) (by omega) (by omega), wrap_id (n := l - 1 - take20 b.length) (by omega) (by omega), wrap_id (by omega) (by omega)]
  obtain ⟨L, hL⟩ : ∃ L, lightVa (.mk k n b s ps) l = L := ⟨_, rfl⟩
  rw [hL]
  unfold lightVa at hL
  rw [vaPs_mp, List.length_map]
  refine ⟨fun c v => ∃ j : Nat, j ≤ ps.length ∧ c = ps.length - j ∧ v.2.1 = (j : Int) ∧ lightVas (ps.drop j) v.1 = L ∧ -1099515627776 ≤ v.1 ∧ v.1 + j ≤ 3000, ⟨_, 0, Nat.zero_le _, rfl, rfl, by simpa using hL, by dsimp only; omega, by dsimp only; omega⟩, ?_⟩
  rintro c ⟨cur, i, u⟩ ⟨j, hj, rfl, hi, hLj, b0, b1⟩
  dsimp only at hi hLj b0 b1 ⊢
  subst hi
  refine br_i (fun hlt => ?_) (fun hge => ?_)
  · have hlt : j < ps.length := by simpa using hlt
    rw [List.drop_eq_getElem_cons hlt, lightVas] at hLj
    refine br_i (fun hc => ?_) (fun hc => ?_)
    · have hc : 0 ≤ cur := by simpa using hc
      rw [if_neg (by omega)] at hLj
      have hx := map_get vaP ps j hlt
      obtain ⟨a1, a2, a3, a4⟩ := lightVa_ok ps[j] cur
      have hi := ih j hlt cur (by omega) (by omega)
      obtain ⟨x1, x2, x3, x4, x5, hp⟩ := cells_Va ps[j]
      rw [hp] at hx hi
      refine ⟨_, _, _, _, _, ⟨by omega, by rw [Int.toNat_natCast]; exact hx, ?_⟩⟩
      refine ⟨_, call_p (enters_of Try.func5 (by kernel_rfl) rfl) hi rfl ⟨⟨rfl, trivial⟩, rfl, ps.length - (j + 1), by omega, j + 1, by omega, rfl, ?_, hLj, ?_, ?_⟩⟩
      · rw [wrap_id (by omega) (by omega)]; simp
      · have := a2 hc; omega
      · omega
    · have hc : cur < 0 := by have : ¬ 0 ≤ cur := by simpa using hc
                              omega
      rw [if_pos hc] at hLj
      exact ⟨by rw [← hLj], rfl⟩
  · have hge : ¬ j < ps.length := by simpa using hge
    rw [List.drop_of_length_le (by omega), lightVas] at hLj
    exact ⟨by rw [← hLj], rfl⟩
theorem bne_len (a b : Nat) : (((a : Int)) != (b : Int)) = !(Nat.beq a b) := by
  cases h : Nat.beq a b with
  | true => have := Nat.eq_of_beq_eq_true h; subst this; simp
  | false =>
    have : a ≠ b := fun e => by subst e; rw [Nat.beq_refl] at h; cases h
    simp; omega
theorem takeAll_p (ps : List Pt) (vs : List Va) (hl : ps.length ≤ 3000) (ih : ∀ i, (h1 : i < ps.length) → (h2 : i < vs.length) → PCalls Try.prog 13 [.agg (ptP ps[i]), .agg (vaP vs[i])] (fun r => r = .con (.bool (takesF ps[i] vs[i])))) :
    PCalls Try.prog 26 [.sl (ptPs ps), .sl (vaPs vs)] (fun r => r = .con (.bool (takesL ps vs))) := by
  refine a26 _ _ _ ?_
  unfold p26
  rw [ptPs_mp, vaPs_mp, List.length_map, List.length_map, bne_len]
  refine br_i (fun hne => ?_) (fun heq => ?_)
  · rw [takesL_ne ps vs (fun e => by rw [e, Nat.beq_refl] at hne; cases hne)]
    exact ⟨rfl, rfl⟩
  · have hle : ps.length = vs.length := by
      have : Nat.beq ps.length vs.length = true := by simpa using heq
      exact Nat.eq_of_beq_eq_true this
    refine ⟨fun c v => ∃ j : Nat, j ≤ ps.length ∧ c = ps.length - j ∧ v.1 = (j : Int) ∧ takesL (ps.drop j) (vs.drop j) = takesL ps vs, ⟨_, 0, Nat.zero_le _, rfl, rfl, by simp⟩, ?_⟩
    rintro c ⟨i, u⟩ ⟨j, hj, rfl, hi, hL⟩
    dsimp only at hi hL ⊢
    subst hi
    refine br_i (fun hlt => ?_) (fun hge => ?_)
    · have hlt : j < ps.length := by simpa using hlt
      have hlt2 : j < vs.length := by omega
      have hx := map_get ptP ps j hlt
      have hy := map_get vaP vs j hlt2
      have hc := ih j hlt hlt2
      rw [takesL_drop hlt hlt2] at hL
      obtain ⟨x1, x2, x3, x4, x5, x6, hp⟩ := cells_Pt ps[j]
      obtain ⟨y1, y2, y3, y4, y5, hq⟩ := cells_Va vs[j]
      rw [hp] at hx hc
      rw [hq] at hy hc
      refine ⟨_, _, _, _, _, _, ⟨by omega, by rw [Int.toNat_natCast]; exact hx, ?_⟩⟩
      refine ⟨_, _, _, _, _, ⟨by omega, by rw [Int.toNat_natCast]; exact hy, ?_⟩⟩
      refine ⟨_, call_p (enters_of Try.func13 (by kernel_rfl) rfl) hc rfl ?_⟩
      refine br_i (fun hb => ?_) (fun hb => ?_)
      · have hb : takesF ps[j] vs[j] = false := by simpa using hb
        rw [hb, Bool.false_and] at hL
        exact ⟨by rw [hL], rfl⟩
      · have hb : takesF ps[j] vs[j] = true := by simpa using hb
        rw [hb, Bool.true_and] at hL
        refine ⟨⟨rfl, rfl, rfl, trivial⟩, rfl, ps.length - (j + 1), by omega, j + 1, by omega, rfl, ?_, hL⟩
        rw [wrap_id (by omega) (by omega)]; simp
    · have hge : ¬ j < ps.length := by simpa using hge
      rw [List.drop_of_length_le (by omega), List.drop_of_length_le (by omega)] at hL
      exact ⟨by rw [← hL]; rfl, rfl⟩
theorem takes_p (p : Pt) : smallPt p → ∀ v : Va, PCalls Try.prog 13 [.agg (ptP p), .agg (vaP v)] (fun r => r = .con (.bool (takesF p v))) := by
  induction p using Pt.ind with
  | h k li co n m ps ih =>
  intro hs v
  unfold smallPt at hs
  obtain ⟨vk, vn, vb, vs, vks⟩ := v
  have hall := takeAll_p ps vks hs.1 (fun i h1 h2 => ih i h1 (smallPts_at ps hs.2 i h1) _)
  refine a13 _ _ _ _ _ _ _ _ _ _ _ _ ?_
  unfold p13 takesF
  refine br_i (fun h => ?_) (fun h0 => ?_)
  · have : k = 0 := by simpa using h
    rw [if_pos this]; exact ⟨rfl, rfl⟩
  have h0 : k ≠ 0 := by simpa using h0
  rw [if_neg h0]
  refine br_i (fun h => ?_) (fun h1 => ?_)
  · have : k = 1 := by simpa using h
    rw [if_pos this]; exact ⟨rfl, rfl⟩
  have h1 : k ≠ 1 := by simpa using h1
  rw [if_neg h1]
  refine br_i (fun h => ?_) (fun h2 => ?_)
  · have : k = 2 := by simpa using h
    rw [if_pos this]
    refine br_i (fun h3 => ?_) (fun h3 => ?_)
    · simp only [Va.kind, Va.num, h3, Bool.true_and]; exact ⟨trivial, rfl⟩
    · simp only [Va.kind, Va.num, h3, Bool.false_and]; exact ⟨trivial, rfl⟩
  have h2 : k ≠ 2 := by simpa using h2
  rw [if_neg h2]
  refine br_i (fun h => ?_) (fun h3 => ?_)
  · have : k = 3 := by simpa using h
    rw [if_pos this]
    refine br_i (fun h4 => ?_) (fun h4 => ?_)
    · refine br_i (fun h5 => ?_) (fun h5 => ?_)
      · refine ⟨_, call_p (enters_of Try.func26 (by kernel_rfl) rfl) hall rfl ?_⟩
        simp only [Va.kind, Va.name, Va.kids, h4, h5, Bool.true_and]; exact ⟨trivial, rfl⟩
      · simp only [Va.kind, Va.name, Va.kids, h4, h5, Bool.true_and, Bool.false_and]; exact ⟨trivial, rfl⟩
    · simp only [Va.kind, h4, Bool.false_and]; exact ⟨trivial, rfl⟩
  have h3 : k ≠ 3 := by simpa using h3
  rw [if_neg h3]
  refine br_i (fun h => ?_) (fun h4 => ?_)
  · have : k = 4 := by simpa using h
    rw [if_pos this]
    refine br_i (fun h4 => ?_) (fun h4 => ?_)
    · refine ⟨_, call_p (enters_of Try.func26 (by kernel_rfl) rfl) hall rfl ?_⟩
      simp only [Va.kind, Va.name, Va.kids, h4, Bool.true_and]; exact ⟨trivial, rfl⟩
    · simp only [Va.kind, h4, Bool.false_and]; exact ⟨trivial, rfl⟩
  have h4 : k ≠ 4 := by simpa using h4
  rw [if_neg h4]
  exact ⟨rfl, rfl⟩
end Go.Proofs.Ytdffmciedieikaa.Deep

namespace Go.Proofs.Ytdffmciedieikaa.Deep
open Go.RowKit
set_option linter.unusedVariables false
def loops40k (id : Nat) : Option (List Nat × List (Nat × Sh)) := match Nat.beq id 3 with | true => some ([1, 8, 9], [(5, .own 0 30 5), (10, .int .i64)]) | false => none
def p40k (l1 : List (List PV)) (Q : PV → Heap → Prop) : Prop :=
∃ I2 : Nat → ((List (List PV)) × (Int) × Unit) → Prop, (∃ n, I2 n ([], 0, ())) ∧ ∀ (n3 : Nat) (v4 : (List (List PV)) × (Int) × Unit), I2 n3 v4 →
  (br ((decide ((v4.2.1 : Int) < (List.length l1 : Int))))
  (∃ (i5 i6 : Int) (l7 : LL) (s8 : ByteArray) (l9 : LL), IdxN l1 v4.2.1 [i5, i6, l7, s8, l9]
  (∃ (i10 i11 : Int) (l12 : LL) (s13 : ByteArray) (l14 : LL), CallN Try.prog 27 [(.agg [i5, i6, l7, s8, l9])] [[.tip], [i5, i6, l7, s8, l9]] (.agg [i10, i11, l12, s13, l14])
  (AppN v4.1 [[i10, i11, l12, s13, l14]] 5 80 PV.one
  ((@Eq PV (.fn 27 []) (.fn 27 []) ∧ @Eq PV l1 l1 ∧ @Eq PV (.con (.int .i64 (List.length l1 : Int))) (.con (.int .i64 (List.length l1 : Int))) ∧ True) ∧ @Eq Heap [] [] ∧ ∃ k15, k15 < n3 ∧ I2 k15 ((v4.1 ++ ([[i10, i11, l12, s13, l14]] : List (List PV))), (IntKind.wrap .i64 (v4.2.1 + 1)), ())))))
  (Q (.own 0 30 5 v4.1) [[.tip]]))
theorem a40k (l1 : List (List PV)) (Q : PV → Heap → Prop) (h : p40k l1 Q) : ACalls Try.prog 40 [l1, (.fn 27 [])] [] Q := by
  have hb : Option.some (bodyOf Try.f40) = Try.f40.body := by kernel_rfl
  exact acalls_eq (S := S) (L := loops40k) mixed tok Try.func40 hb.symm (by kernel_rfl) h
def p27 (i1 i2 : Int) (l3 : List (List PV)) (s4 : ByteArray) (l5 : List (List PV)) (Q : PV → Heap → Prop) : Prop :=
AppN [] l3 1 1 PV.one
  (∃ l6 : List (List PV), CallN Try.prog 40 [l5, (.fn 27 [])] [[i1, i2, (.own 3 5 1 l3), s4, l5], [(.con (.int .i64 0)), (.con (.int .i64 0)), (.con (.slice none 0 0)), (.con (.string ⟨#[]⟩)), (.con (.slice none 0 0))], [], [.tip]] l6
  (Q (.agg [i1, i2, (.own 3 5 1 l3), s4, l6]) [[i1, i2, (.own 3 5 1 l3), s4, l6], [i1, i2, (.own 3 5 1 l3), s4, l6], [], [.tip]]))
theorem a27 (i1 i2 : Int) (l3 : List (List PV)) (s4 : ByteArray) (l5 : List (List PV)) (Q : PV → Heap → Prop) (h : p27 i1 i2 l3 s4 l5 Q) : ACalls Try.prog 27 [(.agg [i1, i2, l3, s4, l5])] [] Q := by
  have hb : Option.some (bodyOf Try.f27) = Try.f27.body := by kernel_rfl
  exact acalls_eq (S := S) (L := loops13) mixed tok Try.func27 hb.symm (by kernel_rfl) h
end Go.Proofs.Ytdffmciedieikaa.Deep

namespace Go.Proofs.Ytdffmciedieikaa.Deep
open Go.RowKit
set_option linter.unusedVariables false
def loops14 (id : Nat) : Option (List Nat × List (Nat × Sh)) := match Nat.beq id 7 with | true => some ([5, 25, 26], [(0, .own 0 58 6), (27, .int .i64)]) | false => none
def p14 (l1 : List (List PV)) (i2 i3 i4 : Int) (s5 : ByteArray) (i6 : Int) (l7 : List (List PV)) (i8 i9 : Int) (l10 : List (List PV)) (s11 : ByteArray) (l12 : List (List PV)) (Q : PV → Heap → Prop) : Prop :=
br (((i2 : Int) == 1))
  (∃ (i13 i14 : Int) (l15 : LL) (s16 : ByteArray) (l17 : LL), CallN Try.prog 27 [(.agg [i8, i9, l10, s11, l12])] [[.tip], [i2, i3, i4, s5, i6, l7], [i8, i9, l10, s11, l12]] (.agg [i13, i14, l15, s16, l17])
  (AppN l1 [[s5, i13, i14, l15, s16, l17]] 6 96 PV.one
  (Q (.own 1 58 6 (l1 ++ ([[s5, i13, i14, l15, s16, l17]] : List (List PV)))) [[], [.tip]])))
  (br (((i2 : Int) == 3))
  (∃ I18 : Nat → ((List (List PV)) × (Int) × Unit) → Prop, (∃ n, I18 n (l1, 0, ())) ∧ ∀ (n19 : Nat) (v20 : (List (List PV)) × (Int) × Unit), I18 n19 v20 →
  (br ((decide ((v20.2.1 : Int) < (List.length l7 : Int))))
  (∃ (i21 i22 i23 : Int) (s24 : ByteArray) (i25 : Int) (l26 : LL), IdxN l7 v20.2.1 [i21, i22, i23, s24, i25, l26]
  (∃ (i27 i28 : Int) (l29 : LL) (s30 : ByteArray) (l31 : LL), IdxN l12 v20.2.1 [i27, i28, l29, s30, l31]
  (∃ l32 : List (List PV), CallF Try.prog 14 [(.own 0 58 6 v20.1), (.agg [i21, i22, i23, s24, i25, l26]), (.agg [i27, i28, l29, s30, l31])] [[.tip]] (.own 1 58 6 l32) [[], [.tip]]
  ((@Eq PV (.ptr 2 0) (.ptr 2 0) ∧ @Eq PV l7 l7 ∧ @Eq PV (.con (.int .i64 (List.length l7 : Int))) (.con (.int .i64 (List.length l7 : Int))) ∧ True) ∧ @Eq Heap [[], [i2, i3, i4, s5, i6, l7], [i8, i9, l10, s11, l12]] [[], [i2, i3, i4, s5, i6, l7], [i8, i9, l10, s11, l12]] ∧ ∃ k33, k33 < n19 ∧ I18 k33 (l32, (IntKind.wrap .i64 (v20.2.1 + 1)), ())))))
  (Q (.own 1 58 6 v20.1) [[], [.tip]])))
  (br (((i2 : Int) == 4))
  (∃ I34 : Nat → ((List (List PV)) × (Int) × Unit) → Prop, (∃ n, I34 n (l1, 0, ())) ∧ ∀ (n35 : Nat) (v36 : (List (List PV)) × (Int) × Unit), I34 n35 v36 →
  (br ((decide ((v36.2.1 : Int) < (List.length l7 : Int))))
  (∃ (i37 i38 i39 : Int) (s40 : ByteArray) (i41 : Int) (l42 : LL), IdxN l7 v36.2.1 [i37, i38, i39, s40, i41, l42]
  (∃ (i43 i44 : Int) (l45 : LL) (s46 : ByteArray) (l47 : LL), IdxN l12 v36.2.1 [i43, i44, l45, s46, l47]
  (∃ l48 : List (List PV), CallF Try.prog 14 [(.own 0 58 6 v36.1), (.agg [i37, i38, i39, s40, i41, l42]), (.agg [i43, i44, l45, s46, l47])] [[.tip]] (.own 1 58 6 l48) [[], [.tip]]
  ((@Eq PV (.ptr 2 0) (.ptr 2 0) ∧ @Eq PV l7 l7 ∧ @Eq PV (.con (.int .i64 (List.length l7 : Int))) (.con (.int .i64 (List.length l7 : Int))) ∧ True) ∧ @Eq Heap [[], [i2, i3, i4, s5, i6, l7], [i8, i9, l10, s11, l12]] [[], [i2, i3, i4, s5, i6, l7], [i8, i9, l10, s11, l12]] ∧ ∃ k49, k49 < n35 ∧ I34 k49 (l48, (IntKind.wrap .i64 (v36.2.1 + 1)), ())))))
  (Q (.own 1 58 6 v36.1) [[], [.tip]])))
  (Q (.own 1 58 6 l1) [[], [.tip]])))
theorem a14 (l1 : List (List PV)) (i2 i3 i4 : Int) (s5 : ByteArray) (i6 : Int) (l7 : List (List PV)) (i8 i9 : Int) (l10 : List (List PV)) (s11 : ByteArray) (l12 : List (List PV)) (Q : PV → Heap → Prop) (h : p14 l1 i2 i3 i4 s5 i6 l7 i8 i9 l10 s11 l12 Q) : ACalls Try.prog 14 [(.own 0 58 6 l1), (.agg [i2, i3, i4, s5, i6, l7]), (.agg [i8, i9, l10, s11, l12])] [[.tip]] Q := by
  have hb : Option.some (bodyOf Try.f14) = Try.f14.body := by kernel_rfl
  exact acalls_canon (res := [.cell (.own 1 58 6)]) (post := [.dead, .tip]) (acalls_eq (S := S) (L := loops14) mixed tok Try.func14 hb.symm (by kernel_rfl) h)
def loops15 (id : Nat) : Option (List Nat × List (Nat × Sh)) := match Nat.beq id 21 with | true => some ([3, 4], [(2, .own 0 58 6), (8, .bool), (9, .int .i64)]) | false => none
def p15 (i1 i2 i3 : Int) (s4 : ByteArray) (i5 : Int) (l6 : List (List PV)) (i7 i8 : Int) (l9 : List (List PV)) (s10 : ByteArray) (l11 l12 : List (List PV)) (Q : PV → Heap → Prop) : Prop :=
br (((i1 : Int) == 0))
  (Q (.tup [(.own 1 58 6 l12), (.con (.bool true))]) [[], [.tip]])
  (br (((i1 : Int) == 1))
  (AppN l12 [[s4, i7, i8, l9, s10, l11]] 6 96 PV.one
  (Q (.tup [(.own 1 58 6 (l12 ++ ([[s4, i7, i8, l9, s10, l11]] : List (List PV)))), (.con (.bool true))]) [[], [.tip]]))
  (br (((i1 : Int) == 2))
  (br (((i7 : Int) == 0))
  (br (((i8 : Int) == i5))
  (Q (.tup [(.own 1 58 6 l12), (.con (.bool true))]) [[], [.tip]])
  (Q (.tup [(.own 1 58 6 []), (.con (.bool false))]) [[], [.tip]]))
  (Q (.tup [(.own 1 58 6 []), (.con (.bool false))]) [[], [.tip]]))
  (br (((i1 : Int) == 3))
  (br (((i7 : Int) != 2))
  (Q (.tup [(.own 1 58 6 []), (.con (.bool false))]) [[], [.tip]])
  (br ((!(ByteArray.toList s10 == ByteArray.toList s4)))
  (Q (.tup [(.own 1 58 6 []), (.con (.bool false))]) [[], [.tip]])
  (br ((((List.length l6 : Int) : Int) != (List.length l11 : Int)))
  (Q (.tup [(.own 1 58 6 []), (.con (.bool false))]) [[], [.tip]])
  (∃ I13 : Nat → ((List (List PV)) × (Bool) × (Int) × Unit) → Prop, (∃ n, I13 n (l12, true, 0, ())) ∧ ∀ (n14 : Nat) (v15 : (List (List PV)) × (Bool) × (Int) × Unit), I13 n14 v15 →
  (br ((decide ((v15.2.2.1 : Int) < (List.length l6 : Int))))
  (br (v15.2.1)
  (∃ (i16 i17 i18 : Int) (s19 : ByteArray) (i20 : Int) (l21 : LL), IdxN l6 v15.2.2.1 [i16, i17, i18, s19, i20, l21]
  (∃ (i22 i23 : Int) (l24 : LL) (s25 : ByteArray) (l26 : LL), IdxN l11 v15.2.2.1 [i22, i23, l24, s25, l26]
  (∃ (l27 : LL) (b28 : Bool), CallF Try.prog 15 [(.agg [i16, i17, i18, s19, i20, l21]), (.agg [i22, i23, l24, s25, l26]), (.own 0 58 6 v15.1)] [[.tip]] (.tup [(.own 1 58 6 l27), b28]) [[], [.tip]]
  ((@Eq PV (.ptr 1 0) (.ptr 1 0) ∧ @Eq PV (.ptr 2 0) (.ptr 2 0) ∧ True) ∧ @Eq Heap [[], [i1, i2, i3, s4, i5, l6], [i7, i8, l9, s10, l11]] [[], [i1, i2, i3, s4, i5, l6], [i7, i8, l9, s10, l11]] ∧ ∃ k29, k29 < n14 ∧ I13 k29 (l27, b28, (IntKind.wrap .i64 (v15.2.2.1 + 1)), ())))))
  (br ((!v15.2.1))
  (Q (.tup [(.own 1 58 6 []), (.con (.bool false))]) [[], [.tip]])
  (Q (.tup [(.own 1 58 6 v15.1), (.con (.bool true))]) [[], [.tip]])))
  (br ((!v15.2.1))
  (Q (.tup [(.own 1 58 6 []), (.con (.bool false))]) [[], [.tip]])
  (Q (.tup [(.own 1 58 6 v15.1), (.con (.bool true))]) [[], [.tip]])))))))
  (br (((i1 : Int) == 4))
  (br (((i7 : Int) != 3))
  (Q (.tup [(.own 1 58 6 []), (.con (.bool false))]) [[], [.tip]])
  (br ((((List.length l6 : Int) : Int) != (List.length l11 : Int)))
  (Q (.tup [(.own 1 58 6 []), (.con (.bool false))]) [[], [.tip]])
  (∃ I30 : Nat → ((List (List PV)) × (Bool) × (Int) × Unit) → Prop, (∃ n, I30 n (l12, true, 0, ())) ∧ ∀ (n31 : Nat) (v32 : (List (List PV)) × (Bool) × (Int) × Unit), I30 n31 v32 →
  (br ((decide ((v32.2.2.1 : Int) < (List.length l6 : Int))))
  (br (v32.2.1)
  (∃ (i33 i34 i35 : Int) (s36 : ByteArray) (i37 : Int) (l38 : LL), IdxN l6 v32.2.2.1 [i33, i34, i35, s36, i37, l38]
  (∃ (i39 i40 : Int) (l41 : LL) (s42 : ByteArray) (l43 : LL), IdxN l11 v32.2.2.1 [i39, i40, l41, s42, l43]
  (∃ (l44 : LL) (b45 : Bool), CallF Try.prog 15 [(.agg [i33, i34, i35, s36, i37, l38]), (.agg [i39, i40, l41, s42, l43]), (.own 0 58 6 v32.1)] [[.tip]] (.tup [(.own 1 58 6 l44), b45]) [[], [.tip]]
  ((@Eq PV (.ptr 1 0) (.ptr 1 0) ∧ @Eq PV (.ptr 2 0) (.ptr 2 0) ∧ True) ∧ @Eq Heap [[], [i1, i2, i3, s4, i5, l6], [i7, i8, l9, s10, l11]] [[], [i1, i2, i3, s4, i5, l6], [i7, i8, l9, s10, l11]] ∧ ∃ k46, k46 < n31 ∧ I30 k46 (l44, b45, (IntKind.wrap .i64 (v32.2.2.1 + 1)), ())))))
  (br ((!v32.2.1))
  (Q (.tup [(.own 1 58 6 []), (.con (.bool false))]) [[], [.tip]])
  (Q (.tup [(.own 1 58 6 v32.1), (.con (.bool true))]) [[], [.tip]])))
  (br ((!v32.2.1))
  (Q (.tup [(.own 1 58 6 []), (.con (.bool false))]) [[], [.tip]])
  (Q (.tup [(.own 1 58 6 v32.1), (.con (.bool true))]) [[], [.tip]]))))))
  (Q (.tup [(.own 1 58 6 []), (.con (.bool false))]) [[], [.tip]])))))
theorem a15 (i1 i2 i3 : Int) (s4 : ByteArray) (i5 : Int) (l6 : List (List PV)) (i7 i8 : Int) (l9 : List (List PV)) (s10 : ByteArray) (l11 l12 : List (List PV)) (Q : PV → Heap → Prop) (h : p15 i1 i2 i3 s4 i5 l6 i7 i8 l9 s10 l11 l12 Q) : ACalls Try.prog 15 [(.agg [i1, i2, i3, s4, i5, l6]), (.agg [i7, i8, l9, s10, l11]), (.own 0 58 6 l12)] [[.tip]] Q := by
  have hb : Option.some (bodyOf Try.f15) = Try.f15.body := by kernel_rfl
  exact acalls_canon (res := [.cell (.own 1 58 6), .cell (.bool)]) (post := [.dead, .tip]) (acalls_eq (S := S) (L := loops15) mixed tok Try.func15 hb.symm (by kernel_rfl) h)
def p7 (i1 i2 i3 : Int) (s4 : ByteArray) (i5 : Int) (l6 : List (List PV)) (i7 i8 : Int) (l9 : List (List PV)) (s10 : ByteArray) (l11 : List (List PV)) (Q : PV → Heap → Prop) : Prop :=
∃ b12 : Bool, CallN Try.prog 13 [(.agg [i1, i2, i3, s4, i5, l6]), (.agg [i7, i8, l9, s10, l11])] [[i1, i2, i3, s4, i5, l6], [i7, i8, l9, s10, l11]] b12
  (br ((!b12))
  (Q (.tup [(.con (.slice none 0 0)), (.con (.bool false))]) [[i1, i2, i3, s4, i5, l6], [i7, i8, l9, s10, l11]])
  (∃ l13 : List (List PV), CallF Try.prog 14 [(.own 0 58 6 []), (.agg [i1, i2, i3, s4, i5, l6]), (.agg [i7, i8, l9, s10, l11])] [[.tip]] (.own 1 58 6 l13) [[], [.tip]]
  (Q (.tup [(.own 3 58 6 l13), (.con (.bool true))]) [[i1, i2, i3, s4, i5, l6], [i7, i8, l9, s10, l11], [], [.tip]])))
theorem a7 (i1 i2 i3 : Int) (s4 : ByteArray) (i5 : Int) (l6 : List (List PV)) (i7 i8 : Int) (l9 : List (List PV)) (s10 : ByteArray) (l11 : List (List PV)) (Q : PV → Heap → Prop) (h : p7 i1 i2 i3 s4 i5 l6 i7 i8 l9 s10 l11 Q) : ACalls Try.prog 7 [(.agg [i1, i2, i3, s4, i5, l6]), (.agg [i7, i8, l9, s10, l11])] [] Q := by
  have hb : Option.some (bodyOf Try.f7) = Try.f7.body := by kernel_rfl
  exact acalls_eq (S := S) (L := loops13) mixed tok Try.func7 hb.symm (by kernel_rfl) h
def p8 (i1 i2 i3 : Int) (s4 : ByteArray) (i5 : Int) (l6 : List (List PV)) (i7 i8 : Int) (l9 : List (List PV)) (s10 : ByteArray) (l11 : List (List PV)) (Q : PV → Heap → Prop) : Prop :=
∃ (l12 : LL) (b13 : Bool), CallF Try.prog 15 [(.agg [i1, i2, i3, s4, i5, l6]), (.agg [i7, i8, l9, s10, l11]), (.own 0 58 6 [])] [[.tip]] (.tup [(.own 1 58 6 l12), b13]) [[], [.tip]]
  (Q (.tup [(.own 3 58 6 l12), b13]) [[i1, i2, i3, s4, i5, l6], [i7, i8, l9, s10, l11], [], [.tip]])
theorem a8 (i1 i2 i3 : Int) (s4 : ByteArray) (i5 : Int) (l6 : List (List PV)) (i7 i8 : Int) (l9 : List (List PV)) (s10 : ByteArray) (l11 : List (List PV)) (Q : PV → Heap → Prop) (h : p8 i1 i2 i3 s4 i5 l6 i7 i8 l9 s10 l11 Q) : ACalls Try.prog 8 [(.agg [i1, i2, i3, s4, i5, l6]), (.agg [i7, i8, l9, s10, l11])] [] Q := by
  have hb : Option.some (bodyOf Try.f8) = Try.f8.body := by kernel_rfl
  exact acalls_eq (S := S) (L := loops13) mixed tok Try.func8 hb.symm (by kernel_rfl) h
end Go.Proofs.Ytdffmciedieikaa.Deep

namespace Go.Proofs.Ytdffmciedieikaa.Deep
open Go.RowKit
set_option linter.unusedVariables false
set_option linter.unusedSimpArgs false
theorem oneL_of {l : List PV} {n : Nat} (h1 : l.length = n) (h2 : l.all PV.one = true) : ∀ y ∈ [l], y.length = n ∧ ∀ p ∈ y, PV.one p = true := fun y hy => by
  obtain rfl := List.mem_singleton.1 hy
  exact ⟨h1, fun p hp => List.all_eq_true.1 h2 p hp⟩
theorem each_v (l : List Va) (hm : l.length ≤ 4000) (H : ∀ a ∈ l, PCalls Try.prog 27 [.agg (vaP a)] (fun r => r = .agg (vaP a))) : PCalls Try.prog 40 [.sl (l.map vaP), .fn 27 []] (fun r => r = .sl (l.map vaP)) := by
  refine pcalls_weak (a40k _ _ ?_)
  unfold p40k
  rw [List.length_map]
  refine ⟨fun c w => ∃ j : Nat, j ≤ l.length ∧ c = l.length - j ∧ w.1 = (l.take j).map vaP ∧ w.2.1 = (j : Int), ⟨_, 0, Nat.zero_le _, rfl, by simp, rfl⟩, ?_⟩
  rintro c ⟨x, i, u⟩ ⟨j, hj, rfl, hx, hi⟩
  dsimp only at hi hx ⊢
  subst hi hx
  refine br_i (fun hlt => ?_) (fun hge => ?_)
  · have hlt : j < l.length := by simpa using hlt
    have hc := H l[j] (List.getElem_mem hlt)
    have hs : (l.take j).map vaP ++ [vaP l[j]] = (l.take (j + 1)).map vaP := by rw [List.take_succ_eq_append_getElem hlt, List.map_append]; rfl
    obtain ⟨x0, x1, x2, x3, x4, hx⟩ := cells_Va l[j]
    rw [hx] at hc hs
    refine ⟨x0, x1, x2, x3, x4, ⟨by omega, by rw [Int.toNat_natCast, map_get vaP l j hlt, hx], ?_⟩⟩
    refine ⟨x0, x1, x2, x3, x4, call_p (enters_of Try.func27 (by kernel_rfl) rfl) hc rfl ?_⟩
    refine ⟨by rw [List.length_map, List.length_take]; simp only [List.length_cons, List.length_nil]; omega, oneL_of rfl rfl, ?_⟩
    refine ⟨⟨by trivial, by trivial, by trivial, trivial⟩, by trivial, l.length - (j + 1), by omega, j + 1, by omega, rfl, hs, ?_⟩
    rw [wrap_id (by omega) (by omega)]; simp
  · have hge : ¬ j < l.length := by simpa using hge
    obtain rfl : j = l.length := by omega
    rw [List.take_length]
    exact ⟨rfl, rfl⟩
theorem new_v (t : Va) : smallVa t → PCalls Try.prog 27 [.agg (vaP t)] (fun r => r = .agg (vaP t)) := by
  induction t using Va.ind with
  | h k n b s ps ih =>
  intro hs
  unfold smallVa at hs
  have h := each_v ps (by have := hs.2.1; omega) (fun a ha => by
    obtain ⟨i, hi, rfl⟩ := List.getElem_of_mem ha
    exact ih i hi (smallVas_at ps hs.2.2 i hi))
  refine pcalls_weak (a27 _ _ _ _ _ _ ?_)
  unfold p27
  rw [vaPs_mp]
  refine ⟨by simp [byP]; have := hs.1; omega, fun y hy => ?_, ?_⟩
  · obtain ⟨x, hx, rfl⟩ := List.mem_map.1 hy
    exact ⟨rfl, fun p hp => by rw [List.mem_singleton.1 hp]; rfl⟩
  · exact ⟨_, call_p (enters_of Try.func40 (by kernel_rfl) rfl) h rfl ⟨by rw [vaP, vaPs_mp]; rfl, rfl⟩⟩
def bdsP (l : List (ByteArray × Va)) : List (List PV) := l.map bdP
theorem bound_c (p : Pt) : smallPt p → ∀ v : Va, smallVa v → takesF p v = true → ∀ l : List (ByteArray × Va), l.length + (bindsF p v).length ≤ 100000 →
    ACalls Try.prog 14 [.own 0 58 6 (bdsP l), .agg (ptP p), .agg (vaP v)] [[.tip]] (fun r h => r = .own 1 58 6 (bdsP (l ++ bindsF p v)) ∧ h = [[], [.tip]]) := by
  induction p using Pt.ind with
  | h k li co n m ps ih =>
  intro hs v hv ht l hl
  unfold smallPt at hs
  have hnew := new_v v hv
  obtain ⟨vk, vn, vb, vs, vks⟩ := v
  have hvs := hv
  unfold smallVa at hvs
  refine a14 _ _ _ _ _ _ _ _ _ _ _ _ _ ?_
  unfold p14
  unfold takesF at ht
  rw [ptPs_mp, vaPs_mp]
  refine br_i (fun h => ?_) (fun h0 => ?_)
  · have hk : k = 1 := by simpa using h
    rw [vaP, vaPs_mp] at hnew
    refine ⟨_, _, _, _, _, call_p (enters_of Try.func27 (by kernel_rfl) rfl) hnew rfl ?_⟩
    refine ⟨by simp only [bdsP, List.length_map, List.length_cons, List.length_nil]; omega, oneL_of rfl rfl, ?_⟩
    have hb : bindsF (.mk k li co n m ps) (.mk vk vn vb vs vks) = [(n, .mk vk vn vb vs vks)] := by unfold bindsF; rw [if_pos hk]
    rw [hb]
    refine ⟨?_, rfl⟩
    simp [bdsP, bdP, vaP, vaPs_mp]
  have h1 : k ≠ 1 := by simpa using h0
  refine br_i (fun h => ?_) (fun h3 => ?_)
  · have hk : k = 3 := by simpa using h
    have hb : bindsL ps vks = bindsF (.mk k li co n m ps) (.mk vk vn vb vs vks) := by unfold bindsF; rw [if_neg h1, if_pos hk]; rfl
    rw [if_neg (by omega), if_neg (by omega), if_neg (by omega), if_pos hk] at ht
    simp only [Bool.and_eq_true] at ht
    have htl : takesL ps vks = true := ht.2
    have hlen := takesL_len ps vks htl
    refine ⟨fun c w => ∃ j : Nat, j ≤ ps.length ∧ c = ps.length - j ∧ w.2.1 = (j : Int) ∧ ∃ l' : List (ByteArray × Va), w.1 = bdsP l' ∧ l' ++ bindsL (ps.drop j) (vks.drop j) = l ++ bindsF (.mk k li co n m ps) (.mk vk vn vb vs vks), ⟨_, 0, Nat.zero_le _, rfl, rfl, l, rfl, by simp [hb]⟩, ?_⟩
    rintro c ⟨x, i, u⟩ ⟨j, hj, rfl, hi, l', hx, hL⟩
    dsimp only at hi hx hL ⊢
    subst hi hx
    rw [List.length_map]
    refine br_i (fun hlt => ?_) (fun hge => ?_)
    · have hlt : j < ps.length := by simpa using hlt
      have hlt2 : j < vks.length := by omega
      have hx := map_get ptP ps j hlt
      have hy := map_get vaP vks j hlt2
      rw [bindsL_drop hlt hlt2, ← List.append_assoc] at hL
      have hc := ih j hlt (smallPts_at ps hs.2 j hlt) vks[j] (smallVas_at vks hvs.2.2 j hlt2) (takesL_at ps vks htl j hlt hlt2) l' (by
        have := congrArg List.length hL
        simp only [List.length_append] at this
        omega)
      obtain ⟨x1, x2, x3, x4, x5, x6, hp⟩ := cells_Pt ps[j]
      obtain ⟨y1, y2, y3, y4, y5, hq⟩ := cells_Va vks[j]
      rw [hp] at hx
      rw [hq] at hy
      rw [hp, hq] at hc
      refine ⟨_, _, _, _, _, _, ⟨by omega, by rw [Int.toNat_natCast]; exact hx, ?_⟩⟩
      refine ⟨_, _, _, _, _, ⟨by omega, by rw [Int.toNat_natCast]; exact hy, ?_⟩⟩
      refine ⟨_, ⟨enters_of Try.func14 (by kernel_rfl) rfl, hc, ⟨by trivial, by trivial, by trivial, trivial⟩, by trivial, ps.length - (j + 1), by omega, j + 1, by omega, rfl, ?_, _, rfl, hL⟩⟩
      rw [wrap_id (by omega) (by omega)]; simp
    · have hge : ¬ j < ps.length := by simpa using hge
      rw [List.drop_of_length_le (by omega), List.drop_of_length_le (by omega)] at hL
      simp only [bindsL, List.append_nil] at hL
      rw [hL]
      exact ⟨rfl, rfl⟩
  have h3 : k ≠ 3 := by simpa using h3
  refine br_i (fun h => ?_) (fun h4 => ?_)
  · have hk : k = 4 := by simpa using h
    have hb : bindsL ps vks = bindsF (.mk k li co n m ps) (.mk vk vn vb vs vks) := by unfold bindsF; rw [if_neg h1, if_neg h3, if_pos hk]; rfl
    rw [if_neg (by omega), if_neg (by omega), if_neg (by omega), if_neg (by omega), if_pos hk] at ht
    simp only [Bool.and_eq_true] at ht
    have htl : takesL ps vks = true := ht.2
    have hlen := takesL_len ps vks htl
    refine ⟨fun c w => ∃ j : Nat, j ≤ ps.length ∧ c = ps.length - j ∧ w.2.1 = (j : Int) ∧ ∃ l' : List (ByteArray × Va), w.1 = bdsP l' ∧ l' ++ bindsL (ps.drop j) (vks.drop j) = l ++ bindsF (.mk k li co n m ps) (.mk vk vn vb vs vks), ⟨_, 0, Nat.zero_le _, rfl, rfl, l, rfl, by simp [hb]⟩, ?_⟩
    rintro c ⟨x, i, u⟩ ⟨j, hj, rfl, hi, l', hx, hL⟩
    dsimp only at hi hx hL ⊢
    subst hi hx
    rw [List.length_map]
    refine br_i (fun hlt => ?_) (fun hge => ?_)
    · have hlt : j < ps.length := by simpa using hlt
      have hlt2 : j < vks.length := by omega
      have hx := map_get ptP ps j hlt
      have hy := map_get vaP vks j hlt2
      rw [bindsL_drop hlt hlt2, ← List.append_assoc] at hL
      have hc := ih j hlt (smallPts_at ps hs.2 j hlt) vks[j] (smallVas_at vks hvs.2.2 j hlt2) (takesL_at ps vks htl j hlt hlt2) l' (by
        have := congrArg List.length hL
        simp only [List.length_append] at this
        omega)
      obtain ⟨x1, x2, x3, x4, x5, x6, hp⟩ := cells_Pt ps[j]
      obtain ⟨y1, y2, y3, y4, y5, hq⟩ := cells_Va vks[j]
      rw [hp] at hx
      rw [hq] at hy
      rw [hp, hq] at hc
      refine ⟨_, _, _, _, _, _, ⟨by omega, by rw [Int.toNat_natCast]; exact hx, ?_⟩⟩
      refine ⟨_, _, _, _, _, ⟨by omega, by rw [Int.toNat_natCast]; exact hy, ?_⟩⟩
      refine ⟨_, ⟨enters_of Try.func14 (by kernel_rfl) rfl, hc, ⟨by trivial, by trivial, by trivial, trivial⟩, by trivial, ps.length - (j + 1), by omega, j + 1, by omega, rfl, ?_, _, rfl, hL⟩⟩
      rw [wrap_id (by omega) (by omega)]; simp
    · have hge : ¬ j < ps.length := by simpa using hge
      rw [List.drop_of_length_le (by omega), List.drop_of_length_le (by omega)] at hL
      simp only [bindsL, List.append_nil] at hL
      rw [hL]
      exact ⟨rfl, rfl⟩
  have h4 : k ≠ 4 := by simpa using h4
  have hb : bindsF (.mk k li co n m ps) (.mk vk vn vb vs vks) = [] := by unfold bindsF; rw [if_neg h1, if_neg h3, if_neg h4]
  rw [hb, List.append_nil]
  exact ⟨rfl, rfl⟩
end Go.Proofs.Ytdffmciedieikaa.Deep

namespace Go.Proofs.Ytdffmciedieikaa.Deep
open Go.RowKit
set_option linter.unusedVariables false
set_option linter.unusedSimpArgs false
def rR (p : Pt) (v : Va) (l : List (ByteArray × Va)) : PV := .tup [.own 1 58 6 (if takesF p v = true then bdsP (l ++ bindsF p v) else []), .con (.bool (takesF p v))]
theorem rR_no {p : Pt} {v : Va} {l : List (ByteArray × Va)} (h : takesF p v = false) : rR p v l = .tup [.own 1 58 6 [], .con (.bool false)] := by unfold rR; rw [h]; rfl
theorem rR_yes {p : Pt} {v : Va} {l : List (ByteArray × Va)} (h : takesF p v = true) : rR p v l = .tup [.own 1 58 6 (bdsP (l ++ bindsF p v)), .con (.bool true)] := by unfold rR; rw [h]; rfl
set_option maxHeartbeats 1000000 in
theorem rtakes_c (p : Pt) : smallPt p → ∀ v : Va, ∀ l : List (ByteArray × Va), l.length + sizePt p ≤ 100000 →
    ACalls Try.prog 15 [.agg (ptP p), .agg (vaP v), .own 0 58 6 (bdsP l)] [[.tip]] (fun r h => r = rR p v l ∧ h = [[], [.tip]]) := by
  induction p using Pt.ind with
  | h k li co n m ps ih =>
  intro hs v l hl
  unfold smallPt at hs
  obtain ⟨vk, vn, vb, vs, vks⟩ := v
  refine a15 _ _ _ _ _ _ _ _ _ _ _ _ _ ?_
  unfold p15
  have hsz : sizePt (.mk k li co n m ps) = 1 + sizePts ps := rfl
  rw [hsz] at hl
  refine br_i (fun h => ?_) (fun h0 => ?_)
  · have hk : k = 0 := by simpa using h
    have ht : takesF (.mk k li co n m ps) (.mk vk vn vb vs vks) = true := by unfold takesF; rw [if_pos hk]
    have hb : bindsF (.mk k li co n m ps) (.mk vk vn vb vs vks) = [] := by unfold bindsF; rw [if_neg (by omega), if_neg (by omega), if_neg (by omega)]
    rw [rR_yes ht, hb, List.append_nil]; exact ⟨rfl, rfl⟩
  have h0 : k ≠ 0 := by simpa using h0
  refine br_i (fun h => ?_) (fun h1 => ?_)
  · have hk : k = 1 := by simpa using h
    have ht : takesF (.mk k li co n m ps) (.mk vk vn vb vs vks) = true := by unfold takesF; rw [if_neg h0, if_pos hk]
    have hb : bindsF (.mk k li co n m ps) (.mk vk vn vb vs vks) = [(n, .mk vk vn vb vs vks)] := by unfold bindsF; rw [if_pos hk]
    rw [rR_yes ht, hb]
    refine ⟨by simp only [bdsP, List.length_map, List.length_cons, List.length_nil]; omega, oneL_of rfl rfl, ?_⟩
    refine ⟨?_, rfl⟩
    simp [bdsP, bdP, vaP]
  have h1 : k ≠ 1 := by simpa using h1
  refine br_i (fun h => ?_) (fun h2 => ?_)
  · have hk : k = 2 := by simpa using h
    have ht : takesF (.mk k li co n m ps) (.mk vk vn vb vs vks) = (vk == 0 && vn == m) := by unfold takesF; rw [if_neg h0, if_neg h1, if_pos hk]; rfl
    have hb : bindsF (.mk k li co n m ps) (.mk vk vn vb vs vks) = [] := by unfold bindsF; rw [if_neg (by omega), if_neg (by omega), if_neg (by omega)]
    refine br_i (fun h3 => ?_) (fun h3 => ?_)
    · refine br_i (fun h4 => ?_) (fun h4 => ?_)
      · rw [rR_yes (by rw [ht, h3, h4]; rfl), hb, List.append_nil]; exact ⟨rfl, rfl⟩
      · rw [rR_no (by rw [ht, h4, Bool.and_false])]; exact ⟨rfl, rfl⟩
    · rw [rR_no (by rw [ht, h3, Bool.false_and])]; exact ⟨rfl, rfl⟩
  have h2 : k ≠ 2 := by simpa using h2
  rw [ptPs_mp, vaPs_mp]
  refine br_i (fun h => ?_) (fun h3 => ?_)
  · have hk : k = 3 := by simpa using h
    have ht : takesF (.mk k li co n m ps) (.mk vk vn vb vs vks) = (vk == 2 && vs.toList == n.toList && takesL ps vks) := by unfold takesF; rw [if_neg h0, if_neg h1, if_neg h2, if_pos hk]; rfl
    have hb : bindsF (.mk k li co n m ps) (.mk vk vn vb vs vks) = bindsL ps vks := by unfold bindsF; rw [if_neg h1, if_pos hk]; rfl
    refine br_i (fun h4 => ?_) (fun h4 => ?_)
    · have h4 : (vk == 2) = false := by simpa [bne] using h4
      rw [rR_no (by rw [ht, h4, Bool.false_and, Bool.false_and])]; exact ⟨rfl, rfl⟩
    have h4 : (vk == 2) = true := by simpa [bne] using h4
    refine br_i (fun h5 => ?_) (fun h5 => ?_)
    · have h5 : (vs.toList == n.toList) = false := by
        cases hq : (vs.toList == n.toList) with
        | false => rfl
        | true => rw [hq] at h5; cases h5
      rw [rR_no (by rw [ht, h5, Bool.and_false, Bool.false_and])]; exact ⟨rfl, rfl⟩
    have h5 : (vs.toList == n.toList) = true := by
      cases hq : (vs.toList == n.toList) with
      | true => rfl
      | false => rw [hq] at h5; cases h5
    rw [h4, h5, Bool.true_and, Bool.true_and] at ht
    rw [List.length_map, List.length_map, bne_len]
    refine br_i (fun hne => ?_) (fun heq => ?_)
    · rw [rR_no (by rw [ht]; exact takesL_ne ps vks (fun e => by rw [e, Nat.beq_refl] at hne; cases hne))]; exact ⟨rfl, rfl⟩
    have hlen : ps.length = vks.length := by
      have : Nat.beq ps.length vks.length = true := by simpa using heq
      exact Nat.eq_of_beq_eq_true this
    refine ⟨fun c w => ∃ j : Nat, j ≤ ps.length ∧ c = ps.length - j ∧ w.2.2.1 = (j : Int) ∧ ((w.2.1 = true ∧ ∃ l' : List (ByteArray × Va), w.1 = bdsP l' ∧ takesL (ps.drop j) (vks.drop j) = takesL ps vks ∧ l' ++ bindsL (ps.drop j) (vks.drop j) = l ++ bindsL ps vks ∧ l'.length + sizePts (ps.drop j) ≤ 100000) ∨ (w.2.1 = false ∧ takesL ps vks = false)), ⟨_, 0, Nat.zero_le _, rfl, rfl, .inl ⟨rfl, l, rfl, by simp, by simp, by simp; omega⟩⟩, ?_⟩
    rintro c ⟨x, ok, i, u⟩ ⟨j, hj, rfl, hi, hor⟩
    dsimp only at hi hor ⊢
    subst hi
    rcases hor with ⟨rfl, l', rfl, hT, hL, hZ⟩ | ⟨rfl, hT⟩
    · refine br_i (fun hlt => ?_) (fun hge => ?_)
      · have hlt : j < ps.length := by simpa using hlt
        have hlt2 : j < vks.length := by omega
        have hx := map_get ptP ps j hlt
        have hy := map_get vaP vks j hlt2
        rw [bindsL_drop hlt hlt2, ← List.append_assoc] at hL
        rw [takesL_drop hlt hlt2] at hT
        rw [List.drop_eq_getElem_cons hlt] at hZ
        simp only [sizePts] at hZ
        have hbl := bindsF_len ps[j] vks[j]
        have hc := ih j hlt (smallPts_at ps hs.2 j hlt) vks[j] l' (by omega)
        obtain ⟨x1, x2, x3, x4, x5, x6, hp⟩ := cells_Pt ps[j]
        obtain ⟨y1, y2, y3, y4, y5, hq⟩ := cells_Va vks[j]
        rw [hp] at hx
        rw [hq] at hy
        rw [hp, hq] at hc
        refine ⟨_, _, _, _, _, _, ⟨by omega, by rw [Int.toNat_natCast]; exact hx, ?_⟩⟩
        refine ⟨_, _, _, _, _, ⟨by omega, by rw [Int.toNat_natCast]; exact hy, ?_⟩⟩
        refine ⟨_, _, ⟨enters_of Try.func15 (by kernel_rfl) rfl, hc, ⟨by trivial, by trivial, trivial⟩, by trivial, ps.length - (j + 1), by omega, j + 1, by omega, rfl, ?_, ?_⟩⟩
        · rw [wrap_id (by omega) (by omega)]; simp
        · cases ht2 : takesF ps[j] vks[j] with
          | true =>
            rw [ht2, Bool.true_and] at hT
            exact .inl ⟨rfl, _, rfl, hT, hL, by simp only [List.length_append]; omega⟩
          | false =>
            rw [ht2, Bool.false_and] at hT
            exact .inr ⟨rfl, hT.symm⟩
      · have hge : ¬ j < ps.length := by simpa using hge
        rw [List.drop_of_length_le (by omega), List.drop_of_length_le (by omega)] at hL hT
        simp only [bindsL, List.append_nil] at hL
        refine br_i (fun h => by cases h) (fun _ => ?_)
        rw [rR_yes (by rw [ht, ← hT]; rfl), hb, hL]; exact ⟨rfl, rfl⟩
    · rw [rR_no (by rw [ht, hT])]
      refine br_i (fun hlt => ?_) (fun hge => ?_)
      · exact br_i (fun h => by cases h) (fun _ => br_i (fun _ => ⟨rfl, rfl⟩) (fun h => by cases h))
      · refine br_i (fun _ => ⟨rfl, rfl⟩) (fun h => by cases h)
  have h3 : k ≠ 3 := by simpa using h3
  refine br_i (fun h => ?_) (fun h4 => ?_)
  · have hk : k = 4 := by simpa using h
    have ht : takesF (.mk k li co n m ps) (.mk vk vn vb vs vks) = (vk == 3 && takesL ps vks) := by unfold takesF; rw [if_neg h0, if_neg h1, if_neg h2, if_neg h3, if_pos hk]; rfl
    have hb : bindsF (.mk k li co n m ps) (.mk vk vn vb vs vks) = bindsL ps vks := by unfold bindsF; rw [if_neg h1, if_neg h3, if_pos hk]; rfl
    refine br_i (fun h4 => ?_) (fun h4 => ?_)
    · have h4 : (vk == 3) = false := by simpa [bne] using h4
      rw [rR_no (by rw [ht, h4, Bool.false_and])]; exact ⟨rfl, rfl⟩
    have h4 : (vk == 3) = true := by simpa [bne] using h4
    rw [h4, Bool.true_and] at ht
    rw [List.length_map, List.length_map, bne_len]
    refine br_i (fun hne => ?_) (fun heq => ?_)
    · rw [rR_no (by rw [ht]; exact takesL_ne ps vks (fun e => by rw [e, Nat.beq_refl] at hne; cases hne))]; exact ⟨rfl, rfl⟩
    have hlen : ps.length = vks.length := by
      have : Nat.beq ps.length vks.length = true := by simpa using heq
      exact Nat.eq_of_beq_eq_true this
    refine ⟨fun c w => ∃ j : Nat, j ≤ ps.length ∧ c = ps.length - j ∧ w.2.2.1 = (j : Int) ∧ ((w.2.1 = true ∧ ∃ l' : List (ByteArray × Va), w.1 = bdsP l' ∧ takesL (ps.drop j) (vks.drop j) = takesL ps vks ∧ l' ++ bindsL (ps.drop j) (vks.drop j) = l ++ bindsL ps vks ∧ l'.length + sizePts (ps.drop j) ≤ 100000) ∨ (w.2.1 = false ∧ takesL ps vks = false)), ⟨_, 0, Nat.zero_le _, rfl, rfl, .inl ⟨rfl, l, rfl, by simp, by simp, by simp; omega⟩⟩, ?_⟩
    rintro c ⟨x, ok, i, u⟩ ⟨j, hj, rfl, hi, hor⟩
    dsimp only at hi hor ⊢
    subst hi
    rcases hor with ⟨rfl, l', rfl, hT, hL, hZ⟩ | ⟨rfl, hT⟩
    · refine br_i (fun hlt => ?_) (fun hge => ?_)
      · have hlt : j < ps.length := by simpa using hlt
        have hlt2 : j < vks.length := by omega
        have hx := map_get ptP ps j hlt
        have hy := map_get vaP vks j hlt2
        rw [bindsL_drop hlt hlt2, ← List.append_assoc] at hL
        rw [takesL_drop hlt hlt2] at hT
        rw [List.drop_eq_getElem_cons hlt] at hZ
        simp only [sizePts] at hZ
        have hbl := bindsF_len ps[j] vks[j]
        have hc := ih j hlt (smallPts_at ps hs.2 j hlt) vks[j] l' (by omega)
        obtain ⟨x1, x2, x3, x4, x5, x6, hp⟩ := cells_Pt ps[j]
        obtain ⟨y1, y2, y3, y4, y5, hq⟩ := cells_Va vks[j]
        rw [hp] at hx
        rw [hq] at hy
        rw [hp, hq] at hc
        refine ⟨_, _, _, _, _, _, ⟨by omega, by rw [Int.toNat_natCast]; exact hx, ?_⟩⟩
        refine ⟨_, _, _, _, _, ⟨by omega, by rw [Int.toNat_natCast]; exact hy, ?_⟩⟩
        refine ⟨_, _, ⟨enters_of Try.func15 (by kernel_rfl) rfl, hc, ⟨by trivial, by trivial, trivial⟩, by trivial, ps.length - (j + 1), by omega, j + 1, by omega, rfl, ?_, ?_⟩⟩
        · rw [wrap_id (by omega) (by omega)]; simp
        · cases ht2 : takesF ps[j] vks[j] with
          | true =>
            rw [ht2, Bool.true_and] at hT
            exact .inl ⟨rfl, _, rfl, hT, hL, by simp only [List.length_append]; omega⟩
          | false =>
            rw [ht2, Bool.false_and] at hT
            exact .inr ⟨rfl, hT.symm⟩
      · have hge : ¬ j < ps.length := by simpa using hge
        rw [List.drop_of_length_le (by omega), List.drop_of_length_le (by omega)] at hL hT
        simp only [bindsL, List.append_nil] at hL
        refine br_i (fun h => by cases h) (fun _ => ?_)
        rw [rR_yes (by rw [ht, ← hT]; rfl), hb, hL]; exact ⟨rfl, rfl⟩
    · rw [rR_no (by rw [ht, hT])]
      refine br_i (fun hlt => ?_) (fun hge => ?_)
      · exact br_i (fun h => by cases h) (fun _ => br_i (fun _ => ⟨rfl, rfl⟩) (fun h => by cases h))
      · refine br_i (fun _ => ⟨rfl, rfl⟩) (fun h => by cases h)
  have h4 : k ≠ 4 := by simpa using h4
  have ht : takesF (.mk k li co n m ps) (.mk vk vn vb vs vks) = false := by unfold takesF; rw [if_neg h0, if_neg h1, if_neg h2, if_neg h3, if_neg h4]
  rw [rR_no ht]; exact ⟨rfl, rfl⟩
end Go.Proofs.Ytdffmciedieikaa.Deep

namespace Go.Proofs.Ytdffmciedieikaa.Deep
open Go.RowKit
set_option linter.unusedVariables false
def p3 (i1 i2 i3 : Int) (s4 : ByteArray) (i5 : Int) (l6 : List (List PV)) (i7 i8 : Int) (l9 : List (List PV)) (s10 : ByteArray) (l11 : List (List PV)) (Q : PV → Heap → Prop) : Prop :=
∃ i12 : Int, CallN Try.prog 4 [(.agg [i1, i2, i3, s4, i5, l6]), (.con (.int .i64 2000))] [[i1, i2, i3, s4, i5, l6], [i7, i8, l9, s10, l11]] i12
  (br ((decide ((i12 : Int) < 0)))
  (∃ b13 : Bool, CallN Try.prog 6 [] [[i1, i2, i3, s4, i5, l6], [i7, i8, l9, s10, l11]] b13
  (Q b13 [[i1, i2, i3, s4, i5, l6], [i7, i8, l9, s10, l11]]))
  (∃ i14 : Int, CallN Try.prog 5 [(.agg [i7, i8, l9, s10, l11]), (.con (.int .i64 3000))] [[i1, i2, i3, s4, i5, l6], [i7, i8, l9, s10, l11]] i14
  (br ((decide ((i14 : Int) < 0)))
  (∃ b15 : Bool, CallN Try.prog 6 [] [[i1, i2, i3, s4, i5, l6], [i7, i8, l9, s10, l11]] b15
  (Q b15 [[i1, i2, i3, s4, i5, l6], [i7, i8, l9, s10, l11]]))
  (∃ (l16 : LL) (b17 : Bool), CallN Try.prog 7 [(.agg [i1, i2, i3, s4, i5, l6]), (.agg [i7, i8, l9, s10, l11])] [[i1, i2, i3, s4, i5, l6], [i7, i8, l9, s10, l11]] (.tup [l16, b17])
  (∃ (l18 : LL) (b19 : Bool), CallN Try.prog 8 [(.agg [i1, i2, i3, s4, i5, l6]), (.agg [i7, i8, l9, s10, l11])] [[i1, i2, i3, s4, i5, l6], [i7, i8, l9, s10, l11]] (.tup [l18, b19])
  (∃ b20 : Bool, CallN Try.prog 9 [l16, l18] [[i1, i2, i3, s4, i5, l6], [i7, i8, l9, s10, l11]] b20
  (br (b20)
  (br ((b17 == b19))
  (∃ b21 : Bool, CallN Try.prog 6 [] [[i1, i2, i3, s4, i5, l6], [i7, i8, l9, s10, l11]] b21
  (Q b21 [[i1, i2, i3, s4, i5, l6], [i7, i8, l9, s10, l11]]))
  (Q (.con (.bool false)) [[i1, i2, i3, s4, i5, l6], [i7, i8, l9, s10, l11]]))
  (Q (.con (.bool false)) [[i1, i2, i3, s4, i5, l6], [i7, i8, l9, s10, l11]]))))))))
theorem a3 (i1 i2 i3 : Int) (s4 : ByteArray) (i5 : Int) (l6 : List (List PV)) (i7 i8 : Int) (l9 : List (List PV)) (s10 : ByteArray) (l11 : List (List PV)) (Q : PV → Heap → Prop) (h : p3 i1 i2 i3 s4 i5 l6 i7 i8 l9 s10 l11 Q) : ACalls Try.prog 3 [(.agg [i1, i2, i3, s4, i5, l6]), (.agg [i7, i8, l9, s10, l11])] [] Q := by
  have hb : Option.some (bodyOf Try.f3) = Try.f3.body := by kernel_rfl
  exact acalls_eq (S := S) (L := loops13) mixed tok Try.func3 hb.symm (by kernel_rfl) h
end Go.Proofs.Ytdffmciedieikaa.Deep

namespace Go.Proofs.Ytdffmciedieikaa.Deep
open Go.RowKit
set_option linter.unusedVariables false
set_option linter.unusedSimpArgs false
theorem pcalls_of {P : Program} {f : FuncId} {us : List Value} {v : Value} (h : ∀ w, Calls P f us.toArray w fun e w' => e = .returned v ∧ Below w.heap.size w w') : PCalls P f (us.map .con) (fun r => r = .con v) := by
  intro G m w vs hs ha
  obtain ⟨a1, a2⟩ := ha
  have e : vs = us.toArray := by
    apply Array.ext
    · simpa using a1
    · intro i hi1 hi2
      have hi3 : i < us.length := by simpa using hi2
      have h0 := a2 i (by simpa using hi3)
      rw [List.getD_eq_getElem?_getD, List.getElem?_map, List.getElem?_eq_getElem hi3] at h0
      have h1 := h0.con_eq
      simpa [Array.getD_eq_getD_getElem?, Array.getElem?_eq_getElem hi1] using h1
  subst e
  exact (h w).mono fun e w' ⟨he, hb⟩ => ⟨_, _, [], G, m, he, ⟨rfl, rfl⟩, .con _ _, (hs.later hb).1, (hs.later hb).2⟩
theorem same_p (v : Va) : smallVa v → PCalls Try.prog 16 [.agg (vaP v), .agg (vaP v)] (fun r => r = .con (.bool true)) := by
  induction v using Va.ind with
  | h k n b s ps ih =>
  intro hs
  unfold smallVa at hs
  refine a16 _ _ _ _ _ _ _ _ _ _ _ ?_
  unfold p16
  refine br_i (fun h => absurd h (by simp)) (fun _ => ?_)
  refine br_i (fun h => absurd h (by simp)) (fun _ => ?_)
  refine ⟨b, ⟨⟨5, by kernel_rfl, by kernel_rfl⟩, by kernel_rfl, rfl, ?_⟩⟩
  refine ⟨b, ⟨⟨5, by kernel_rfl, by kernel_rfl⟩, by kernel_rfl, rfl, ?_⟩⟩
  refine br_i (fun h => absurd h (by simp)) (fun _ => ?_)
  refine br_i (fun h => absurd h (by simp)) (fun _ => ?_)
  refine br_i (fun h => absurd h (by simp)) (fun _ => ?_)
  rw [vaPs_mp, List.length_map]
  refine ⟨fun c w => ∃ j : Nat, j ≤ ps.length ∧ c = ps.length - j ∧ w.1 = (j : Int), ⟨_, 0, Nat.zero_le _, rfl, rfl⟩, ?_⟩
  rintro c ⟨i, u⟩ ⟨j, hj, rfl, hi⟩
  dsimp only at hi ⊢
  subst hi
  refine br_i (fun hlt => ?_) (fun hge => ⟨rfl, rfl⟩)
  have hlt : j < ps.length := by simpa using hlt
  have hx := map_get vaP ps j hlt
  have hc := ih j hlt (smallVas_at ps hs.2.2 j hlt)
  obtain ⟨y1, y2, y3, y4, y5, hq⟩ := cells_Va ps[j]
  rw [hq] at hx hc
  refine ⟨_, _, _, _, _, ⟨by omega, by rw [Int.toNat_natCast]; exact hx, ?_⟩⟩
  refine ⟨_, _, _, _, _, ⟨by omega, by rw [Int.toNat_natCast]; exact hx, ?_⟩⟩
  refine ⟨_, call_p (enters_of Try.func16 (by kernel_rfl) rfl) hc rfl ?_⟩
  refine br_i (fun h => by cases h) (fun _ => ⟨⟨rfl, rfl, trivial⟩, rfl, ps.length - (j + 1), by omega, j + 1, by omega, rfl, ?_⟩)
  rw [wrap_id (by omega) (by omega)]; simp
theorem sameBinds_p (l : List (ByteArray × Va)) (hl : l.length ≤ 100000) (hs : ∀ b ∈ l, smallVa b.2) : PCalls Try.prog 9 [.sl (bdsP l), .sl (bdsP l)] (fun r => r = .con (.bool true)) := by
  refine a9 _ _ _ ?_
  unfold p9
  refine br_i (fun h => absurd h (by simp)) (fun _ => ?_)
  unfold bdsP
  rw [List.length_map]
  refine ⟨fun c w => ∃ j : Nat, j ≤ l.length ∧ c = l.length - j ∧ w.1 = (j : Int), ⟨_, 0, Nat.zero_le _, rfl, rfl⟩, ?_⟩
  rintro c ⟨i, u⟩ ⟨j, hj, rfl, hi⟩
  dsimp only at hi ⊢
  subst hi
  refine br_i (fun hlt => ?_) (fun hge => ⟨rfl, rfl⟩)
  have hlt : j < l.length := by simpa using hlt
  have hx := map_get bdP l j hlt
  have hc := same_p l[j].2 (hs _ (List.getElem_mem hlt))
  obtain ⟨y1, y2, y3, y4, y5, hq⟩ := cells_Va l[j].2
  unfold bdP at hx
  rw [hq] at hx hc
  refine ⟨_, _, _, _, _, _, ⟨by omega, by rw [Int.toNat_natCast]; exact hx, ?_⟩⟩
  refine ⟨_, _, _, _, _, _, ⟨by omega, by rw [Int.toNat_natCast]; exact hx, ?_⟩⟩
  refine br_i (fun h => absurd h (by simp)) (fun _ => ?_)
  refine ⟨_, _, _, _, _, _, ⟨by omega, by rw [Int.toNat_natCast]; exact hx, ?_⟩⟩
  refine ⟨_, _, _, _, _, _, ⟨by omega, by rw [Int.toNat_natCast]; exact hx, ?_⟩⟩
  refine ⟨_, call_p (enters_of Try.func16 (by kernel_rfl) rfl) hc rfl ?_⟩
  refine br_i (fun h => by cases h) (fun _ => ⟨⟨rfl, rfl, trivial⟩, rfl, l.length - (j + 1), by omega, j + 1, by omega, rfl, ?_⟩)
  rw [wrap_id (by omega) (by omega)]; simp
def facesOf (p : Pt) (v : Va) : List (ByteArray × Va) := if takesF p v = true then bindsF p v else []
theorem faceT_p (p : Pt) (v : Va) (hp : smallPt p) (hv : smallVa v) (hz : sizePt p ≤ 100000) : PCalls Try.prog 7 [.agg (ptP p), .agg (vaP v)] (fun r => r = .tup [.sl (bdsP (facesOf p v)), .con (.bool (takesF p v))]) := by
  have h1 := takes_p p hp v
  have h2 : takesF p v = true → _ := fun h => bound_c p hp v hv h [] (by have := bindsF_len p v; simp; omega)
  obtain ⟨c1, c2, c3, c4, c5, c6, hq⟩ := cells_Pt p
  obtain ⟨d1, d2, d3, d4, d5, hr⟩ := cells_Va v
  rw [hq, hr] at h1
  rw [hq, hr] at h2 ⊢
  refine pcalls_weak (a7 _ _ _ _ _ _ _ _ _ _ _ _ ?_)
  unfold p7
  refine ⟨_, call_p (enters_of Try.func13 (by kernel_rfl) rfl) h1 rfl ?_⟩
  refine br_i (fun h => ?_) (fun h => ?_)
  · have ht : takesF p v = false := by simpa using h
    have e : facesOf p v = [] := by unfold facesOf; rw [ht]; rfl
    rw [e, ht]
    exact ⟨rfl, rfl⟩
  · have ht : takesF p v = true := by simpa using h
    have e : facesOf p v = bindsF p v := by unfold facesOf; rw [if_pos ht]
    rw [e, ht]
    exact ⟨_, ⟨enters_of Try.func14 (by kernel_rfl) rfl, h2 ht, ⟨rfl, rfl⟩⟩⟩
theorem rR_face (p : Pt) (v : Va) : rR p v [] = .tup [.own 1 58 6 (bdsP (facesOf p v)), .con (.bool (takesF p v))] := by
  unfold rR facesOf
  split <;> rfl
theorem faceR_p (p : Pt) (v : Va) (hp : smallPt p) (hz : sizePt p ≤ 100000) : PCalls Try.prog 8 [.agg (ptP p), .agg (vaP v)] (fun r => r = .tup [.sl (bdsP (facesOf p v)), .con (.bool (takesF p v))]) := by
  have h2 := rtakes_c p hp v [] (by simpa using hz)
  rw [rR_face] at h2
  obtain ⟨c1, c2, c3, c4, c5, c6, hq⟩ := cells_Pt p
  obtain ⟨d1, d2, d3, d4, d5, hr⟩ := cells_Va v
  rw [hq, hr] at h2 ⊢
  refine pcalls_weak (a8 _ _ _ _ _ _ _ _ _ _ _ _ ?_)
  unfold p8
  exact ⟨_, _, ⟨enters_of Try.func15 (by kernel_rfl) rfl, h2, ⟨rfl, rfl⟩⟩⟩
mutual
theorem bindsF_small : ∀ (p : Pt) (v : Va), smallVa v → ∀ b ∈ bindsF p v, smallVa b.2
  | .mk k _ _ n _ ks, v, hv, b, hb => by
    obtain ⟨vk, vn, vb, vs, vks⟩ := v
    have hv' := hv
    unfold smallVa at hv'
    have := bindsL_small ks vks hv'.2.2
    unfold bindsF at hb
    split at hb
    · rw [List.mem_singleton.1 hb]; exact hv
    · split at hb
      · exact this b hb
      · split at hb
        · exact this b hb
        · cases hb
theorem bindsL_small : ∀ (ps : List Pt) (vs : List Va), smallVas vs → ∀ b ∈ bindsL ps vs, smallVa b.2
  | [], _, _, b, hb => by simp [bindsL] at hb
  | _ :: _, [], _, b, hb => by simp [bindsL] at hb
  | p :: ps, v :: vs, hv, b, hb => by
    simp only [bindsL] at hb
    rcases List.mem_append.1 hb with h | h
    · exact bindsF_small p v hv.1 b h
    · exact bindsL_small ps vs hv.2 b h
end
theorem takes_law (hawake : PCalls Try.prog 6 [] (fun r => r = .con (.bool true))) (p : Pt) (v : Va) : PCalls Try.prog 3 [.agg (ptP p), .agg (vaP v)] (fun r => r = .con (.bool true)) := by
  have h1 := light_pt p 2000 (by decide) (by decide)
  have h2 := light_va v 3000 (by decide) (by decide)
  have k1 := (lightPt_ok p 2000).2.2.2 (by decide)
  have k2 := (lightVa_ok v 3000).2.2.2 (by decide)
  have h3 : 0 ≤ lightPt p 2000 → 0 ≤ lightVa v 3000 → _ := fun q1 q2 => faceT_p p v (k1 q1).1 (k2 q2) (by have := (k1 q1).2; omega)
  have h4 : 0 ≤ lightPt p 2000 → 0 ≤ lightVa v 3000 → _ := fun q1 q2 => faceR_p p v (k1 q1).1 (by have := (k1 q1).2; omega)
  have h5 : 0 ≤ lightPt p 2000 → 0 ≤ lightVa v 3000 → _ := fun q1 q2 => sameBinds_p (facesOf p v) (by
    have := (k1 q1).2
    have := bindsF_len p v
    unfold facesOf
    split
    · omega
    · simp) (fun b hb => by
    unfold facesOf at hb
    split at hb
    · exact bindsF_small p v (k2 q2) b hb
    · cases hb)
  obtain ⟨c1, c2, c3, c4, c5, c6, hq⟩ := cells_Pt p
  obtain ⟨d1, d2, d3, d4, d5, hr⟩ := cells_Va v
  rw [hq] at h1
  rw [hr] at h2
  rw [hq, hr] at h3 h4 ⊢
  refine a3 _ _ _ _ _ _ _ _ _ _ _ _ ?_
  unfold p3
  refine ⟨_, call_p (enters_of Try.func4 (by kernel_rfl) rfl) h1 rfl ?_⟩
  refine br_i (fun _ => ⟨true, call_p (enters_of Try.func6 (by kernel_rfl) rfl) hawake rfl ⟨rfl, rfl⟩⟩) (fun q1 => ?_)
  have q1 : 0 ≤ lightPt p 2000 := by simpa using q1
  refine ⟨_, call_p (enters_of Try.func5 (by kernel_rfl) rfl) h2 rfl ?_⟩
  refine br_i (fun _ => ⟨true, call_p (enters_of Try.func6 (by kernel_rfl) rfl) hawake rfl ⟨rfl, rfl⟩⟩) (fun q2 => ?_)
  have q2 : 0 ≤ lightVa v 3000 := by simpa using q2
  refine ⟨_, _, call_p (enters_of Try.func7 (by kernel_rfl) rfl) (h3 q1 q2) rfl ?_⟩
  refine ⟨_, _, call_p (enters_of Try.func8 (by kernel_rfl) rfl) (h4 q1 q2) rfl ?_⟩
  refine ⟨_, call_p (enters_of Try.func9 (by kernel_rfl) rfl) (h5 q1 q2) rfl ?_⟩
  refine br_i (fun _ => ?_) (fun h => by cases h)
  refine br_i (fun _ => ⟨true, call_p (enters_of Try.func6 (by kernel_rfl) rfl) hawake rfl ⟨rfl, rfl⟩⟩) (fun h => absurd h (by simp))
end Go.Proofs.Ytdffmciedieikaa.Deep

namespace Go.Proofs.Ytdffmciedieikaa.Deep
open Go.RowKit
theorem awake_told : Run.toldT Try.prog 1000000 6 = true := by kernel_rfl
theorem awake_p : PCalls Try.prog 6 [] (fun r => r = .con (.bool true)) := pcalls_of (us := []) (v := .bool true) (fun w => Run.run_true mixed awake_told w)
end Go.Proofs.Ytdffmciedieikaa.Deep
