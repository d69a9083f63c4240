/-
  Texts of one proof, in their order. No condition.
-/
import Derived.Test.YtboopmfjkepilaaGreatDoorProg
import Derived.KernelRfl
import Derived.ChangeArms
import Derived.ChangeShapes
import Derived.WideShapes
import Derived.DataReads
import Derived.WalkKit
import Derived.ProofKit
import Derived.OpenShut
import Derived.Carry
import Derived.ChangeSlices
import Derived.ChangeMaps5
import Derived.Test.YtboopmfjkepilaaGreatDoorTxR18
import Derived.Test.YtboopmfjkepilaaGreatDoorTxPkc
namespace Go.Proofs.YtboopmfjkepilaaGreatDoor.Deep
set_option linter.unusedVariables false
inductive TT where
  | leaf
  | node (k : Nat) (x : TI) (l r : TT)
def look (t : Nat) : TT → Option TI
  | .leaf => none
  | .node k x l r => match Nat.beq t k with
    | true => some x
    | false => match Nat.ble t k with | true => look t l | false => look t r
def tbl : TT :=
  (.node 304 ⟨true, 1, false, false, 0, false, false, [], false, some [.con .nilFunc], 8, none, none, none⟩ (.node 154 ⟨true, 1, false, false, 0, false, false, [], false, some [.con .nilFunc], 8, none, none, none⟩ (.node 77 ⟨true, 1, false, false, 0, false, false, [], false, some [.con .nilFunc], 8, none, none, none⟩ (.node 38 ⟨true, 1, false, true, 194, false, false, [], false, some [.con (.slice none 0 0)], 24, none, none, none⟩ (.node 19 ⟨true, 1, true, false, 0, false, false, [(0, 17)], true, some [.con (.pointer none)], 8, none, none, none⟩ (.node 10 ⟨true, 1, false, false, 0, true, false, [], false, some [.con (.string ⟨#[]⟩)], 16, none, none, none⟩ (.node 5 ⟨true, 1, false, false, 0, false, false, [], false, some [.con (.int .u8 0)], 1, none, some .u8, none⟩ (.node 3 ⟨true, 1, false, false, 0, false, false, [], false, some [.con (.int .i64 0)], 8, none, some .i64, none⟩ (.node 2 ⟨true, 1, false, false, 0, false, false, [], false, some [.con (.int .i64 0)], 8, none, some .i64, none⟩ (.node 1 ⟨true, 1, false, false, 0, false, false, [], false, some [.con .nilFunc], 8, none, none, none⟩ .leaf
  .leaf)
  .leaf)
  (.node 4 ⟨true, 1, false, false, 0, false, true, [], false, some [.con (.bool false)], 1, none, none, none⟩ .leaf
  .leaf))
  (.node 8 ⟨true, 4, true, false, 0, false, false, [(0, 2), (1, 3), (2, 4), (3, 6)], true, some [.con (.int .i64 0), .con (.int .i64 0), .con (.bool false), .con (.int .u8 0)], 24, none, none, none⟩ (.node 7 ⟨true, 4, true, false, 0, false, false, [(0, 2), (1, 3), (2, 4), (3, 6)], true, some [.con (.int .i64 0), .con (.int .i64 0), .con (.bool false), .con (.int .u8 0)], 24, none, none, none⟩ (.node 6 ⟨true, 1, false, false, 0, false, false, [], false, some [.con (.int .u8 0)], 1, none, some .u8, none⟩ .leaf
  .leaf)
  .leaf)
  (.node 9 ⟨true, 1, false, false, 0, true, false, [], false, some [.con (.string ⟨#[]⟩)], 16, none, none, none⟩ .leaf
  .leaf)))
  (.node 15 ⟨true, 1, false, false, 0, false, false, [], false, some [.con (.pointer none)], 8, none, none, none⟩ (.node 13 ⟨true, 2, true, false, 0, false, false, [(0, 9), (1, 12)], true, some [.con (.string ⟨#[]⟩), .con (.int .u64 0)], 24, none, none, none⟩ (.node 12 ⟨true, 1, false, false, 0, false, false, [], false, some [.con (.int .u64 0)], 8, none, some .u64, none⟩ (.node 11 ⟨true, 1, false, false, 0, true, false, [], false, some [.con (.string ⟨#[]⟩)], 16, none, none, none⟩ .leaf
  .leaf)
  .leaf)
  (.node 14 ⟨true, 2, true, false, 0, false, false, [(0, 9), (1, 12)], true, some [.con (.string ⟨#[]⟩), .con (.int .u64 0)], 24, none, none, none⟩ .leaf
  .leaf))
  (.node 17 ⟨true, 1, false, false, 0, false, false, [], false, some [.con (.pointer none)], 8, none, none, none⟩ (.node 16 ⟨true, 1, false, false, 0, false, false, [], false, some [.con (.pointer none)], 8, none, none, none⟩ .leaf
  .leaf)
  (.node 18 ⟨true, 1, true, false, 0, false, false, [(0, 17)], true, some [.con (.pointer none)], 8, none, none, none⟩ .leaf
  .leaf))))
  (.node 29 ⟨true, 1, false, false, 0, false, false, [], false, some [.con .nilFunc], 8, none, none, none⟩ (.node 24 ⟨true, 1, false, true, 26, false, false, [], false, some [.con (.slice none 0 0)], 24, none, none, none⟩ (.node 22 ⟨true, 1, false, true, 5, false, false, [], false, some [.con (.slice none 0 0)], 24, none, none, none⟩ (.node 21 ⟨true, 1, false, false, 0, false, false, [], false, some [.con (.int .i32 0)], 4, none, some .i32, none⟩ (.node 20 ⟨true, 1, false, false, 0, false, false, [], false, some [.con .nilIface], 16, none, none, none⟩ .leaf
  .leaf)
  .leaf)
  (.node 23 ⟨true, 1, false, false, 0, false, false, [], false, some [.con .nilFunc], 8, none, none, none⟩ .leaf
  .leaf))
  (.node 26 ⟨true, 5, true, false, 0, false, false, [(0, 3), (1, 2), (2, 22), (3, 9), (4, 24)], true, some [.con (.int .i64 0), .con (.int .i64 0), .con (.slice none 0 0), .con (.string ⟨#[]⟩), .con (.slice none 0 0)], 80, none, none, none⟩ (.node 25 ⟨true, 5, true, false, 0, false, false, [(0, 3), (1, 2), (2, 22), (3, 9), (4, 24)], true, some [.con (.int .i64 0), .con (.int .i64 0), .con (.slice none 0 0), .con (.string ⟨#[]⟩), .con (.slice none 0 0)], 80, none, none, none⟩ .leaf
  .leaf)
  (.node 27 ⟨true, 1, false, false, 0, false, false, [], false, some [.con .nilFunc], 8, none, none, none⟩ .leaf
  .leaf)))
  (.node 34 ⟨true, 1, false, true, 37, false, false, [], false, some [.con (.slice none 0 0)], 24, none, none, none⟩ (.node 32 ⟨true, 2, true, false, 0, false, false, [(0, 3), (1, 3)], true, some [.con (.int .i64 0), .con (.int .i64 0)], 16, none, none, none⟩ (.node 31 ⟨true, 1, false, false, 0, false, false, [], false, some [.con .nilFunc], 8, none, none, none⟩ (.node 30 ⟨true, 1, false, false, 0, false, false, [], false, some [.con (.int .u64 0)], 8, none, some .u64, none⟩ .leaf
  .leaf)
  .leaf)
  (.node 33 ⟨true, 2, true, false, 0, false, false, [(0, 3), (1, 3)], true, some [.con (.int .i64 0), .con (.int .i64 0)], 16, none, none, none⟩ .leaf
  .leaf))
  (.node 36 ⟨true, 8, true, false, 0, false, false, [(0, 3), (1, 33), (3, 2), (4, 22), (5, 9), (6, 34), (7, 35)], true, some [.con (.int .i64 0), .con (.int .i64 0), .con (.int .i64 0), .con (.int .i64 0), .con (.slice none 0 0), .con (.string ⟨#[]⟩), .con (.slice none 0 0), .con (.slice none 0 0)], 120, none, none, none⟩ (.node 35 ⟨true, 1, false, true, 188, false, false, [], false, some [.con (.slice none 0 0)], 24, none, none, none⟩ .leaf
  .leaf)
  (.node 37 ⟨true, 8, true, false, 0, false, false, [(0, 3), (1, 33), (3, 2), (4, 22), (5, 9), (6, 34), (7, 35)], true, some [.con (.int .i64 0), .con (.int .i64 0), .con (.int .i64 0), .con (.int .i64 0), .con (.slice none 0 0), .con (.string ⟨#[]⟩), .con (.slice none 0 0), .con (.slice none 0 0)], 120, none, none, none⟩ .leaf
  .leaf)))))
  (.node 58 ⟨true, 1, false, false, 0, false, false, [], false, some [.con .nilFunc], 8, none, none, none⟩ (.node 48 ⟨true, 1, false, false, 0, false, false, [], false, some [.con (.int .i64 0)], 8, none, some .i64, none⟩ (.node 43 ⟨true, 1, false, true, 173, false, false, [], false, some [.con (.slice none 0 0)], 24, none, none, none⟩ (.node 41 ⟨true, 3, true, false, 0, false, false, [(0, 3), (1, 9), (2, 40)], true, some [.con (.int .i64 0), .con (.string ⟨#[]⟩), .con (.slice none 0 0)], 48, none, none, none⟩ (.node 40 ⟨true, 1, false, true, 42, false, false, [], false, some [.con (.slice none 0 0)], 24, none, none, none⟩ (.node 39 ⟨true, 1, false, true, 81, false, false, [], false, some [.con (.slice none 0 0)], 24, none, none, none⟩ .leaf
  .leaf)
  .leaf)
  (.node 42 ⟨true, 3, true, false, 0, false, false, [(0, 3), (1, 9), (2, 40)], true, some [.con (.int .i64 0), .con (.string ⟨#[]⟩), .con (.slice none 0 0)], 48, none, none, none⟩ .leaf
  .leaf))
  (.node 46 ⟨true, 3, true, false, 0, false, false, [(0, 3), (1, 3), (2, 3)], true, some [.con (.int .i64 0), .con (.int .i64 0), .con (.int .i64 0)], 24, none, none, none⟩ (.node 45 ⟨true, 17, true, false, 0, false, false, [(0, 38), (1, 39), (2, 3), (3, 3), (4, 42), (7, 3), (8, 37), (16, 43)], true, some [.con (.slice none 0 0), .con (.slice none 0 0), .con (.int .i64 0), .con (.int .i64 0), .con (.int .i64 0), .con (.string ⟨#[]⟩), .con (.slice none 0 0), .con (.int .i64 0), .con (.int .i64 0), .con (.int .i64 0), .con (.int .i64 0), .con (.int .i64 0), .con (.slice none 0 0), .con (.string ⟨#[]⟩), .con (.slice none 0 0), .con (.slice none 0 0), .con (.slice none 0 0)], 264, none, none, none⟩ (.node 44 ⟨true, 17, true, false, 0, false, false, [(0, 38), (1, 39), (2, 3), (3, 3), (4, 42), (7, 3), (8, 37), (16, 43)], true, some [.con (.slice none 0 0), .con (.slice none 0 0), .con (.int .i64 0), .con (.int .i64 0), .con (.int .i64 0), .con (.string ⟨#[]⟩), .con (.slice none 0 0), .con (.int .i64 0), .con (.int .i64 0), .con (.int .i64 0), .con (.int .i64 0), .con (.int .i64 0), .con (.slice none 0 0), .con (.string ⟨#[]⟩), .con (.slice none 0 0), .con (.slice none 0 0), .con (.slice none 0 0)], 264, none, none, none⟩ .leaf
  .leaf)
  .leaf)
  (.node 47 ⟨true, 3, true, false, 0, false, false, [(0, 3), (1, 3), (2, 3)], true, some [.con (.int .i64 0), .con (.int .i64 0), .con (.int .i64 0)], 24, none, none, none⟩ .leaf
  .leaf)))
  (.node 54 ⟨true, 1, false, false, 0, false, false, [], false, some [.con .nilFunc], 8, none, none, none⟩ (.node 52 ⟨true, 1, false, false, 0, false, false, [], false, some [.con .nilFunc], 8, none, none, none⟩ (.node 51 ⟨true, 1, false, false, 0, false, false, [], false, some [.con .nilFunc], 8, none, none, none⟩ (.node 50 ⟨true, 1, false, false, 0, false, false, [], false, some [.con .nilFunc], 8, none, none, none⟩ .leaf
  .leaf)
  .leaf)
  (.node 53 ⟨true, 1, false, false, 0, false, false, [], false, some [.con .nilFunc], 8, none, none, none⟩ .leaf
  .leaf))
  (.node 56 ⟨true, 3, true, false, 0, false, false, [(0, 48), (1, 33)], true, some [.con (.int .i64 0), .con (.int .i64 0), .con (.int .i64 0)], 24, none, none, none⟩ (.node 55 ⟨true, 1, false, false, 0, false, false, [], false, some [.con .nilFunc], 8, none, none, none⟩ .leaf
  .leaf)
  (.node 57 ⟨true, 3, true, false, 0, false, false, [(0, 48), (1, 33)], true, some [.con (.int .i64 0), .con (.int .i64 0), .con (.int .i64 0)], 24, none, none, none⟩ .leaf
  .leaf))))
  (.node 68 ⟨true, 1, false, false, 0, false, false, [], false, some [.con (.pointer none)], 8, none, none, none⟩ (.node 63 ⟨true, 1, false, false, 0, false, false, [], false, some [.con .nilFunc], 8, none, none, none⟩ (.node 61 ⟨true, 9, true, false, 0, false, false, [(0, 60), (1, 37)], true, some [.con (.slice none 0 0), .con (.int .i64 0), .con (.int .i64 0), .con (.int .i64 0), .con (.int .i64 0), .con (.slice none 0 0), .con (.string ⟨#[]⟩), .con (.slice none 0 0), .con (.slice none 0 0)], 144, none, none, none⟩ (.node 60 ⟨true, 1, false, true, 135, false, false, [], false, some [.con (.slice none 0 0)], 24, none, none, none⟩ (.node 59 ⟨true, 1, false, false, 0, false, false, [], false, some [.con .nilFunc], 8, none, none, none⟩ .leaf
  .leaf)
  .leaf)
  (.node 62 ⟨true, 9, true, false, 0, false, false, [(0, 60), (1, 37)], true, some [.con (.slice none 0 0), .con (.int .i64 0), .con (.int .i64 0), .con (.int .i64 0), .con (.int .i64 0), .con (.slice none 0 0), .con (.string ⟨#[]⟩), .con (.slice none 0 0), .con (.slice none 0 0)], 144, none, none, none⟩ .leaf
  .leaf))
  (.node 65 ⟨true, 1, false, true, 103, false, false, [], false, some [.con (.slice none 0 0)], 24, none, none, none⟩ (.node 64 ⟨true, 1, false, false, 0, false, false, [], false, some [.con .nilFunc], 8, none, none, none⟩ .leaf
  .leaf)
  (.node 67 ⟨true, 1, false, false, 0, false, false, [], false, some [.con .nilFunc], 8, none, none, none⟩ .leaf
  .leaf)))
  (.node 73 ⟨true, 1, false, false, 0, false, false, [], false, some [.con .nilFunc], 8, none, none, none⟩ (.node 71 ⟨true, 1, false, false, 0, false, false, [], false, some [.con .nilFunc], 8, none, none, none⟩ (.node 70 ⟨true, 1, false, false, 0, false, false, [], false, some [.con .nilFunc], 8, none, none, none⟩ (.node 69 ⟨true, 1, false, false, 0, false, false, [], false, some [.con .nilFunc], 8, none, none, none⟩ .leaf
  .leaf)
  .leaf)
  (.node 72 ⟨true, 1, false, false, 0, false, false, [], false, some [.con .nilFunc], 8, none, none, none⟩ .leaf
  .leaf))
  (.node 75 ⟨true, 1, false, false, 0, false, false, [], false, some [.con .nilFunc], 8, none, none, none⟩ (.node 74 ⟨true, 1, false, false, 0, false, false, [], false, some [.con .nilFunc], 8, none, none, none⟩ .leaf
  .leaf)
  (.node 76 ⟨true, 1, false, false, 0, false, false, [], false, some [.con .nilFunc], 8, none, none, none⟩ .leaf
  .leaf))))))
  (.node 116 ⟨true, 1, false, false, 0, false, false, [], false, some [.con (.pointer none)], 8, none, none, none⟩ (.node 98 ⟨true, 1, false, false, 0, false, false, [], false, some [.con .nilFunc], 8, none, none, none⟩ (.node 89 ⟨true, 1, false, false, 0, false, false, [], false, some [.con (.pointer none)], 8, none, none, none⟩ (.node 83 ⟨true, 1, false, false, 0, false, false, [], false, some [.con .nilFunc], 8, none, none, none⟩ (.node 80 ⟨true, 15, true, false, 0, false, false, [(0, 33), (2, 9), (3, 60), (4, 42), (7, 37)], true, some [.con (.int .i64 0), .con (.int .i64 0), .con (.string ⟨#[]⟩), .con (.slice none 0 0), .con (.int .i64 0), .con (.string ⟨#[]⟩), .con (.slice none 0 0), .con (.int .i64 0), .con (.int .i64 0), .con (.int .i64 0), .con (.int .i64 0), .con (.slice none 0 0), .con (.string ⟨#[]⟩), .con (.slice none 0 0), .con (.slice none 0 0)], 224, none, none, none⟩ (.node 79 ⟨true, 1, false, false, 0, false, false, [], false, some [.con .nilFunc], 8, none, none, none⟩ (.node 78 ⟨true, 1, false, false, 0, false, false, [], false, some [.con (.pointer none)], 8, none, none, none⟩ .leaf
  .leaf)
  .leaf)
  (.node 81 ⟨true, 15, true, false, 0, false, false, [(0, 33), (2, 9), (3, 60), (4, 42), (7, 37)], true, some [.con (.int .i64 0), .con (.int .i64 0), .con (.string ⟨#[]⟩), .con (.slice none 0 0), .con (.int .i64 0), .con (.string ⟨#[]⟩), .con (.slice none 0 0), .con (.int .i64 0), .con (.int .i64 0), .con (.int .i64 0), .con (.int .i64 0), .con (.slice none 0 0), .con (.string ⟨#[]⟩), .con (.slice none 0 0), .con (.slice none 0 0)], 224, none, none, none⟩ .leaf
  .leaf))
  (.node 87 ⟨true, 5, true, false, 0, false, false, [(0, 39), (1, 3), (2, 47)], true, some [.con (.slice none 0 0), .con (.int .i64 0), .con (.int .i64 0), .con (.int .i64 0), .con (.int .i64 0)], 56, none, none, none⟩ (.node 86 ⟨true, 5, true, false, 0, false, false, [(0, 39), (1, 3), (2, 47)], true, some [.con (.slice none 0 0), .con (.int .i64 0), .con (.int .i64 0), .con (.int .i64 0), .con (.int .i64 0)], 56, none, none, none⟩ (.node 84 ⟨true, 1, false, false, 0, false, false, [], false, some [.con .nilFunc], 8, none, none, none⟩ .leaf
  .leaf)
  .leaf)
  (.node 88 ⟨true, 1, false, false, 0, false, false, [], false, some [.con .nilFunc], 8, none, none, none⟩ .leaf
  .leaf)))
  (.node 94 ⟨true, 1, false, false, 0, false, false, [], false, some [.con (.int .i64 0)], 8, none, some .i64, none⟩ (.node 92 ⟨true, 2, true, false, 0, false, false, [(0, 3), (1, 90)], true, some [.con (.int .i64 0), .con (.slice none 0 0)], 32, none, none, none⟩ (.node 91 ⟨true, 2, true, false, 0, false, false, [(0, 3), (1, 90)], true, some [.con (.int .i64 0), .con (.slice none 0 0)], 32, none, none, none⟩ (.node 90 ⟨true, 1, false, true, 141, false, false, [], false, some [.con (.slice none 0 0)], 24, none, none, none⟩ .leaf
  .leaf)
  .leaf)
  (.node 93 ⟨true, 1, false, false, 0, false, false, [], false, some [.con .nilFunc], 8, none, none, none⟩ .leaf
  .leaf))
  (.node 96 ⟨true, 1, false, true, 3, false, false, [], false, some [.con (.slice none 0 0)], 24, none, none, none⟩ (.node 95 ⟨true, 1, false, false, 0, false, false, [], false, some [.con .nilFunc], 8, none, none, none⟩ .leaf
  .leaf)
  (.node 97 ⟨true, 1, false, false, 0, false, false, [], false, some [.con .nilFunc], 8, none, none, none⟩ .leaf
  .leaf))))
  (.node 107 ⟨true, 4, true, false, 0, false, false, [(0, 65), (1, 38), (2, 104), (3, 105)], true, some [.con (.slice none 0 0), .con (.slice none 0 0), .con (.map none), .con (.map none)], 64, none, none, none⟩ (.node 103 ⟨true, 6, true, false, 0, false, false, [(0, 26), (5, 96)], true, some [.con (.int .i64 0), .con (.int .i64 0), .con (.slice none 0 0), .con (.string ⟨#[]⟩), .con (.slice none 0 0), .con (.slice none 0 0)], 104, none, none, none⟩ (.node 101 ⟨true, 1, false, false, 0, false, false, [], false, some [.con .nilFunc], 8, none, none, none⟩ (.node 100 ⟨true, 1, false, false, 0, false, false, [], false, some [.con .nilFunc], 8, none, none, none⟩ (.node 99 ⟨true, 1, false, false, 0, false, false, [], false, some [.con .nilFunc], 8, none, none, none⟩ .leaf
  .leaf)
  .leaf)
  (.node 102 ⟨true, 6, true, false, 0, false, false, [(0, 26), (5, 96)], true, some [.con (.int .i64 0), .con (.int .i64 0), .con (.slice none 0 0), .con (.string ⟨#[]⟩), .con (.slice none 0 0), .con (.slice none 0 0)], 104, none, none, none⟩ .leaf
  .leaf))
  (.node 105 ⟨true, 1, false, false, 0, false, false, [], false, some [.con (.map none)], 8, some (110, 150), none, none⟩ (.node 104 ⟨true, 1, false, false, 0, false, false, [], false, some [.con (.map none)], 8, some (9, 209), none, none⟩ .leaf
  .leaf)
  (.node 106 ⟨true, 4, true, false, 0, false, false, [(0, 65), (1, 38), (2, 104), (3, 105)], true, some [.con (.slice none 0 0), .con (.slice none 0 0), .con (.map none), .con (.map none)], 64, none, none, none⟩ .leaf
  .leaf)))
  (.node 112 ⟨true, 1, false, false, 0, false, false, [], false, some [.con .nilFunc], 8, none, none, none⟩ (.node 110 ⟨true, 2, true, false, 0, false, false, [(0, 3), (1, 9)], true, some [.con (.int .i64 0), .con (.string ⟨#[]⟩)], 24, none, none, none⟩ (.node 109 ⟨true, 2, true, false, 0, false, false, [(0, 3), (1, 9)], true, some [.con (.int .i64 0), .con (.string ⟨#[]⟩)], 24, none, none, none⟩ (.node 108 ⟨true, 1, false, false, 0, false, false, [], false, some [.con .nilFunc], 8, none, none, none⟩ .leaf
  .leaf)
  .leaf)
  (.node 111 ⟨true, 1, false, false, 0, false, false, [], false, some [.con .nilFunc], 8, none, none, none⟩ .leaf
  .leaf))
  (.node 114 ⟨true, 1, false, false, 0, false, false, [], false, some [.con .nilFunc], 8, none, none, none⟩ (.node 113 ⟨true, 1, false, false, 0, false, false, [], false, some [.con .nilFunc], 8, none, none, none⟩ .leaf
  .leaf)
  (.node 115 ⟨true, 1, false, false, 0, false, false, [], false, some [.con .nilFunc], 8, none, none, none⟩ .leaf
  .leaf)))))
  (.node 135 ⟨true, 4, true, false, 0, false, false, [(0, 9), (1, 42)], true, some [.con (.string ⟨#[]⟩), .con (.int .i64 0), .con (.string ⟨#[]⟩), .con (.slice none 0 0)], 64, none, none, none⟩ (.node 125 ⟨true, 1, false, true, 4, false, false, [], false, some [.con (.slice none 0 0)], 24, none, none, none⟩ (.node 121 ⟨true, 7, true, false, 0, false, false, [(0, 119), (1, 38), (2, 120), (3, 120), (4, 57)], true, some [.con (.pointer none), .con (.slice none 0 0), .con (.slice none 0 0), .con (.slice none 0 0), .con (.int .i64 0), .con (.int .i64 0), .con (.int .i64 0)], 104, none, none, none⟩ (.node 119 ⟨true, 1, false, false, 0, false, false, [], false, some [.con (.pointer none)], 8, none, none, none⟩ (.node 118 ⟨true, 1, false, false, 0, false, false, [], false, some [.con .nilFunc], 8, none, none, none⟩ (.node 117 ⟨true, 1, false, false, 0, false, false, [], false, some [.con .nilFunc], 8, none, none, none⟩ .leaf
  .leaf)
  .leaf)
  (.node 120 ⟨true, 1, false, true, 165, false, false, [], false, some [.con (.slice none 0 0)], 24, none, none, none⟩ .leaf
  .leaf))
  (.node 123 ⟨true, 1, false, false, 0, false, false, [], false, some [.con (.map none)], 8, some (9, 179), none, none⟩ (.node 122 ⟨true, 7, true, false, 0, false, false, [(0, 119), (1, 38), (2, 120), (3, 120), (4, 57)], true, some [.con (.pointer none), .con (.slice none 0 0), .con (.slice none 0 0), .con (.slice none 0 0), .con (.int .i64 0), .con (.int .i64 0), .con (.int .i64 0)], 104, none, none, none⟩ .leaf
  .leaf)
  (.node 124 ⟨true, 1, false, false, 0, false, false, [], false, some [.con (.map none)], 8, some (9, 179), none, none⟩ .leaf
  .leaf)))
  (.node 131 ⟨true, 1, false, false, 0, false, false, [], false, some [.con .nilFunc], 8, none, none, none⟩ (.node 129 ⟨true, 1, false, false, 0, false, false, [], false, some [.con .nilFunc], 8, none, none, none⟩ (.node 127 ⟨true, 17, true, false, 0, false, false, [(0, 81), (15, 124), (16, 125)], true, some [.con (.int .i64 0), .con (.int .i64 0), .con (.string ⟨#[]⟩), .con (.slice none 0 0), .con (.int .i64 0), .con (.string ⟨#[]⟩), .con (.slice none 0 0), .con (.int .i64 0), .con (.int .i64 0), .con (.int .i64 0), .con (.int .i64 0), .con (.slice none 0 0), .con (.string ⟨#[]⟩), .con (.slice none 0 0), .con (.slice none 0 0), .con (.map none), .con (.slice none 0 0)], 256, none, none, none⟩ (.node 126 ⟨true, 17, true, false, 0, false, false, [(0, 81), (15, 124), (16, 125)], true, some [.con (.int .i64 0), .con (.int .i64 0), .con (.string ⟨#[]⟩), .con (.slice none 0 0), .con (.int .i64 0), .con (.string ⟨#[]⟩), .con (.slice none 0 0), .con (.int .i64 0), .con (.int .i64 0), .con (.int .i64 0), .con (.int .i64 0), .con (.slice none 0 0), .con (.string ⟨#[]⟩), .con (.slice none 0 0), .con (.slice none 0 0), .con (.map none), .con (.slice none 0 0)], 256, none, none, none⟩ .leaf
  .leaf)
  .leaf)
  (.node 130 ⟨true, 1, false, false, 0, false, false, [], false, some [.con .nilFunc], 8, none, none, none⟩ .leaf
  .leaf))
  (.node 133 ⟨true, 1, false, false, 0, false, false, [], false, some [.con .nilFunc], 8, none, none, none⟩ (.node 132 ⟨true, 1, false, false, 0, false, false, [], false, some [.con .nilFunc], 8, none, none, none⟩ .leaf
  .leaf)
  (.node 134 ⟨true, 4, true, false, 0, false, false, [(0, 9), (1, 42)], true, some [.con (.string ⟨#[]⟩), .con (.int .i64 0), .con (.string ⟨#[]⟩), .con (.slice none 0 0)], 64, none, none, none⟩ .leaf
  .leaf))))
  (.node 144 ⟨true, 1, false, false, 0, false, false, [], false, some [.con .nilFunc], 8, none, none, none⟩ (.node 140 ⟨true, 1, false, false, 0, false, false, [], false, some [.con .nilFunc], 8, none, none, none⟩ (.node 138 ⟨true, 1, false, false, 0, false, false, [], false, some [.con .nilFunc], 8, none, none, none⟩ (.node 137 ⟨true, 1, false, false, 0, false, false, [], false, some [.con .nilFunc], 8, none, none, none⟩ (.node 136 ⟨true, 1, false, false, 0, false, false, [], false, some [.con (.pointer none)], 8, none, none, none⟩ .leaf
  .leaf)
  .leaf)
  (.node 139 ⟨true, 1, false, false, 0, false, false, [], false, some [.con .nilFunc], 8, none, none, none⟩ .leaf
  .leaf))
  (.node 142 ⟨true, 6, true, false, 0, false, false, [(0, 9), (1, 26)], true, some [.con (.string ⟨#[]⟩), .con (.int .i64 0), .con (.int .i64 0), .con (.slice none 0 0), .con (.string ⟨#[]⟩), .con (.slice none 0 0)], 96, none, none, none⟩ (.node 141 ⟨true, 1, false, true, 143, false, false, [], false, some [.con (.slice none 0 0)], 24, none, none, none⟩ .leaf
  .leaf)
  (.node 143 ⟨true, 6, true, false, 0, false, false, [(0, 9), (1, 26)], true, some [.con (.string ⟨#[]⟩), .con (.int .i64 0), .con (.int .i64 0), .con (.slice none 0 0), .con (.string ⟨#[]⟩), .con (.slice none 0 0)], 96, none, none, none⟩ .leaf
  .leaf)))
  (.node 149 ⟨true, 1, true, false, 0, false, false, [(0, 4)], true, some [.con (.bool false)], 1, none, none, none⟩ (.node 147 ⟨true, 1, false, false, 0, false, false, [], false, some [.con .nilFunc], 8, none, none, none⟩ (.node 146 ⟨true, 1, false, false, 0, false, false, [], false, some [.con (.pointer none)], 8, none, none, none⟩ (.node 145 ⟨true, 1, false, false, 0, false, false, [], false, some [.con .nilFunc], 8, none, none, none⟩ .leaf
  .leaf)
  .leaf)
  (.node 148 ⟨true, 1, false, true, 24, false, false, [], false, some [.con (.slice none 0 0)], 24, none, none, none⟩ .leaf
  .leaf))
  (.node 152 ⟨true, 1, false, false, 0, false, false, [], false, some [.con .nilFunc], 8, none, none, none⟩ (.node 150 ⟨true, 1, true, false, 0, false, false, [(0, 4)], true, some [.con (.bool false)], 1, none, none, none⟩ .leaf
  .leaf)
  (.node 153 ⟨true, 1, false, false, 0, false, false, [], false, some [.con .nilFunc], 8, none, none, none⟩ .leaf
  .leaf)))))))
  (.node 228 ⟨true, 1, false, false, 0, false, false, [], false, some [.con .nilFunc], 8, none, none, none⟩ (.node 191 ⟨true, 1, false, false, 0, false, false, [], false, some [.con .nilFunc], 8, none, none, none⟩ (.node 173 ⟨true, 16, true, false, 0, false, false, [(0, 33), (2, 9), (3, 135), (7, 3), (8, 37)], true, some [.con (.int .i64 0), .con (.int .i64 0), .con (.string ⟨#[]⟩), .con (.string ⟨#[]⟩), .con (.int .i64 0), .con (.string ⟨#[]⟩), .con (.slice none 0 0), .con (.int .i64 0), .con (.int .i64 0), .con (.int .i64 0), .con (.int .i64 0), .con (.int .i64 0), .con (.slice none 0 0), .con (.string ⟨#[]⟩), .con (.slice none 0 0), .con (.slice none 0 0)], 224, none, none, none⟩ (.node 164 ⟨true, 2, true, false, 0, false, false, [(0, 9), (1, 163)], true, some [.con (.string ⟨#[]⟩), .con .nilIface], 32, none, none, none⟩ (.node 159 ⟨true, 1, false, false, 0, false, false, [], false, some [.con .nilFunc], 8, none, none, none⟩ (.node 157 ⟨true, 1, false, false, 0, false, false, [], false, some [.con (.pointer none)], 8, none, none, none⟩ (.node 156 ⟨true, 1, false, false, 0, false, false, [], false, some [.con .nilIface], 16, none, none, none⟩ (.node 155 ⟨true, 1, false, false, 0, false, false, [], false, some [.con .nilIface], 16, none, none, none⟩ .leaf
  .leaf)
  .leaf)
  (.node 158 ⟨true, 1, false, false, 0, false, false, [], false, some [.con .nilFunc], 8, none, none, none⟩ .leaf
  .leaf))
  (.node 162 ⟨true, 1, false, false, 0, false, false, [], false, some [.con .nilIface], 16, none, none, none⟩ (.node 161 ⟨true, 1, false, false, 0, false, false, [], false, some [.con .nilFunc], 8, none, none, none⟩ (.node 160 ⟨true, 1, false, false, 0, false, false, [], false, some [.con .nilFunc], 8, none, none, none⟩ .leaf
  .leaf)
  .leaf)
  (.node 163 ⟨true, 1, false, false, 0, false, false, [], false, some [.con .nilIface], 16, none, none, none⟩ .leaf
  .leaf)))
  (.node 169 ⟨true, 1, false, false, 0, false, false, [], false, some [.con .nilFunc], 8, none, none, none⟩ (.node 167 ⟨true, 1, false, false, 0, false, false, [], false, some [.con .nilFunc], 8, none, none, none⟩ (.node 166 ⟨true, 1, false, false, 0, false, false, [], false, some [.con .nilFunc], 8, none, none, none⟩ (.node 165 ⟨true, 2, true, false, 0, false, false, [(0, 9), (1, 163)], true, some [.con (.string ⟨#[]⟩), .con .nilIface], 32, none, none, none⟩ .leaf
  .leaf)
  .leaf)
  (.node 168 ⟨true, 1, false, false, 0, false, false, [], false, some [.con .nilFunc], 8, none, none, none⟩ .leaf
  .leaf))
  (.node 171 ⟨true, 1, false, false, 0, false, false, [], false, some [.con .nilFunc], 8, none, none, none⟩ (.node 170 ⟨true, 1, false, false, 0, false, false, [], false, some [.con .nilFunc], 8, none, none, none⟩ .leaf
  .leaf)
  (.node 172 ⟨true, 16, true, false, 0, false, false, [(0, 33), (2, 9), (3, 135), (7, 3), (8, 37)], true, some [.con (.int .i64 0), .con (.int .i64 0), .con (.string ⟨#[]⟩), .con (.string ⟨#[]⟩), .con (.int .i64 0), .con (.string ⟨#[]⟩), .con (.slice none 0 0), .con (.int .i64 0), .con (.int .i64 0), .con (.int .i64 0), .con (.int .i64 0), .con (.int .i64 0), .con (.slice none 0 0), .con (.string ⟨#[]⟩), .con (.slice none 0 0), .con (.slice none 0 0)], 224, none, none, none⟩ .leaf
  .leaf))))
  (.node 182 ⟨true, 1, false, false, 0, false, false, [], false, some [.con .nilFunc], 8, none, none, none⟩ (.node 178 ⟨true, 3, true, false, 0, false, false, [(0, 9), (1, 4), (2, 4)], true, some [.con (.string ⟨#[]⟩), .con (.bool false), .con (.bool false)], 24, none, none, none⟩ (.node 176 ⟨true, 1, false, false, 0, true, false, [], false, some [.con (.string ⟨#[]⟩)], 16, none, none, none⟩ (.node 175 ⟨true, 2, true, false, 0, false, false, [(0, 3), (1, 3)], true, some [.con (.int .i64 0), .con (.int .i64 0)], 16, none, none, none⟩ (.node 174 ⟨true, 2, true, false, 0, false, false, [(0, 3), (1, 3)], true, some [.con (.int .i64 0), .con (.int .i64 0)], 16, none, none, none⟩ .leaf
  .leaf)
  .leaf)
  (.node 177 ⟨true, 1, false, false, 0, false, false, [], false, some [.con .nilFunc], 8, none, none, none⟩ .leaf
  .leaf))
  (.node 180 ⟨true, 1, false, false, 0, false, false, [], false, some [.con .nilFunc], 8, none, none, none⟩ (.node 179 ⟨true, 3, true, false, 0, false, false, [(0, 9), (1, 4), (2, 4)], true, some [.con (.string ⟨#[]⟩), .con (.bool false), .con (.bool false)], 24, none, none, none⟩ .leaf
  .leaf)
  (.node 181 ⟨true, 1, false, false, 0, false, false, [], false, some [.con .nilFunc], 8, none, none, none⟩ .leaf
  .leaf)))
  (.node 187 ⟨true, 14, true, false, 0, false, false, [(0, 186), (6, 37)], true, some [.con (.int .i64 0), .con (.int .i64 0), .con (.int .i64 0), .con (.string ⟨#[]⟩), .con (.int .i64 0), .con (.slice none 0 0), .con (.int .i64 0), .con (.int .i64 0), .con (.int .i64 0), .con (.int .i64 0), .con (.slice none 0 0), .con (.string ⟨#[]⟩), .con (.slice none 0 0), .con (.slice none 0 0)], 192, none, none, none⟩ (.node 185 ⟨true, 6, true, false, 0, false, false, [(0, 3), (1, 33), (3, 9), (4, 2), (5, 184)], true, some [.con (.int .i64 0), .con (.int .i64 0), .con (.int .i64 0), .con (.string ⟨#[]⟩), .con (.int .i64 0), .con (.slice none 0 0)], 72, none, none, none⟩ (.node 184 ⟨true, 1, false, true, 186, false, false, [], false, some [.con (.slice none 0 0)], 24, none, none, none⟩ (.node 183 ⟨true, 1, false, false, 0, false, false, [], false, some [.con .nilFunc], 8, none, none, none⟩ .leaf
  .leaf)
  .leaf)
  (.node 186 ⟨true, 6, true, false, 0, false, false, [(0, 3), (1, 33), (3, 9), (4, 2), (5, 184)], true, some [.con (.int .i64 0), .con (.int .i64 0), .con (.int .i64 0), .con (.string ⟨#[]⟩), .con (.int .i64 0), .con (.slice none 0 0)], 72, none, none, none⟩ .leaf
  .leaf))
  (.node 189 ⟨true, 1, false, false, 0, false, false, [], false, some [.con .nilFunc], 8, none, none, none⟩ (.node 188 ⟨true, 14, true, false, 0, false, false, [(0, 186), (6, 37)], true, some [.con (.int .i64 0), .con (.int .i64 0), .con (.int .i64 0), .con (.string ⟨#[]⟩), .con (.int .i64 0), .con (.slice none 0 0), .con (.int .i64 0), .con (.int .i64 0), .con (.int .i64 0), .con (.int .i64 0), .con (.slice none 0 0), .con (.string ⟨#[]⟩), .con (.slice none 0 0), .con (.slice none 0 0)], 192, none, none, none⟩ .leaf
  .leaf)
  (.node 190 ⟨true, 1, false, false, 0, false, false, [], false, some [.con .nilFunc], 8, none, none, none⟩ .leaf
  .leaf)))))
  (.node 210 ⟨true, 1, false, false, 0, false, false, [], false, some [.con .nilFunc], 8, none, none, none⟩ (.node 200 ⟨true, 1, false, false, 0, false, false, [], false, some [.con .nilFunc], 8, none, none, none⟩ (.node 196 ⟨true, 1, false, false, 0, false, false, [], false, some [.con .nilFunc], 8, none, none, none⟩ (.node 194 ⟨true, 4, true, false, 0, false, false, [(0, 33), (2, 9), (3, 192)], true, some [.con (.int .i64 0), .con (.int .i64 0), .con (.string ⟨#[]⟩), .con (.slice none 0 0)], 56, none, none, none⟩ (.node 193 ⟨true, 4, true, false, 0, false, false, [(0, 33), (2, 9), (3, 192)], true, some [.con (.int .i64 0), .con (.int .i64 0), .con (.string ⟨#[]⟩), .con (.slice none 0 0)], 56, none, none, none⟩ (.node 192 ⟨true, 1, false, true, 251, false, false, [], false, some [.con (.slice none 0 0)], 24, none, none, none⟩ .leaf
  .leaf)
  .leaf)
  (.node 195 ⟨true, 1, false, false, 0, false, false, [], false, some [.con .nilFunc], 8, none, none, none⟩ .leaf
  .leaf))
  (.node 198 ⟨true, 1, false, false, 0, false, false, [], false, some [.con .nilFunc], 8, none, none, none⟩ (.node 197 ⟨true, 1, false, false, 0, false, false, [], false, some [.con .nilFunc], 8, none, none, none⟩ .leaf
  .leaf)
  (.node 199 ⟨true, 1, false, false, 0, false, false, [], false, some [.con .nilFunc], 8, none, none, none⟩ .leaf
  .leaf)))
  (.node 206 ⟨true, 1, false, false, 0, false, false, [], false, some [.con (.pointer none)], 8, none, none, none⟩ (.node 203 ⟨true, 1, false, false, 0, false, false, [], false, some [.con .nilFunc], 8, none, none, none⟩ (.node 202 ⟨true, 1, false, false, 0, false, false, [], false, some [.con (.pointer none)], 8, none, none, none⟩ (.node 201 ⟨true, 1, false, false, 0, false, false, [], false, some [.con .nilFunc], 8, none, none, none⟩ .leaf
  .leaf)
  .leaf)
  (.node 205 ⟨true, 1, false, false, 0, false, false, [], false, some [.con .nilFunc], 8, none, none, none⟩ .leaf
  .leaf))
  (.node 208 ⟨true, 1, false, false, 0, false, false, [], false, some [.con (.map none)], 8, some (212, 207), none, none⟩ (.node 207 ⟨true, 1, false, true, 40, false, false, [], false, some [.con (.slice none 0 0)], 24, none, none, none⟩ .leaf
  .leaf)
  (.node 209 ⟨true, 1, false, false, 0, false, false, [], false, some [.con (.map none)], 8, some (212, 207), none, none⟩ .leaf
  .leaf))))
  (.node 219 ⟨true, 1, false, false, 0, false, false, [], false, some [.con (.pointer none)], 8, none, none, none⟩ (.node 215 ⟨true, 3, true, false, 0, false, false, [(0, 48), (1, 33)], true, some [.con (.int .i64 0), .con (.int .i64 0), .con (.int .i64 0)], 24, none, none, none⟩ (.node 213 ⟨true, 1, false, false, 0, false, false, [], false, some [.con .nilFunc], 8, none, none, none⟩ (.node 212 ⟨true, 2, true, false, 0, false, false, [(0, 9), (1, 3)], true, some [.con (.string ⟨#[]⟩), .con (.int .i64 0)], 24, none, none, none⟩ (.node 211 ⟨true, 2, true, false, 0, false, false, [(0, 9), (1, 3)], true, some [.con (.string ⟨#[]⟩), .con (.int .i64 0)], 24, none, none, none⟩ .leaf
  .leaf)
  .leaf)
  (.node 214 ⟨true, 1, false, false, 0, false, false, [], false, some [.con .nilFunc], 8, none, none, none⟩ .leaf
  .leaf))
  (.node 217 ⟨true, 1, false, false, 0, false, false, [], false, some [.con .nilFunc], 8, none, none, none⟩ (.node 216 ⟨true, 3, true, false, 0, false, false, [(0, 48), (1, 33)], true, some [.con (.int .i64 0), .con (.int .i64 0), .con (.int .i64 0)], 24, none, none, none⟩ .leaf
  .leaf)
  (.node 218 ⟨true, 1, false, false, 0, false, false, [], false, some [.con (.pointer none)], 8, none, none, none⟩ .leaf
  .leaf)))
  (.node 224 ⟨true, 1, false, true, 340, false, false, [], false, some [.con (.slice none 0 0)], 24, none, none, none⟩ (.node 222 ⟨true, 1, false, true, 236, false, false, [], false, some [.con (.slice none 0 0)], 24, none, none, none⟩ (.node 221 ⟨true, 1, false, false, 0, false, false, [], false, some [.con .nilFunc], 8, none, none, none⟩ (.node 220 ⟨true, 1, false, false, 0, false, false, [], false, some [.con (.pointer none)], 8, none, none, none⟩ .leaf
  .leaf)
  .leaf)
  (.node 223 ⟨true, 1, false, true, 340, false, false, [], false, some [.con (.slice none 0 0)], 24, none, none, none⟩ .leaf
  .leaf))
  (.node 226 ⟨true, 4, true, false, 0, false, false, [(0, 220), (1, 222), (2, 3), (3, 224)], true, some [.con (.pointer none), .con (.slice none 0 0), .con (.int .i64 0), .con (.slice none 0 0)], 64, none, none, none⟩ (.node 225 ⟨true, 4, true, false, 0, false, false, [(0, 220), (1, 222), (2, 3), (3, 224)], true, some [.con (.pointer none), .con (.slice none 0 0), .con (.int .i64 0), .con (.slice none 0 0)], 64, none, none, none⟩ .leaf
  .leaf)
  (.node 227 ⟨true, 1, false, true, 229, false, false, [], false, some [.con (.slice none 0 0)], 24, none, none, none⟩ .leaf
  .leaf))))))
  (.node 265 ⟨true, 1, false, false, 0, false, false, [], false, some [.con .nilFunc], 8, none, none, none⟩ (.node 247 ⟨true, 4, true, false, 0, false, false, [(0, 245), (1, 246), (2, 241), (3, 3)], true, some [.con (.slice none 0 0), .con (.slice none 0 0), .con (.slice none 0 0), .con (.int .i64 0)], 80, none, none, none⟩ (.node 238 ⟨true, 1, false, false, 0, false, false, [], false, some [.con .nilFunc], 8, none, none, none⟩ (.node 233 ⟨true, 2, true, false, 0, false, false, [(0, 227), (1, 229)], true, some [.con (.slice none 0 0), .con (.int .i64 0)], 32, none, none, none⟩ (.node 231 ⟨true, 1, false, false, 0, false, false, [], false, some [.con .nilFunc], 8, none, none, none⟩ (.node 230 ⟨true, 1, false, false, 0, false, false, [], false, some [.con .nilFunc], 8, none, none, none⟩ (.node 229 ⟨true, 1, false, false, 0, false, false, [], false, some [.con (.int .i64 0)], 8, none, some .i64, none⟩ .leaf
  .leaf)
  .leaf)
  (.node 232 ⟨true, 1, false, false, 0, false, false, [], false, some [.con .nilFunc], 8, none, none, none⟩ .leaf
  .leaf))
  (.node 236 ⟨true, 3, true, false, 0, false, false, [(0, 9), (1, 234)], true, some [.con (.string ⟨#[]⟩), .con (.slice none 0 0), .con (.int .i64 0)], 48, none, none, none⟩ (.node 235 ⟨true, 3, true, false, 0, false, false, [(0, 9), (1, 234)], true, some [.con (.string ⟨#[]⟩), .con (.slice none 0 0), .con (.int .i64 0)], 48, none, none, none⟩ (.node 234 ⟨true, 2, true, false, 0, false, false, [(0, 227), (1, 229)], true, some [.con (.slice none 0 0), .con (.int .i64 0)], 32, none, none, none⟩ .leaf
  .leaf)
  .leaf)
  (.node 237 ⟨true, 1, false, false, 0, false, false, [], false, some [.con .nilFunc], 8, none, none, none⟩ .leaf
  .leaf)))
  (.node 243 ⟨true, 4, true, false, 0, false, false, [(0, 241), (1, 240), (2, 241), (3, 2)], true, some [.con (.slice none 0 0), .con (.map none), .con (.slice none 0 0), .con (.int .i64 0)], 64, none, none, none⟩ (.node 241 ⟨true, 1, false, true, 244, false, false, [], false, some [.con (.slice none 0 0)], 24, none, none, none⟩ (.node 240 ⟨true, 1, false, false, 0, false, false, [], false, some [.con (.map none)], 8, some (9, 3), none, none⟩ (.node 239 ⟨true, 1, false, false, 0, false, false, [], false, some [.con .nilFunc], 8, none, none, none⟩ .leaf
  .leaf)
  .leaf)
  (.node 242 ⟨true, 4, true, false, 0, false, false, [(0, 241), (1, 240), (2, 241), (3, 2)], true, some [.con (.slice none 0 0), .con (.map none), .con (.slice none 0 0), .con (.int .i64 0)], 64, none, none, none⟩ .leaf
  .leaf))
  (.node 245 ⟨true, 1, false, true, 254, false, false, [], false, some [.con (.slice none 0 0)], 24, none, none, none⟩ (.node 244 ⟨true, 1, false, false, 0, false, false, [], false, some [.con (.pointer none)], 8, none, none, none⟩ .leaf
  .leaf)
  (.node 246 ⟨true, 1, false, true, 503, false, false, [], false, some [.con (.slice none 0 0)], 24, none, none, none⟩ .leaf
  .leaf))))
  (.node 256 ⟨true, 1, true, false, 0, false, false, [(0, 119)], true, some [.con (.pointer none)], 8, none, none, none⟩ (.node 252 ⟨true, 1, false, true, 163, false, false, [], false, some [.con (.slice none 0 0)], 24, none, none, none⟩ (.node 250 ⟨true, 2, true, false, 0, false, false, [(0, 9), (1, 40)], true, some [.con (.string ⟨#[]⟩), .con (.slice none 0 0)], 40, none, none, none⟩ (.node 249 ⟨true, 1, false, false, 0, false, false, [], false, some [.con .nilFunc], 8, none, none, none⟩ (.node 248 ⟨true, 4, true, false, 0, false, false, [(0, 245), (1, 246), (2, 241), (3, 3)], true, some [.con (.slice none 0 0), .con (.slice none 0 0), .con (.slice none 0 0), .con (.int .i64 0)], 80, none, none, none⟩ .leaf
  .leaf)
  .leaf)
  (.node 251 ⟨true, 2, true, false, 0, false, false, [(0, 9), (1, 40)], true, some [.con (.string ⟨#[]⟩), .con (.slice none 0 0)], 40, none, none, none⟩ .leaf
  .leaf))
  (.node 254 ⟨true, 3, true, false, 0, false, false, [(0, 3), (1, 9), (2, 252)], true, some [.con (.int .i64 0), .con (.string ⟨#[]⟩), .con (.slice none 0 0)], 48, none, none, none⟩ (.node 253 ⟨true, 3, true, false, 0, false, false, [(0, 3), (1, 9), (2, 252)], true, some [.con (.int .i64 0), .con (.string ⟨#[]⟩), .con (.slice none 0 0)], 48, none, none, none⟩ .leaf
  .leaf)
  (.node 255 ⟨true, 1, false, false, 0, false, false, [], false, some [.con .nilFunc], 8, none, none, none⟩ .leaf
  .leaf)))
  (.node 261 ⟨true, 1, false, true, 357, false, false, [], false, some [.con (.slice none 0 0)], 24, none, none, none⟩ (.node 259 ⟨true, 0, true, false, 0, false, false, [], true, some [], 0, none, none, none⟩ (.node 258 ⟨true, 0, true, false, 0, false, false, [], true, some [], 0, none, none, none⟩ (.node 257 ⟨true, 1, true, false, 0, false, false, [(0, 119)], true, some [.con (.pointer none)], 8, none, none, none⟩ .leaf
  .leaf)
  .leaf)
  (.node 260 ⟨true, 1, false, true, 357, false, false, [], false, some [.con (.slice none 0 0)], 24, none, none, none⟩ .leaf
  .leaf))
  (.node 263 ⟨true, 2, true, false, 0, false, false, [(0, 244), (1, 261)], true, some [.con (.pointer none), .con (.slice none 0 0)], 32, none, none, none⟩ (.node 262 ⟨true, 2, true, false, 0, false, false, [(0, 244), (1, 261)], true, some [.con (.pointer none), .con (.slice none 0 0)], 32, none, none, none⟩ .leaf
  .leaf)
  (.node 264 ⟨true, 1, false, false, 0, false, false, [], false, some [.con .nilFunc], 8, none, none, none⟩ .leaf
  .leaf)))))
  (.node 285 ⟨true, 1, false, false, 0, false, false, [], false, some [.con .nilFunc], 8, none, none, none⟩ (.node 276 ⟨true, 1, false, false, 0, false, false, [], false, some [.con .nilFunc], 8, none, none, none⟩ (.node 271 ⟨true, 1, false, false, 0, false, false, [], false, some [.con .nilFunc], 8, none, none, none⟩ (.node 269 ⟨true, 1, false, false, 0, false, false, [], false, some [.con .nilFunc], 8, none, none, none⟩ (.node 267 ⟨true, 1, false, false, 0, false, false, [], false, some [.con .nilFunc], 8, none, none, none⟩ (.node 266 ⟨true, 1, false, false, 0, false, false, [], false, some [.con .nilFunc], 8, none, none, none⟩ .leaf
  .leaf)
  .leaf)
  (.node 270 ⟨true, 1, false, false, 0, false, false, [], false, some [.con .nilFunc], 8, none, none, none⟩ .leaf
  .leaf))
  (.node 274 ⟨true, 1, false, false, 0, false, false, [], false, some [.con .nilFunc], 8, none, none, none⟩ (.node 272 ⟨true, 1, false, false, 0, false, false, [], false, some [.con .nilFunc], 8, none, none, none⟩ .leaf
  .leaf)
  (.node 275 ⟨true, 1, false, false, 0, false, false, [], false, some [.con .nilFunc], 8, none, none, none⟩ .leaf
  .leaf)))
  (.node 281 ⟨true, 1, false, false, 0, false, false, [], false, some [.con .nilFunc], 8, none, none, none⟩ (.node 279 ⟨true, 1, false, false, 0, false, false, [], false, some [.con .nilFunc], 8, none, none, none⟩ (.node 278 ⟨true, 1, false, false, 0, false, false, [], false, some [.con .nilFunc], 8, none, none, none⟩ (.node 277 ⟨true, 1, false, false, 0, false, false, [], false, some [.con .nilFunc], 8, none, none, none⟩ .leaf
  .leaf)
  .leaf)
  (.node 280 ⟨true, 1, false, false, 0, false, false, [], false, some [.con .nilFunc], 8, none, none, none⟩ .leaf
  .leaf))
  (.node 283 ⟨true, 1, false, false, 0, false, false, [], false, some [.con .nilFunc], 8, none, none, none⟩ (.node 282 ⟨true, 1, false, false, 0, false, false, [], false, some [.con .nilFunc], 8, none, none, none⟩ .leaf
  .leaf)
  (.node 284 ⟨true, 1, false, true, 26, false, false, [], false, some [.con (.slice none 0 0)], 24, none, none, none⟩ .leaf
  .leaf))))
  (.node 295 ⟨true, 1, false, false, 0, false, false, [], false, some [.con .nilFunc], 8, none, none, none⟩ (.node 291 ⟨true, 2, true, false, 0, false, false, [(0, 2), (1, 2)], true, some [.con (.int .i64 0), .con (.int .i64 0)], 16, none, none, none⟩ (.node 289 ⟨true, 1, false, false, 0, false, false, [], false, some [.con .nilFunc], 8, none, none, none⟩ (.node 288 ⟨true, 1, false, false, 0, false, false, [], false, some [.con .nilFunc], 8, none, none, none⟩ (.node 286 ⟨true, 1, false, false, 0, false, false, [], false, some [.con .nilFunc], 8, none, none, none⟩ .leaf
  .leaf)
  .leaf)
  (.node 290 ⟨true, 2, true, false, 0, false, false, [(0, 2), (1, 2)], true, some [.con (.int .i64 0), .con (.int .i64 0)], 16, none, none, none⟩ .leaf
  .leaf))
  (.node 293 ⟨true, 1, false, false, 0, false, false, [], false, some [.con .nilFunc], 8, none, none, none⟩ (.node 292 ⟨true, 1, false, false, 0, false, false, [], false, some [.con .nilFunc], 8, none, none, none⟩ .leaf
  .leaf)
  (.node 294 ⟨true, 1, false, false, 0, false, false, [], false, some [.con .nilFunc], 8, none, none, none⟩ .leaf
  .leaf)))
  (.node 300 ⟨true, 1, false, false, 0, false, false, [], false, some [.con .nilFunc], 8, none, none, none⟩ (.node 298 ⟨true, 1, false, false, 0, false, false, [], false, some [.con .nilFunc], 8, none, none, none⟩ (.node 297 ⟨true, 1, false, false, 0, false, false, [], false, some [.con .nilFunc], 8, none, none, none⟩ (.node 296 ⟨true, 1, false, false, 0, false, false, [], false, some [.con .nilFunc], 8, none, none, none⟩ .leaf
  .leaf)
  .leaf)
  (.node 299 ⟨true, 1, false, false, 0, false, false, [], false, some [.con .nilFunc], 8, none, none, none⟩ .leaf
  .leaf))
  (.node 302 ⟨true, 1, false, false, 0, false, false, [], false, some [.con (.map none)], 8, some (9, 3), none, none⟩ (.node 301 ⟨true, 1, false, false, 0, false, false, [], false, some [.con (.map none)], 8, some (9, 3), none, none⟩ .leaf
  .leaf)
  (.node 303 ⟨true, 1, false, false, 0, false, false, [], false, some [.con .nilFunc], 8, none, none, none⟩ .leaf
  .leaf))))))))
  (.node 458 ⟨true, 1, false, false, 0, false, false, [], false, some [.con .nilFunc], 8, none, none, none⟩ (.node 380 ⟨true, 1, false, true, 384, false, false, [], false, some [.con (.slice none 0 0)], 24, none, none, none⟩ (.node 341 ⟨true, 1, false, false, 0, false, false, [], false, some [.con .nilFunc], 8, none, none, none⟩ (.node 323 ⟨true, 2, true, false, 0, false, false, [(0, 321), (1, 322)], true, some [.con (.map none), .con (.slice none 0 0)], 32, none, none, none⟩ (.node 314 ⟨true, 1, false, false, 0, false, false, [], false, some [.con .nilIface], 16, none, none, none⟩ (.node 309 ⟨true, 1, false, false, 0, false, false, [], false, some [.con (.pointer none)], 8, none, none, none⟩ (.node 307 ⟨true, 2, true, false, 0, false, false, [(0, 48), (1, 305)], true, some [.con (.int .i64 0), .con .nilFunc], 16, none, none, none⟩ (.node 306 ⟨true, 2, true, false, 0, false, false, [(0, 48), (1, 305)], true, some [.con (.int .i64 0), .con .nilFunc], 16, none, none, none⟩ (.node 305 ⟨true, 1, false, false, 0, false, false, [], false, some [.con .nilFunc], 8, none, none, none⟩ .leaf
  .leaf)
  .leaf)
  (.node 308 ⟨true, 1, false, true, 307, false, false, [], false, some [.con (.slice none 0 0)], 24, none, none, none⟩ .leaf
  .leaf))
  (.node 312 ⟨true, 3, true, false, 0, false, false, [(0, 17), (1, 309), (2, 310)], true, some [.con (.pointer none), .con (.pointer none), .con (.int .u64 0)], 24, none, none, none⟩ (.node 311 ⟨true, 3, true, false, 0, false, false, [(0, 17), (1, 309), (2, 310)], true, some [.con (.pointer none), .con (.pointer none), .con (.int .u64 0)], 24, none, none, none⟩ (.node 310 ⟨true, 1, false, false, 0, false, false, [], false, some [.con (.int .u64 0)], 8, none, some .u64, none⟩ .leaf
  .leaf)
  .leaf)
  (.node 313 ⟨true, 1, false, false, 0, false, false, [], false, some [.con .nilFunc], 8, none, none, none⟩ .leaf
  .leaf)))
  (.node 319 ⟨true, 1, false, false, 0, false, false, [], false, some [.con .nilFunc], 8, none, none, none⟩ (.node 317 ⟨true, 1, false, false, 0, false, false, [], false, some [.con (.int .u8 0)], 1, none, some .u8, none⟩ (.node 316 ⟨true, 1, false, false, 0, false, false, [], false, some [.con .nilFunc], 8, none, none, none⟩ (.node 315 ⟨true, 1, false, false, 0, false, false, [], false, some [.con .nilIface], 16, none, none, none⟩ .leaf
  .leaf)
  .leaf)
  (.node 318 ⟨true, 1, false, false, 0, false, false, [], false, some [.con .nilFunc], 8, none, none, none⟩ .leaf
  .leaf))
  (.node 321 ⟨true, 1, false, false, 0, false, false, [], false, some [.con (.map none)], 8, some (327, 3), none, none⟩ (.node 320 ⟨true, 1, false, false, 0, false, false, [], false, some [.con .nilFunc], 8, none, none, none⟩ .leaf
  .leaf)
  (.node 322 ⟨true, 1, false, true, 327, false, false, [], false, some [.con (.slice none 0 0)], 24, none, none, none⟩ .leaf
  .leaf))))
  (.node 332 ⟨true, 1, false, false, 0, false, false, [], false, some [.con .nilFunc], 8, none, none, none⟩ (.node 328 ⟨true, 1, false, false, 0, false, false, [], false, some [.con (.map none)], 8, some (334, 3), none, none⟩ (.node 326 ⟨true, 3, true, false, 0, false, false, [(0, 3), (1, 9), (2, 3)], true, some [.con (.int .i64 0), .con (.string ⟨#[]⟩), .con (.int .i64 0)], 32, none, none, none⟩ (.node 325 ⟨true, 1, false, false, 0, false, false, [], false, some [.con .nilFunc], 8, none, none, none⟩ (.node 324 ⟨true, 2, true, false, 0, false, false, [(0, 321), (1, 322)], true, some [.con (.map none), .con (.slice none 0 0)], 32, none, none, none⟩ .leaf
  .leaf)
  .leaf)
  (.node 327 ⟨true, 3, true, false, 0, false, false, [(0, 3), (1, 9), (2, 3)], true, some [.con (.int .i64 0), .con (.string ⟨#[]⟩), .con (.int .i64 0)], 32, none, none, none⟩ .leaf
  .leaf))
  (.node 330 ⟨true, 2, true, false, 0, false, false, [(0, 328), (1, 329)], true, some [.con (.map none), .con (.slice none 0 0)], 32, none, none, none⟩ (.node 329 ⟨true, 1, false, true, 334, false, false, [], false, some [.con (.slice none 0 0)], 24, none, none, none⟩ .leaf
  .leaf)
  (.node 331 ⟨true, 2, true, false, 0, false, false, [(0, 328), (1, 329)], true, some [.con (.map none), .con (.slice none 0 0)], 32, none, none, none⟩ .leaf
  .leaf)))
  (.node 337 ⟨true, 6, true, false, 0, false, false, [(0, 38), (1, 324), (3, 331), (5, 335)], true, some [.con (.slice none 0 0), .con (.map none), .con (.slice none 0 0), .con (.map none), .con (.slice none 0 0), .con (.map none)], 96, none, none, none⟩ (.node 335 ⟨true, 1, false, false, 0, false, false, [], false, some [.con (.map none)], 8, some (9, 494), none, none⟩ (.node 334 ⟨true, 4, true, false, 0, false, false, [(0, 3), (1, 229), (2, 3), (3, 3)], true, some [.con (.int .i64 0), .con (.int .i64 0), .con (.int .i64 0), .con (.int .i64 0)], 32, none, none, none⟩ (.node 333 ⟨true, 4, true, false, 0, false, false, [(0, 3), (1, 229), (2, 3), (3, 3)], true, some [.con (.int .i64 0), .con (.int .i64 0), .con (.int .i64 0), .con (.int .i64 0)], 32, none, none, none⟩ .leaf
  .leaf)
  .leaf)
  (.node 336 ⟨true, 6, true, false, 0, false, false, [(0, 38), (1, 324), (3, 331), (5, 335)], true, some [.con (.slice none 0 0), .con (.map none), .con (.slice none 0 0), .con (.map none), .con (.slice none 0 0), .con (.map none)], 96, none, none, none⟩ .leaf
  .leaf))
  (.node 339 ⟨true, 1, false, false, 0, false, false, [], false, some [.con (.map none)], 8, some (9, 229), none, none⟩ (.node 338 ⟨true, 1, false, false, 0, false, false, [], false, some [.con .nilFunc], 8, none, none, none⟩ .leaf
  .leaf)
  (.node 340 ⟨true, 1, false, false, 0, false, false, [], false, some [.con (.map none)], 8, some (9, 229), none, none⟩ .leaf
  .leaf)))))
  (.node 362 ⟨true, 1, false, false, 0, false, false, [], false, some [.con .nilFunc], 8, none, none, none⟩ (.node 351 ⟨true, 1, false, false, 0, false, false, [], false, some [.con .nilFunc], 8, none, none, none⟩ (.node 346 ⟨true, 1, false, false, 0, false, false, [], false, some [.con .nilFunc], 8, none, none, none⟩ (.node 344 ⟨true, 1, false, false, 0, false, false, [], false, some [.con .nilFunc], 8, none, none, none⟩ (.node 343 ⟨true, 1, false, false, 0, false, false, [], false, some [.con .nilFunc], 8, none, none, none⟩ (.node 342 ⟨true, 1, false, false, 0, false, false, [], false, some [.con .nilFunc], 8, none, none, none⟩ .leaf
  .leaf)
  .leaf)
  (.node 345 ⟨true, 1, false, false, 0, false, false, [], false, some [.con .nilFunc], 8, none, none, none⟩ .leaf
  .leaf))
  (.node 349 ⟨true, 1, false, false, 0, false, false, [], false, some [.con .nilFunc], 8, none, none, none⟩ (.node 348 ⟨true, 1, false, false, 0, false, false, [], false, some [.con .nilFunc], 8, none, none, none⟩ (.node 347 ⟨true, 1, false, false, 0, false, false, [], false, some [.con .nilFunc], 8, none, none, none⟩ .leaf
  .leaf)
  .leaf)
  (.node 350 ⟨true, 1, false, false, 0, false, false, [], false, some [.con .nilFunc], 8, none, none, none⟩ .leaf
  .leaf)))
  (.node 357 ⟨true, 1, false, false, 0, false, false, [], false, some [.con (.int .u64 0)], 8, none, some .u64, none⟩ (.node 354 ⟨true, 1, false, false, 0, false, false, [], false, some [.con (.int .u32 0)], 4, none, some .u32, none⟩ (.node 353 ⟨true, 1, false, false, 0, false, false, [], false, some [.con .nilFunc], 8, none, none, none⟩ (.node 352 ⟨true, 1, false, false, 0, false, false, [], false, some [.con .nilFunc], 8, none, none, none⟩ .leaf
  .leaf)
  .leaf)
  (.node 356 ⟨true, 1, false, false, 0, false, false, [], false, some [.con .nilFunc], 8, none, none, none⟩ .leaf
  .leaf))
  (.node 360 ⟨true, 1, false, false, 0, false, false, [], false, some [.con .nilFunc], 8, none, none, none⟩ (.node 359 ⟨true, 1, false, false, 0, false, false, [], false, some [.con .nilFunc], 8, none, none, none⟩ .leaf
  .leaf)
  (.node 361 ⟨true, 1, false, false, 0, false, false, [], false, some [.con .nilFunc], 8, none, none, none⟩ .leaf
  .leaf))))
  (.node 371 ⟨true, 1, false, false, 0, false, false, [], false, some [.con .nilFunc], 8, none, none, none⟩ (.node 367 ⟨true, 1, false, false, 0, false, false, [], false, some [.con .nilFunc], 8, none, none, none⟩ (.node 365 ⟨true, 1, false, false, 0, false, false, [], false, some [.con .nilFunc], 8, none, none, none⟩ (.node 364 ⟨true, 1, false, false, 0, false, false, [], false, some [.con (.pointer none)], 8, none, none, none⟩ (.node 363 ⟨true, 1, false, false, 0, false, false, [], false, some [.con .nilFunc], 8, none, none, none⟩ .leaf
  .leaf)
  .leaf)
  (.node 366 ⟨true, 1, false, false, 0, false, false, [], false, some [.con .nilFunc], 8, none, none, none⟩ .leaf
  .leaf))
  (.node 369 ⟨true, 1, false, false, 0, false, false, [], false, some [.con .nilFunc], 8, none, none, none⟩ (.node 368 ⟨true, 1, false, false, 0, false, false, [], false, some [.con .nilFunc], 8, none, none, none⟩ .leaf
  .leaf)
  (.node 370 ⟨true, 1, false, false, 0, false, false, [], false, some [.con .nilFunc], 8, none, none, none⟩ .leaf
  .leaf)))
  (.node 376 ⟨true, 1, false, false, 0, false, false, [], false, some [.con .nilFunc], 8, none, none, none⟩ (.node 374 ⟨true, 1, false, false, 0, false, false, [], false, some [.con .nilFunc], 8, none, none, none⟩ (.node 373 ⟨true, 1, false, false, 0, false, false, [], false, some [.con .nilFunc], 8, none, none, none⟩ (.node 372 ⟨true, 1, false, false, 0, false, false, [], false, some [.con .nilFunc], 8, none, none, none⟩ .leaf
  .leaf)
  .leaf)
  (.node 375 ⟨true, 1, false, false, 0, false, false, [], false, some [.con .nilFunc], 8, none, none, none⟩ .leaf
  .leaf))
  (.node 378 ⟨true, 1, false, false, 0, false, false, [], false, some [.con .nilFunc], 8, none, none, none⟩ (.node 377 ⟨true, 1, false, false, 0, false, false, [], false, some [.con .nilFunc], 8, none, none, none⟩ .leaf
  .leaf)
  (.node 379 ⟨true, 1, false, false, 0, false, false, [], false, some [.con .nilFunc], 8, none, none, none⟩ .leaf
  .leaf))))))
  (.node 421 ⟨true, 1, false, false, 0, false, false, [], false, some [.con .nilFunc], 8, none, none, none⟩ (.node 400 ⟨true, 1, false, false, 0, false, false, [], false, some [.con .nilFunc], 8, none, none, none⟩ (.node 390 ⟨true, 1, false, false, 0, false, false, [], false, some [.con .nilFunc], 8, none, none, none⟩ (.node 385 ⟨true, 1, false, false, 0, false, false, [], false, some [.con .nilFunc], 8, none, none, none⟩ (.node 383 ⟨true, 1, false, false, 0, false, false, [], false, some [.con .nilFunc], 8, none, none, none⟩ (.node 382 ⟨true, 2, true, false, 0, false, false, [(0, 125), (1, 380)], true, some [.con (.slice none 0 0), .con (.slice none 0 0)], 48, none, none, none⟩ (.node 381 ⟨true, 2, true, false, 0, false, false, [(0, 125), (1, 380)], true, some [.con (.slice none 0 0), .con (.slice none 0 0)], 48, none, none, none⟩ .leaf
  .leaf)
  .leaf)
  (.node 384 ⟨true, 1, false, true, 434, false, false, [], false, some [.con (.slice none 0 0)], 24, none, none, none⟩ .leaf
  .leaf))
  (.node 388 ⟨true, 1, true, false, 0, false, false, [(0, 17)], true, some [.con (.pointer none)], 8, none, none, none⟩ (.node 387 ⟨true, 1, true, false, 0, false, false, [(0, 17)], true, some [.con (.pointer none)], 8, none, none, none⟩ (.node 386 ⟨true, 1, false, false, 0, false, false, [], false, some [.con .nilFunc], 8, none, none, none⟩ .leaf
  .leaf)
  .leaf)
  (.node 389 ⟨true, 1, false, false, 0, false, false, [], false, some [.con (.pointer none)], 8, none, none, none⟩ .leaf
  .leaf)))
  (.node 396 ⟨true, 1, false, false, 0, false, false, [], false, some [.con .nilIface], 16, none, none, none⟩ (.node 393 ⟨true, 1, false, false, 0, false, false, [], false, some [.con .nilIface], 16, none, none, none⟩ (.node 392 ⟨true, 1, false, false, 0, false, false, [], false, some [.con .nilFunc], 8, none, none, none⟩ (.node 391 ⟨true, 1, false, false, 0, false, false, [], false, some [.con .nilFunc], 8, none, none, none⟩ .leaf
  .leaf)
  .leaf)
  (.node 395 ⟨true, 1, false, false, 0, false, false, [], false, some [.con .nilFunc], 8, none, none, none⟩ .leaf
  .leaf))
  (.node 398 ⟨true, 1, false, false, 0, false, false, [], false, some [.con .nilIface], 16, none, none, none⟩ (.node 397 ⟨true, 1, false, false, 0, false, false, [], false, some [.con .nilFunc], 8, none, none, none⟩ .leaf
  .leaf)
  (.node 399 ⟨true, 1, false, true, 156, false, false, [], false, some [.con (.slice none 0 0)], 24, none, none, none⟩ .leaf
  .leaf))))
  (.node 410 ⟨true, 1, false, false, 0, false, false, [], false, some [.con .nilFunc], 8, none, none, none⟩ (.node 406 ⟨true, 1, false, false, 0, false, false, [], false, some [.con .nilFunc], 8, none, none, none⟩ (.node 403 ⟨true, 1, false, false, 0, false, false, [], false, some [.con .nilFunc], 8, none, none, none⟩ (.node 402 ⟨true, 1, false, false, 0, false, false, [], false, some [.con .nilFunc], 8, none, none, none⟩ (.node 401 ⟨true, 1, false, false, 0, false, false, [], false, some [.con .nilFunc], 8, none, none, none⟩ .leaf
  .leaf)
  .leaf)
  (.node 404 ⟨true, 1, false, false, 0, false, false, [], false, some [.con .nilFunc], 8, none, none, none⟩ .leaf
  .leaf))
  (.node 408 ⟨true, 1, false, false, 0, false, false, [], false, some [.con .nilFunc], 8, none, none, none⟩ (.node 407 ⟨true, 1, false, false, 0, false, false, [], false, some [.con .nilFunc], 8, none, none, none⟩ .leaf
  .leaf)
  (.node 409 ⟨true, 1, false, false, 0, false, false, [], false, some [.con .nilFunc], 8, none, none, none⟩ .leaf
  .leaf)))
  (.node 416 ⟨true, 1, false, false, 0, false, false, [], false, some [.con .nilFunc], 8, none, none, none⟩ (.node 413 ⟨true, 6, true, false, 0, false, false, [(0, 3), (1, 26)], true, some [.con (.int .i64 0), .con (.int .i64 0), .con (.int .i64 0), .con (.slice none 0 0), .con (.string ⟨#[]⟩), .con (.slice none 0 0)], 88, none, none, none⟩ (.node 412 ⟨true, 1, false, false, 0, false, false, [], false, some [.con .nilFunc], 8, none, none, none⟩ (.node 411 ⟨true, 1, false, false, 0, false, false, [], false, some [.con .nilFunc], 8, none, none, none⟩ .leaf
  .leaf)
  .leaf)
  (.node 414 ⟨true, 6, true, false, 0, false, false, [(0, 3), (1, 26)], true, some [.con (.int .i64 0), .con (.int .i64 0), .con (.int .i64 0), .con (.slice none 0 0), .con (.string ⟨#[]⟩), .con (.slice none 0 0)], 88, none, none, none⟩ .leaf
  .leaf))
  (.node 419 ⟨true, 1, false, false, 0, false, false, [], false, some [.con .nilFunc], 8, none, none, none⟩ (.node 418 ⟨true, 1, false, false, 0, false, false, [], false, some [.con .nilFunc], 8, none, none, none⟩ .leaf
  .leaf)
  (.node 420 ⟨true, 1, false, false, 0, false, false, [], false, some [.con .nilFunc], 8, none, none, none⟩ .leaf
  .leaf)))))
  (.node 440 ⟨true, 1, false, false, 0, false, false, [], false, some [.con .nilFunc], 8, none, none, none⟩ (.node 430 ⟨true, 1, false, false, 0, false, false, [], false, some [.con .nilFunc], 8, none, none, none⟩ (.node 426 ⟨true, 1, false, false, 0, false, false, [], false, some [.con .nilFunc], 8, none, none, none⟩ (.node 424 ⟨true, 9, true, false, 0, false, false, [(0, 369), (1, 291), (3, 291), (5, 291), (7, 291)], true, some [.con .nilFunc, .con (.int .i64 0), .con (.int .i64 0), .con (.int .i64 0), .con (.int .i64 0), .con (.int .i64 0), .con (.int .i64 0), .con (.int .i64 0), .con (.int .i64 0)], 72, none, none, none⟩ (.node 423 ⟨true, 1, false, false, 0, false, false, [], false, some [.con .nilFunc], 8, none, none, none⟩ (.node 422 ⟨true, 1, false, false, 0, false, false, [], false, some [.con .nilFunc], 8, none, none, none⟩ .leaf
  .leaf)
  .leaf)
  (.node 425 ⟨true, 9, true, false, 0, false, false, [(0, 369), (1, 291), (3, 291), (5, 291), (7, 291)], true, some [.con .nilFunc, .con (.int .i64 0), .con (.int .i64 0), .con (.int .i64 0), .con (.int .i64 0), .con (.int .i64 0), .con (.int .i64 0), .con (.int .i64 0), .con (.int .i64 0)], 72, none, none, none⟩ .leaf
  .leaf))
  (.node 428 ⟨true, 1, false, false, 0, false, false, [], false, some [.con .nilFunc], 8, none, none, none⟩ (.node 427 ⟨true, 1, false, false, 0, false, false, [], false, some [.con .nilFunc], 8, none, none, none⟩ .leaf
  .leaf)
  (.node 429 ⟨true, 1, false, false, 0, false, false, [], false, some [.con .nilFunc], 8, none, none, none⟩ .leaf
  .leaf)))
  (.node 436 ⟨true, 1, false, false, 0, false, false, [], false, some [.con .nilFunc], 8, none, none, none⟩ (.node 433 ⟨true, 2, true, false, 0, false, false, [(0, 3), (1, 96)], true, some [.con (.int .i64 0), .con (.slice none 0 0)], 32, none, none, none⟩ (.node 432 ⟨true, 1, false, false, 0, false, false, [], false, some [.con .nilFunc], 8, none, none, none⟩ (.node 431 ⟨true, 1, false, false, 0, false, false, [], false, some [.con .nilFunc], 8, none, none, none⟩ .leaf
  .leaf)
  .leaf)
  (.node 434 ⟨true, 2, true, false, 0, false, false, [(0, 3), (1, 96)], true, some [.con (.int .i64 0), .con (.slice none 0 0)], 32, none, none, none⟩ .leaf
  .leaf))
  (.node 438 ⟨true, 1, false, false, 0, false, false, [], false, some [.con (.pointer none)], 8, none, none, none⟩ (.node 437 ⟨true, 1, false, false, 0, false, false, [], false, some [.con (.pointer none)], 8, none, none, none⟩ .leaf
  .leaf)
  (.node 439 ⟨true, 1, false, false, 0, false, false, [], false, some [.con .nilFunc], 8, none, none, none⟩ .leaf
  .leaf))))
  (.node 449 ⟨true, 1, false, false, 0, false, false, [], false, some [.con .nilFunc], 8, none, none, none⟩ (.node 445 ⟨true, 1, false, false, 0, false, false, [], false, some [.con .nilFunc], 8, none, none, none⟩ (.node 443 ⟨true, 3, true, false, 0, false, false, [(0, 3), (1, 2), (2, 9)], true, some [.con (.int .i64 0), .con (.int .i64 0), .con (.string ⟨#[]⟩)], 32, none, none, none⟩ (.node 442 ⟨true, 3, true, false, 0, false, false, [(0, 3), (1, 2), (2, 9)], true, some [.con (.int .i64 0), .con (.int .i64 0), .con (.string ⟨#[]⟩)], 32, none, none, none⟩ (.node 441 ⟨true, 1, false, false, 0, false, false, [], false, some [.con (.map none)], 8, some (443, 184), none, none⟩ .leaf
  .leaf)
  .leaf)
  (.node 444 ⟨true, 1, false, false, 0, false, false, [], false, some [.con .nilFunc], 8, none, none, none⟩ .leaf
  .leaf))
  (.node 447 ⟨true, 1, false, false, 0, false, false, [], false, some [.con .nilFunc], 8, none, none, none⟩ (.node 446 ⟨true, 1, false, false, 0, false, false, [], false, some [.con .nilFunc], 8, none, none, none⟩ .leaf
  .leaf)
  (.node 448 ⟨true, 1, false, false, 0, false, false, [], false, some [.con .nilFunc], 8, none, none, none⟩ .leaf
  .leaf)))
  (.node 454 ⟨true, 1, false, false, 0, false, false, [], false, some [.con .nilFunc], 8, none, none, none⟩ (.node 452 ⟨true, 1, false, false, 0, false, false, [], false, some [.con .nilFunc], 8, none, none, none⟩ (.node 451 ⟨true, 1, false, false, 0, false, false, [], false, some [.con .nilFunc], 8, none, none, none⟩ (.node 450 ⟨true, 1, false, false, 0, false, false, [], false, some [.con .nilFunc], 8, none, none, none⟩ .leaf
  .leaf)
  .leaf)
  (.node 453 ⟨true, 1, false, false, 0, false, false, [], false, some [.con .nilFunc], 8, none, none, none⟩ .leaf
  .leaf))
  (.node 456 ⟨true, 1, false, false, 0, false, false, [], false, some [.con .nilFunc], 8, none, none, none⟩ (.node 455 ⟨true, 1, false, false, 0, false, false, [], false, some [.con .nilFunc], 8, none, none, none⟩ .leaf
  .leaf)
  (.node 457 ⟨true, 1, false, false, 0, false, false, [], false, some [.con .nilFunc], 8, none, none, none⟩ .leaf
  .leaf)))))))
  (.node 543 ⟨true, 1, false, false, 0, false, false, [], false, some [.con .nilFunc], 8, none, none, none⟩ (.node 501 ⟨true, 1, false, false, 0, false, false, [], false, some [.con .nilFunc], 8, none, none, none⟩ (.node 479 ⟨true, 1, false, false, 0, false, false, [], false, some [.con .nilFunc], 8, none, none, none⟩ (.node 470 ⟨true, 1, false, false, 0, false, false, [], false, some [.con .nilFunc], 8, none, none, none⟩ (.node 464 ⟨true, 1, false, false, 0, false, false, [], false, some [.con .nilFunc], 8, none, none, none⟩ (.node 462 ⟨true, 6, true, false, 0, false, false, [(0, 3), (1, 9), (2, 2), (3, 22), (4, 33)], true, some [.con (.int .i64 0), .con (.string ⟨#[]⟩), .con (.int .i64 0), .con (.slice none 0 0), .con (.int .i64 0), .con (.int .i64 0)], 72, none, none, none⟩ (.node 461 ⟨true, 1, false, false, 0, false, false, [], false, some [.con .nilFunc], 8, none, none, none⟩ (.node 459 ⟨true, 1, false, true, 463, false, false, [], false, some [.con (.slice none 0 0)], 24, none, none, none⟩ .leaf
  .leaf)
  .leaf)
  (.node 463 ⟨true, 6, true, false, 0, false, false, [(0, 3), (1, 9), (2, 2), (3, 22), (4, 33)], true, some [.con (.int .i64 0), .con (.string ⟨#[]⟩), .con (.int .i64 0), .con (.slice none 0 0), .con (.int .i64 0), .con (.int .i64 0)], 72, none, none, none⟩ .leaf
  .leaf))
  (.node 467 ⟨true, 1, false, false, 0, false, false, [], false, some [.con .nilFunc], 8, none, none, none⟩ (.node 466 ⟨true, 1, false, false, 0, false, false, [], false, some [.con (.map none)], 8, some (3, 241), none, none⟩ (.node 465 ⟨true, 1, false, false, 0, false, false, [], false, some [.con (.map none)], 8, some (3, 241), none, none⟩ .leaf
  .leaf)
  .leaf)
  (.node 468 ⟨true, 1, false, false, 0, false, false, [], false, some [.con .nilFunc], 8, none, none, none⟩ .leaf
  .leaf)))
  (.node 475 ⟨true, 1, false, false, 0, false, false, [], false, some [.con .nilFunc], 8, none, none, none⟩ (.node 473 ⟨true, 2, true, false, 0, false, false, [(0, 163), (1, 184)], true, some [.con .nilIface, .con (.slice none 0 0)], 40, none, none, none⟩ (.node 472 ⟨true, 2, true, false, 0, false, false, [(0, 163), (1, 184)], true, some [.con .nilIface, .con (.slice none 0 0)], 40, none, none, none⟩ (.node 471 ⟨true, 1, false, false, 0, false, false, [], false, some [.con .nilFunc], 8, none, none, none⟩ .leaf
  .leaf)
  .leaf)
  (.node 474 ⟨true, 1, false, false, 0, false, false, [], false, some [.con .nilFunc], 8, none, none, none⟩ .leaf
  .leaf))
  (.node 477 ⟨true, 1, false, false, 0, false, false, [], false, some [.con .nilFunc], 8, none, none, none⟩ (.node 476 ⟨true, 1, false, false, 0, false, false, [], false, some [.con .nilFunc], 8, none, none, none⟩ .leaf
  .leaf)
  (.node 478 ⟨true, 1, false, true, 473, false, false, [], false, some [.con (.slice none 0 0)], 24, none, none, none⟩ .leaf
  .leaf))))
  (.node 489 ⟨true, 4, true, false, 0, false, false, [(0, 484), (1, 3), (2, 33)], true, some [.con (.slice none 0 0), .con (.int .i64 0), .con (.int .i64 0), .con (.int .i64 0)], 48, none, none, none⟩ (.node 484 ⟨true, 1, false, true, 518, false, false, [], false, some [.con (.slice none 0 0)], 24, none, none, none⟩ (.node 482 ⟨true, 1, false, false, 0, false, false, [], false, some [.con .nilFunc], 8, none, none, none⟩ (.node 481 ⟨true, 1, false, false, 0, false, false, [], false, some [.con .nilFunc], 8, none, none, none⟩ (.node 480 ⟨true, 1, false, false, 0, false, false, [], false, some [.con .nilFunc], 8, none, none, none⟩ .leaf
  .leaf)
  .leaf)
  (.node 483 ⟨true, 1, false, false, 0, false, false, [], false, some [.con .nilFunc], 8, none, none, none⟩ .leaf
  .leaf))
  (.node 487 ⟨true, 1, false, false, 0, false, false, [], false, some [.con .nilFunc], 8, none, none, none⟩ (.node 486 ⟨true, 1, false, false, 0, false, false, [], false, some [.con .nilFunc], 8, none, none, none⟩ .leaf
  .leaf)
  (.node 488 ⟨true, 4, true, false, 0, false, false, [(0, 484), (1, 3), (2, 33)], true, some [.con (.slice none 0 0), .con (.int .i64 0), .con (.int .i64 0), .con (.int .i64 0)], 48, none, none, none⟩ .leaf
  .leaf)))
  (.node 496 ⟨true, 1, false, false, 0, false, false, [], false, some [.con .nilFunc], 8, none, none, none⟩ (.node 493 ⟨true, 4, true, false, 0, false, false, [(0, 234), (2, 9), (3, 4)], true, some [.con (.slice none 0 0), .con (.int .i64 0), .con (.string ⟨#[]⟩), .con (.bool false)], 56, none, none, none⟩ (.node 492 ⟨true, 1, false, false, 0, false, false, [], false, some [.con .nilFunc], 8, none, none, none⟩ (.node 491 ⟨true, 1, false, false, 0, false, false, [], false, some [.con .nilFunc], 8, none, none, none⟩ .leaf
  .leaf)
  .leaf)
  (.node 494 ⟨true, 4, true, false, 0, false, false, [(0, 234), (2, 9), (3, 4)], true, some [.con (.slice none 0 0), .con (.int .i64 0), .con (.string ⟨#[]⟩), .con (.bool false)], 56, none, none, none⟩ .leaf
  .leaf))
  (.node 498 ⟨true, 1, false, false, 0, false, false, [], false, some [.con .nilFunc], 8, none, none, none⟩ (.node 497 ⟨true, 1, false, false, 0, false, false, [], false, some [.con .nilFunc], 8, none, none, none⟩ .leaf
  .leaf)
  (.node 500 ⟨true, 1, false, false, 0, false, false, [], false, some [.con .nilFunc], 8, none, none, none⟩ .leaf
  .leaf)))))
  (.node 520 ⟨true, 1, false, false, 0, false, false, [], false, some [.con (.pointer none)], 8, none, none, none⟩ (.node 510 ⟨true, 1, false, false, 0, false, false, [], false, some [.con .nilFunc], 8, none, none, none⟩ (.node 506 ⟨true, 1, false, false, 0, false, false, [], false, some [.con .nilFunc], 8, none, none, none⟩ (.node 504 ⟨true, 1, false, false, 0, false, false, [], false, some [.con .nilFunc], 8, none, none, none⟩ (.node 503 ⟨true, 7, true, false, 0, false, false, [(0, 414), (6, 3)], true, some [.con (.int .i64 0), .con (.int .i64 0), .con (.int .i64 0), .con (.slice none 0 0), .con (.string ⟨#[]⟩), .con (.slice none 0 0), .con (.int .i64 0)], 96, none, none, none⟩ (.node 502 ⟨true, 7, true, false, 0, false, false, [(0, 414), (6, 3)], true, some [.con (.int .i64 0), .con (.int .i64 0), .con (.int .i64 0), .con (.slice none 0 0), .con (.string ⟨#[]⟩), .con (.slice none 0 0), .con (.int .i64 0)], 96, none, none, none⟩ .leaf
  .leaf)
  .leaf)
  (.node 505 ⟨true, 1, false, false, 0, false, false, [], false, some [.con (.int .i64 0)], 8, none, some .i64, none⟩ .leaf
  .leaf))
  (.node 508 ⟨true, 1, false, false, 0, false, false, [], false, some [.con .nilFunc], 8, none, none, none⟩ (.node 507 ⟨true, 1, false, false, 0, false, false, [], false, some [.con .nilFunc], 8, none, none, none⟩ .leaf
  .leaf)
  (.node 509 ⟨true, 1, false, true, 512, false, false, [], false, some [.con (.slice none 0 0)], 24, none, none, none⟩ .leaf
  .leaf)))
  (.node 516 ⟨true, 1, false, false, 0, false, false, [], false, some [.con .nilFunc], 8, none, none, none⟩ (.node 514 ⟨true, 1, false, false, 0, false, false, [], false, some [.con .nilFunc], 8, none, none, none⟩ (.node 512 ⟨true, 1, false, true, 3, false, false, [], false, some [.con (.slice none 0 0)], 24, none, none, none⟩ (.node 511 ⟨true, 1, false, false, 0, false, false, [], false, some [.con .nilFunc], 8, none, none, none⟩ .leaf
  .leaf)
  .leaf)
  (.node 515 ⟨true, 1, false, false, 0, false, false, [], false, some [.con .nilFunc], 8, none, none, none⟩ .leaf
  .leaf))
  (.node 518 ⟨true, 4, true, false, 0, false, false, [(0, 21), (1, 3), (2, 33)], true, some [.con (.int .i32 0), .con (.int .i64 0), .con (.int .i64 0), .con (.int .i64 0)], 32, none, none, none⟩ (.node 517 ⟨true, 4, true, false, 0, false, false, [(0, 21), (1, 3), (2, 33)], true, some [.con (.int .i32 0), .con (.int .i64 0), .con (.int .i64 0), .con (.int .i64 0)], 32, none, none, none⟩ .leaf
  .leaf)
  (.node 519 ⟨true, 1, false, false, 0, false, false, [], false, some [.con .nilFunc], 8, none, none, none⟩ .leaf
  .leaf))))
  (.node 532 ⟨true, 1, false, false, 0, false, false, [], false, some [.con .nilFunc], 8, none, none, none⟩ (.node 527 ⟨true, 1, false, false, 0, false, false, [], false, some [.con .nilFunc], 8, none, none, none⟩ (.node 524 ⟨true, 1, false, false, 0, false, false, [], false, some [.con .nilFunc], 8, none, none, none⟩ (.node 522 ⟨true, 1, false, false, 0, false, false, [], false, some [.con .nilFunc], 8, none, none, none⟩ (.node 521 ⟨true, 1, false, false, 0, false, false, [], false, some [.con .nilFunc], 8, none, none, none⟩ .leaf
  .leaf)
  .leaf)
  (.node 525 ⟨true, 1, false, false, 0, false, false, [], false, some [.con .nilFunc], 8, none, none, none⟩ .leaf
  .leaf))
  (.node 530 ⟨true, 1, false, false, 0, false, false, [], false, some [.con .nilFunc], 8, none, none, none⟩ (.node 529 ⟨true, 1, false, false, 0, false, false, [], false, some [.con .nilFunc], 8, none, none, none⟩ .leaf
  .leaf)
  (.node 531 ⟨true, 1, false, false, 0, false, false, [], false, some [.con .nilFunc], 8, none, none, none⟩ .leaf
  .leaf)))
  (.node 539 ⟨true, 1, false, false, 0, false, false, [], false, some [.con .nilFunc], 8, none, none, none⟩ (.node 537 ⟨true, 1, false, false, 0, false, false, [], false, some [.con .nilFunc], 8, none, none, none⟩ (.node 536 ⟨true, 1, false, false, 0, false, false, [], false, some [.con .nilFunc], 8, none, none, none⟩ (.node 535 ⟨true, 1, false, false, 0, false, false, [], false, some [.con .nilFunc], 8, none, none, none⟩ .leaf
  .leaf)
  .leaf)
  (.node 538 ⟨true, 1, false, false, 0, false, false, [], false, some [.con .nilFunc], 8, none, none, none⟩ .leaf
  .leaf))
  (.node 541 ⟨true, 1, false, false, 0, false, false, [], false, some [.con .nilFunc], 8, none, none, none⟩ (.node 540 ⟨true, 1, false, false, 0, false, false, [], false, some [.con .nilFunc], 8, none, none, none⟩ .leaf
  .leaf)
  (.node 542 ⟨true, 1, false, false, 0, false, false, [], false, some [.con .nilFunc], 8, none, none, none⟩ .leaf
  .leaf))))))
  (.node 582 ⟨true, 1, false, false, 0, false, false, [], false, some [.con .nilFunc], 8, none, none, none⟩ (.node 562 ⟨true, 1, false, false, 0, false, false, [], false, some [.con .nilFunc], 8, none, none, none⟩ (.node 553 ⟨true, 1, false, false, 0, false, false, [], false, some [.con .nilFunc], 8, none, none, none⟩ (.node 548 ⟨true, 2, true, false, 0, false, false, [(0, 512), (1, 3)], true, some [.con (.slice none 0 0), .con (.int .i64 0)], 32, none, none, none⟩ (.node 546 ⟨true, 1, false, false, 0, false, false, [], false, some [.con .nilFunc], 8, none, none, none⟩ (.node 545 ⟨true, 1, false, true, 548, false, false, [], false, some [.con (.slice none 0 0)], 24, none, none, none⟩ (.node 544 ⟨true, 1, false, false, 0, false, false, [], false, some [.con .nilFunc], 8, none, none, none⟩ .leaf
  .leaf)
  .leaf)
  (.node 547 ⟨true, 2, true, false, 0, false, false, [(0, 512), (1, 3)], true, some [.con (.slice none 0 0), .con (.int .i64 0)], 32, none, none, none⟩ .leaf
  .leaf))
  (.node 551 ⟨true, 1, false, false, 0, false, false, [], false, some [.con .nilFunc], 8, none, none, none⟩ (.node 550 ⟨true, 1, false, false, 0, false, false, [], false, some [.con .nilFunc], 8, none, none, none⟩ (.node 549 ⟨true, 1, false, false, 0, false, false, [], false, some [.con .nilFunc], 8, none, none, none⟩ .leaf
  .leaf)
  .leaf)
  (.node 552 ⟨true, 1, false, false, 0, false, false, [], false, some [.con .nilFunc], 8, none, none, none⟩ .leaf
  .leaf)))
  (.node 558 ⟨true, 1, false, false, 0, false, false, [], false, some [.con .nilFunc], 8, none, none, none⟩ (.node 556 ⟨true, 1, false, false, 0, false, false, [], false, some [.con .nilFunc], 8, none, none, none⟩ (.node 555 ⟨true, 1, false, false, 0, false, false, [], false, some [.con .nilFunc], 8, none, none, none⟩ (.node 554 ⟨true, 1, false, false, 0, false, false, [], false, some [.con .nilFunc], 8, none, none, none⟩ .leaf
  .leaf)
  .leaf)
  (.node 557 ⟨true, 1, false, false, 0, false, false, [], false, some [.con .nilFunc], 8, none, none, none⟩ .leaf
  .leaf))
  (.node 560 ⟨true, 1, false, true, 21, false, false, [], false, some [.con (.slice none 0 0)], 24, none, none, none⟩ (.node 559 ⟨true, 1, false, false, 0, false, false, [], false, some [.con .nilFunc], 8, none, none, none⟩ .leaf
  .leaf)
  (.node 561 ⟨true, 1, false, false, 0, false, false, [], false, some [.con .nilFunc], 8, none, none, none⟩ .leaf
  .leaf))))
  (.node 573 ⟨true, 1, false, false, 0, false, false, [], false, some [.con .nilFunc], 8, none, none, none⟩ (.node 569 ⟨true, 1, false, false, 0, false, false, [], false, some [.con .nilFunc], 8, none, none, none⟩ (.node 566 ⟨true, 1, false, false, 0, false, false, [], false, some [.con .nilFunc], 8, none, none, none⟩ (.node 565 ⟨true, 1, false, false, 0, false, false, [], false, some [.con .nilFunc], 8, none, none, none⟩ (.node 564 ⟨true, 1, false, false, 0, false, false, [], false, some [.con .nilFunc], 8, none, none, none⟩ .leaf
  .leaf)
  .leaf)
  (.node 567 ⟨true, 1, false, false, 0, false, false, [], false, some [.con (.pointer none)], 8, none, none, none⟩ .leaf
  .leaf))
  (.node 571 ⟨true, 3, true, false, 0, false, false, [(0, 220), (1, 570), (2, 340)], true, some [.con (.pointer none), .con (.slice none 0 0), .con (.map none)], 40, none, none, none⟩ (.node 570 ⟨true, 1, false, true, 9, false, false, [], false, some [.con (.slice none 0 0)], 24, none, none, none⟩ .leaf
  .leaf)
  (.node 572 ⟨true, 3, true, false, 0, false, false, [(0, 220), (1, 570), (2, 340)], true, some [.con (.pointer none), .con (.slice none 0 0), .con (.map none)], 40, none, none, none⟩ .leaf
  .leaf)))
  (.node 578 ⟨true, 1, false, false, 0, false, false, [], false, some [.con .nilFunc], 8, none, none, none⟩ (.node 576 ⟨true, 1, false, false, 0, false, false, [], false, some [.con .nilFunc], 8, none, none, none⟩ (.node 575 ⟨true, 1, false, false, 0, false, false, [], false, some [.con .nilFunc], 8, none, none, none⟩ (.node 574 ⟨true, 1, false, false, 0, false, false, [], false, some [.con .nilFunc], 8, none, none, none⟩ .leaf
  .leaf)
  .leaf)
  (.node 577 ⟨true, 1, false, false, 0, false, false, [], false, some [.con .nilFunc], 8, none, none, none⟩ .leaf
  .leaf))
  (.node 580 ⟨true, 1, false, false, 0, false, false, [], false, some [.con .nilFunc], 8, none, none, none⟩ (.node 579 ⟨true, 1, false, false, 0, false, false, [], false, some [.con .nilFunc], 8, none, none, none⟩ .leaf
  .leaf)
  (.node 581 ⟨true, 1, false, false, 0, false, false, [], false, some [.con .nilFunc], 8, none, none, none⟩ .leaf
  .leaf)))))
  (.node 600 ⟨true, 11, true, false, 0, false, false, [(0, 12), (1, 12), (2, 354), (3, 594), (4, 5), (5, 5), (6, 317), (7, 595), (8, 596), (9, 597), (10, 598)], true, some [.con (.int .u64 0), .con (.int .u64 0), .con (.int .u32 0), .con (.int .u8 0), .con (.int .u8 0), .con (.int .u8 0), .con (.int .u8 0), .con .nilFunc, .con (.pointer none), .con (.int .i32 0), .con (.int .i32 0)], 48, none, none, none⟩ (.node 591 ⟨true, 0, true, false, 0, false, false, [(0, 590)], true, some [], 0, none, none, none⟩ (.node 587 ⟨true, 1, false, false, 0, false, false, [], false, some [.con .nilFunc], 8, none, none, none⟩ (.node 585 ⟨true, 1, false, false, 0, false, false, [], false, some [.con .nilFunc], 8, none, none, none⟩ (.node 584 ⟨true, 1, false, false, 0, false, false, [], false, some [.con .nilFunc], 8, none, none, none⟩ (.node 583 ⟨true, 1, false, false, 0, false, false, [], false, some [.con .nilFunc], 8, none, none, none⟩ .leaf
  .leaf)
  .leaf)
  (.node 586 ⟨true, 1, false, false, 0, false, false, [], false, some [.con .nilFunc], 8, none, none, none⟩ .leaf
  .leaf))
  (.node 589 ⟨true, 4, true, false, 0, false, false, [(0, 17), (1, 17), (2, 17), (3, 9)], true, some [.con (.pointer none), .con (.pointer none), .con (.pointer none), .con (.string ⟨#[]⟩)], 40, none, none, none⟩ (.node 588 ⟨true, 4, true, false, 0, false, false, [(0, 17), (1, 17), (2, 17), (3, 9)], true, some [.con (.pointer none), .con (.pointer none), .con (.pointer none), .con (.string ⟨#[]⟩)], 40, none, none, none⟩ .leaf
  .leaf)
  (.node 590 ⟨true, 0, true, false, 0, false, false, [], false, some [], 0, none, none, some (0, 16)⟩ .leaf
  .leaf)))
  (.node 596 ⟨true, 1, false, false, 0, false, false, [], false, some [.con (.pointer none)], 8, none, none, none⟩ (.node 594 ⟨true, 1, false, false, 0, false, false, [], false, some [.con (.int .u8 0)], 1, none, some .u8, none⟩ (.node 593 ⟨true, 1, false, false, 0, false, false, [], false, some [.con .nilFunc], 8, none, none, none⟩ (.node 592 ⟨true, 0, true, false, 0, false, false, [(0, 590)], true, some [], 0, none, none, none⟩ .leaf
  .leaf)
  .leaf)
  (.node 595 ⟨true, 1, false, false, 0, false, false, [], false, some [.con .nilFunc], 8, none, none, none⟩ .leaf
  .leaf))
  (.node 598 ⟨true, 1, false, false, 0, false, false, [], false, some [.con (.int .i32 0)], 4, none, some .i32, none⟩ (.node 597 ⟨true, 1, false, false, 0, false, false, [], false, some [.con (.int .i32 0)], 4, none, some .i32, none⟩ .leaf
  .leaf)
  (.node 599 ⟨true, 11, true, false, 0, false, false, [(0, 12), (1, 12), (2, 354), (3, 594), (4, 5), (5, 5), (6, 317), (7, 595), (8, 596), (9, 597), (10, 598)], true, some [.con (.int .u64 0), .con (.int .u64 0), .con (.int .u32 0), .con (.int .u8 0), .con (.int .u8 0), .con (.int .u8 0), .con (.int .u8 0), .con .nilFunc, .con (.pointer none), .con (.int .i32 0), .con (.int .i32 0)], 48, none, none, none⟩ .leaf
  .leaf))))
  (.node 609 ⟨true, 1, false, false, 0, false, false, [], false, some [.con .nilFunc], 8, none, none, none⟩ (.node 605 ⟨true, 2, true, false, 0, false, false, [(0, 9), (1, 317)], true, some [.con (.string ⟨#[]⟩), .con (.int .u8 0)], 24, none, none, none⟩ (.node 603 ⟨true, 1, false, false, 0, false, false, [], false, some [.con .nilFunc], 8, none, none, none⟩ (.node 602 ⟨true, 1, false, false, 0, false, false, [], false, some [.con .nilFunc], 8, none, none, none⟩ (.node 601 ⟨true, 1, false, false, 0, false, false, [], false, some [.con .nilFunc], 8, none, none, none⟩ .leaf
  .leaf)
  .leaf)
  (.node 604 ⟨true, 2, true, false, 0, false, false, [(0, 9), (1, 317)], true, some [.con (.string ⟨#[]⟩), .con (.int .u8 0)], 24, none, none, none⟩ .leaf
  .leaf))
  (.node 607 ⟨true, 1, false, false, 0, false, false, [], false, some [.con .nilFunc], 8, none, none, none⟩ (.node 606 ⟨true, 1, false, false, 0, false, false, [], false, some [.con .nilFunc], 8, none, none, none⟩ .leaf
  .leaf)
  (.node 608 ⟨true, 1, false, false, 0, false, false, [], false, some [.con (.pointer none)], 8, none, none, none⟩ .leaf
  .leaf)))
  (.node 614 ⟨true, 1, false, false, 0, false, false, [], false, some [.con (.int .i32 0)], 4, none, some .i32, none⟩ (.node 612 ⟨true, 5, true, false, 0, false, false, [(0, 597), (1, 610), (2, 610), (3, 354), (4, 354)], true, some [.con (.int .i32 0), .con (.int .u16 0), .con (.int .u16 0), .con (.int .u32 0), .con (.int .u32 0)], 16, none, none, none⟩ (.node 611 ⟨true, 5, true, false, 0, false, false, [(0, 597), (1, 610), (2, 610), (3, 354), (4, 354)], true, some [.con (.int .i32 0), .con (.int .u16 0), .con (.int .u16 0), .con (.int .u32 0), .con (.int .u32 0)], 16, none, none, none⟩ (.node 610 ⟨true, 1, false, false, 0, false, false, [], false, some [.con (.int .u16 0)], 2, none, some .u16, none⟩ .leaf
  .leaf)
  .leaf)
  (.node 613 ⟨true, 1, false, true, 616, false, false, [], false, some [.con (.slice none 0 0)], 24, none, none, none⟩ .leaf
  .leaf))
  (.node 616 ⟨true, 4, true, false, 0, false, false, [(0, 597), (1, 598), (2, 614), (3, 614)], true, some [.con (.int .i32 0), .con (.int .i32 0), .con (.int .i32 0), .con (.int .i32 0)], 16, none, none, none⟩ (.node 615 ⟨true, 4, true, false, 0, false, false, [(0, 597), (1, 598), (2, 614), (3, 614)], true, some [.con (.int .i32 0), .con (.int .i32 0), .con (.int .i32 0), .con (.int .i32 0)], 16, none, none, none⟩ .leaf
  .leaf)
  (.node 617 ⟨true, 1, false, false, 0, false, false, [], false, some [.con (.pointer none)], 8, none, none, none⟩ .leaf
  .leaf)))))))))
def T (t : TypeId) : Option TI := look t tbl
def goodT (P : Program) : TT → Prop
  | .leaf => True
  | .node k x l r => infoP P k = x ∧ (P.underlying k).isSome = true ∧ goodT P l ∧ goodT P r
def infosT (P : Program) : TT → List (TI × Bool)
  | .leaf => []
  | .node k _ l r => (infoP P k, (P.underlying k).isSome) :: (infosT P l ++ infosT P r)
def wantT : TT → List (TI × Bool)
  | .leaf => []
  | .node _ x l r => (x, true) :: (wantT l ++ wantT r)
theorem infosT_length (P : Program) : ∀ t : TT, (infosT P t).length = (wantT t).length
  | .leaf => rfl
  | .node _ _ l r => by simp [infosT, wantT, infosT_length P l, infosT_length P r]
theorem good_of {P : Program} : ∀ t : TT, infosT P t = wantT t → goodT P t
  | .leaf, _ => trivial
  | .node k x l r, h => by
    simp only [infosT, wantT, List.cons.injEq, Prod.mk.injEq] at h
    obtain ⟨⟨h1, h2⟩, h3⟩ := h
    obtain ⟨h4, h5⟩ := List.append_inj h3 (infosT_length P l)
    exact ⟨h1, h2, good_of l h4, good_of r h5⟩
theorem look_good {P : Program} {t : Nat} {ti : TI} : ∀ (x : TT), goodT P x → look t x = some ti → infoP P t = ti ∧ (P.underlying t).isSome = true
  | .leaf, _, h => by cases h
  | .node k x l r, g, h => by
    obtain ⟨g1, g2, g3, g4⟩ := g
    unfold look at h
    split at h
    · rename_i hb
      have e := Nat.eq_of_beq_eq_true hb
      injection h with h
      subst e h
      exact ⟨g1, g2⟩
    · split at h
      · exact look_good l g3 h
      · exact look_good r g4 h
theorem tok : Tok Tryz.prog T := fun t ti h => look_good tbl (good_of tbl (by kernel_rfl)) h
end Go.Proofs.YtboopmfjkepilaaGreatDoor.Deep

namespace Go.Proofs.YtboopmfjkepilaaGreatDoor.Deep
open Go.RowKit
set_option linter.unusedVariables false
variable {P : Program}
theorem br_i {b : Bool} {X Y : Prop} (h1 : b = true → X) (h2 : b = false → Y) : br b X Y := by
  cases b
  · exact h2 rfl
  · exact h1 rfl
theorem acalls_eq {T : TypeId → Option TI} {S : FuncId → Option Sg} {L : Nat → Option (List Nat × List (Nat × Sh))} (hm : P.follows .mixedOrders = true) {f : FuncId} {fn : Func} {c : Code} {args : List PV} {h : Heap} {Q : PV → Heap → Prop} {X : Prop} (hT : Tok P T) (hf : P.funcs[f]? = some fn) (hb : fn.body = some c) (e : funA P T S L (fun _ => False) fn c args h Q = X) (hx : X) : ACalls P f args h Q :=
  acalls_of hm hT hf hb (e.mpr hx)
theorem call_p {f : FuncId} {args : List PV} {h : Heap} {r : PV} {X : Prop} (he : Enters P f) (hc : PCalls P f args fun r' => r' = r) (hu : undersL 0 args = true) (hk : X) : CallN P f args h r X :=
  ⟨he, (hc.at hu h), hk⟩
theorem wrap_id {n : Int} (h1 : -9223372036854775808 ≤ n) (h2 : n ≤ 9223372036854775807) : IntKind.i64.wrap n = n := by
  simp only [IntKind.wrap, IntKind.bits, IntKind.signed, Bool.true_and]
  split <;> (rename_i h; simp at h; omega)
def unpack : List RSh → PV → List PV
  | [_], r => [r]
  | _, .tup l => l
  | _, _ => []
def newPost (σ : Nat → Option Nat) (h : Heap) (i : Nat) : BT → Option (List PV)
  | .tip => match σ i with
    | none => some [.tip]
    | some t => match isTip (h.getD t []) with | true => some [.tip] | false => none
  | .cells ss => match σ i with
    | some t => canB 0 (.cells ss) (h.getD t [])
    | none => match ss with | [.row] => some [.row []] | _ => none
  | .dead => some []
  | .keep => none
def canPost (n0 : Nat) (σ : Nat → Option Nat) (h : Heap) : List BT → Nat → Option Heap
  | [], _ => some []
  | t :: r, i => match Nat.blt i n0 with
    | true => match canB n0 t (h.getD i []) with
      | some l => match canPost n0 σ h r (i + 1) with | some ls => some (l :: ls) | none => none
      | none => none
    | false => match newPost σ h i t with
      | some l => match canPost n0 σ h r (i + 1) with | some ls => some (l :: ls) | none => none
      | none => none
def postOne (n0 : Nat) (σ : Nat → Option Nat) (h : Heap) (t : BT) (i : Nat) : Bd := match Nat.blt i n0 with
  | true => tokB t (h.getD i [])
  | false => match σ i with | some x => tokB t (h.getD x []) | none => []
def postToks (n0 : Nat) (σ : Nat → Option Nat) (h : Heap) : List BT → Nat → Bd
  | [], _ => []
  | t :: r, i => postOne n0 σ h t i ++ postToks n0 σ h r (i + 1)
def postPs (n0 : Nat) (h : Heap) : List BT → Nat → Bd → Bd
  | [], _, ps => ps
  | t :: r, i, ps => postPs n0 h r (i + 1) (ps ++ postOne n0 (headN n0 ps) h t i)
def eqTk : Nat × Option Nat → Nat × Option Nat → Bool
  | (a, some x), (b, some y) => Nat.beq a b && Nat.beq x y
  | (a, none), (b, none) => Nat.beq a b
  | _, _ => false
def subTk (xs ps : Bd) : Bool := xs.all fun x => ps.any (eqTk x)
def deadAt (H : List (List PV)) (t : Nat) : Bool := match H.getD t [] with | [] => true | _ => false
def pastX (n0 : Nat) (H : Heap) : Bd → Bool
  | [] => true
  | (b, some t) :: r => (Nat.blt b n0 || Nat.ble n0 t || deadAt H t) && pastX n0 H r
  | (_, none) :: r => pastX n0 H r
def isUnit : PV → Bool
  | .tup [] => true
  | _ => false
def canY (n0 : Nat) (res : List RSh) (post : List BT) (r : PV) (h : Heap) (ps : Bd) (Q : PV → Heap → Prop) : Prop :=
  match canRs res (unpack res r) with
  | none => False
  | some rs => match canPost n0 (headN n0 ps) h post 0 with
    | none => False
    | some H => match okB n0 H.length h ps [] && nodupN ((keysB ps).filter (Nat.ble n0)) && pastX n0 H ps && Nat.ble n0 h.length && Nat.ble n0 H.length && Nat.beq rs.length res.length && (Nat.blt 0 rs.length || isUnit r) && subTk (tokRs res (unpack res r)) ps && subTk (postToks n0 (headN n0 ps) h post 0) ps with
      | true => Q (packR rs) H
      | false => False
def canX (n0 : Nat) (res : List RSh) (post : List BT) (r : PV) (h : Heap) (Q : PV → Heap → Prop) : Prop := canY n0 res post r h (postPs n0 h post 0 (tokRs res (unpack res r))) Q
theorem eqTk_eq {x y : Nat × Option Nat} (h : eqTk x y = true) : x = y := by
  obtain ⟨a, x⟩ := x
  obtain ⟨b, y⟩ := y
  cases x <;> cases y <;> simp only [eqTk, Bool.and_eq_true] at h
  · rw [Nat.eq_of_beq_eq_true h]
  · cases h
  · cases h
  · rw [Nat.eq_of_beq_eq_true h.1, Nat.eq_of_beq_eq_true h.2]
theorem subTk_mem {xs ps : Bd} (h : subTk xs ps = true) {x : Nat × Option Nat} (hx : x ∈ xs) : x ∈ ps := by
  have h1 := List.all_eq_true.1 h x hx
  obtain ⟨y, hy, he⟩ := List.any_eq_true.1 h1
  rw [eqTk_eq he]; exact hy
theorem canRs_seen {σ : Nat → Option Nat} {n : Nat} : ∀ {ss : List RSh} {ps qs : List PV}, canRs ss ps = some qs → Bound σ n (tokRs ss ps) → ps.length = qs.length ∧ ∀ j, j < qs.length → SeenAs σ n (ps.getD j .any) (qs.getD j .any)
  | [], [], qs, hc, _ => by
    simp only [canRs, Option.some.injEq] at hc
    subst hc
    exact ⟨rfl, fun j hj => absurd hj (Nat.not_lt_zero _)⟩
  | [], _ :: _, qs, hc, _ => by simp [canRs] at hc
  | _ :: _, [], qs, hc, _ => by simp [canRs] at hc
  | s :: ss, p :: ps, qs, hc, hb => by
    simp only [canRs] at hc
    split at hc
    case h_2 => cases hc
    rename_i q hq
    split at hc
    case h_2 => cases hc
    rename_i qs' hqs
    injection hc with hc
    subst hc
    obtain ⟨h1, h2⟩ := Bound.app (ps := tokR s p) (qs := tokRs ss ps) hb
    obtain ⟨k1, k2⟩ := canRs_seen hqs h2
    refine ⟨by simp [k1], fun j hj => ?_⟩
    cases j with
    | zero => exact canR_seen hq h1
    | succ j => exact k2 j (by simpa using hj)
theorem pack_seen {σ : Nat → Option Nat} {n : Nat} {res : List RSh} {r : PV} {rs : List PV} (hl : rs.length = res.length) (h0 : 0 < rs.length ∨ isUnit r = true) (hs : (unpack res r).length = rs.length ∧ ∀ j, j < rs.length → SeenAs σ n ((unpack res r).getD j .any) (rs.getD j .any)) : SeenAs σ n r (packR rs) := by
  obtain ⟨h1, h2⟩ := hs
  match res, rs, hl with
  | [], [], _ =>
    rcases h0 with h0 | h0
    · simp at h0
    · unfold isUnit at h0
      split at h0
      · exact SeenAs.same (d := 0) rfl (fun b hb => absurd hb (Nat.not_lt_zero _)) (Nat.zero_le _)
      · cases h0
  | [x], [q], _ => exact h2 0 (by simp)
  | x :: y :: l, p :: q :: ps, _ =>
    cases r <;> first
      | (simp [unpack] at h1; done)
      | skip
    rename_i us
    intro G m w n0 v hr
    cases hr with
    | tup _ vs _ hl2 hrr =>
      have h1' : us.length = (p :: q :: ps).length := h1
      exact .tup _ _ _ (by rw [hl2, h1']) (fun i hi => h2 i hi G m w n0 _ (hrr i (by rw [h1']; exact hi)))
theorem newPost_spec {σ : Nat → Option Nat} {n : Nat} {h : Heap} {t : BT} {i : Nat} {l : List PV} (hc : newPost σ h i t = some l) (hb : ∀ x, σ i = some x → Bound σ n (tokB t (h.getD x []))) :
    kind l = .dead ∨ ((kind l = .tip ∨ kind l = .row []) ∧ σ i = none) ∨ ∃ x, σ i = some x ∧ SeenB σ n (h.getD x []) l := by
  cases t with
  | keep => simp [newPost] at hc
  | dead => simp only [newPost, Option.some.injEq] at hc; subst hc; exact .inl rfl
  | tip =>
    simp only [newPost] at hc
    split at hc
    · rename_i he
      injection hc with hc
      subst hc
      exact .inr (.inl ⟨.inl rfl, he⟩)
    · rename_i x he
      split at hc
      case h_2 => cases hc
      rename_i ht
      injection hc with hc
      subst hc
      exact .inr (.inr ⟨x, he, isTip_kind ht, fun hk => by cases hk⟩)
  | cells ss =>
    simp only [newPost] at hc
    split at hc
    · rename_i x he
      rcases canB_seen hc (hb x he) (d := 0) (fun b hb => absurd hb (Nat.not_lt_zero _)) (Nat.zero_le _) with q | q
      · exact .inl q
      · exact .inr (.inr ⟨x, he, q⟩)
    · rename_i he
      split at hc
      · injection hc with hc
        subst hc
        exact .inr (.inl ⟨.inr rfl, he⟩)
      · cases hc
theorem canPost_spec {σ : Nat → Option Nat} {n n0 : Nat} {h : Heap} (hσ : ∀ b, b < n0 → σ b = some b) (hn : n0 ≤ n) : ∀ {bs : List BT} {i : Nat} {H : Heap}, canPost n0 σ h bs i = some H → Bound σ n (postToks n0 σ h bs i) →
    ∀ k, k < H.length → (i + k < n0 → kind (H.getD k []) = .dead ∨ SeenB σ n (h.getD (i + k) []) (H.getD k [])) ∧ (n0 ≤ i + k → kind (H.getD k []) = .dead ∨ ((kind (H.getD k []) = .tip ∨ kind (H.getD k []) = .row []) ∧ σ (i + k) = none) ∨ ∃ x, σ (i + k) = some x ∧ SeenB σ n (h.getD x []) (H.getD k []))
  | [], i, H, hc, _ => by
    simp only [canPost, Option.some.injEq] at hc
    subst hc
    exact fun k hk => absurd hk (Nat.not_lt_zero _)
  | t :: r, i, H, hc, hb => by
    obtain ⟨b1, b2⟩ := Bound.app (ps := postOne n0 σ h t i) (qs := postToks n0 σ h r (i + 1)) hb
    simp only [canPost] at hc
    split at hc
    · rename_i hi
      have hi' := blt_lt hi
      split at hc
      case h_2 => cases hc
      rename_i l hl
      split at hc
      case h_2 => cases hc
      rename_i ls hls
      injection hc with hc
      subst hc
      have b1' : Bound σ n (tokB t (h.getD i [])) := by unfold postOne at b1; rw [hi] at b1; exact b1
      have ih := canPost_spec hσ hn hls b2
      intro k hk
      cases k with
      | zero => exact ⟨fun _ => canB_seen hl b1' hσ hn, fun hge => absurd hge (by omega)⟩
      | succ k =>
        have := ih k (by simpa using hk)
        rw [show i + 1 + k = i + (k + 1) by omega] at this
        exact this
    · rename_i hi
      have hi' : n0 ≤ i := by
        apply Classical.byContradiction
        intro hn
        have : Nat.blt i n0 = true := Nat.ble_eq_true_of_le (by omega)
        rw [this] at hi; cases hi
      split at hc
      case h_2 => cases hc
      rename_i l hl
      split at hc
      case h_2 => cases hc
      rename_i ls hls
      injection hc with hc
      subst hc
      have b1' : ∀ x, σ i = some x → Bound σ n (tokB t (h.getD x [])) := fun x hx => by unfold postOne at b1; rw [hi, hx] at b1; exact b1
      have ih := canPost_spec hσ hn hls b2
      intro k hk
      cases k with
      | zero => exact ⟨fun hlt => absurd hlt (by omega), fun _ => newPost_spec hl b1'⟩
      | succ k =>
        have := ih k (by simpa using hk)
        rw [show i + 1 + k = i + (k + 1) by omega] at this
        exact this
theorem pastX_mem {n0 : Nat} {H : Heap} : ∀ {ps : Bd}, pastX n0 H ps = true → ∀ b t, (b, some t) ∈ ps → n0 ≤ b → n0 ≤ t ∨ H.getD t [] = []
  | [], _, b, t, hm, _ => by cases hm
  | (b', none) :: r, hp, b, t, hm, hb => by
    rcases List.mem_cons.1 hm with e | e
    · injection e with e1 e2; cases e2
    · exact pastX_mem (by simpa only [pastX] using hp) b t e hb
  | (b', some t') :: r, hp, b, t, hm, hb => by
    simp only [pastX, Bool.and_eq_true, Bool.or_eq_true] at hp
    rcases List.mem_cons.1 hm with e | e
    · injection e with e1 e2
      injection e2 with e2
      subst e1 e2
      rcases hp.1 with (q | q) | q
      · have := blt_lt q; omega
      · exact .inl (Nat.le_of_ble_eq_true q)
      · right
        unfold deadAt at q
        cases hq : H.getD t [] with
        | nil => rfl
        | cons x l => rw [hq] at q; cases q
    · exact pastX_mem hp.2 b t e hb
theorem canX_told {h h' : Heap} {res : List RSh} {post : List BT} {Q : PV → Heap → Prop} {r : PV} {v : Value} {G G' : Nat → Nat} {m m' : Nat → Pl} {w w' : World} (hX : canX h.length res post r h' Q) (hrep : Rep G' m' w' h'.length v r) (hs' : HS P G' m' w' h') (hg : Goes G m w h G' m' w' h') :
    ∃ r h' G' m', Q r h' ∧ Rep G' m' w' h'.length v r ∧ HS P G' m' w' h' ∧ Goes G m w h G' m' w' h' := by
  unfold canX at hX
  generalize postPs h.length h' post 0 (tokRs res (unpack res r)) = ps at hX
  unfold canY at hX
  split at hX
  case h_1 => exact hX.elim
  rename_i rs hrs
  split at hX
  case h_1 => exact hX.elim
  rename_i H hH
  split at hX
  case h_2 => exact hX.elim
  rename_i hck
  simp only [Bool.and_eq_true] at hck
  obtain ⟨⟨⟨⟨⟨⟨⟨⟨c1, c2⟩, c3⟩, c4⟩, c5⟩, c6⟩, c7⟩, c8⟩, c9⟩ := hck
  have d4 := Nat.le_of_ble_eq_true c4
  have d5 := Nat.le_of_ble_eq_true c5
  have hid : ∀ b, b < h.length → headN h.length ps b = some b := fun b hb => headN_lt hb
  have hBd : Bound (headN h.length ps) H.length ps := fun b t hm => by
    obtain ⟨q1, q2⟩ := okB_mem c1 b t hm
    by_cases hb : b < h.length
    · refine ⟨by omega, fun x hx => ?_⟩
      rw [headN_lt hb]
      rcases q1 hb with q | ⟨_, q⟩
      · rw [hx] at q; exact q.symm
      · exact q.elim
    · obtain ⟨r1, r2⟩ := q2 (by omega)
      refine ⟨r1, fun x hx => ?_⟩
      rw [headN_ge (by omega), lookB_of c2 b t (by omega) hm, hx]
  have hmemσ : ∀ b t, h.length ≤ b → headN h.length ps b = some t → (b, some t) ∈ ps := fun b t hb he => by
    rw [headN_ge hb] at he
    split at he
    · rename_i x hx
      injection he with he
      subst he
      exact lookB_mem hx
    · cases he
  have b1 : Bound (headN h.length ps) H.length (tokRs res (unpack res r)) := fun b t hm => hBd b t (subTk_mem c8 hm)
  have b2 : Bound (headN h.length ps) H.length (postToks h.length (headN h.length ps) h' post 0) := fun b t hm => hBd b t (subTk_mem c9 hm)
  have hP := canPost_spec hid d5 hH b2
  have N : Norm (headN h.length ps) h' H := by
    refine ⟨fun b hb => ?_, fun b b' t hb hb' hd hd' e1 e2 => ?_⟩
    · obtain ⟨p1, p2⟩ := hP b hb
      rw [Nat.zero_add] at p1 p2
      by_cases hb2 : b < h.length
      · rcases p1 hb2 with q | q
        · exact .inl q
        · exact .inr (.inr ⟨b, hid b hb2, by omega, q⟩)
      · rcases p2 (by omega) with q | q | ⟨t, q1, q2⟩
        · exact .inl q
        · exact .inr (.inl q)
        · obtain ⟨_, q3⟩ := okB_mem c1 b (some t) (hmemσ b t (by omega) q1)
          have hlive := ((q3 (by omega)).2 t rfl).1
          refine .inr (.inr ⟨t, q1, kind_lt (fun he => ?_), q2⟩)
          unfold tipRow at hlive
          rw [he] at hlive
          cases hlive
    · by_cases hb2 : b < h.length <;> by_cases hb3 : b' < h.length
      · rw [hid b hb2] at e1; rw [hid b' hb3] at e2
        injection e1 with e1; injection e2 with e2; omega
      · rw [hid b hb2] at e1
        injection e1 with e1
        subst e1
        rcases pastX_mem c3 b' b (hmemσ b' b (by omega) e2) (by omega) with q | q
        · omega
        · rw [q] at hd; exact absurd rfl hd
      · rw [hid b' hb3] at e2
        injection e2 with e2
        subst e2
        rcases pastX_mem c3 b b' (hmemσ b b' (by omega) e1) (by omega) with q | q
        · omega
        · rw [q] at hd'; exact absurd rfl hd'
      · exact okB_inj c1 b b' t (hmemσ b t (by omega) e1) (hmemσ b' t (by omega) e2) (by omega) (by omega)
  exact ⟨_, H, G', _, hX, pack_seen (Nat.eq_of_beq_eq_true c6) (by rw [Bool.or_eq_true] at c7; exact c7.imp blt_lt id) (canRs_seen hrs b1) _ _ _ _ _ hrep, hs'.norm N, hg.norm N hid d5⟩
theorem tcalls_canon {f : FuncId} {args : List PV} {h : Heap} {res : List RSh} {post : List BT} {Q : PV → Heap → Prop} {H0 : Value → Prop} (hc : TCalls P f args h (fun r h' => canX h.length res post r h' Q) H0) : TCalls P f args h Q H0 := by
  intro G m w vs hs ha
  refine (hc G m w vs hs ha).mono ?_
  rintro e w' (⟨v, r, h', G', m', rfl, hX, hrep, hs', hg⟩ | q)
  · obtain ⟨r2, h2, G2, m2, q⟩ := canX_told hX hrep hs' hg
    exact .inl ⟨v, r2, h2, G2, m2, rfl, q⟩
  · exact .inr q
theorem acalls_canon {f : FuncId} {args : List PV} {h : Heap} {res : List RSh} {post : List BT} {Q : PV → Heap → Prop} (hc : ACalls P f args h fun r h' => canX h.length res post r h' Q) : ACalls P f args h Q := (tcalls_canon hc.t).a
theorem pcalls_weak {f : FuncId} {args : List PV} {Q : PV → Prop} (hc : ACalls P f args [] fun r _ => Q (weak r) ∧ (weak r).under 0 = true) : PCalls P f args Q := by
  intro G m w vs hs ha
  refine (hc G m w vs hs ha).mono ?_
  rintro e w' ⟨v, r, h', G', m', rfl, hX, hrep, hs', hg⟩
  exact ⟨v, weak r, h', G', m', rfl, hX, hrep.weak, hs', hg⟩
theorem HS.seal {G : Nat → Nat} {m : Nat → Pl} {w : World} {h : Heap} (k : HS P G m w h) {b : Nat} {l : List PV} (hb : b < h.length) (hk : h.getD b [] = [.row l]) (h0 : (m b).fr ≠ 0) :
    HS P (updG G (m b).at' l.length) m w (h.set b []) ∧ Goes G m w h (updG G (m b).at' l.length) m w (h.set b []) ∧ ∃ (cs : List Value) (T : TypeId), w.heap[(m b).at']? = some (.cells cs.toArray T (0, 0)) ∧ l.length ≤ cs.length ∧ ∀ j, j < l.length → Rep (updG G (m b).at' l.length) m w 0 (cs.getD j undef) (l.getD j .any) := by
  have hL := k.blk b hb
  unfold Lies at hL
  rw [hk] at hL
  simp only [kind] at hL
  obtain ⟨⟨cs, T, h1, h2, h3⟩, hG0⟩ := hL.1 h0
  have hbal : alive m h b := by unfold alive; rw [hk]; exact h0
  have hmb := k.lt hb hbal
  have hG : ∀ g, G g ≤ updG G (m b).at' l.length g := fun g => by
    by_cases he : g = (m b).at'
    · rw [he, hG0]; exact Nat.zero_le _
    · rw [updG_ne _ _ he]; exact Nat.le_refl _
  have hGn : ∀ g, g ≠ (m b).at' → updG G (m b).at' l.length g = G g := fun g hg => updG_ne _ _ hg
  have ks : ∀ n, Keeps G m w n (updG G (m b).at' l.length) m w := fun n => ⟨hG, fun _ _ _ => rfl, fun _ _ _ h => h, fun _ _ => rfl⟩
  have hal : ∀ x, x < h.length → alive m (h.set b []) x → x ≠ b ∧ alive m h x := fun x hx ha => by
    by_cases he : b = x
    · subst he; unfold alive at ha; rw [getD_set_eq _ _ _ hb] at ha; exact ha.elim
    · exact ⟨fun e => he e.symm, (alive_congr (getD_set_ne _ _ _ he) rfl).1 ha⟩
  refine ⟨⟨fun b' hb' => ?_, fun x y hx hy ha ha' he => ?_, fun g hg => ?_⟩, ⟨rfl, rfl, rfl, Nat.le_refl _, by simp, hG, fun _ _ _ => rfl, fun _ _ _ h => h, fun _ _ => rfl, fun x hx ha => (hal x hx ha).2, fun j hj hx => ⟨rfl, hGn j (fun he => hx b hb hbal he.symm)⟩, fun x hx hx2 => absurd hx2 (by simp; omega)⟩, cs, T, h1, h2, fun j hj => (h3 j hj).keep (Nat.le_refl _) (ks 0)⟩
  · have hb2 : b' < h.length := by simpa using hb'
    simp only [List.length_set]
    by_cases he : b = b'
    · subst he
      rw [getD_set_eq _ _ _ hb2]
      unfold Lies kind
      trivial
    · rw [getD_set_ne _ _ _ he]
      refine (k.blk b' hb2).keep (ks _) (Nat.le_refl _) (fun ha => ⟨rfl, hGn _ (fun e => he ?_)⟩)
      exact (k.inj b' b hb2 hb ha hbal e).symm
  · have hx2 : x < h.length := by simpa using hx
    have hy2 : y < h.length := by simpa using hy
    exact k.inj x y hx2 hy2 (hal x hx2 ha).2 (hal y hy2 ha').2 he
  · by_cases he : g = (m b).at'
    · rw [he]; exact hmb
    · rw [hGn g he] at hg; exact k.old g hg
def rowsOf (sz n : Nat) (l : List PV) : List (List PV) := (List.range n).map fun i => (l.drop (i * sz)).take sz
theorem rowsOf_length (sz n : Nat) (l : List PV) : (rowsOf sz n l).length = n := by simp [rowsOf]
theorem rowsOf_at {sz n i : Nat} {l : List PV} (hi : i < n) : (rowsOf sz n l).getD i [] = (l.drop (i * sz)).take sz := by simp [rowsOf, List.getD_eq_getElem?_getD, hi]
theorem ACalls.seal {f : FuncId} {args : List PV} {sz : Nat} (h0 : 0 < sz) {Q : List PV → Prop} (c : ACalls P f args [] fun r h' => ∃ b n l e, r = .rw b 0 n e sz ∧ b < h'.length ∧ h'.getD b [] = [.row l] ∧ l.length = n * sz ∧ Q l) : PCalls P f args fun r => ∃ n l, l.length = n * sz ∧ Q l ∧ r = .sl (rowsOf sz n l) := fun G m w vs hs ha =>
  (c G m w vs hs ha).mono fun e w' ⟨v, r, h', G', m', he, ⟨b, n, l, e', hr, hb, hk, hl, hQ⟩, hrep, hs', hg⟩ => by
    subst hr
    cases hrep with
    | rw0 _ _ _ _ hb2 =>
      obtain ⟨k1, k2⟩ := hs'.kill b
      refine ⟨_, .sl (rowsOf sz 0 l), _, _, m', he, ⟨⟨0, l, hl, hQ, rfl⟩, rfl⟩, ?_, k1, hg.trans k2⟩
      exact rep_nil _
    | rw _ _ _ _ cc qq N _ _ hb2 hc hm hq hN hsh hf =>
      obtain ⟨k1, k2, cs, T, q1, q2, q3⟩ := hs'.seal hb hk hf
      refine ⟨_, .sl (rowsOf sz n l), _, _, m', he, ⟨⟨n, l, hl, hQ, rfl⟩, rfl⟩, ?_, k1, hg.trans k2⟩
      have hmul : ∀ i, i < n → i * sz + sz ≤ l.length := fun i hi => by rw [hl, ← Nat.succ_mul]; exact Nat.mul_le_mul_right _ hi
      have := Rep.sl (G := updG G' (m' b).at' l.length) (m := m') (w := w') (h'.set b []).length (some ⟨(m' b).at', qq, none⟩) cc sz (rowsOf sz n l) (fun i j => cs.getD (i * sz + j) undef) (by rw [rowsOf_length]; exact hc) hm
        (fun i hi => by rw [rowsOf_length] at hi; rw [rowsOf_at hi, List.length_take, List.length_drop]; have := hmul i hi; omega)
        (fun h => ⟨(m' b).at', 0, by rw [rowsOf_length] at h; have : qq = 0 := by omega
                                     rw [this], by rw [rowsOf_length, updG_eq, hl]; omega, fun i hi j hj => by
          rw [rowsOf_length] at hi
          have := hmul i hi
          have hlt : i * sz + j < cs.length := by omega
          simp only [World.cell?, q1, Nat.zero_add, List.getElem?_toArray]
          simp [List.getElem?_eq_getElem hlt, List.getD_eq_getElem?_getD]⟩)
        (fun i hi j hj => by
          rw [rowsOf_length] at hi
          have := hmul i hi
          have e : ((rowsOf sz n l).getD i []).getD j .any = l.getD (i * sz + j) .any := by
            rw [rowsOf_at hi]
            simp [List.getD_eq_getElem?_getD, hj]
          rw [e]
          exact q3 _ (by omega))
      rw [rowsOf_length] at this
      exact this
end Go.Proofs.YtboopmfjkepilaaGreatDoor.Deep

namespace Go.Proofs.YtboopmfjkepilaaGreatDoor.Deep
open Go.RowKit
set_option linter.unusedVariables false
def blockCells (w : World) (g : Nat) : Nat := match w.heap[g]? with | some (.cells c _ _) => c.size | _ => 0
theorem lies_lt {w : World} {g o : Nat} {v : Value} (h : w.cell? ⟨g, o, none⟩ = some v) : o < blockCells w g := by
  unfold World.cell? at h
  unfold blockCells
  split at h
  · rename_i c T fz hc
    dsimp only at hc
    rw [hc]
    have h : c[o]? = some v := by simpa using h
    exact (Array.getElem?_eq_some_iff.1 h).1
  · cases h
theorem block_old {w : World} (g : Nat) (h : blockCells w g ≠ 0) : g < w.heap.size := by
  rcases Nat.lt_or_ge g w.heap.size with h' | h'
  · exact h'
  · unfold blockCells at h
    rw [Array.getElem?_eq_none h'] at h
    exact absurd rfl h
structure CR (w : World) (cs : List Value) (ps : List PV) : Prop where
  len : cs.length = ps.length
  rep : ∀ i, i < ps.length → Rep (blockCells w) (fun _ => ⟨0, 0⟩) w 0 (cs.getD i undef) (ps.getD i .any)
theorem CR.nil {w : World} {cs : List Value} (h : cs.length = 0) : CR w cs [] := ⟨by simpa using h, fun i hi => absurd hi (Nat.not_lt_zero _)⟩
theorem CR.one {w : World} {v : Value} {p : PV} (h : Rep (blockCells w) (fun _ => ⟨0, 0⟩) w 0 v p) : CR w [v] [p] := ⟨rfl, fun i hi => by
  obtain rfl : i = 0 := by simpa using hi
  exact h⟩
theorem CR.append {w : World} {a b : List Value} {p q : List PV} (h : CR w a p) (k : CR w b q) : CR w (a ++ b) (p ++ q) := by
  refine ⟨by rw [List.length_append, List.length_append, h.len, k.len], fun i hi => ?_⟩
  rw [List.length_append] at hi
  have hl := h.len
  by_cases hlt : i < p.length
  · have := h.rep i hlt
    simp only [List.getD_eq_getElem?_getD] at this ⊢
    rwa [List.getElem?_append_left (by omega), List.getElem?_append_left hlt]
  · have := k.rep (i - p.length) (by omega)
    simp only [List.getD_eq_getElem?_getD] at this ⊢
    rwa [List.getElem?_append_right (by omega), List.getElem?_append_right (by omega), hl]
theorem CR.int (w : World) (k : IntKind) (n : Int) : CR w [.int k n] [.con (.int k n)] := .one (.con _ _)
theorem CR.str (w : World) (s : ByteArray) : CR w [.string s] [.con (.string s)] := .one (.con _ _)
theorem list_of {α : Type} {M : Nat → α → Prop} : ∀ n : Nat, (∀ i, i < n → ∃ a, M i a) → ∃ zs : List α, zs.length = n ∧ ∀ i (h : i < zs.length), M i zs[i]
  | 0, _ => ⟨[], rfl, fun i h => absurd h (Nat.not_lt_zero _)⟩
  | n + 1, h => by
    obtain ⟨zs, hl, ha⟩ := list_of n (fun i hi => h i (by omega))
    obtain ⟨a, hx⟩ := h n (by omega)
    refine ⟨zs ++ [a], by simp [hl], fun i hi => ?_⟩
    by_cases hlt : i < zs.length
    · rw [List.getElem_append_left hlt]; exact ha i hlt
    · have : i = zs.length := by simp at hi; omega
      subst this
      rw [List.getElem_append_right (Nat.le_refl _)]
      simpa [hl] using hx
section
variable {H : Type} {enc : TypeId × Value → H} {P : Program} {w : World} {spare : Nat → Bool} {held : Bool}
theorem open_slice {α : Type} (view : α → List PV) (M : α → Prop) {t e : TypeId} (ht : P.underlying t = some (.slice e)) (hs : 0 < P.cellsOf e) {fuel : Nat} {cs : List Value} {x : DataW H × List MemPlace} (h : DataW.trod enc P w 0 spare held fuel t cs = some x)
    (hv : ∀ n us y, n < fuel → us.length = P.cellsOf e → DataW.trod enc P w 0 spare held n e us = some y → ∃ a, M a ∧ CR w us (view a)) : ∃ zs : List α, (∀ a ∈ zs, M a) ∧ CR w cs [.sl (zs.map view)] := by
  rcases DataW.trod_slice ht h with ⟨rfl, rfl⟩ | ⟨a, len, cap, elems, rest, n, rfl, rfl, rfl, hb, hle, hcap, hel, hget, _, _⟩
  · exact ⟨[], fun a ha => absurd ha (List.not_mem_nil), .one (.sl 0 none 0 0 [] (fun _ _ => undef) (Nat.le_refl _) (by decide) (fun i hi => absurd hi (Nat.not_lt_zero _)) (fun hi => absurd hi (Nat.not_lt_zero _)) (fun i hi => absurd hi (Nat.not_lt_zero _)))⟩
  · obtain ⟨zs, hl, has⟩ := list_of (M := fun i b => M b ∧ ∃ us, w.cells? 0 (a.add (i * P.cellsOf e)) (P.cellsOf e) = some us ∧ CR w us (view b)) len (fun i hi => by
      have hg := hget i hi
      rw [List.getElem?_eq_getElem (by omega)] at hg
      obtain ⟨us, h1, h2⟩ := Option.bind_eq_some_iff.1 hg
      obtain ⟨b, hb1, hb2⟩ := hv n us _ (by omega) (World.cells?_some h1).2.1 h2
      exact ⟨b, hb1, us, h1, hb2⟩)
    subst hl
    refine ⟨zs, fun b hb => ?_, .one ?_⟩
    · obtain ⟨i, hi, rfl⟩ := List.getElem_of_mem hb
      exact (has i hi).1
    · obtain ⟨b, off, spot⟩ := a
      have hcell : ∀ i (hi : i < zs.length), ∀ j, j < P.cellsOf e → ∃ v, w.cell? ((Addr.mk b off spot).add (i * P.cellsOf e) |>.add j) = some v ∧ Rep (blockCells w) (fun _ => ⟨0, 0⟩) w 0 v ((view zs[i]).getD j .any) := fun i hi j hj => by
        obtain ⟨us, h1, h2⟩ := (has i hi).2
        obtain ⟨_, g1, g2⟩ := World.cells?_some h1
        have hl := h2.len
        have hr := h2.rep j (by omega)
        rw [g2 j hj, List.getElem?_eq_getElem (by omega)]
        refine ⟨us[j], rfl, ?_⟩
        rwa [List.getD_eq_getElem?_getD, List.getElem?_eq_getElem (by omega), Option.getD_some] at hr
      have hxs : ∀ i, i < (zs.map view).length → ∃ hi : i < zs.length, (zs.map view).getD i [] = view zs[i] := fun i hi => by
        have hi' : i < zs.length := by simpa using hi
        exact ⟨hi', by rw [List.getD_eq_getElem?_getD, List.getElem?_map, List.getElem?_eq_getElem hi']; rfl⟩
      have hspot : 0 < zs.length → spot = none := fun h0 => by
        obtain ⟨v, h1, _⟩ := hcell 0 h0 0 hs
        simpa [Addr.add] using World.cell?_spot h1
      have hcell' : ∀ i (hi : i < zs.length), ∀ j, j < P.cellsOf e → ∃ v, w.cell? ⟨b, off + i * P.cellsOf e + j, none⟩ = some v ∧ Rep (blockCells w) (fun _ => ⟨0, 0⟩) w 0 v ((view zs[i]).getD j .any) := fun i hi j hj => by
        obtain rfl := hspot (by omega)
        have := hcell i hi j hj
        rwa [Go.WideShapes.add_plain, Go.WideShapes.add_plain] at this
      rw [show zs.length = (zs.map view).length by simp]
      refine .sl 0 _ cap (P.cellsOf e) (zs.map view) (fun i j => (w.cell? ⟨b, off + i * P.cellsOf e + j, none⟩).getD undef) (by simpa using hle) (by unfold maxLen at hcap; exact hcap) (fun i hi => ?_) (fun h0 => ?_) (fun i hi j hj => ?_)
      · obtain ⟨hi', hq⟩ := hxs i hi
        rw [hq]
        obtain ⟨us, h1, h2⟩ := (has i hi').2
        exact h2.len.symm.trans (World.cells?_some h1).2.1
      · have h0' : 0 < zs.length := by simpa using h0
        obtain rfl := hspot h0'
        refine ⟨b, off, rfl, ?_, fun i hi j hj => ?_⟩
        · obtain ⟨v, h1, _⟩ := hcell' (zs.length - 1) (by omega) (P.cellsOf e - 1) (by omega)
          have := lies_lt h1
          obtain ⟨k, hk⟩ : ∃ k, zs.length = k + 1 := ⟨zs.length - 1, by omega⟩
          rw [List.length_map, hk, Nat.succ_mul]
          rw [hk, Nat.add_sub_cancel] at this
          omega
        · obtain ⟨hi', _⟩ := hxs i hi
          obtain ⟨v, h1, _⟩ := hcell' i hi' j hj
          rw [h1]; rfl
      · obtain ⟨hi', hq⟩ := hxs i hi
        obtain ⟨v, h1, h2⟩ := hcell' i hi' j hj
        rw [h1, hq]
        exact h2
end
end Go.Proofs.YtboopmfjkepilaaGreatDoor.Deep

namespace Go.Proofs.YtboopmfjkepilaaGreatDoor.Deep
open Go.RowKit
set_option linter.unusedVariables false
inductive TS where
  | leaf
  | node (k : Nat) (x : Sg) (l r : TS)
def lookS (t : Nat) : TS → Option Sg
  | .leaf => none
  | .node k x l r => match Nat.beq t k with
    | true => some x
    | false => match Nat.ble t k with | true => lookS t l | false => lookS t r
def tblS : TS := (.node 16 (.pure [[.cell (.int .i64)]]) (.node 9 (.pure [[.cell (.list)]]) (.node 5 (.pure [[.agg [.int .i64, .int .i64, .list, .str, .list]]]) (.node 4 (.pure [[.cell (.bool)]]) (.node 3 (.pure [[.cell (.bool)]]) .leaf .leaf) .leaf) (.node 8 (.pure [[.cell (.list)]]) (.node 6 (.pure [[.agg [.int .i64, .int .i64, .list, .str, .list], .cell (.bool)]]) .leaf .leaf) .leaf)) (.node 12 (.pure [[.agg [.int .i64, .int .i64, .list, .str, .list]]]) (.node 11 (.pure [[.cell (.bool)]]) (.node 10 (.pure [[.agg [.int .i64, .int .i64, .list, .str, .list]]]) .leaf .leaf) .leaf) (.node 15 (.pure [[.cell (.list)]]) .leaf .leaf))) (.node 24 (.pure [[.agg [.int .i64, .int .i64, .list, .str, .list]]]) (.node 22 (.pure [[.agg [.int .i64, .int .i64, .list, .str, .list]]]) (.node 21 (.pure [[.cell (.bool)]]) (.node 20 (.pure [[.agg [.int .i64, .int .i64, .list, .str, .list]]]) .leaf .leaf) .leaf) (.node 23 (.pure [[.cell (.int .i64)]]) .leaf .leaf)) (.node 27 (.pure [[.cell (.int .i64)]]) (.node 26 (.pure [[.cell (.list)]]) (.node 25 (.eff [.weak] [] [.cell (.own 0 5 1)] [.tip]) .leaf .leaf) .leaf) (.node 37 (.pure [[.cell (.int .i64)]]) .leaf .leaf))))
def S (f : FuncId) : Option Sg := lookS f tblS
abbrev LL := List (List PV)
instance : Coe Int PV := ⟨fun n => .con (.int .i64 n)⟩
instance : Coe Bool PV := ⟨fun b => .con (.bool b)⟩
instance : Coe ByteArray PV := ⟨fun s => .con (.string s)⟩
instance : Coe (List (List PV)) PV := ⟨fun l => .sl l⟩
theorem mixed : Tryz.prog.follows .mixedOrders = true := by kernel_rfl
def bodyOf (f : Func) : Code := match f.body with | some c => c | none => .skip
end Go.Proofs.YtboopmfjkepilaaGreatDoor.Deep

namespace Go.Proofs.YtboopmfjkepilaaGreatDoor.Deep
open Go.RowKit
set_option linter.unusedVariables false
set_option linter.unusedSimpArgs false
inductive Va where
  | mk (kind num : Int) (bytes : List UInt8) (name : ByteArray) (kids : List Va)
def Va.kind : Va → Int | .mk k _ _ _ _ => k
def Va.num : Va → Int | .mk _ n _ _ _ => n
def Va.name : Va → ByteArray | .mk _ _ _ s _ => s
def Va.kids : Va → List Va | .mk _ _ _ _ ks => ks
def byP (b : List UInt8) : List (List PV) := b.map fun x => [.con (.int .u8 (x.toNat : Int))]
mutual
def vaP : Va → List PV
  | .mk k n b s ks => [.con (.int .i64 k), .con (.int .i64 n), .sl (byP b), .con (.string s), .sl (vaPs ks)]
def vaPs : List Va → List (List PV)
  | [] => []
  | t :: ts => vaP t :: vaPs ts
end
theorem vaPs_mp : ∀ l : List Va, vaPs l = l.map vaP
  | [] => rfl
  | t :: ts => by simp [vaPs, vaPs_mp ts]
theorem map_get {α : Type} (f : α → List PV) (l : List α) (i : Nat) (h : i < l.length) : (l.map f)[i]? = some (f l[i]) := by simp [h]
end Go.Proofs.YtboopmfjkepilaaGreatDoor.Deep

namespace Go.Proofs.YtboopmfjkepilaaGreatDoor.Deep
open Go.RowKit
set_option linter.unusedVariables false
def I5 : TI := ⟨true, 1, false, false, 0, false, false, [], false, some [.con (.int .u8 0)], 1, none, some .u8, none⟩
theorem u2 : Tryz.prog.underlying 2 = some (.int .i64) := by kernel_rfl
theorem u5 : Tryz.prog.underlying 5 = some (.int .u8) := by kernel_rfl
theorem u22 : Tryz.prog.underlying 22 = some (.slice 5) := by kernel_rfl
theorem z5 : 0 < Tryz.prog.cellsOf 5 := by rw [show Tryz.prog.cellsOf 5 = 1 by kernel_rfl]; decide
section
variable {H : Type} {enc : TypeId × Value → H} {w : World} {spare : Nat → Bool} {held : Bool}
theorem op_i {P : Program} {t : TypeId} {k : IntKind} (u : P.underlying t = some (.int k)) {fuel : Nat} {cs : List Value} {x : DataW H × List MemPlace} (h : DataW.trod enc P w 0 spare held fuel t cs = some x) : ∃ n : Int, (Lit.int k n).wf = true ∧ CR w cs [.con (.int k n)] := by
  obtain ⟨n, rfl, _, hw⟩ := DataW.trod_int u h
  exact ⟨n, hw, .int _ _ _⟩
end
theorem CR.agg {w : World} {vs : Array Value} {ps : List PV} (h : CR w vs.toList ps) : Rep (blockCells w) (fun _ => ⟨0, 0⟩) w 0 (.agg vs) (.agg ps) := by
  have := Rep.agg (G := blockCells w) (m := fun _ => ⟨0, 0⟩) (w := w) 0 vs.toList ps h.len h.rep
  simpa using this
end Go.Proofs.YtboopmfjkepilaaGreatDoor.Deep

namespace Go.Proofs.YtboopmfjkepilaaGreatDoor.Deep
open Go.ChangeShapes Go.WideShapes Go.ChangeAt Go.RowKit
set_option linter.unusedVariables false
theorem args_again {H : Type} {enc : TypeId × Value → H} {P : Program} {W W' : World} (hl : laidOutB P = true) (hb : Below W.heap.size W W') : ∀ (ts : List TypeId), (∀ t ∈ ts, P.readableRec t = true ∧ t < P.types.size) → ∀ (vs : List Value) (ds : List (DataW H)) (ps : List MemPlace),
    DataW.TrodAll enc P W 0 (fun _ => true) true ts vs ds ps → (∀ x ∈ ps, x.block < W.heap.size) → ∀ sp : Nat → Bool, (∀ x ∈ ps, sp x.block = true) → DataW.TrodAll enc P W' 0 sp true ts vs ds ps := by
  intro ts
  induction ts with
  | nil => intro _ vs ds ps h _ sp _; obtain ⟨rfl, rfl, rfl⟩ := trodAll_nil h; exact trodAll_mk0
  | cons t ts ih =>
    intro ht vs ds ps h hlt sp hsp
    obtain ⟨v, vs1, d, ds1, a, b, rfl, rfl, rfl, h1, h2⟩ := trodAll_cons h
    have h0 := ht t (by simp)
    exact trodAll_cons_mk (WideElems.Trod_stays hl h0.1 h0.2 h1 (fun x hx => hb.same (hlt x (List.mem_append_left _ hx))) (fun x hx => hsp x (List.mem_append_left _ hx)))
      (ih (fun t h => ht t (by simp [h])) _ _ _ h2 (fun x hx => hlt x (List.mem_append_right _ hx)) sp (fun x hx => hsp x (List.mem_append_right _ hx)))
theorem post_law {H : Type} {enc : TypeId × Value → H} {P : Program} {f : Func} {s : ChangeSpec} {apart fresh handsOn : Bool} {W W' : World} {args : Array Value} {v : Value} {ds gs : List (DataW H)} {before pa pv : List MemPlace}
    (hW : DataW.Whole enc P f.params.toList s.vars apart W args.toList ds gs before)
    (hres : ∀ (b : Nat) (sp : Nat → Bool) (hd : Bool), DataW.TrodAll enc P W' b sp hd f.resultTypes.toList (v.resultList f.resultTypes.size) (s.fn H (ds ++ gs)).results [])
    (hargs : ∀ sp : Nat → Bool, (∀ p ∈ before, sp p.block = true) → DataW.TrodAll enc P W' 0 sp true f.params.toList args.toList (s.fn H (ds ++ gs)).args pa)
    (hvars : ∀ sp : Nat → Bool, (∀ p ∈ before, sp p.block = true) → DataW.TrodVars enc P W' sp s.vars (s.fn H (ds ++ gs)).vars pv)
    (hps : before = pa ++ pv) (hb : Below W.heap.size W W') : s.post enc P f apart fresh handsOn false W args v W' := by
  have hold : ∀ p ∈ before, (fun b => decide (b < W.heap.size)) p.block = true := fun p hp => by simpa using hW.lt p hp
  exact ⟨ds, gs, before, [], pa, pv, hW, hres _ _ _, hargs _ hold, hvars _ hold, World.keptBut_mono (fun p hp => ⟨hp, Or.inr (List.mem_append.1 (hps ▸ hp))⟩) (hb.frame (· ∈ before)), fun h => by cases h⟩
theorem hs_start (P : Program) (W : World) : HS P (blockCells W) (fun _ => ⟨0, 0⟩) W [] := ⟨fun b hb => absurd hb (Nat.not_lt_zero _), fun b _ hb => absurd hb (Nat.not_lt_zero _), block_old⟩
theorem law_calls {f : FuncId} {ps : List PV} (h : PCalls Tryz.prog f ps (fun r => r = .con (.bool true))) {W : World} {vs : Array Value} (ha : Args (blockCells W) (fun _ => ⟨0, 0⟩) W 0 vs ps) : Calls Tryz.prog f vs W fun e W' => e = .returned (.bool true) ∧ Below W.heap.size W W' :=
  (h (blockCells W) (fun _ => ⟨0, 0⟩) W vs (hs_start _ W) ha).mono fun e W' ⟨v, r, h', G', m', he, ⟨hr, _⟩, hrep, _, hg⟩ => by
    subst hr
    obtain rfl := hrep.con_eq
    exact ⟨he, hg.below⟩
theorem args_list {w : World} {G : Nat → Nat} {m : Nat → Pl} {n : Nat} : ∀ (vs : List Value) (ps : List PV), vs.length = ps.length → (∀ i (h : i < vs.length) (h2 : i < ps.length), Rep G m w n vs[i] ps[i]) → Args G m w n vs.toArray ps := fun vs ps hl h => by
  refine ⟨by simpa using hl, fun i hi => ?_⟩
  have := h i (by omega) hi
  simp only [List.getD_eq_getElem?_getD, List.getElem?_eq_getElem hi, Option.getD_some]
  simpa [Array.getD, hl, hi] using this
end Go.Proofs.YtboopmfjkepilaaGreatDoor.Deep

namespace Go.Proofs.YtboopmfjkepilaaGreatDoor.Deep
open Go.ChangeShapes Go.WideShapes Go.ChangeAt Go.RowKit
set_option linter.unusedVariables false
theorem open_list {P : Program} {α : Type} (view : α → List PV) (M : α → Prop) {H : Type} {enc : TypeId × Value → H} {t e : TypeId} (ht : P.underlying t = some (.slice e)) (hs : 0 < P.cellsOf e) {W : World} {r : Reach} {b0 : Nat} {v : Value} {d : DataW H} {p : List MemPlace} (hv : Value.okWide P W r b0 t v)
    (h : DataW.Trod enc P W 0 (fun _ => true) true t v d p) (ho : ∀ n us y, us.length = P.cellsOf e → DataW.trod enc P W 0 (fun _ => true) true n e us = some y → ∃ a : α, M a ∧ CR W us (view a)) :
    ∃ zs : List α, (∀ a ∈ zs, M a) ∧ Rep (blockCells W) (fun _ => ⟨0, 0⟩) W 0 v (.sl (zs.map view)) := by
  obtain ⟨a, len, cap, rfl⟩ := okWide_slice ht hv
  obtain ⟨fuel, h⟩ := h
  obtain ⟨zs, hz, hc⟩ := open_slice view M ht hs h (fun n us y _ hl hu => ho n us y hl hu)
  exact ⟨zs, hz, hc.rep 0 (by simp)⟩
theorem open_num {P : Program} {H : Type} {enc : TypeId × Value → H} {t : TypeId} {k : IntKind} (ht : P.underlying t = some (.int k)) {W : World} {r : Reach} {b0 : Nat} {v : Value} {d : DataW H} {p : List MemPlace} (hv : Value.okWide P W r b0 t v)
    (h : DataW.Trod enc P W 0 (fun _ => true) true t v d p) : ∃ n : Int, True ∧ Rep (blockCells W) (fun _ => ⟨0, 0⟩) W 0 v (.con (.int k n)) := by
  obtain ⟨a, rfl, _, _, _⟩ := open_int ht hv h
  exact ⟨a, trivial, .con _ _⟩
end Go.Proofs.YtboopmfjkepilaaGreatDoor.Deep

namespace Go.Proofs.YtboopmfjkepilaaGreatDoor.Deep
open Go.RowKit
set_option linter.unusedVariables false
set_option linter.unusedSimpArgs false
def wrapW (n : Int) : Int := (n + 4611686018427387904) % 9223372036854775808 - 4611686018427387904
theorem wrap_i (n : Int) : IntKind.i64.wrap n = (n + 9223372036854775808) % 18446744073709551616 - 9223372036854775808 := by
  simp only [IntKind.wrap, IntKind.bits, IntKind.signed, Bool.true_and]
  split <;> (rename_i h; simp at h; omega)
theorem wrapW_in (n : Int) : -4611686018427387904 ≤ wrapW n ∧ wrapW n < 4611686018427387904 := by unfold wrapW; omega
def cutF (b : List UInt8) (at' n : Int) : List UInt8 := (b.drop at'.toNat).take n.toNat
def Va.bytes : Va → List UInt8 | .mk _ _ b _ _ => b
def numV (n : Int) : Va := .mk 0 n [] ⟨#[]⟩ []
def textV (b : List UInt8) : Va := .mk 1 0 b ⟨#[]⟩ []
end Go.Proofs.YtboopmfjkepilaaGreatDoor.Deep

namespace Go.Proofs.YtboopmfjkepilaaGreatDoor.Deep
open Go.RowKit
set_option linter.unusedVariables false
set_option linter.unusedSimpArgs false
theorem sh_wrap (i : Int) : shrI .i64 (shlI .i64 i 1) 1 = wrapW i := by
  have e1 : shlI .i64 i 1 = IntKind.i64.wrap (i * 2) := rfl
  have e2 : ∀ z : Int, shrI .i64 z 1 = z.fdiv 2 := fun _ => rfl
  rw [e2, e1, wrap_i, Int.fdiv_eq_ediv_of_nonneg _ (by decide)]
  unfold wrapW
  omega
def byt (l : List UInt8) : ByteArray := ⟨l.toArray⟩
theorem byt_size (l : List UInt8) : (byt l).size = l.length := by simp [byt, ByteArray.size]
theorem byt_app (a b : List UInt8) : byt a ++ byt b = byt (a ++ b) := by
  apply ByteArray.ext
  rw [ByteArray.data_append]
  simp [byt]
theorem byt_piece (a : List UInt8) (n : Nat) : (byt a).extract 0 n = byt (a.take n) := by
  apply ByteArray.ext
  rw [ByteArray.data_extract]
  simp [byt]
theorem min_le (a b : Int) : minI a b = if a ≤ b then a else b := by unfold minI; split <;> split <;> omega
theorem max_le (a b : Int) : maxI a b = if a ≤ b then b else a := by unfold maxI; split <;> split <;> omega
theorem minI_nat (a b : Int) (ha : 0 ≤ a) (hb : 0 ≤ b) : 0 ≤ minI a b ∧ minI a b ≤ a ∧ minI a b ≤ b ∧ (minI a b).toNat = min a.toNat b.toNat := by rw [min_le]; split <;> omega
theorem maxI_nat (a : Int) : 0 ≤ maxI a 0 ∧ (maxI a 0).toNat = a.toNat := by rw [max_le]; split <;> omega
theorem take_min (l : List UInt8) (n : Nat) : l.take (min n l.length) = l.take n := by
  rcases Nat.le_total n l.length with h | h
  · rw [Nat.min_eq_left h]
  · rw [Nat.min_eq_right h, List.take_of_length_le (Nat.le_refl _), List.take_of_length_le h]
theorem drop_min (l : List UInt8) (n : Nat) : l.drop (min n l.length) = l.drop n := by
  rcases Nat.le_total n l.length with h | h
  · rw [Nat.min_eq_left h]
  · rw [Nat.min_eq_right h, List.drop_of_length_le (Nat.le_refl _), List.drop_of_length_le h]
theorem byP_drop (a : List UInt8) (n : Nat) : (byP a).drop n = byP (a.drop n) := by simp [byP]
end Go.Proofs.YtboopmfjkepilaaGreatDoor.Deep

namespace Go.Proofs.YtboopmfjkepilaaGreatDoor.Deep
open Go.RowKit
set_option linter.unusedVariables false
set_option linter.unusedSimpArgs false
theorem byP_len (b : List UInt8) : (byP b).length = b.length := by simp [byP]
theorem byP_app (a b : List UInt8) : byP (a ++ b) = byP a ++ byP b := by simp [byP]
theorem byP_at (b : List UInt8) (j : Nat) (hj : j < b.length) : (byP b)[j]? = some [.con (.int .u8 (b[j].toNat : Int))] := by simp [byP, hj]
theorem one_by (b : List UInt8) : ∀ y ∈ byP b, y.length = 1 ∧ ∀ p ∈ y, PV.one p = true := by
  intro y hy
  simp only [byP, List.mem_map] at hy
  obtain ⟨x, _, rfl⟩ := hy
  refine ⟨rfl, fun p hp => ?_⟩
  rw [List.mem_singleton.1 hp]; rfl
theorem wrapW_wrapW (i : Int) : wrapW (wrapW i) = wrapW i := by unfold wrapW; omega
def atF (a : List UInt8) (i : Int) : Int := if i < 0 ∨ i ≥ a.length then -1 else (a.getD i.toNat 0).toNat
theorem one_row (b : List UInt8) : ∀ y ∈ byP b, y.length = 1 := fun y hy => (one_by b y hy).1
theorem piece_eq (a : List UInt8) (i n : Int) : cutF a i n = (a.drop (minI (maxI i 0) a.length).toNat).take (minI (maxI n 0) ((a.drop (minI (maxI i 0) a.length).toNat).length)).toNat := by
  obtain ⟨i0, i1⟩ := maxI_nat i
  obtain ⟨n0, n1⟩ := maxI_nat n
  obtain ⟨_, _, _, e⟩ := minI_nat (maxI i 0) a.length i0 (by omega)
  rw [e, i1, Int.toNat_natCast, drop_min]
  obtain ⟨_, _, _, e2⟩ := minI_nat (maxI n 0) ((a.drop i.toNat).length) n0 (by omega)
  rw [e2, n1, Int.toNat_natCast, take_min]
  rfl
end Go.Proofs.YtboopmfjkepilaaGreatDoor.Deep

namespace Go.Proofs.YtboopmfjkepilaaGreatDoor.Deep
open Go.RowKit
set_option linter.unusedVariables false
def loops8 (id : Nat) : Option (List Nat × List (Nat × Sh)) := none
def p8 (i1 : Int) (Q : PV → Heap → Prop) : Prop :=
br (((i1 : Int) == 0))
  (Q (.own 2 42 3 [[(.con (.int .i64 0)), (.con (.string ⟨#[]⟩)), (.sl [])], [(.con (.int .i64 0)), (.con (.string ⟨#[]⟩)), (.sl [])]]) [[(.con (.int .i64 0)), (.con (.string ⟨#[]⟩)), (.con (.slice none 0 0))], [(.con (.int .i64 1)), (.con (.string ⟨#[]⟩)), (.con (.slice none 0 0))], [.tip]])
  (br (((i1 : Int) == 1))
  (Q (.own 2 42 3 [[(.con (.int .i64 0)), (.con (.string ⟨#[]⟩)), (.sl [])], [(.con (.int .i64 0)), (.con (.string ⟨#[]⟩)), (.sl [])]]) [[(.con (.int .i64 0)), (.con (.string ⟨#[]⟩)), (.con (.slice none 0 0))], [(.con (.int .i64 1)), (.con (.string ⟨#[]⟩)), (.con (.slice none 0 0))], [.tip]])
  (br (((i1 : Int) == 2))
  (Q (.own 2 42 3 [[(.con (.int .i64 0)), (.con (.string ⟨#[]⟩)), (.sl [])], [(.con (.int .i64 0)), (.con (.string ⟨#[]⟩)), (.sl [])]]) [[(.con (.int .i64 0)), (.con (.string ⟨#[]⟩)), (.con (.slice none 0 0))], [(.con (.int .i64 1)), (.con (.string ⟨#[]⟩)), (.con (.slice none 0 0))], [.tip]])
  (br (((i1 : Int) == 3))
  (Q (.own 2 42 3 [[(.con (.int .i64 0)), (.con (.string ⟨#[]⟩)), (.sl [])], [(.con (.int .i64 0)), (.con (.string ⟨#[]⟩)), (.sl [])]]) [[(.con (.int .i64 0)), (.con (.string ⟨#[]⟩)), (.con (.slice none 0 0))], [(.con (.int .i64 1)), (.con (.string ⟨#[]⟩)), (.con (.slice none 0 0))], [.tip]])
  (br (((i1 : Int) == 4))
  (Q (.own 2 42 3 [[(.con (.int .i64 0)), (.con (.string ⟨#[]⟩)), (.sl [])], [(.con (.int .i64 0)), (.con (.string ⟨#[]⟩)), (.sl [])]]) [[(.con (.int .i64 0)), (.con (.string ⟨#[]⟩)), (.con (.slice none 0 0))], [(.con (.int .i64 1)), (.con (.string ⟨#[]⟩)), (.con (.slice none 0 0))], [.tip]])
  (br (((i1 : Int) == 5))
  (Q (.own 2 42 3 [[(.con (.int .i64 0)), (.con (.string ⟨#[]⟩)), (.sl [])], [(.con (.int .i64 0)), (.con (.string ⟨#[]⟩)), (.sl [])]]) [[(.con (.int .i64 0)), (.con (.string ⟨#[]⟩)), (.con (.slice none 0 0))], [(.con (.int .i64 1)), (.con (.string ⟨#[]⟩)), (.con (.slice none 0 0))], [.tip]])
  (br (((i1 : Int) == 6))
  (Q (.own 2 42 3 [[(.con (.int .i64 0)), (.con (.string ⟨#[]⟩)), (.sl [])], [(.con (.int .i64 0)), (.con (.string ⟨#[]⟩)), (.sl [])]]) [[(.con (.int .i64 0)), (.con (.string ⟨#[]⟩)), (.con (.slice none 0 0))], [(.con (.int .i64 1)), (.con (.string ⟨#[]⟩)), (.con (.slice none 0 0))], [.tip]])
  (br (((i1 : Int) == 7))
  (Q (.own 2 42 3 [[(.con (.int .i64 0)), (.con (.string ⟨#[]⟩)), (.sl [])], [(.con (.int .i64 0)), (.con (.string ⟨#[]⟩)), (.sl [])]]) [[(.con (.int .i64 0)), (.con (.string ⟨#[]⟩)), (.con (.slice none 0 0))], [(.con (.int .i64 1)), (.con (.string ⟨#[]⟩)), (.con (.slice none 0 0))], [.tip]])
  (br (((i1 : Int) == 8))
  (Q (.own 2 42 3 [[(.con (.int .i64 1)), (.con (.string ⟨#[]⟩)), (.sl [])]]) [[(.con (.int .i64 0)), (.con (.string ⟨#[]⟩)), (.con (.slice none 0 0))], [(.con (.int .i64 1)), (.con (.string ⟨#[]⟩)), (.con (.slice none 0 0))], [.tip]])
  (br (((i1 : Int) == 9))
  (Q (.own 2 42 3 [[(.con (.int .i64 1)), (.con (.string ⟨#[]⟩)), (.sl [])], [(.con (.int .i64 0)), (.con (.string ⟨#[]⟩)), (.sl [])]]) [[(.con (.int .i64 0)), (.con (.string ⟨#[]⟩)), (.con (.slice none 0 0))], [(.con (.int .i64 1)), (.con (.string ⟨#[]⟩)), (.con (.slice none 0 0))], [.tip]])
  (br (((i1 : Int) == 10))
  (Q (.own 2 42 3 [[(.con (.int .i64 1)), (.con (.string ⟨#[]⟩)), (.sl [])], [(.con (.int .i64 1)), (.con (.string ⟨#[]⟩)), (.sl [])]]) [[(.con (.int .i64 0)), (.con (.string ⟨#[]⟩)), (.con (.slice none 0 0))], [(.con (.int .i64 1)), (.con (.string ⟨#[]⟩)), (.con (.slice none 0 0))], [.tip]])
  (br (((i1 : Int) == 11))
  (Q (.own 2 42 3 [[(.con (.int .i64 1)), (.con (.string ⟨#[]⟩)), (.sl [])], [(.con (.int .i64 0)), (.con (.string ⟨#[]⟩)), (.sl [])], [(.con (.int .i64 0)), (.con (.string ⟨#[]⟩)), (.sl [])]]) [[(.con (.int .i64 0)), (.con (.string ⟨#[]⟩)), (.con (.slice none 0 0))], [(.con (.int .i64 1)), (.con (.string ⟨#[]⟩)), (.con (.slice none 0 0))], [.tip]])
  (Q (.con (.slice none 0 0)) [[(.con (.int .i64 0)), (.con (.string ⟨#[]⟩)), (.con (.slice none 0 0))], [(.con (.int .i64 1)), (.con (.string ⟨#[]⟩)), (.con (.slice none 0 0))]]))))))))))))
theorem a8 (i1 : Int) (Q : PV → Heap → Prop) (h : p8 i1 Q) : ACalls Tryz.prog 8 [i1] [] Q := by
  have hb : Option.some (bodyOf Tryz.f8) = Tryz.f8.body := by kernel_rfl
  exact acalls_eq (S := S) (L := loops8) mixed tok Tryz.func8 hb.symm (by kernel_rfl) h
def p10 (i1 i2 : Int) (l3 : List (List PV)) (s4 : ByteArray) (l5 : List (List PV)) (Q : PV → Heap → Prop) : Prop :=
br (((i1 : Int) == 0))
  (∃ i6 : Int, CallN Tryz.prog 16 [i2] [[i1, i2, l3, s4, l5], [(.con (.int .i64 0)), (.con (.int .i64 0)), (.con (.slice none 0 0)), (.con (.string ⟨#[]⟩)), (.con (.slice none 0 0))]] i6
  (Q (.agg [i1, i6, l3, s4, l5]) [[i1, i6, l3, s4, l5], [i1, i6, l3, s4, l5]]))
  (Q (.agg [i1, i2, l3, s4, l5]) [[i1, i2, l3, s4, l5], [i1, i2, l3, s4, l5]])
theorem a10 (i1 i2 : Int) (l3 : List (List PV)) (s4 : ByteArray) (l5 : List (List PV)) (Q : PV → Heap → Prop) (h : p10 i1 i2 l3 s4 l5 Q) : ACalls Tryz.prog 10 [(.agg [i1, i2, l3, s4, l5])] [] Q := by
  have hb : Option.some (bodyOf Tryz.f10) = Tryz.f10.body := by kernel_rfl
  exact acalls_eq (S := S) (L := loops8) mixed tok Tryz.func10 hb.symm (by kernel_rfl) h
def p22 (i1 : Int) (Q : PV → Heap → Prop) : Prop :=
Q (.agg [(.con (.int .i64 0)), i1, (.con (.slice none 0 0)), (.con (.string ⟨#[]⟩)), (.con (.slice none 0 0))]) [[(.con (.int .i64 0)), i1, (.con (.slice none 0 0)), (.con (.string ⟨#[]⟩)), (.con (.slice none 0 0))]]
theorem a22 (i1 : Int) (Q : PV → Heap → Prop) (h : p22 i1 Q) : ACalls Tryz.prog 22 [i1] [] Q := by
  have hb : Option.some (bodyOf Tryz.f22) = Tryz.f22.body := by kernel_rfl
  exact acalls_eq (S := S) (L := loops8) mixed tok Tryz.func22 hb.symm (by kernel_rfl) h
def p23 (l1 : List (List PV)) (i2 : Int) (Q : PV → Heap → Prop) : Prop :=
br ((decide ((i2 : Int) < 0)))
  (Q (.con (.int .i64 (-1))) [])
  (br ((decide ((i2 : Int) ≥ (List.length l1 : Int))))
  (Q (.con (.int .i64 (-1))) [])
  (∃ i3 : Int, IdxN l1 i2 [(.con (.int .u8 i3))]
  (Q (IntKind.wrap .i64 i3) [])))
theorem a23 (l1 : List (List PV)) (i2 : Int) (Q : PV → Heap → Prop) (h : p23 l1 i2 Q) : ACalls Tryz.prog 23 [l1, i2] [] Q := by
  have hb : Option.some (bodyOf Tryz.f23) = Tryz.f23.body := by kernel_rfl
  exact acalls_eq (S := S) (L := loops8) mixed tok Tryz.func23 hb.symm (by kernel_rfl) h
def p25 (l1 : List (List PV)) (Q : PV → Heap → Prop) : Prop :=
AppN [] l1 1 1 PV.one
  (Q (.own 0 5 1 l1) [[.tip]])
theorem a25 (l1 : List (List PV)) (Q : PV → Heap → Prop) (h : p25 l1 Q) : ACalls Tryz.prog 25 [l1] [] Q := by
  have hb : Option.some (bodyOf Tryz.f25) = Tryz.f25.body := by kernel_rfl
  exact acalls_canon (res := [.cell (.own 0 5 1)]) (post := [.tip]) (acalls_eq (S := S) (L := loops8) mixed tok Tryz.func25 hb.symm (by kernel_rfl) h)
def p24 (l1 : List (List PV)) (Q : PV → Heap → Prop) : Prop :=
PieceN (List.length l1) 0 (minI (List.length l1 : Int) 64)
  (SizN l1 1
  (∃ l2 : List (List PV), CallF Tryz.prog 25 [(.sl (List.take (Int.toNat (minI (List.length l1 : Int) 64)) l1))] [] (.own 0 5 1 l2) [[.tip]]
  (Q (.agg [(.con (.int .i64 1)), (.con (.int .i64 0)), (.own 1 5 1 l2), (.con (.string ⟨#[]⟩)), (.con (.slice none 0 0))]) [[(.con (.int .i64 1)), (.con (.int .i64 0)), (.own 1 5 1 l2), (.con (.string ⟨#[]⟩)), (.con (.slice none 0 0))], [.tip]])))
theorem a24 (l1 : List (List PV)) (Q : PV → Heap → Prop) (h : p24 l1 Q) : ACalls Tryz.prog 24 [l1] [] Q := by
  have hb : Option.some (bodyOf Tryz.f24) = Tryz.f24.body := by kernel_rfl
  exact acalls_eq (S := S) (L := loops8) mixed tok Tryz.func24 hb.symm (by kernel_rfl) h
def p26 (l1 : List (List PV)) (i2 i3 : Int) (Q : PV → Heap → Prop) : Prop :=
∃ n4 : Nat, CutN l1 1 n4 (minI (maxI i2 0) (List.length l1 : Int))
  (PieceN (List.length (List.drop n4 l1)) 0 (minI (maxI i3 0) (List.length (List.drop n4 l1) : Int))
  (SizN (List.drop n4 l1) 1
  (Q (.sl (List.take (Int.toNat (minI (maxI i3 0) (List.length (List.drop n4 l1) : Int))) (List.drop n4 l1))) [])))
theorem a26 (l1 : List (List PV)) (i2 i3 : Int) (Q : PV → Heap → Prop) (h : p26 l1 i2 i3 Q) : ACalls Tryz.prog 26 [l1, i2, i3] [] Q := by
  have hb : Option.some (bodyOf Tryz.f26) = Tryz.f26.body := by kernel_rfl
  exact acalls_eq (S := S) (L := loops8) mixed tok Tryz.func26 hb.symm (by kernel_rfl) h
def p12 (i1 : Int) (l2 : List (List PV)) (Q : PV → Heap → Prop) : Prop :=
∃ (i3 i4 : Int) (l5 : LL) (s6 : ByteArray) (l7 : LL), IdxN l2 0 [i3, i4, l5, s6, l7]
  (br (((i1 : Int) == 5))
  (∃ (i8 i9 : Int) (l10 : LL) (s11 : ByteArray) (l12 : LL), IdxN l2 1 [i8, i9, l10, s11, l12]
  (∃ b13 : Bool, CallN Tryz.prog 21 [i1, i4, i9] [[(.con (.int .i64 0)), (.con (.int .i64 0)), (.con (.slice none 0 0)), (.con (.string ⟨#[]⟩)), (.con (.slice none 0 0))], [i3, i4, l5, s6, l7]] b13
  (∃ (i14 i15 : Int) (l16 : LL) (s17 : ByteArray) (l18 : LL), CallN Tryz.prog 20 [b13] [[(.con (.int .i64 0)), (.con (.int .i64 0)), (.con (.slice none 0 0)), (.con (.string ⟨#[]⟩)), (.con (.slice none 0 0))], [i3, i4, l5, s6, l7]] (.agg [i14, i15, l16, s17, l18])
  (Q (.agg [i14, i15, l16, s17, l18]) [[i14, i15, l16, s17, l18], [i3, i4, l5, s6, l7]]))))
  (br (((i1 : Int) == 6))
  (∃ (i19 i20 : Int) (l21 : LL) (s22 : ByteArray) (l23 : LL), IdxN l2 1 [i19, i20, l21, s22, l23]
  (∃ b24 : Bool, CallN Tryz.prog 21 [i1, i4, i20] [[(.con (.int .i64 0)), (.con (.int .i64 0)), (.con (.slice none 0 0)), (.con (.string ⟨#[]⟩)), (.con (.slice none 0 0))], [i3, i4, l5, s6, l7]] b24
  (∃ (i25 i26 : Int) (l27 : LL) (s28 : ByteArray) (l29 : LL), CallN Tryz.prog 20 [b24] [[(.con (.int .i64 0)), (.con (.int .i64 0)), (.con (.slice none 0 0)), (.con (.string ⟨#[]⟩)), (.con (.slice none 0 0))], [i3, i4, l5, s6, l7]] (.agg [i25, i26, l27, s28, l29])
  (Q (.agg [i25, i26, l27, s28, l29]) [[i25, i26, l27, s28, l29], [i3, i4, l5, s6, l7]]))))
  (br (((i1 : Int) == 7))
  (∃ (i30 i31 : Int) (l32 : LL) (s33 : ByteArray) (l34 : LL), IdxN l2 1 [i30, i31, l32, s33, l34]
  (∃ b35 : Bool, CallN Tryz.prog 21 [i1, i4, i31] [[(.con (.int .i64 0)), (.con (.int .i64 0)), (.con (.slice none 0 0)), (.con (.string ⟨#[]⟩)), (.con (.slice none 0 0))], [i3, i4, l5, s6, l7]] b35
  (∃ (i36 i37 : Int) (l38 : LL) (s39 : ByteArray) (l40 : LL), CallN Tryz.prog 20 [b35] [[(.con (.int .i64 0)), (.con (.int .i64 0)), (.con (.slice none 0 0)), (.con (.string ⟨#[]⟩)), (.con (.slice none 0 0))], [i3, i4, l5, s6, l7]] (.agg [i36, i37, l38, s39, l40])
  (Q (.agg [i36, i37, l38, s39, l40]) [[i36, i37, l38, s39, l40], [i3, i4, l5, s6, l7]]))))
  (br (((i1 : Int) == 8))
  (∃ (i41 i42 : Int) (l43 : LL) (s44 : ByteArray) (l45 : LL), CallN Tryz.prog 22 [(.con (.int .i64 (List.length l5 : Int)))] [[(.con (.int .i64 0)), (.con (.int .i64 0)), (.con (.slice none 0 0)), (.con (.string ⟨#[]⟩)), (.con (.slice none 0 0))], [i3, i4, l5, s6, l7]] (.agg [i41, i42, l43, s44, l45])
  (Q (.agg [i41, i42, l43, s44, l45]) [[i41, i42, l43, s44, l45], [i3, i4, l5, s6, l7]]))
  (br (((i1 : Int) == 9))
  (∃ (i46 i47 : Int) (l48 : LL) (s49 : ByteArray) (l50 : LL), IdxN l2 1 [i46, i47, l48, s49, l50]
  (∃ i51 : Int, CallN Tryz.prog 23 [l5, i47] [[(.con (.int .i64 0)), (.con (.int .i64 0)), (.con (.slice none 0 0)), (.con (.string ⟨#[]⟩)), (.con (.slice none 0 0))], [i3, i4, l5, s6, l7]] i51
  (∃ (i52 i53 : Int) (l54 : LL) (s55 : ByteArray) (l56 : LL), CallN Tryz.prog 22 [i51] [[(.con (.int .i64 0)), (.con (.int .i64 0)), (.con (.slice none 0 0)), (.con (.string ⟨#[]⟩)), (.con (.slice none 0 0))], [i3, i4, l5, s6, l7]] (.agg [i52, i53, l54, s55, l56])
  (Q (.agg [i52, i53, l54, s55, l56]) [[i52, i53, l54, s55, l56], [i3, i4, l5, s6, l7]]))))
  (br (((i1 : Int) == 10))
  (∃ l57 : List (List PV), CallF Tryz.prog 25 [l5] [] (.own 0 5 1 l57) [[.tip]]
  (∃ (i58 i59 : Int) (l60 : LL) (s61 : ByteArray) (l62 : LL), IdxN l2 1 [i58, i59, l60, s61, l62]
  (AppN l57 l60 1 1 PV.one
  (∃ (i63 i64 : Int) (l65 : LL) (s66 : ByteArray) (l67 : LL), CallN Tryz.prog 24 [(.sl (l57 ++ l60))] [[(.con (.int .i64 0)), (.con (.int .i64 0)), (.con (.slice none 0 0)), (.con (.string ⟨#[]⟩)), (.con (.slice none 0 0))], [i3, i4, l5, s6, l7], [], [.tip]] (.agg [i63, i64, l65, s66, l67])
  (Q (.agg [i63, i64, l65, s66, l67]) [[i63, i64, l65, s66, l67], [i3, i4, l5, s6, l7], [], [.tip]])))))
  (br (((i1 : Int) == 11))
  (∃ (i68 i69 : Int) (l70 : LL) (s71 : ByteArray) (l72 : LL), IdxN l2 1 [i68, i69, l70, s71, l72]
  (∃ (i73 i74 : Int) (l75 : LL) (s76 : ByteArray) (l77 : LL), IdxN l2 2 [i73, i74, l75, s76, l77]
  (∃ l78 : List (List PV), CallN Tryz.prog 26 [l5, i69, i74] [[(.con (.int .i64 0)), (.con (.int .i64 0)), (.con (.slice none 0 0)), (.con (.string ⟨#[]⟩)), (.con (.slice none 0 0))], [i3, i4, l5, s6, l7]] l78
  (∃ (i79 i80 : Int) (l81 : LL) (s82 : ByteArray) (l83 : LL), CallN Tryz.prog 24 [l78] [[(.con (.int .i64 0)), (.con (.int .i64 0)), (.con (.slice none 0 0)), (.con (.string ⟨#[]⟩)), (.con (.slice none 0 0))], [i3, i4, l5, s6, l7]] (.agg [i79, i80, l81, s82, l83])
  (Q (.agg [i79, i80, l81, s82, l83]) [[i79, i80, l81, s82, l83], [i3, i4, l5, s6, l7]])))))
  (∃ (i84 i85 : Int) (l86 : LL) (s87 : ByteArray) (l88 : LL), IdxN l2 1 [i84, i85, l86, s87, l88]
  (∃ i89 : Int, CallN Tryz.prog 27 [i1, i4, i85] [[(.con (.int .i64 0)), (.con (.int .i64 0)), (.con (.slice none 0 0)), (.con (.string ⟨#[]⟩)), (.con (.slice none 0 0))], [i3, i4, l5, s6, l7]] i89
  (∃ (i90 i91 : Int) (l92 : LL) (s93 : ByteArray) (l94 : LL), CallN Tryz.prog 22 [i89] [[(.con (.int .i64 0)), (.con (.int .i64 0)), (.con (.slice none 0 0)), (.con (.string ⟨#[]⟩)), (.con (.slice none 0 0))], [i3, i4, l5, s6, l7]] (.agg [i90, i91, l92, s93, l94])
  (Q (.agg [i90, i91, l92, s93, l94]) [[i90, i91, l92, s93, l94], [i3, i4, l5, s6, l7]])))))))))))
theorem a12 (i1 : Int) (l2 : List (List PV)) (Q : PV → Heap → Prop) (h : p12 i1 l2 Q) : ACalls Tryz.prog 12 [i1, l2] [] Q := by
  have hb : Option.some (bodyOf Tryz.f12) = Tryz.f12.body := by kernel_rfl
  exact acalls_eq (S := S) (L := loops8) mixed tok Tryz.func12 hb.symm (by kernel_rfl) h
def loops6 (id : Nat) : Option (List Nat × List (Nat × Sh)) := match Nat.beq id 6 with | true => some ([0, 1, 4, 24, 25], [(26, .int .i64)]) | false => none
def p6 (i1 : Int) (l2 : List (List PV)) (Q : PV → Heap → Prop) : Prop :=
∃ l3 : List (List PV), CallN Tryz.prog 8 [i1] [[(.con (.int .i64 0)), (.con (.int .i64 0)), (.con (.slice none 0 0)), (.con (.string ⟨#[]⟩)), (.con (.slice none 0 0))]] l3
  (br ((((List.length l3 : Int) : Int) == 0))
  (Q (.tup [(.agg [(.con (.int .i64 0)), (.con (.int .i64 0)), (.con (.slice none 0 0)), (.con (.string ⟨#[]⟩)), (.con (.slice none 0 0))]), (.con (.bool false))]) [[(.con (.int .i64 0)), (.con (.int .i64 0)), (.con (.slice none 0 0)), (.con (.string ⟨#[]⟩)), (.con (.slice none 0 0))]])
  (br ((((List.length l2 : Int) : Int) != (List.length l3 : Int)))
  (Q (.tup [(.agg [(.con (.int .i64 0)), (.con (.int .i64 0)), (.con (.slice none 0 0)), (.con (.string ⟨#[]⟩)), (.con (.slice none 0 0))]), (.con (.bool false))]) [[(.con (.int .i64 0)), (.con (.int .i64 0)), (.con (.slice none 0 0)), (.con (.string ⟨#[]⟩)), (.con (.slice none 0 0))]])
  (∃ l4 : List (List PV), CallN Tryz.prog 9 [l2, (.fn 10 [])] [[(.con (.int .i64 0)), (.con (.int .i64 0)), (.con (.slice none 0 0)), (.con (.string ⟨#[]⟩)), (.con (.slice none 0 0))]] l4
  (∃ I5 : Nat → ((Int) × Unit) → Prop, (∃ n, I5 n (0, ())) ∧ ∀ (n6 : Nat) (v7 : (Int) × Unit), I5 n6 v7 →
  (br ((decide ((v7.1 : Int) < (List.length l3 : Int))))
  (∃ (i8 : Int) (s9 : ByteArray) (l10 : LL), IdxN l3 v7.1 [i8, s9, l10]
  (∃ (i11 i12 : Int) (l13 : LL) (s14 : ByteArray) (l15 : LL), IdxN l4 v7.1 [i11, i12, l13, s14, l15]
  (∃ b16 : Bool, CallN Tryz.prog 11 [(.sl []), (.agg [i11, i12, l13, s14, l15]), (.agg [i8, s9, l10])] [[(.con (.int .i64 0)), (.con (.int .i64 0)), (.con (.slice none 0 0)), (.con (.string ⟨#[]⟩)), (.con (.slice none 0 0))], [i8, s9, l10]] b16
  (br ((!b16))
  (Q (.tup [(.agg [(.con (.int .i64 0)), (.con (.int .i64 0)), (.con (.slice none 0 0)), (.con (.string ⟨#[]⟩)), (.con (.slice none 0 0))]), (.con (.bool false))]) [[(.con (.int .i64 0)), (.con (.int .i64 0)), (.con (.slice none 0 0)), (.con (.string ⟨#[]⟩)), (.con (.slice none 0 0))], [i8, s9, l10]])
  ((@Eq PV i1 i1 ∧ @Eq PV l4 l4 ∧ @Eq PV (.ptr 0 0) (.ptr 0 0) ∧ @Eq PV l3 l3 ∧ @Eq PV (.con (.int .i64 (List.length l3 : Int))) (.con (.int .i64 (List.length l3 : Int))) ∧ True) ∧ @Eq Heap [[(.con (.int .i64 0)), (.con (.int .i64 0)), (.con (.slice none 0 0)), (.con (.string ⟨#[]⟩)), (.con (.slice none 0 0))]] [[(.con (.int .i64 0)), (.con (.int .i64 0)), (.con (.slice none 0 0)), (.con (.string ⟨#[]⟩)), (.con (.slice none 0 0))]] ∧ ∃ k17, k17 < n6 ∧ I5 k17 ((IntKind.wrap .i64 (v7.1 + 1)), ()))))))
  (∃ (i18 i19 : Int) (l20 : LL) (s21 : ByteArray) (l22 : LL), CallN Tryz.prog 12 [i1, l4] [[(.con (.int .i64 0)), (.con (.int .i64 0)), (.con (.slice none 0 0)), (.con (.string ⟨#[]⟩)), (.con (.slice none 0 0))]] (.agg [i18, i19, l20, s21, l22])
  (Q (.tup [(.agg [i18, i19, l20, s21, l22]), (.con (.bool true))]) [[i18, i19, l20, s21, l22]])))))))
theorem a6 (i1 : Int) (l2 : List (List PV)) (Q : PV → Heap → Prop) (h : p6 i1 l2 Q) : ACalls Tryz.prog 6 [i1, l2] [] Q := by
  have hb : Option.some (bodyOf Tryz.f6) = Tryz.f6.body := by kernel_rfl
  exact acalls_eq (S := S) (L := loops6) mixed tok Tryz.func6 hb.symm (by kernel_rfl) h
def p16 (i1 : Int) (Q : PV → Heap → Prop) : Prop :=
∃ i2 : Int, CallN Tryz.prog 37 [i1] [] i2
  (Q i2 [])
theorem a16 (i1 : Int) (Q : PV → Heap → Prop) (h : p16 i1 Q) : ACalls Tryz.prog 16 [i1] [] Q := by
  have hb : Option.some (bodyOf Tryz.f16) = Tryz.f16.body := by kernel_rfl
  exact acalls_eq (S := S) (L := loops8) mixed tok Tryz.func16 hb.symm (by kernel_rfl) h
def p37 (i1 : Int) (Q : PV → Heap → Prop) : Prop :=
ShN 1
  (ShN 1
  (Q (.con (.int .i64 (shrI .i64 (shlI .i64 i1 1) 1))) []))
theorem a37 (i1 : Int) (Q : PV → Heap → Prop) (h : p37 i1 Q) : ACalls Tryz.prog 37 [i1] [] Q := by
  have hb : Option.some (bodyOf Tryz.f37) = Tryz.f37.body := by kernel_rfl
  exact acalls_eq (S := S) (L := loops8) mixed tok Tryz.func37 hb.symm (by kernel_rfl) h
end Go.Proofs.YtboopmfjkepilaaGreatDoor.Deep

namespace Go.Proofs.YtboopmfjkepilaaGreatDoor.Deep
open Go.RowKit
set_option linter.unusedVariables false
def tblS2 : TS := (.node 16 (.pure [[.cell (.int .i64)]]) (.node 9 (.pure [[.cell (.list)]]) (.node 5 (.pure [[.agg [.int .i64, .int .i64, .list, .str, .list]]]) (.node 4 (.pure [[.cell (.bool)]]) (.node 3 (.pure [[.cell (.bool)]]) .leaf .leaf) .leaf) (.node 8 (.pure [[.cell (.list)]]) (.node 6 (.pure [[.agg [.int .i64, .int .i64, .list, .str, .list], .cell (.bool)]]) .leaf .leaf) .leaf)) (.node 12 (.pure [[.agg [.int .i64, .int .i64, .list, .str, .list]]]) (.node 11 (.pure [[.cell (.bool)]]) (.node 10 (.pure [[.agg [.int .i64, .int .i64, .list, .str, .list]]]) .leaf .leaf) .leaf) (.node 15 (.eff [.asis, .weak] [] [.cell (.gro 0 26 5)] [.cells [.row]]) .leaf .leaf))) (.node 25 (.pure [[.cell (.list)]]) (.node 22 (.pure [[.agg [.int .i64, .int .i64, .list, .str, .list]]]) (.node 21 (.pure [[.cell (.bool)]]) (.node 20 (.pure [[.agg [.int .i64, .int .i64, .list, .str, .list]]]) .leaf .leaf) .leaf) (.node 24 (.pure [[.agg [.int .i64, .int .i64, .list, .str, .list]]]) (.node 23 (.pure [[.cell (.int .i64)]]) .leaf .leaf) .leaf)) (.node 37 (.pure [[.cell (.int .i64)]]) (.node 27 (.pure [[.cell (.int .i64)]]) (.node 26 (.pure [[.cell (.list)]]) .leaf .leaf) .leaf) (.node 2000024 (.pure []) .leaf .leaf))))
def S2 (f : FuncId) : Option Sg := lookS f tblS2
end Go.Proofs.YtboopmfjkepilaaGreatDoor.Deep

namespace Go.Proofs.YtboopmfjkepilaaGreatDoor.Deep
open Go.RowKit
set_option linter.unusedVariables false
def p15 (i1 : Int) (Q : PV → Heap → Prop) : Prop :=
br ((decide ((i1 : Int) < 0)))
  (False)
  (br ((decide (((IntKind.wrap .i64 (i1 - (IntKind.wrap .i64 (0 - (List.length ([] : List (List PV)) : Int))))) : Int) > 0)))
  (PieceN 0 0 0
  (0 < (IntKind.wrap .i64 (i1 - (IntKind.wrap .i64 (0 - (List.length ([] : List (List PV)) : Int))))) ∧ AppR 0 (Int.toNat (IntKind.wrap .i64 (i1 - (IntKind.wrap .i64 (0 - (List.length ([] : List (List PV)) : Int)))))) 0 (List.flatten (List.replicate (Int.toNat (IntKind.wrap .i64 (i1 - (IntKind.wrap .i64 (0 - (List.length ([] : List (List PV)) : Int)))))) [(.con (.int .i64 0)), (.con (.int .i64 0)), (.con (.slice none 0 0)), (.con (.string ⟨#[]⟩)), (.con (.slice none 0 0))])) 5 80 PV.one
  (PieceN (Int.toNat (IntKind.wrap .i64 (i1 - (IntKind.wrap .i64 (0 - (List.length ([] : List (List PV)) : Int)))))) 0 (List.length ([] : List (List PV)) : Int)
  (Q (.rw 0 0 (Int.toNat (List.length ([] : List (List PV)) : Int)) 26 5) [[(.row (List.flatten (List.replicate (Int.toNat (IntKind.wrap .i64 (i1 - (IntKind.wrap .i64 (0 - (List.length ([] : List (List PV)) : Int)))))) [(.con (.int .i64 0)), (.con (.int .i64 0)), (.con (.slice none 0 0)), (.con (.string ⟨#[]⟩)), (.con (.slice none 0 0))])))]]))))
  (Q (.rw 0 0 0 26 5) [[(.row [])]]))
theorem a15 (i1 : Int) (Q : PV → Heap → Prop) (h : p15 i1 Q) : ACalls Tryz.prog 15 [(.con (.slice none 0 0)), i1] [] Q := by
  have hb : Option.some (bodyOf Tryz.f15) = Tryz.f15.body := by kernel_rfl
  exact acalls_canon (res := [.cell (.gro 0 26 5)]) (post := [.cells [.row]]) (acalls_eq (S := S2) (L := loops8) mixed tok Tryz.func15 hb.symm (by kernel_rfl) h)
def loops9w (id : Nat) : Option (List Nat × List (Nat × Sh)) := match Nat.beq id 3 with | true => some ([1, 11, 12], [(5, .gro 0 26 5), (13, .int .i64)]) | false => none
def p9w (l1 : List (List PV)) (Q : PV → Heap → Prop) : Prop :=
∃ (n2 : Nat) (r3 : List PV), CallF Tryz.prog 15 [(.con (.slice none 0 0)), (.con (.int .i64 (List.length l1 : Int)))] [] (.rw 0 0 n2 26 5) [[(.row r3)]]
  (∃ I4 : Nat → (((Nat × List PV)) × (Int) × Unit) → Prop, (∃ n, I4 n ((n2, r3), 0, ())) ∧ ∀ (n5 : Nat) (v6 : ((Nat × List PV)) × (Int) × Unit), I4 n5 v6 →
  (br ((decide ((v6.2.1 : Int) < (List.length l1 : Int))))
  (∃ (i7 i8 : Int) (l9 : LL) (s10 : ByteArray) (l11 : LL), IdxN l1 v6.2.1 [i7, i8, l9, s10, l11]
  (∃ (i12 i13 : Int) (l14 : LL) (s15 : ByteArray) (l16 : LL), CallN Tryz.prog 10 [(.agg [i7, i8, l9, s10, l11])] [[], [(.row v6.1.2)], [i7, i8, l9, s10, l11]] (.agg [i12, i13, l14, s15, l16])
  (AppR v6.1.1 (List.length ([[i12, i13, l14, s15, l16]] : LL)) (List.length v6.1.2) (List.flatten ([[i12, i13, l14, s15, l16]] : LL)) 5 80 PV.one
  ((@Eq PV (.fn 10 []) (.fn 10 []) ∧ @Eq PV l1 l1 ∧ @Eq PV (.con (.int .i64 (List.length l1 : Int))) (.con (.int .i64 (List.length l1 : Int))) ∧ True) ∧ @Eq Heap [[]] [[]] ∧ ∃ k17, k17 < n5 ∧ I4 k17 (((v6.1.1 + (List.length ([[i12, i13, l14, s15, l16]] : LL))), (List.take (v6.1.1 * 5) v6.1.2 ++ (List.flatten ([[i12, i13, l14, s15, l16]] : LL)))), (IntKind.wrap .i64 (v6.2.1 + 1)), ())))))
  (Q (.rw 1 0 v6.1.1 26 5) [[], [(.row v6.1.2)]])))
theorem a9w (l1 : List (List PV)) (Q : PV → Heap → Prop) (h : p9w l1 Q) : ACalls Tryz.prog 9 [l1, (.fn 10 [])] [] Q := by
  have hb : Option.some (bodyOf Tryz.f9) = Tryz.f9.body := by kernel_rfl
  exact acalls_eq (S := S2) (L := loops9w) mixed tok Tryz.func9 hb.symm (by kernel_rfl) h
end Go.Proofs.YtboopmfjkepilaaGreatDoor.Deep

namespace Go.Proofs.YtboopmfjkepilaaGreatDoor.Deep
open Go.RowKit Go.Proofs.YtboopmfjkepilaaGreatDoor
set_option linter.unusedVariables false
set_option linter.unusedSimpArgs false
def PC (p : PV) (c : Run.CV) : Prop := ∀ (G : Nat → Nat) (m : Nat → Pl) (w : World) (n : Nat) (v : Value), Rep G m w n v p → Run.Rp (fun _ => none) v c
theorem pc_con (x : Value) : PC (.con x) (.lit x) := fun G m w n v h => by rw [h.con_eq]; exact .lit _
theorem pc_rng {k : IntKind} {n lo hi : Int} (h1 : lo ≤ n) (h2 : n ≤ hi) : PC (.con (.int k n)) (.abs (.rng k lo hi)) := fun G m w _ v h => by rw [h.con_eq]; exact .abs _ _ ⟨n, rfl, h1, h2⟩
theorem pc_sl {xs : List (List PV)} {lo hi : Nat} (h1 : lo ≤ xs.length) (h2 : xs.length ≤ hi) : PC (.sl xs) (.abs (.osl lo hi)) := fun G m w n v h => by
  cases h with
  | sl => exact .abs _ _ ⟨_, _, _, rfl, h1, h2⟩
inductive PCs : List PV → List Run.CV → Prop where
  | nil : PCs [] []
  | cons {p : PV} {c : Run.CV} {ps : List PV} {cs : List Run.CV} (h : PC p c) (k : PCs ps cs) : PCs (p :: ps) (c :: cs)
theorem PCs.lr {G : Nat → Nat} {m : Nat → Pl} {w : World} {n : Nat} : ∀ {ps : List PV} {cs : List Run.CV}, PCs ps cs → ∀ {vs : List Value}, vs.length = ps.length → (∀ i, i < ps.length → Rep G m w n (vs.getD i undef) (ps.getD i .any)) → Run.LR (fun _ => none) vs cs
  | _, _, .nil, [], _, _ => Run.LR.nil
  | _, _, .cons h k, v :: vs, hl, hr => Run.LR.cons (h _ _ _ _ _ (hr 0 (by simp))) (k.lr (by simpa using hl) (fun i hi => by simpa using hr (i + 1) (by simp; omega)))
theorem pc_agg {ps : List PV} {cs : List Run.CV} (h : PCs ps cs) : PC (.agg ps) (.agg cs) := fun G m w n v hr => by
  cases hr with
  | agg _ vs _ hl hr => have k := h.lr hl hr; exact .agg _ _ k.1 k.2
theorem pcalls_args {P : Program} {g : FuncId} {ps : List PV} {cs : List Run.CV} {N : Nat} (hm : P.follows .mixedOrders = true) (hc : Run.toldA P N g cs = true) (hp : PCs ps cs) : PCalls P g ps (fun r => r = .con (.bool true)) := by
  intro G m w vs hs ha
  have hl : Run.LR (fun _ => none) vs.toList _ := hp.lr (by simpa using ha.1) (fun i hi => by
    have := ha.2 i hi
    rw [Array.getD_eq_getD_getElem?] at this
    rw [List.getD_eq_getElem?_getD, Array.getElem?_toList]
    exact this)
  exact (Run.run_args hm hc hl w).mono fun e w' ⟨he, hb⟩ => ⟨_, _, [], G, m, he, ⟨rfl, rfl⟩, .con _ _, (hs.later hb).1, (hs.later hb).2⟩
def tyR (k : Int) : List PV := [.con (.int .i64 k), .con (.string ⟨#[]⟩), .sl []]
def tyC (k : Int) : Run.CV := .agg [.lit (.int .i64 k), .lit (.string ⟨#[]⟩), .abs (.osl 0 0)]
theorem ty_pc (k : Int) : PC (.agg (tyR k)) (tyC k) := pc_agg (.cons (pc_con _) (.cons (pc_con _) (.cons (pc_sl (Nat.le_refl _) (Nat.le_refl _)) .nil)))
theorem text_told : Run.toldA Tryz.prog 1000000 11 [.abs (.osl 0 0), .agg [.lit (.int .i64 1), .lit (.int .i64 0), .abs (.osl 0 64), .lit (.string ⟨#[]⟩), .abs (.osl 0 0)], tyC 1] = true := by kernel_rfl
theorem num_told : Run.toldA Tryz.prog 1000000 11 [.abs (.osl 0 0), .agg [.lit (.int .i64 0), .abs (.rng .i64 (-4611686018427387904) 4611686018427387903), .abs (.osl 0 0), .lit (.string ⟨#[]⟩), .abs (.osl 0 0)], tyC 0] = true := by kernel_rfl
theorem of_text (b : List UInt8) (hb : b.length ≤ 64) : PCalls Tryz.prog 11 [.sl [], .agg (vaP (textV b)), .agg (tyR 1)] (fun r => r = .con (.bool true)) :=
  pcalls_args mixed text_told (.cons (pc_sl (Nat.le_refl _) (Nat.le_refl _)) (.cons (pc_agg (.cons (pc_con _) (.cons (pc_con _) (.cons (pc_sl (Nat.zero_le _) (by rw [byP_len]; exact hb)) (.cons (pc_con _) (.cons (pc_sl (Nat.le_refl _) (Nat.le_refl _)) .nil)))))) (.cons (ty_pc 1) .nil)))
theorem of_num (n : Int) : PCalls Tryz.prog 11 [.sl [], .agg (vaP (numV (wrapW n))), .agg (tyR 0)] (fun r => r = .con (.bool true)) :=
  pcalls_args mixed num_told (.cons (pc_sl (Nat.le_refl _) (Nat.le_refl _)) (.cons (pc_agg (.cons (pc_con _) (.cons (pc_rng (by have := wrapW_in n; omega) (by have := wrapW_in n; omega)) (.cons (pc_sl (Nat.le_refl _) (Nat.le_refl _)) (.cons (pc_con _) (.cons (pc_sl (Nat.le_refl _) (Nat.le_refl _)) .nil)))))) (.cons (ty_pc 0) .nil)))
theorem number_e (n : Int) : PCalls Tryz.prog 22 [.con (.int .i64 n)] (fun r => r = .agg (vaP (numV n))) := pcalls_weak (a22 _ _ ⟨rfl, rfl⟩)
theorem bytes_e (b : List UInt8) (hb : b.length ≤ 1000) : ACalls Tryz.prog 25 [.sl (byP b)] [] (fun r h' => r = .own 0 5 1 (byP b) ∧ h' = [[.tip]]) := by
  refine a25 _ _ ?_
  unfold p25
  exact ⟨by rw [byP_len]; simp; omega, one_by b, ⟨rfl, rfl⟩⟩
theorem byP_take (b : List UInt8) (n : Nat) : (byP b).take n = byP (b.take n) := by simp [byP]
theorem text_e (b : List UInt8) (hb : b.length ≤ 1000) : PCalls Tryz.prog 24 [.sl (byP b)] (fun r => r = .agg (vaP (textV (cutF b 0 64)))) := by
  have enB : Enters Tryz.prog 25 := enters_of Tryz.func25 (by kernel_rfl) rfl
  refine pcalls_weak (a24 _ _ ?_)
  unfold p24
  rw [byP_len]
  obtain ⟨m0, m1, m2, m3⟩ := minI_nat (b.length : Int) 64 (by omega) (by decide)
  have e1 : b.take (minI (b.length : Int) 64).toNat = cutF b 0 64 := by
    rw [m3, Int.toNat_natCast, Nat.min_comm, take_min]; rfl
  have e2 : (cutF b 0 64).length ≤ 1000 := by unfold cutF; simp; omega
  refine ⟨by decide, m0, m1, ⟨one_row b, ?_⟩⟩
  rw [byP_take, e1]
  exact ⟨_, ⟨enB, bytes_e _ e2, ⟨rfl, rfl⟩⟩⟩
theorem cut_e (a : List UInt8) (i n : Int) : PCalls Tryz.prog 26 [.sl (byP a), .con (.int .i64 i), .con (.int .i64 n)] (fun r => r = .sl (byP (cutF a i n))) := by
  refine pcalls_weak (a26 _ _ _ _ ?_)
  unfold p26
  rw [byP_len]
  obtain ⟨f0, f1⟩ := maxI_nat i
  obtain ⟨g0, g1, g2, g3⟩ := minI_nat (maxI i 0) (a.length : Int) f0 (by omega)
  refine ⟨(minI (maxI i 0) (a.length : Int)).toNat, ⟨by omega, by rw [byP_len]; omega, one_row a, ?_⟩⟩
  have hpe := piece_eq a i n
  generalize (minI (maxI i 0) (a.length : Int)).toNat = k at hpe ⊢
  rw [byP_drop, byP_len]
  obtain ⟨f0, f1⟩ := maxI_nat n
  obtain ⟨g0, g1, g2, g3⟩ := minI_nat (maxI n 0) ((a.drop k).length : Int) f0 (by omega)
  refine ⟨by decide, g0, g2, ⟨one_row _, ?_⟩⟩
  rw [byP_take, ← hpe]
  exact ⟨rfl, rfl⟩
theorem at_e (a : List UInt8) (i : Int) : PCalls Tryz.prog 23 [.sl (byP a), .con (.int .i64 i)] (fun r => r = .con (.int .i64 (atF a i))) := by
  refine pcalls_weak (a23 _ _ _ ?_)
  unfold p23
  rw [byP_len]
  have neg : i < 0 ∨ i ≥ (a.length : Int) → atF a i = -1 := fun hq => by unfold atF; rw [if_pos hq]
  refine br_i (fun q => ?_) (fun q => ?_)
  · rw [neg (.inl (by simpa using q))]; exact ⟨rfl, rfl⟩
  have q0 : 0 ≤ i := by simpa using q
  refine br_i (fun q => ?_) (fun q => ?_)
  · rw [neg (.inr (by simpa using q))]; exact ⟨rfl, rfl⟩
  have q1 : i < (a.length : Int) := by simpa using q
  have hlt : i.toNat < a.length := by omega
  refine ⟨_, ⟨q0, byP_at a _ hlt, ?_⟩⟩
  have e2 : atF a i = ((a[i.toNat].toNat : Nat) : Int) := by
    unfold atF
    rw [if_neg (by omega), List.getD_eq_getElem?_getD, List.getElem?_eq_getElem hlt]; rfl
  have e3 : IntKind.i64.wrap ((a[i.toNat].toNat : Nat) : Int) = ((a[i.toNat].toNat : Nat) : Int) := by
    have := UInt8.toNat_lt a[i.toNat]
    exact wrap_id (by omega) (by omega)
  rw [e3, e2]
  exact ⟨rfl, rfl⟩
theorem wrap_e (n : Int) : PCalls Tryz.prog 16 [.con (.int .i64 n)] (fun r => r = .con (.int .i64 (wrapW n))) := by
  have enW : Enters Tryz.prog 37 := enters_of Tryz.func37 (by kernel_rfl) rfl
  have hw : PCalls Tryz.prog 37 [.con (.int .i64 n)] (fun r => r = .con (.int .i64 (wrapW n))) := by
    refine pcalls_weak (a37 _ _ ?_)
    unfold p37
    refine ⟨by decide, ⟨by decide, ?_⟩⟩
    rw [sh_wrap]
    exact ⟨rfl, rfl⟩
  exact pcalls_weak (a16 _ _ ⟨_, call_p enW hw rfl ⟨rfl, rfl⟩⟩)
def wrapV : Va → Va
  | .mk k n b s ks => .mk k (if k = 0 then wrapW n else n) b s ks
theorem wrapped_e (v : Va) : PCalls Tryz.prog 10 [.agg (vaP v)] (fun r => r = .agg (vaP (wrapV v))) := by
  have enW : Enters Tryz.prog 16 := enters_of Tryz.func16 (by kernel_rfl) rfl
  obtain ⟨k, n, b, s, ks⟩ := v
  refine pcalls_weak (a10 _ _ _ _ _ _ ?_)
  unfold p10
  refine br_i (fun q => ?_) (fun q => ?_)
  · have q : k = 0 := by simpa using q
    refine ⟨_, call_p enW (wrap_e n) rfl ?_⟩
    rw [show wrapV (.mk k n b s ks) = .mk k (wrapW n) b s ks by simp [wrapV, q]]
    exact ⟨rfl, rfl⟩
  · have q : ¬ k = 0 := by simpa using q
    rw [show wrapV (.mk k n b s ks) = .mk k n b s ks by simp [wrapV, q]]
    exact ⟨rfl, rfl⟩
end Go.Proofs.YtboopmfjkepilaaGreatDoor.Deep

namespace Go.Proofs.YtboopmfjkepilaaGreatDoor.Deep
open Go.RowKit
set_option linter.unusedVariables false
set_option linter.unusedSimpArgs false
theorem wanted_e {op : Int} {ks : List Int} (h : (op = 8 ∧ ks = [1]) ∨ (op = 9 ∧ ks = [1, 0]) ∨ (op = 10 ∧ ks = [1, 1]) ∨ (op = 11 ∧ ks = [1, 0, 0])) : PCalls Tryz.prog 8 [.con (.int .i64 op)] (fun r => r = .sl (ks.map tyR)) := by
  refine pcalls_weak (a8 _ _ ?_)
  unfold p8
  rcases h with ⟨rfl, rfl⟩ | ⟨rfl, rfl⟩ | ⟨rfl, rfl⟩ | ⟨rfl, rfl⟩ <;>
  · repeat (refine br_i (fun h => absurd h (by decide)) (fun _ => ?_))
    refine br_i (fun _ => ?_) (fun h => absurd h (by decide))
    exact ⟨rfl, rfl⟩
def zeroV : List PV := [.con (.int .i64 0), .con (.int .i64 0), .con (.slice none 0 0), .con (.string ⟨#[]⟩), .con (.slice none 0 0)]
def zerosV (n : Nat) : List PV := (List.replicate n zeroV).flatten
theorem zerosV_len (n : Nat) : (zerosV n).length = n * 5 := by
  unfold zerosV
  induction n with
  | zero => rfl
  | succ n ih => rw [List.replicate_succ, List.flatten_cons, List.length_append, ih]; show 5 + _ = _; omega
theorem va_len (v : Va) : (vaP v).length = 5 := by cases v; rfl
theorem va_one (v : Va) : ∀ q ∈ vaP v, PV.one q = true := by
  cases v
  intro q hq
  simp only [vaP, List.mem_cons, List.not_mem_nil, or_false] at hq
  rcases hq with rfl | rfl | rfl | rfl | rfl <;> rfl
theorem vaPs_len (l : List Va) : (vaPs l).length = l.length := by rw [vaPs_mp, List.length_map]
theorem vaPs_app (a b : List Va) : vaPs (a ++ b) = vaPs a ++ vaPs b := by rw [vaPs_mp, vaPs_mp, vaPs_mp, List.map_append]
theorem flatV_len (l : List Va) : (vaPs l).flatten.length = l.length * 5 := by
  induction l with
  | nil => rfl
  | cons x l ih => show (vaP x ++ (vaPs l).flatten).length = _; rw [List.length_append, va_len, ih, List.length_cons]; omega
theorem vaRow_at : ∀ (i : Nat) (p : List Va) (h : i < p.length), ((vaPs p).flatten.drop (i * 5)).take 5 = vaP p[i]
  | 0, [], h => by simp at h
  | 0, t :: r, h => by
    show ((vaP t ++ (vaPs r).flatten).drop (0 * 5)).take 5 = vaP t
    rw [Nat.zero_mul, List.drop_zero, List.take_append_of_le_length (by rw [va_len]; omega), List.take_of_length_le (by rw [va_len]; omega)]
  | i + 1, [], h => by simp at h
  | i + 1, t :: r, h => by
    show ((vaP t ++ (vaPs r).flatten).drop ((i + 1) * 5)).take 5 = vaP (r[i]'(by simpa using h))
    rw [show (i + 1) * 5 = (vaP t).length + i * 5 by rw [va_len]; omega, List.drop_append]
    simp only [Nat.add_sub_cancel_left, List.drop_of_length_le (show (vaP t).length ≤ (vaP t).length + i * 5 by omega), List.nil_append]
    exact vaRow_at i r (by simpa using h)
theorem rows_flatV (l : List Va) : rowsOf 5 l.length (vaPs l).flatten = vaPs l := by
  refine List.ext_getElem? (fun i => ?_)
  by_cases h : i < l.length
  · have e := rowsOf_at (sz := 5) (n := l.length) (i := i) (l := (vaPs l).flatten) h
    have h1 : i < (rowsOf 5 l.length (vaPs l).flatten).length := by rw [rowsOf_length]; exact h
    rw [List.getD_eq_getElem?_getD, List.getElem?_eq_getElem h1, vaRow_at i l h] at e
    have e2 : (vaPs l)[i]? = some (vaP l[i]) := by rw [vaPs_mp]; exact map_get vaP l i h
    rw [List.getElem?_eq_getElem h1, e2]
    exact congrArg some e
  · rw [List.getElem?_eq_none (by rw [rowsOf_length]; omega), List.getElem?_eq_none (by rw [vaPs_len]; omega)]
theorem seal_v {f : FuncId} {args : List PV} {p : List Va} (c : ACalls Tryz.prog f args [] fun r h' => ∃ b n l e, r = .rw b 0 n e 5 ∧ b < h'.length ∧ h'.getD b [] = [.row l] ∧ n = p.length ∧ l = (vaPs p).flatten) : PCalls Tryz.prog f args (fun r => r = .sl (vaPs p)) := by
  have c2 : ACalls Tryz.prog f args [] fun r h' => ∃ b n l e, r = .rw b 0 n e 5 ∧ b < h'.length ∧ h'.getD b [] = [.row l] ∧ l.length = n * 5 ∧ l = (vaPs p).flatten :=
    c.mono fun r h' ⟨b, n, l, e, h1, h2, h3, h4, h5⟩ => ⟨b, n, _, e, h1, h2, h3, by rw [h5, flatV_len, h4], h5⟩
  refine ACalls.mono (ACalls.seal (by decide) c2) fun r _ ⟨⟨n, l, h1, h2, h3⟩, hu⟩ => ⟨?_, hu⟩
  rw [h3, h2]
  rw [h2, flatV_len] at h1
  rw [show n = p.length by omega, rows_flatV]
theorem grow_e (n : Nat) (h0 : 0 < n) (hn : n ≤ 1000) : ACalls Tryz.prog 15 [.con (.slice none 0 0), .con (.int .i64 (n : Int))] [] (fun r h' => r = .rw 0 0 0 26 5 ∧ h' = [[.row (zerosV n)]]) := by
  refine a15 _ _ ?_
  unfold p15
  have e0 : ((([] : List (List PV)).length : Nat) : Int) = 0 := rfl
  have e1 : IntKind.i64.wrap ((n : Int) - IntKind.i64.wrap (0 - ((([] : List (List PV)).length : Nat) : Int))) = (n : Int) := by
    rw [e0, wrap_id (n := 0 - 0) (by omega) (by omega), wrap_id (by omega) (by omega)]; omega
  rw [e1]
  refine br_i (fun h => by simp at h; omega) (fun _ => ?_)
  refine br_i (fun h => ?_) (fun h => by simp at h; omega)
  refine ⟨by omega, by omega, by omega, by omega, ⟨by rw [Int.toNat_natCast]; omega, by omega, ?_, ?_, ?_⟩⟩
  · rw [Int.toNat_natCast]; exact zerosV_len n
  · intro q hq
    obtain ⟨y, hy, hq⟩ := List.mem_flatten.1 hq
    rw [List.eq_of_mem_replicate hy] at hq
    simp only [List.mem_cons, List.not_mem_nil, or_false] at hq
    rcases hq with rfl | rfl | rfl | rfl | rfl <;> rfl
  · refine ⟨by omega, by rw [e0]; omega, by rw [e0]; omega, ?_⟩
    rw [Int.toNat_natCast]
    exact ⟨rfl, rfl⟩
theorem each_e (l : List Va) (h0 : 0 < l.length) (hn : l.length ≤ 1000) : PCalls Tryz.prog 9 [.sl (vaPs l), .fn 10 []] (fun r => r = .sl (vaPs (l.map wrapV))) := by
  have enG : Enters Tryz.prog 15 := enters_of Tryz.func15 (by kernel_rfl) rfl
  have enW : Enters Tryz.prog 10 := enters_of Tryz.func10 (by kernel_rfl) rfl
  refine seal_v (a9w _ _ ?_)
  unfold p9w
  rw [vaPs_len]
  refine ⟨_, _, ⟨enG, grow_e l.length h0 hn, ?_⟩⟩
  refine ⟨fun c v => ∃ j : Nat, j ≤ l.length ∧ c = l.length - j ∧ v.1.1 = j ∧ v.2.1 = (j : Int) ∧ v.1.2.take (j * 5) = (vaPs ((l.take j).map wrapV)).flatten ∧ j * 5 ≤ v.1.2.length ∧ (0 < j → v.1.2.length = j * 5), ⟨_, 0, Nat.zero_le _, rfl, rfl, rfl, rfl, Nat.zero_le _, fun h => absurd h (Nat.lt_irrefl _)⟩, ?_⟩
  rintro c ⟨⟨n, r⟩, i, u⟩ ⟨j, hj, rfl, hi, hii, hr, hrl, hre⟩
  dsimp only at hi hii hr hrl hre ⊢
  subst hi hii
  refine br_i (fun hlt => ?_) (fun hge => ?_)
  rotate_left
  · obtain rfl : n = l.length := by have := of_decide_eq_false hge; omega
    refine ⟨1, _, r, _, rfl, by show 1 < 2; omega, rfl, by rw [List.length_map], ?_⟩
    rw [List.take_length] at hr
    rw [← hr, ← hre h0, List.take_length]
  have hlt : n < l.length := by have := of_decide_eq_true hlt; omega
  have hx : (vaPs l)[n]? = some (vaP l[n]) := by rw [vaPs_mp, map_get vaP l n hlt]
  have hw := wrapped_e l[n]
  have htk : l.take (n + 1) = l.take n ++ [l[n]] := List.take_succ_eq_append_getElem hlt
  generalize l[n] = x at *
  obtain ⟨k, m, b, s, ks⟩ := x
  refine ⟨_, _, _, _, _, ⟨by omega, by rw [Int.toNat_natCast]; exact hx, ?_⟩⟩
  refine ⟨_, _, _, _, _, call_p enW hw rfl ?_⟩
  have hone : ∀ q ∈ ([vaP (wrapV (.mk k m b s ks))] : LL).flatten, PV.one q = true := fun q hq => va_one _ q (by simpa using hq)
  refine ⟨by show (n + 1) * 80 ≤ _; omega, hrl, rfl, hone, ?_⟩
  refine ⟨⟨rfl, rfl, rfl, trivial⟩, rfl, l.length - (n + 1), by omega, n + 1, by omega, rfl, rfl, ?_, ?_, ?_, ?_⟩
  · rw [wrap_id (by omega) (by omega)]; simp
  · have e : r.take (n * 5) ++ [vaP (wrapV (.mk k m b s ks))].flatten = (vaPs ((l.take (n + 1)).map wrapV)).flatten := by
      rw [htk, List.map_append, vaPs_app, List.flatten_append, hr]; rfl
    refine Eq.trans (congrArg (List.take ((n + 1) * 5)) e) ?_
    have e5 : ((vaPs ((l.take (n + 1)).map wrapV)).flatten).length = (n + 1) * 5 := by rw [flatV_len, List.length_map, List.length_take, Nat.min_eq_left (by omega)]
    rw [← e5, List.take_length]
  · show (n + 1) * 5 ≤ (r.take (n * 5) ++ [vaP (wrapV (.mk k m b s ks))].flatten).length
    rw [List.length_append, List.length_take, Nat.min_eq_left hrl]
    show _ ≤ n * 5 + 5
    omega
  · intro _
    show (r.take (n * 5) ++ [vaP (wrapV (.mk k m b s ks))].flatten).length = (n + 1) * 5
    rw [List.length_append, List.length_take, Nat.min_eq_left hrl]
    show n * 5 + 5 = _
    omega
theorem do_p {op : Int} {ks : List Int} {l : List Va} {r : Va} (hw : PCalls Tryz.prog 8 [.con (.int .i64 op)] (fun r => r = .sl (ks.map tyR))) (hk : 0 < ks.length) (hk3 : ks.length ≤ 3) (hl : l.length = ks.length)
    (hOf : ∀ j (h : j < l.length) (h2 : j < ks.length), PCalls Tryz.prog 11 [.sl [], .agg (vaP (wrapV l[j])), .agg (tyR ks[j])] (fun r => r = .con (.bool true)))
    (hd : PCalls Tryz.prog 12 [.con (.int .i64 op), .sl (vaPs (l.map wrapV))] (fun q => q = .agg (vaP r))) : PCalls Tryz.prog 6 [.con (.int .i64 op), .sl (vaPs l)] (fun q => q = .tup [.agg (vaP r), .con (.bool true)]) := by
  have enW : Enters Tryz.prog 8 := enters_of Tryz.func8 (by kernel_rfl) rfl
  have enE : Enters Tryz.prog 9 := enters_of Tryz.func9 (by kernel_rfl) rfl
  have enO : Enters Tryz.prog 11 := enters_of Tryz.func11 (by kernel_rfl) rfl
  have enD : Enters Tryz.prog 12 := enters_of Tryz.func12 (by kernel_rfl) rfl
  refine pcalls_weak (a6 _ _ _ ?_)
  unfold p6
  refine ⟨_, call_p enW hw rfl ?_⟩
  rw [List.length_map, vaPs_len]
  refine br_i (fun h => by simp at h; rw [h] at hk; exact absurd hk (Nat.lt_irrefl _)) (fun _ => ?_)
  refine br_i (fun h => by simp at h; omega) (fun _ => ?_)
  refine ⟨_, call_p enE (each_e l (by omega) (by omega)) rfl ?_⟩
  refine ⟨fun c v => ∃ j : Nat, j ≤ l.length ∧ c = l.length - j ∧ v.1 = (j : Int), ⟨_, 0, Nat.zero_le _, rfl, rfl⟩, ?_⟩
  rintro c ⟨i, u⟩ ⟨j, hj, rfl, hi⟩
  dsimp only at hi ⊢
  subst hi
  refine br_i (fun hlt => ?_) (fun hge => ?_)
  rotate_left
  · obtain ⟨k, n, b, s, qs⟩ := r
    exact ⟨_, _, _, _, _, call_p enD hd rfl ⟨rfl, rfl⟩⟩
  have hlt : j < ks.length := by have := of_decide_eq_true hlt; omega
  have h1 : (ks.map tyR)[j]? = some (tyR ks[j]) := map_get tyR ks j hlt
  have h2 : (vaPs (l.map wrapV))[j]? = some (vaP (wrapV l[j])) := by rw [vaPs_mp, map_get vaP _ j (by rw [List.length_map]; omega), List.getElem_map]
  have h3 := hOf j (by omega) hlt
  generalize wrapV l[j] = x at *
  generalize ks[j] = y at *
  obtain ⟨k, n, b, s, qs⟩ := x
  refine ⟨_, _, _, ⟨by omega, by rw [Int.toNat_natCast]; exact h1, ?_⟩⟩
  refine ⟨_, _, _, _, _, ⟨by omega, by rw [Int.toNat_natCast]; exact h2, ?_⟩⟩
  refine ⟨true, call_p enO h3 rfl ?_⟩
  refine br_i (fun h => by simp at h) (fun _ => ?_)
  refine ⟨⟨rfl, rfl, rfl, rfl, rfl, trivial⟩, rfl, l.length - (j + 1), by omega, j + 1, by omega, rfl, ?_⟩
  rw [wrap_id (by omega) (by omega)]; simp
end Go.Proofs.YtboopmfjkepilaaGreatDoor.Deep

namespace Go.Proofs.YtboopmfjkepilaaGreatDoor.Deep
open Go.RowKit
set_option linter.unusedVariables false
set_option linter.unusedSimpArgs false
theorem done_cat (a b : List UInt8) (ha : a.length ≤ 64) (hb : b.length ≤ 64) : PCalls Tryz.prog 12 [.con (.int .i64 10), .sl (vaPs [textV a, textV b])] (fun r => r = .agg (vaP (textV (cutF (a ++ b) 0 64)))) := by
  have enB : Enters Tryz.prog 25 := enters_of Tryz.func25 (by kernel_rfl) rfl
  have enT : Enters Tryz.prog 24 := enters_of Tryz.func24 (by kernel_rfl) rfl
  refine pcalls_weak (a12 _ _ _ ?_)
  unfold p12
  refine ⟨_, _, _, _, _, ⟨by decide, rfl, ?_⟩⟩
  repeat (refine br_i (fun h => absurd h (by decide)) (fun _ => ?_))
  refine br_i (fun _ => ?_) (fun h => absurd h (by decide))
  refine ⟨_, ⟨enB, bytes_e a (by omega), ?_⟩⟩
  refine ⟨_, _, _, _, _, ⟨by decide, rfl, ?_⟩⟩
  refine ⟨by rw [byP_len, byP_len]; omega, one_by b, ?_⟩
  rw [← byP_app]
  exact ⟨_, _, _, _, _, call_p enT (text_e (a ++ b) (by rw [List.length_append]; omega)) rfl ⟨rfl, rfl⟩⟩
theorem done_cut (a : List UInt8) (i n : Int) (ha : a.length ≤ 64) : PCalls Tryz.prog 12 [.con (.int .i64 11), .sl (vaPs [textV a, numV i, numV n])] (fun r => r = .agg (vaP (textV (cutF a i n)))) := by
  have enC : Enters Tryz.prog 26 := enters_of Tryz.func26 (by kernel_rfl) rfl
  have enT : Enters Tryz.prog 24 := enters_of Tryz.func24 (by kernel_rfl) rfl
  have hl : (cutF a i n).length ≤ a.length := by unfold cutF; simp; omega
  have e : cutF (cutF a i n) 0 64 = cutF a i n := by
    generalize cutF a i n = x at *
    unfold cutF
    show (x.drop 0).take 64 = x
    rw [List.drop_zero, List.take_of_length_le (by omega)]
  refine pcalls_weak (a12 _ _ _ ?_)
  unfold p12
  refine ⟨_, _, _, _, _, ⟨by decide, rfl, ?_⟩⟩
  repeat (refine br_i (fun h => absurd h (by decide)) (fun _ => ?_))
  refine br_i (fun _ => ?_) (fun h => absurd h (by decide))
  refine ⟨_, _, _, _, _, ⟨by decide, rfl, ?_⟩⟩
  refine ⟨_, _, _, _, _, ⟨by decide, rfl, ?_⟩⟩
  refine ⟨_, call_p enC (cut_e a i n) rfl ?_⟩
  have ht := text_e (cutF a i n) (by omega)
  rw [e] at ht
  exact ⟨_, _, _, _, _, call_p enT ht rfl ⟨rfl, rfl⟩⟩
theorem done_len (a : List UInt8) : PCalls Tryz.prog 12 [.con (.int .i64 8), .sl (vaPs [textV a])] (fun r => r = .agg (vaP (numV a.length))) := by
  have enN : Enters Tryz.prog 22 := enters_of Tryz.func22 (by kernel_rfl) rfl
  refine pcalls_weak (a12 _ _ _ ?_)
  unfold p12
  refine ⟨_, _, _, _, _, ⟨by decide, rfl, ?_⟩⟩
  repeat (refine br_i (fun h => absurd h (by decide)) (fun _ => ?_))
  refine br_i (fun _ => ?_) (fun h => absurd h (by decide))
  rw [byP_len]
  exact ⟨_, _, _, _, _, call_p enN (number_e _) rfl ⟨rfl, rfl⟩⟩
theorem done_at (a : List UInt8) (i : Int) : PCalls Tryz.prog 12 [.con (.int .i64 9), .sl (vaPs [textV a, numV i])] (fun r => r = .agg (vaP (numV (atF a i)))) := by
  have enN : Enters Tryz.prog 22 := enters_of Tryz.func22 (by kernel_rfl) rfl
  have enB : Enters Tryz.prog 23 := enters_of Tryz.func23 (by kernel_rfl) rfl
  refine pcalls_weak (a12 _ _ _ ?_)
  unfold p12
  refine ⟨_, _, _, _, _, ⟨by decide, rfl, ?_⟩⟩
  repeat (refine br_i (fun h => absurd h (by decide)) (fun _ => ?_))
  refine br_i (fun _ => ?_) (fun h => absurd h (by decide))
  refine ⟨_, _, _, _, _, ⟨by decide, rfl, ?_⟩⟩
  refine ⟨_, call_p enB (at_e a i) rfl ?_⟩
  exact ⟨_, _, _, _, _, call_p enN (number_e _) rfl ⟨rfl, rfl⟩⟩
theorem do_cat (a b : List UInt8) (ha : a.length ≤ 64) (hb : b.length ≤ 64) : PCalls Tryz.prog 6 [.con (.int .i64 10), .sl (vaPs [textV a, textV b])] (fun r => r = .tup [.agg (vaP (textV (cutF (a ++ b) 0 64))), .con (.bool true)]) :=
  do_p (ks := [1, 1]) (wanted_e (.inr (.inr (.inl ⟨rfl, rfl⟩)))) (by decide) (by decide) rfl (fun j h h2 => match j, h, h2 with
    | 0, _, _ => of_text a ha
    | 1, _, _ => of_text b hb
    | j + 2, h, _ => absurd h (by simp)) (done_cat a b ha hb)
theorem do_cut (a : List UInt8) (i n : Int) (ha : a.length ≤ 64) : PCalls Tryz.prog 6 [.con (.int .i64 11), .sl (vaPs [textV a, numV i, numV n])] (fun r => r = .tup [.agg (vaP (textV (cutF a (wrapW i) (wrapW n)))), .con (.bool true)]) :=
  do_p (ks := [1, 0, 0]) (wanted_e (.inr (.inr (.inr ⟨rfl, rfl⟩)))) (by decide) (by decide) rfl (fun j h h2 => match j, h, h2 with
    | 0, _, _ => of_text a ha
    | 1, _, _ => of_num i
    | 2, _, _ => of_num n
    | j + 3, h, _ => absurd h (by simp)) (done_cut a (wrapW i) (wrapW n) ha)
theorem do_len (a : List UInt8) (ha : a.length ≤ 64) : PCalls Tryz.prog 6 [.con (.int .i64 8), .sl (vaPs [textV a])] (fun r => r = .tup [.agg (vaP (numV a.length)), .con (.bool true)]) :=
  do_p (ks := [1]) (wanted_e (.inl ⟨rfl, rfl⟩)) (by decide) (by decide) rfl (fun j h h2 => match j, h, h2 with
    | 0, _, _ => of_text a ha
    | j + 1, h, _ => absurd h (by simp)) (done_len a)
theorem do_at (a : List UInt8) (i : Int) (ha : a.length ≤ 64) : PCalls Tryz.prog 6 [.con (.int .i64 9), .sl (vaPs [textV a, numV i])] (fun r => r = .tup [.agg (vaP (numV (atF a (wrapW i)))), .con (.bool true)]) :=
  do_p (ks := [1, 0]) (wanted_e (.inr (.inl ⟨rfl, rfl⟩))) (by decide) (by decide) rfl (fun j h h2 => match j, h, h2 with
    | 0, _, _ => of_text a ha
    | 1, _, _ => of_num i
    | j + 2, h, _ => absurd h (by simp)) (done_at a (wrapW i))
end Go.Proofs.YtboopmfjkepilaaGreatDoor.Deep

namespace Go.Proofs.YtboopmfjkepilaaGreatDoor.Deep
open Go.RowKit
set_option linter.unusedVariables false
def p5 (l1 : List (List PV)) (Q : PV → Heap → Prop) : Prop :=
Q (.agg [(.con (.int .i64 1)), (.con (.int .i64 0)), l1, (.con (.string ⟨#[]⟩)), (.con (.slice none 0 0))]) [[(.con (.int .i64 1)), (.con (.int .i64 0)), l1, (.con (.string ⟨#[]⟩)), (.con (.slice none 0 0))]]
theorem a5 (l1 : List (List PV)) (Q : PV → Heap → Prop) (h : p5 l1 Q) : ACalls Tryz.prog 5 [l1] [] Q := by
  have hb : Option.some (bodyOf Tryz.f5) = Tryz.f5.body := by kernel_rfl
  exact acalls_eq (S := S) (L := loops8) mixed tok Tryz.func5 hb.symm (by kernel_rfl) h
def p3 (l1 l2 : List (List PV)) (i3 i4 : Int) (Q : PV → Heap → Prop) : Prop :=
br ((decide (((List.length l1 : Int) : Int) > 64)))
  (∃ b5 : Bool, CallN Tryz.prog 4 [] [] b5
  (Q b5 []))
  (br ((decide (((List.length l2 : Int) : Int) > 64)))
  (∃ b6 : Bool, CallN Tryz.prog 4 [] [] b6
  (Q b6 []))
  (∃ (i7 i8 : Int) (l9 : LL) (s10 : ByteArray) (l11 : LL), CallN Tryz.prog 5 [l1] [] (.agg [i7, i8, l9, s10, l11])
  (∃ (i12 i13 : Int) (l14 : LL) (s15 : ByteArray) (l16 : LL), CallN Tryz.prog 5 [l2] [] (.agg [i12, i13, l14, s15, l16])
  (∃ (i17 i18 : Int) (l19 : LL) (s20 : ByteArray) (l21 : LL) (b22 : Bool), CallN Tryz.prog 6 [(.con (.int .i64 10)), (.sl [[i7, i8, l9, s10, l11], [i12, i13, l14, s15, l16]])] [[.tip]] (.tup [(.agg [i17, i18, l19, s20, l21]), b22])
  (∃ (i23 i24 : Int) (l25 : LL) (s26 : ByteArray) (l27 : LL), CallN Tryz.prog 5 [l1] [[.tip], [i17, i18, l19, s20, l21]] (.agg [i23, i24, l25, s26, l27])
  (∃ (i28 i29 : Int) (l30 : LL) (s31 : ByteArray) (l32 : LL) (b33 : Bool), CallN Tryz.prog 6 [(.con (.int .i64 11)), (.sl [[i23, i24, l25, s26, l27], [(.con (.int .i64 0)), i3, (.sl []), (.con (.string ⟨#[]⟩)), (.sl [])], [(.con (.int .i64 0)), i4, (.sl []), (.con (.string ⟨#[]⟩)), (.sl [])]])] [[.tip], [i17, i18, l19, s20, l21], [.tip]] (.tup [(.agg [i28, i29, l30, s31, l32]), b33])
  (∃ (i34 i35 : Int) (l36 : LL) (s37 : ByteArray) (l38 : LL), CallN Tryz.prog 5 [l1] [[.tip], [i17, i18, l19, s20, l21], [.tip], [i28, i29, l30, s31, l32]] (.agg [i34, i35, l36, s37, l38])
  (∃ (i39 i40 : Int) (l41 : LL) (s42 : ByteArray) (l43 : LL) (b44 : Bool), CallN Tryz.prog 6 [(.con (.int .i64 8)), (.sl [[i34, i35, l36, s37, l38]])] [[.tip], [i17, i18, l19, s20, l21], [.tip], [i28, i29, l30, s31, l32], [.tip]] (.tup [(.agg [i39, i40, l41, s42, l43]), b44])
  (br ((!b22))
  (Q (.con (.bool false)) [[.tip], [i17, i18, l19, s20, l21], [.tip], [i28, i29, l30, s31, l32], [.tip], [i39, i40, l41, s42, l43]])
  (br ((!b33))
  (Q (.con (.bool false)) [[.tip], [i17, i18, l19, s20, l21], [.tip], [i28, i29, l30, s31, l32], [.tip], [i39, i40, l41, s42, l43]])
  (br ((!b44))
  (Q (.con (.bool false)) [[.tip], [i17, i18, l19, s20, l21], [.tip], [i28, i29, l30, s31, l32], [.tip], [i39, i40, l41, s42, l43]])
  (br (((i40 : Int) != (List.length l1 : Int)))
  (Q (.con (.bool false)) [[.tip], [i17, i18, l19, s20, l21], [.tip], [i28, i29, l30, s31, l32], [.tip], [i39, i40, l41, s42, l43]])
  (∃ y45 : List UInt8, BytesN Tryz.prog 22 9 l1 y45
  (∃ y46 : List UInt8, BytesN Tryz.prog 22 9 l2 y46
  (CatN ⟨List.toArray y45⟩ ⟨List.toArray y46⟩
  (∃ y47 : List UInt8, BytesN Tryz.prog 22 9 l19 y47
  (PieceN (ByteArray.size (⟨List.toArray y45⟩ ++ ⟨List.toArray y46⟩)) 0 (minI (ByteArray.size (⟨List.toArray y45⟩ ++ ⟨List.toArray y46⟩) : Int) 64)
  (br ((!(ByteArray.toList ⟨List.toArray y47⟩ == ByteArray.toList (ByteArray.extract (⟨List.toArray y45⟩ ++ ⟨List.toArray y46⟩) 0 (Int.toNat (minI (ByteArray.size (⟨List.toArray y45⟩ ++ ⟨List.toArray y46⟩) : Int) 64))))))
  (Q (.con (.bool false)) [[.tip], [i17, i18, l19, s20, l21], [.tip], [i28, i29, l30, s31, l32], [.tip], [i39, i40, l41, s42, l43]])
  (ShN 1
  (ShN 1
  (ShN 1
  (ShN 1
  (∃ n48 : Nat, CutN l1 1 n48 (minI (maxI (shrI .i64 (shlI .i64 i3 1) 1) 0) (List.length l1 : Int))
  (∃ y49 : List UInt8, BytesN Tryz.prog 22 9 (List.drop n48 l1) y49
  (∃ y50 : List UInt8, BytesN Tryz.prog 22 9 l30 y50
  (PieceN (ByteArray.size ⟨List.toArray y49⟩) 0 (minI (maxI (shrI .i64 (shlI .i64 i4 1) 1) 0) (ByteArray.size ⟨List.toArray y49⟩ : Int))
  (br ((!(ByteArray.toList ⟨List.toArray y50⟩ == ByteArray.toList (ByteArray.extract ⟨List.toArray y49⟩ 0 (Int.toNat (minI (maxI (shrI .i64 (shlI .i64 i4 1) 1) 0) (ByteArray.size ⟨List.toArray y49⟩ : Int)))))))
  (Q (.con (.bool false)) [[.tip], [i17, i18, l19, s20, l21], [.tip], [i28, i29, l30, s31, l32], [.tip], [i39, i40, l41, s42, l43]])
  (∃ (i51 i52 : Int) (l53 : LL) (s54 : ByteArray) (l55 : LL), CallN Tryz.prog 5 [l1] [[.tip], [i17, i18, l19, s20, l21], [.tip], [i28, i29, l30, s31, l32], [.tip], [i39, i40, l41, s42, l43]] (.agg [i51, i52, l53, s54, l55])
  (∃ (i56 i57 : Int) (l58 : LL) (s59 : ByteArray) (l60 : LL) (b61 : Bool), CallN Tryz.prog 6 [(.con (.int .i64 9)), (.sl [[i51, i52, l53, s54, l55], [(.con (.int .i64 0)), (.con (.int .i64 (shrI .i64 (shlI .i64 i3 1) 1))), (.sl []), (.con (.string ⟨#[]⟩)), (.sl [])]])] [[.tip], [i17, i18, l19, s20, l21], [.tip], [i28, i29, l30, s31, l32], [.tip], [i39, i40, l41, s42, l43], [.tip]] (.tup [(.agg [i56, i57, l58, s59, l60]), b61])
  (br ((decide (((shrI .i64 (shlI .i64 i3 1) 1) : Int) ≥ 0)))
  (br ((decide (((shrI .i64 (shlI .i64 i3 1) 1) : Int) < (List.length l1 : Int))))
  (∃ i62 : Int, IdxN l1 (shrI .i64 (shlI .i64 i3 1) 1) [(.con (.int .u8 i62))]
  (br (b61)
  (br (((i57 : Int) == (IntKind.wrap .i64 i62)))
  (∃ b63 : Bool, CallN Tryz.prog 4 [] [[.tip], [i17, i18, l19, s20, l21], [.tip], [i28, i29, l30, s31, l32], [.tip], [i39, i40, l41, s42, l43], [.tip], [i56, i57, l58, s59, l60]] b63
  (Q b63 [[.tip], [i17, i18, l19, s20, l21], [.tip], [i28, i29, l30, s31, l32], [.tip], [i39, i40, l41, s42, l43], [.tip], [i56, i57, l58, s59, l60]]))
  (Q (.con (.bool false)) [[.tip], [i17, i18, l19, s20, l21], [.tip], [i28, i29, l30, s31, l32], [.tip], [i39, i40, l41, s42, l43], [.tip], [i56, i57, l58, s59, l60]]))
  (Q (.con (.bool false)) [[.tip], [i17, i18, l19, s20, l21], [.tip], [i28, i29, l30, s31, l32], [.tip], [i39, i40, l41, s42, l43], [.tip], [i56, i57, l58, s59, l60]])))
  (br (b61)
  (br (((i57 : Int) == (-1)))
  (∃ b64 : Bool, CallN Tryz.prog 4 [] [[.tip], [i17, i18, l19, s20, l21], [.tip], [i28, i29, l30, s31, l32], [.tip], [i39, i40, l41, s42, l43], [.tip], [i56, i57, l58, s59, l60]] b64
  (Q b64 [[.tip], [i17, i18, l19, s20, l21], [.tip], [i28, i29, l30, s31, l32], [.tip], [i39, i40, l41, s42, l43], [.tip], [i56, i57, l58, s59, l60]]))
  (Q (.con (.bool false)) [[.tip], [i17, i18, l19, s20, l21], [.tip], [i28, i29, l30, s31, l32], [.tip], [i39, i40, l41, s42, l43], [.tip], [i56, i57, l58, s59, l60]]))
  (Q (.con (.bool false)) [[.tip], [i17, i18, l19, s20, l21], [.tip], [i28, i29, l30, s31, l32], [.tip], [i39, i40, l41, s42, l43], [.tip], [i56, i57, l58, s59, l60]])))
  (br (b61)
  (br (((i57 : Int) == (-1)))
  (∃ b65 : Bool, CallN Tryz.prog 4 [] [[.tip], [i17, i18, l19, s20, l21], [.tip], [i28, i29, l30, s31, l32], [.tip], [i39, i40, l41, s42, l43], [.tip], [i56, i57, l58, s59, l60]] b65
  (Q b65 [[.tip], [i17, i18, l19, s20, l21], [.tip], [i28, i29, l30, s31, l32], [.tip], [i39, i40, l41, s42, l43], [.tip], [i56, i57, l58, s59, l60]]))
  (Q (.con (.bool false)) [[.tip], [i17, i18, l19, s20, l21], [.tip], [i28, i29, l30, s31, l32], [.tip], [i39, i40, l41, s42, l43], [.tip], [i56, i57, l58, s59, l60]]))
  (Q (.con (.bool false)) [[.tip], [i17, i18, l19, s20, l21], [.tip], [i28, i29, l30, s31, l32], [.tip], [i39, i40, l41, s42, l43], [.tip], [i56, i57, l58, s59, l60]]))))))))))))))))))))))))))))))))
theorem a3 (l1 l2 : List (List PV)) (i3 i4 : Int) (Q : PV → Heap → Prop) (h : p3 l1 l2 i3 i4 Q) : ACalls Tryz.prog 3 [l1, l2, i3, i4] [] Q := by
  have hb : Option.some (bodyOf Tryz.f3) = Tryz.f3.body := by kernel_rfl
  exact acalls_eq (S := S) (L := loops8) mixed tok Tryz.func3 hb.symm (by kernel_rfl) h
end Go.Proofs.YtboopmfjkepilaaGreatDoor.Deep

namespace Go.Proofs.YtboopmfjkepilaaGreatDoor.Deep
open Go.RowKit
set_option linter.unusedVariables false
set_option linter.unusedSimpArgs false
def AwakeIs : Prop := PCalls Tryz.prog 4 [] (fun r => r = .con (.bool true))
theorem txt_r (b : List UInt8) : PCalls Tryz.prog 5 [.sl (byP b)] (fun r => r = .agg (vaP (textV b))) := pcalls_weak (a5 _ _ ⟨rfl, rfl⟩)
theorem self_beq (x : ByteArray) : (!(ByteArray.toList x == ByteArray.toList x)) = false := by simp
set_option maxHeartbeats 1000000 in
theorem texts_law (hawake : AwakeIs) (a b : List UInt8) (i n : Int) : PCalls Tryz.prog 3 [.sl (byP a), .sl (byP b), .con (.int .i64 i), .con (.int .i64 n)] (fun r => r = .con (.bool true)) := by
  have enK : Enters Tryz.prog 4 := enters_of Tryz.func4 (by kernel_rfl) rfl
  have enD : Enters Tryz.prog 6 := enters_of Tryz.func6 (by kernel_rfl) rfl
  have enX : Enters Tryz.prog 5 := enters_of Tryz.func5 (by kernel_rfl) rfl
  have awk : ∀ h, ∃ b5 : Bool, CallN Tryz.prog 4 [] h (.con (.bool b5)) ((PV.con (.bool b5) = .con (.bool true)) ∧ (PV.con (.bool b5)).under 0 = true) := fun h => ⟨true, call_p enK hawake rfl ⟨rfl, rfl⟩⟩
  refine a3 _ _ _ _ _ ?_
  unfold p3
  simp only [sh_wrap, byP_len]
  refine br_i (fun _ => awk _) (fun q => ?_)
  have ha : a.length ≤ 64 := by simp at q; omega
  refine br_i (fun _ => awk _) (fun q => ?_)
  have hb : b.length ≤ 64 := by simp at q; omega
  have h10 := do_cat a b ha hb
  have h11 := do_cut a i n ha
  have h8 := do_len a ha
  have h9 := do_at a (wrapW i) ha
  rw [wrapW_wrapW] at h9
  refine ⟨_, _, _, _, _, call_p enX (txt_r a) rfl ?_⟩
  refine ⟨_, _, _, _, _, call_p enX (txt_r b) rfl ?_⟩
  refine ⟨_, _, _, _, _, _, call_p enD h10 rfl ?_⟩
  refine ⟨_, _, _, _, _, call_p enX (txt_r a) rfl ?_⟩
  refine ⟨_, _, _, _, _, _, call_p enD h11 rfl ?_⟩
  refine ⟨_, _, _, _, _, call_p enX (txt_r a) rfl ?_⟩
  refine ⟨_, _, _, _, _, _, call_p enD h8 rfl ?_⟩
  refine br_i (fun h => by cases h) (fun _ => ?_)
  refine br_i (fun h => by cases h) (fun _ => ?_)
  refine br_i (fun h => by cases h) (fun _ => ?_)
  refine br_i (fun h => absurd h (by simp)) (fun _ => ?_)
  refine ⟨a, ⟨⟨5, by kernel_rfl, by kernel_rfl⟩, by kernel_rfl, rfl, ?_⟩⟩
  refine ⟨b, ⟨⟨5, by kernel_rfl, by kernel_rfl⟩, by kernel_rfl, rfl, ?_⟩⟩
  show CatN (byt a) (byt b) _
  refine ⟨by rw [byt_size, byt_size]; omega, ?_⟩
  refine ⟨cutF (a ++ b) 0 64, ⟨⟨5, by kernel_rfl, by kernel_rfl⟩, by kernel_rfl, rfl, ?_⟩⟩
  show PieceN (byt a ++ byt b).size 0 (minI ((byt a ++ byt b).size : Int) 64) (br (!((byt (cutF (a ++ b) 0 64)).toList == ((byt a ++ byt b).extract 0 (minI ((byt a ++ byt b).size : Int) 64).toNat).toList)) _ _)
  rw [byt_app, byt_size, byt_piece]
  obtain ⟨m0, m1, m2, m3⟩ := minI_nat ((a ++ b).length : Int) 64 (by omega) (by decide)
  refine ⟨by decide, m0, m1, ?_⟩
  have e1 : (a ++ b).take (minI ((a ++ b).length : Int) 64).toNat = cutF (a ++ b) 0 64 := by
    rw [m3, Int.toNat_natCast, Nat.min_comm, take_min]; rfl
  rw [e1, self_beq]
  refine ⟨by decide, ⟨by decide, ⟨by decide, ⟨by decide, ?_⟩⟩⟩⟩
  obtain ⟨f0, f1⟩ := maxI_nat (wrapW i)
  obtain ⟨g0, g1, g2, g3⟩ := minI_nat (maxI (wrapW i) 0) (a.length : Int) f0 (by omega)
  refine ⟨(minI (maxI (wrapW i) 0) (a.length : Int)).toNat, ⟨by omega, by rw [byP_len]; omega, one_row a, ?_⟩⟩
  have hpe := piece_eq a (wrapW i) (wrapW n)
  generalize (minI (maxI (wrapW i) 0) (a.length : Int)).toNat = k at hpe ⊢
  refine ⟨a.drop k, ⟨⟨5, by kernel_rfl, by kernel_rfl⟩, by kernel_rfl, byP_drop a k, ?_⟩⟩
  refine ⟨cutF a (wrapW i) (wrapW n), ⟨⟨5, by kernel_rfl, by kernel_rfl⟩, by kernel_rfl, rfl, ?_⟩⟩
  show PieceN (byt (a.drop k)).size 0 (minI (maxI (wrapW n) 0) ((byt (a.drop k)).size : Int)) (br (!((byt (cutF a (wrapW i) (wrapW n))).toList == ((byt (a.drop k)).extract 0 (minI (maxI (wrapW n) 0) ((byt (a.drop k)).size : Int)).toNat).toList)) _ _)
  rw [byt_size, byt_piece, ← hpe, self_beq]
  obtain ⟨f0, f1⟩ := maxI_nat (wrapW n)
  obtain ⟨g0, g1, g2, g3⟩ := minI_nat (maxI (wrapW n) 0) ((a.drop k).length : Int) f0 (by omega)
  refine ⟨by decide, g0, g2, ?_⟩
  refine ⟨_, _, _, _, _, call_p enX (txt_r a) rfl ?_⟩
  refine ⟨_, _, _, _, _, _, call_p enD h9 rfl ?_⟩
  have neg : wrapW i < 0 ∨ wrapW i ≥ (a.length : Int) → ∀ h, br true (br (atF a (wrapW i) == (-1 : Int)) (∃ b5 : Bool, CallN Tryz.prog 4 [] h (.con (.bool b5)) ((PV.con (.bool b5) = .con (.bool true)) ∧ (PV.con (.bool b5)).under 0 = true)) ((PV.con (.bool false) = .con (.bool true)) ∧ (PV.con (.bool false)).under 0 = true)) ((PV.con (.bool false) = .con (.bool true)) ∧ (PV.con (.bool false)).under 0 = true) := fun hq h => by
    have e : atF a (wrapW i) = -1 := by unfold atF; rw [if_pos hq]
    rw [e]
    exact awk h
  refine br_i (fun q => ?_) (fun q => ?_)
  rotate_left
  · exact neg (.inl (by simpa using q)) _
  have q0 : 0 ≤ wrapW i := by simpa using q
  refine br_i (fun q => ?_) (fun q => ?_)
  rotate_left
  · exact neg (.inr (by simpa using q)) _
  have q1 : wrapW i < (a.length : Int) := by simpa using q
  have hlt : (wrapW i).toNat < a.length := by omega
  refine ⟨_, ⟨q0, byP_at a _ hlt, ?_⟩⟩
  have e2 : atF a (wrapW i) = ((a[(wrapW i).toNat].toNat : Nat) : Int) := by
    unfold atF
    rw [if_neg (by omega), List.getD_eq_getElem?_getD, List.getElem?_eq_getElem hlt]; rfl
  have e3 : IntKind.i64.wrap ((a[(wrapW i).toNat].toNat : Nat) : Int) = ((a[(wrapW i).toNat].toNat : Nat) : Int) := by
    have := UInt8.toNat_lt a[(wrapW i).toNat]
    exact wrap_id (by omega) (by omega)
  rw [e3]
  show br true (br (atF a (wrapW i) == ((a[(wrapW i).toNat].toNat : Nat) : Int)) _ _) _
  rw [e2, beq_self_eq_true]
  exact awk _
end Go.Proofs.YtboopmfjkepilaaGreatDoor.Deep

namespace Go.Proofs.YtboopmfjkepilaaGreatDoor.Deep
open Go.RowKit
theorem pcalls_of {P : Program} {f : FuncId} {us : List Value} {v : Value} (h : ∀ w, Calls P f us.toArray w fun e w' => e = .returned v ∧ Below w.heap.size w w') : PCalls P f (us.map .con) (fun r => r = .con v) := by
  intro G m w vs hs ha
  obtain ⟨a1, a2⟩ := ha
  have e : vs = us.toArray := by
    apply Array.ext
    · simpa using a1
    · intro i hi1 hi2
      have hi3 : i < us.length := by simpa using hi2
      have h0 := a2 i (by simpa using hi3)
      rw [List.getD_eq_getElem?_getD, List.getElem?_map, List.getElem?_eq_getElem hi3] at h0
      have h1 := h0.con_eq
      simpa [Array.getD_eq_getD_getElem?, Array.getElem?_eq_getElem hi1] using h1
  subst e
  exact (h w).mono fun e w' ⟨he, hb⟩ => ⟨_, _, [], G, m, he, ⟨rfl, rfl⟩, .con _ _, (hs.later hb).1, (hs.later hb).2⟩
theorem awake_told : Run.toldT Tryz.prog 1000000 4 = true := by kernel_rfl
theorem awake_p : AwakeIs := pcalls_of (us := []) (v := .bool true) (fun w => Run.run_true mixed awake_told w)
end Go.Proofs.YtboopmfjkepilaaGreatDoor.Deep
