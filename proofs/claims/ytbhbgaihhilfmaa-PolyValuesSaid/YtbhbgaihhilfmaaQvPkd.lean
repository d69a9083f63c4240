/-
  Texts of one proof, in their order. No condition.
-/
import Derived.Test.YtbhbgaihhilfmaaProg
import Derived.KernelRfl
import Derived.ChangeArms
import Derived.ChangeShapes
import Derived.WideShapes
import Derived.DataReads
import Derived.Test.YtbhbgaihhilfmaaQvM0
import Derived.Test.YtbhbgaihhilfmaaQvM2
import Derived.Test.YtbhbgaihhilfmaaQvM3
import Derived.Test.YtbhbgaihhilfmaaQvM4
import Derived.Test.YtbhbgaihhilfmaaQvM5
import Derived.Test.YtbhbgaihhilfmaaQvM6
import Derived.Test.YtbhbgaihhilfmaaQvM8
import Derived.WalkKit
import Derived.ProofKit
import Derived.OpenShut
import Derived.Carry
import Derived.ChangeSlices
import Derived.ChangeMaps5
import Derived.Test.YtbhbgaihhilfmaaQvPkc
namespace Go.Proofs.Ytbhbgaihhilfmaa.Deep
set_option linter.unusedVariables false
inductive TT where
  | leaf
  | node (k : Nat) (x : TI) (l r : TT)
def look (t : Nat) : TT → Option TI
  | .leaf => none
  | .node k x l r => match Nat.beq t k with
    | true => some x
    | false => match Nat.ble t k with | true => look t l | false => look t r
def tbl : TT :=
  (.node 52 ⟨true, 1, false, false, 0, false, false, [], false, some [.con .nilFunc], 8, none, none, none⟩ (.node 24 ⟨true, 1, false, true, 2, false, false, [], false, some [.con (.slice none 0 0)], 24, none, none, none⟩ (.node 12 ⟨true, 1, false, false, 0, false, false, [], false, some [.con (.int .u64 0)], 8, none, some .u64, none⟩ (.node 6 ⟨true, 1, false, false, 0, false, false, [], false, some [.con (.int .u8 0)], 1, none, some .u8, none⟩ (.node 3 ⟨true, 1, false, false, 0, false, false, [], false, some [.con (.int .i64 0)], 8, none, some .i64, none⟩ (.node 2 ⟨true, 1, false, false, 0, false, false, [], false, some [.con (.int .i64 0)], 8, none, some .i64, none⟩ (.node 1 ⟨true, 1, false, false, 0, false, false, [], false, some [.con .nilFunc], 8, none, none, none⟩ .leaf
  .leaf)
  .leaf)
  (.node 5 ⟨true, 1, false, false, 0, false, false, [], false, some [.con (.int .u8 0)], 1, none, some .u8, none⟩ (.node 4 ⟨true, 1, false, false, 0, false, true, [], false, some [.con (.bool false)], 1, none, none, none⟩ .leaf
  .leaf)
  .leaf))
  (.node 9 ⟨true, 1, false, false, 0, true, false, [], false, some [.con (.string ⟨#[]⟩)], 16, none, none, none⟩ (.node 8 ⟨true, 4, true, false, 0, false, false, [(0, 2), (1, 3), (2, 4), (3, 6)], true, some [.con (.int .i64 0), .con (.int .i64 0), .con (.bool false), .con (.int .u8 0)], 24, none, none, none⟩ (.node 7 ⟨true, 4, true, false, 0, false, false, [(0, 2), (1, 3), (2, 4), (3, 6)], true, some [.con (.int .i64 0), .con (.int .i64 0), .con (.bool false), .con (.int .u8 0)], 24, none, none, none⟩ .leaf
  .leaf)
  .leaf)
  (.node 11 ⟨true, 1, false, false, 0, true, false, [], false, some [.con (.string ⟨#[]⟩)], 16, none, none, none⟩ (.node 10 ⟨true, 1, false, false, 0, true, false, [], false, some [.con (.string ⟨#[]⟩)], 16, none, none, none⟩ .leaf
  .leaf)
  .leaf)))
  (.node 18 ⟨true, 1, true, false, 0, false, false, [(0, 17)], true, some [.con (.pointer none)], 8, none, none, none⟩ (.node 15 ⟨true, 1, false, false, 0, false, false, [], false, some [.con (.pointer none)], 8, none, none, none⟩ (.node 14 ⟨true, 2, true, false, 0, false, false, [(0, 9), (1, 12)], true, some [.con (.string ⟨#[]⟩), .con (.int .u64 0)], 24, none, none, none⟩ (.node 13 ⟨true, 2, true, false, 0, false, false, [(0, 9), (1, 12)], true, some [.con (.string ⟨#[]⟩), .con (.int .u64 0)], 24, none, none, none⟩ .leaf
  .leaf)
  .leaf)
  (.node 17 ⟨true, 1, false, false, 0, false, false, [], false, some [.con (.pointer none)], 8, none, none, none⟩ (.node 16 ⟨true, 1, false, false, 0, false, false, [], false, some [.con (.pointer none)], 8, none, none, none⟩ .leaf
  .leaf)
  .leaf))
  (.node 21 ⟨true, 1, false, false, 0, false, false, [], false, some [.con (.int .i32 0)], 4, none, some .i32, none⟩ (.node 20 ⟨true, 1, false, false, 0, false, false, [], false, some [.con .nilIface], 16, none, none, none⟩ (.node 19 ⟨true, 1, true, false, 0, false, false, [(0, 17)], true, some [.con (.pointer none)], 8, none, none, none⟩ .leaf
  .leaf)
  .leaf)
  (.node 23 ⟨true, 1, false, true, 59, false, false, [], false, some [.con (.slice none 0 0)], 24, none, none, none⟩ (.node 22 ⟨true, 1, false, true, 59, false, false, [], false, some [.con (.slice none 0 0)], 24, none, none, none⟩ .leaf
  .leaf)
  .leaf))))
  (.node 41 ⟨true, 1, false, false, 0, false, false, [], false, some [.con .nilFunc], 8, none, none, none⟩ (.node 32 ⟨true, 1, false, false, 0, false, false, [], false, some [.con .nilFunc], 8, none, none, none⟩ (.node 27 ⟨true, 1, false, false, 0, false, false, [], false, some [.con (.int .i64 0)], 8, none, some .i64, none⟩ (.node 26 ⟨true, 1, false, false, 0, false, false, [], false, some [.con .nilFunc], 8, none, none, none⟩ (.node 25 ⟨true, 1, false, false, 0, false, false, [], false, some [.con .nilFunc], 8, none, none, none⟩ .leaf
  .leaf)
  .leaf)
  (.node 31 ⟨true, 1, false, false, 0, false, false, [], false, some [.con .nilFunc], 8, none, none, none⟩ (.node 29 ⟨true, 1, false, false, 0, false, false, [], false, some [.con .nilFunc], 8, none, none, none⟩ .leaf
  .leaf)
  .leaf))
  (.node 37 ⟨true, 1, false, false, 0, false, false, [], false, some [.con .nilFunc], 8, none, none, none⟩ (.node 35 ⟨true, 1, false, false, 0, false, false, [], false, some [.con .nilFunc], 8, none, none, none⟩ (.node 33 ⟨true, 1, false, false, 0, false, false, [], false, some [.con .nilFunc], 8, none, none, none⟩ .leaf
  .leaf)
  .leaf)
  (.node 40 ⟨true, 1, false, false, 0, false, false, [], false, some [.con .nilFunc], 8, none, none, none⟩ (.node 39 ⟨true, 1, false, false, 0, false, false, [], false, some [.con .nilFunc], 8, none, none, none⟩ .leaf
  .leaf)
  .leaf)))
  (.node 47 ⟨true, 1, false, false, 0, false, false, [], false, some [.con .nilFunc], 8, none, none, none⟩ (.node 44 ⟨true, 1, false, false, 0, false, false, [], false, some [.con .nilFunc], 8, none, none, none⟩ (.node 43 ⟨true, 1, false, true, 23, false, false, [], false, some [.con (.slice none 0 0)], 24, none, none, none⟩ (.node 42 ⟨true, 1, false, false, 0, false, false, [], false, some [.con .nilFunc], 8, none, none, none⟩ .leaf
  .leaf)
  .leaf)
  (.node 46 ⟨true, 1, false, false, 0, false, false, [], false, some [.con .nilFunc], 8, none, none, none⟩ (.node 45 ⟨true, 1, false, false, 0, false, false, [], false, some [.con .nilFunc], 8, none, none, none⟩ .leaf
  .leaf)
  .leaf))
  (.node 50 ⟨true, 1, false, false, 0, false, false, [], false, some [.con .nilFunc], 8, none, none, none⟩ (.node 49 ⟨true, 1, false, false, 0, false, false, [], false, some [.con .nilFunc], 8, none, none, none⟩ (.node 48 ⟨true, 1, false, false, 0, false, false, [], false, some [.con .nilFunc], 8, none, none, none⟩ .leaf
  .leaf)
  .leaf)
  (.node 51 ⟨true, 1, false, false, 0, false, false, [], false, some [.con .nilFunc], 8, none, none, none⟩ .leaf
  .leaf)))))
  (.node 76 ⟨true, 1, false, false, 0, false, false, [], false, some [.con .nilFunc], 8, none, none, none⟩ (.node 64 ⟨true, 1, false, false, 0, false, false, [], false, some [.con .nilFunc], 8, none, none, none⟩ (.node 58 ⟨true, 13, true, false, 0, false, false, [(0, 57), (12, 2)], true, some [.con (.int .u8 0), .con (.int .u8 0), .con (.int .u8 0), .con (.int .u8 0), .con (.int .u8 0), .con (.int .u8 0), .con (.int .u8 0), .con (.int .u8 0), .con (.int .u8 0), .con (.int .u8 0), .con (.int .u8 0), .con (.int .u8 0), .con (.int .i64 0)], 24, none, none, none⟩ (.node 55 ⟨true, 1, false, false, 0, false, false, [], false, some [.con (.int .u32 0)], 4, none, some .u32, none⟩ (.node 54 ⟨true, 1, false, false, 0, false, false, [], false, some [.con .nilFunc], 8, none, none, none⟩ (.node 53 ⟨true, 1, false, true, 5, false, false, [], false, some [.con (.slice none 0 0)], 24, none, none, none⟩ .leaf
  .leaf)
  .leaf)
  (.node 57 ⟨true, 12, true, false, 0, false, false, [], false, some [.con (.int .u8 0), .con (.int .u8 0), .con (.int .u8 0), .con (.int .u8 0), .con (.int .u8 0), .con (.int .u8 0), .con (.int .u8 0), .con (.int .u8 0), .con (.int .u8 0), .con (.int .u8 0), .con (.int .u8 0), .con (.int .u8 0)], 12, none, none, some (12, 5)⟩ (.node 56 ⟨true, 1, false, false, 0, false, false, [], false, some [.con .nilFunc], 8, none, none, none⟩ .leaf
  .leaf)
  .leaf))
  (.node 61 ⟨true, 1, false, false, 0, false, false, [], false, some [.con .nilFunc], 8, none, none, none⟩ (.node 60 ⟨true, 1, false, false, 0, false, false, [], false, some [.con .nilFunc], 8, none, none, none⟩ (.node 59 ⟨true, 13, true, false, 0, false, false, [(0, 57), (12, 2)], true, some [.con (.int .u8 0), .con (.int .u8 0), .con (.int .u8 0), .con (.int .u8 0), .con (.int .u8 0), .con (.int .u8 0), .con (.int .u8 0), .con (.int .u8 0), .con (.int .u8 0), .con (.int .u8 0), .con (.int .u8 0), .con (.int .u8 0), .con (.int .i64 0)], 24, none, none, none⟩ .leaf
  .leaf)
  .leaf)
  (.node 63 ⟨true, 1, false, false, 0, false, false, [], false, some [.con .nilFunc], 8, none, none, none⟩ (.node 62 ⟨true, 1, false, false, 0, false, false, [], false, some [.con .nilFunc], 8, none, none, none⟩ .leaf
  .leaf)
  .leaf)))
  (.node 70 ⟨true, 1, false, false, 0, false, false, [], false, some [.con .nilFunc], 8, none, none, none⟩ (.node 67 ⟨true, 1, false, false, 0, false, false, [], false, some [.con .nilFunc], 8, none, none, none⟩ (.node 66 ⟨true, 1, false, false, 0, false, false, [], false, some [.con .nilFunc], 8, none, none, none⟩ (.node 65 ⟨true, 1, false, false, 0, false, false, [], false, some [.con .nilFunc], 8, none, none, none⟩ .leaf
  .leaf)
  .leaf)
  (.node 69 ⟨true, 1, false, false, 0, false, false, [], false, some [.con .nilFunc], 8, none, none, none⟩ (.node 68 ⟨true, 1, false, false, 0, false, false, [], false, some [.con .nilFunc], 8, none, none, none⟩ .leaf
  .leaf)
  .leaf))
  (.node 73 ⟨true, 1, false, false, 0, false, false, [], false, some [.con .nilFunc], 8, none, none, none⟩ (.node 72 ⟨true, 1, false, false, 0, false, false, [], false, some [.con .nilFunc], 8, none, none, none⟩ (.node 71 ⟨true, 1, false, false, 0, false, false, [], false, some [.con .nilFunc], 8, none, none, none⟩ .leaf
  .leaf)
  .leaf)
  (.node 75 ⟨true, 1, false, false, 0, false, false, [], false, some [.con .nilFunc], 8, none, none, none⟩ (.node 74 ⟨true, 1, false, false, 0, false, false, [], false, some [.con .nilFunc], 8, none, none, none⟩ .leaf
  .leaf)
  .leaf))))
  (.node 88 ⟨true, 0, true, false, 0, false, false, [(0, 86)], true, some [], 0, none, none, none⟩ (.node 82 ⟨true, 1, false, false, 0, false, false, [], false, some [.con .nilFunc], 8, none, none, none⟩ (.node 79 ⟨true, 1, false, false, 0, false, false, [], false, some [.con .nilFunc], 8, none, none, none⟩ (.node 78 ⟨true, 1, false, false, 0, false, false, [], false, some [.con .nilFunc], 8, none, none, none⟩ (.node 77 ⟨true, 1, false, false, 0, false, false, [], false, some [.con .nilFunc], 8, none, none, none⟩ .leaf
  .leaf)
  .leaf)
  (.node 81 ⟨true, 1, false, false, 0, false, false, [], false, some [.con .nilFunc], 8, none, none, none⟩ (.node 80 ⟨true, 1, false, false, 0, false, false, [], false, some [.con .nilFunc], 8, none, none, none⟩ .leaf
  .leaf)
  .leaf))
  (.node 85 ⟨true, 4, true, false, 0, false, false, [(0, 17), (1, 17), (2, 17), (3, 9)], true, some [.con (.pointer none), .con (.pointer none), .con (.pointer none), .con (.string ⟨#[]⟩)], 40, none, none, none⟩ (.node 84 ⟨true, 4, true, false, 0, false, false, [(0, 17), (1, 17), (2, 17), (3, 9)], true, some [.con (.pointer none), .con (.pointer none), .con (.pointer none), .con (.string ⟨#[]⟩)], 40, none, none, none⟩ (.node 83 ⟨true, 1, false, false, 0, false, false, [], false, some [.con .nilFunc], 8, none, none, none⟩ .leaf
  .leaf)
  .leaf)
  (.node 87 ⟨true, 0, true, false, 0, false, false, [(0, 86)], true, some [], 0, none, none, none⟩ (.node 86 ⟨true, 0, true, false, 0, false, false, [], false, some [], 0, none, none, some (0, 16)⟩ .leaf
  .leaf)
  .leaf)))
  (.node 94 ⟨true, 1, false, false, 0, false, false, [], false, some [.con (.int .i32 0)], 4, none, some .i32, none⟩ (.node 91 ⟨true, 1, false, false, 0, false, false, [], false, some [.con (.int .u8 0)], 1, none, some .u8, none⟩ (.node 90 ⟨true, 1, false, false, 0, false, false, [], false, some [.con (.int .u8 0)], 1, none, some .u8, none⟩ (.node 89 ⟨true, 1, false, false, 0, false, false, [], false, some [.con .nilFunc], 8, none, none, none⟩ .leaf
  .leaf)
  .leaf)
  (.node 93 ⟨true, 1, false, false, 0, false, false, [], false, some [.con (.pointer none)], 8, none, none, none⟩ (.node 92 ⟨true, 1, false, false, 0, false, false, [], false, some [.con .nilFunc], 8, none, none, none⟩ .leaf
  .leaf)
  .leaf))
  (.node 97 ⟨true, 11, true, false, 0, false, false, [(0, 12), (1, 12), (2, 55), (3, 90), (4, 5), (5, 5), (6, 91), (7, 92), (8, 93), (9, 94), (10, 95)], true, some [.con (.int .u64 0), .con (.int .u64 0), .con (.int .u32 0), .con (.int .u8 0), .con (.int .u8 0), .con (.int .u8 0), .con (.int .u8 0), .con .nilFunc, .con (.pointer none), .con (.int .i32 0), .con (.int .i32 0)], 48, none, none, none⟩ (.node 96 ⟨true, 11, true, false, 0, false, false, [(0, 12), (1, 12), (2, 55), (3, 90), (4, 5), (5, 5), (6, 91), (7, 92), (8, 93), (9, 94), (10, 95)], true, some [.con (.int .u64 0), .con (.int .u64 0), .con (.int .u32 0), .con (.int .u8 0), .con (.int .u8 0), .con (.int .u8 0), .con (.int .u8 0), .con .nilFunc, .con (.pointer none), .con (.int .i32 0), .con (.int .i32 0)], 48, none, none, none⟩ (.node 95 ⟨true, 1, false, false, 0, false, false, [], false, some [.con (.int .i32 0)], 4, none, some .i32, none⟩ .leaf
  .leaf)
  .leaf)
  (.node 98 ⟨true, 1, false, false, 0, false, false, [], false, some [.con (.pointer none)], 8, none, none, none⟩ .leaf
  .leaf))))))
def T (t : TypeId) : Option TI := look t tbl
def goodT (P : Program) : TT → Prop
  | .leaf => True
  | .node k x l r => infoP P k = x ∧ (P.underlying k).isSome = true ∧ goodT P l ∧ goodT P r
def infosT (P : Program) : TT → List (TI × Bool)
  | .leaf => []
  | .node k _ l r => (infoP P k, (P.underlying k).isSome) :: (infosT P l ++ infosT P r)
def wantT : TT → List (TI × Bool)
  | .leaf => []
  | .node _ x l r => (x, true) :: (wantT l ++ wantT r)
theorem infosT_length (P : Program) : ∀ t : TT, (infosT P t).length = (wantT t).length
  | .leaf => rfl
  | .node _ _ l r => by simp [infosT, wantT, infosT_length P l, infosT_length P r]
theorem good_of {P : Program} : ∀ t : TT, infosT P t = wantT t → goodT P t
  | .leaf, _ => trivial
  | .node k x l r, h => by
    simp only [infosT, wantT, List.cons.injEq, Prod.mk.injEq] at h
    obtain ⟨⟨h1, h2⟩, h3⟩ := h
    obtain ⟨h4, h5⟩ := List.append_inj h3 (infosT_length P l)
    exact ⟨h1, h2, good_of l h4, good_of r h5⟩
theorem look_good {P : Program} {t : Nat} {ti : TI} : ∀ (x : TT), goodT P x → look t x = some ti → infoP P t = ti ∧ (P.underlying t).isSome = true
  | .leaf, _, h => by cases h
  | .node k x l r, g, h => by
    obtain ⟨g1, g2, g3, g4⟩ := g
    unfold look at h
    split at h
    · rename_i hb
      have e := Nat.eq_of_beq_eq_true hb
      injection h with h
      subst e h
      exact ⟨g1, g2⟩
    · split at h
      · exact look_good l g3 h
      · exact look_good r g4 h
theorem tok : Tok Try.prog T := fun t ti h => look_good tbl (good_of tbl (by kernel_rfl)) h
end Go.Proofs.Ytbhbgaihhilfmaa.Deep

namespace Go.Proofs.Ytbhbgaihhilfmaa.Deep
open Go.RowKit
set_option linter.unusedVariables false
variable {P : Program}
theorem br_i {b : Bool} {X Y : Prop} (h1 : b = true → X) (h2 : b = false → Y) : br b X Y := by
  cases b
  · exact h2 rfl
  · exact h1 rfl
theorem acalls_eq {T : TypeId → Option TI} {S : FuncId → Option Sg} {L : Nat → Option (List Nat × List (Nat × Sh))} (hm : P.follows .mixedOrders = true) {f : FuncId} {fn : Func} {c : Code} {args : List PV} {h : Heap} {Q : PV → Heap → Prop} {X : Prop} (hT : Tok P T) (hf : P.funcs[f]? = some fn) (hb : fn.body = some c) (e : funA P T S L (fun _ => False) fn c args h Q = X) (hx : X) : ACalls P f args h Q :=
  acalls_of hm hT hf hb (e.mpr hx)
theorem call_p {f : FuncId} {args : List PV} {h : Heap} {r : PV} {X : Prop} (he : Enters P f) (hc : PCalls P f args fun r' => r' = r) (hu : undersL 0 args = true) (hk : X) : CallN P f args h r X :=
  ⟨he, (hc.at hu h), hk⟩
theorem wrap_id {n : Int} (h1 : -9223372036854775808 ≤ n) (h2 : n ≤ 9223372036854775807) : IntKind.i64.wrap n = n := by
  simp only [IntKind.wrap, IntKind.bits, IntKind.signed, Bool.true_and]
  split <;> (rename_i h; simp at h; omega)
def unpack : List RSh → PV → List PV
  | [_], r => [r]
  | _, .tup l => l
  | _, _ => []
def newPost (σ : Nat → Option Nat) (h : Heap) (i : Nat) : BT → Option (List PV)
  | .tip => match σ i with
    | none => some [.tip]
    | some t => match isTip (h.getD t []) with | true => some [.tip] | false => none
  | .cells ss => match σ i with
    | some t => canB 0 (.cells ss) (h.getD t [])
    | none => match ss with | [.row] => some [.row []] | _ => none
  | .dead => some []
  | .keep => none
def canPost (n0 : Nat) (σ : Nat → Option Nat) (h : Heap) : List BT → Nat → Option Heap
  | [], _ => some []
  | t :: r, i => match Nat.blt i n0 with
    | true => match canB n0 t (h.getD i []) with
      | some l => match canPost n0 σ h r (i + 1) with | some ls => some (l :: ls) | none => none
      | none => none
    | false => match newPost σ h i t with
      | some l => match canPost n0 σ h r (i + 1) with | some ls => some (l :: ls) | none => none
      | none => none
def postOne (n0 : Nat) (σ : Nat → Option Nat) (h : Heap) (t : BT) (i : Nat) : Bd := match Nat.blt i n0 with
  | true => tokB t (h.getD i [])
  | false => match σ i with | some x => tokB t (h.getD x []) | none => []
def postToks (n0 : Nat) (σ : Nat → Option Nat) (h : Heap) : List BT → Nat → Bd
  | [], _ => []
  | t :: r, i => postOne n0 σ h t i ++ postToks n0 σ h r (i + 1)
def postPs (n0 : Nat) (h : Heap) : List BT → Nat → Bd → Bd
  | [], _, ps => ps
  | t :: r, i, ps => postPs n0 h r (i + 1) (ps ++ postOne n0 (headN n0 ps) h t i)
def eqTk : Nat × Option Nat → Nat × Option Nat → Bool
  | (a, some x), (b, some y) => Nat.beq a b && Nat.beq x y
  | (a, none), (b, none) => Nat.beq a b
  | _, _ => false
def subTk (xs ps : Bd) : Bool := xs.all fun x => ps.any (eqTk x)
def deadAt (H : List (List PV)) (t : Nat) : Bool := match H.getD t [] with | [] => true | _ => false
def pastX (n0 : Nat) (H : Heap) : Bd → Bool
  | [] => true
  | (b, some t) :: r => (Nat.blt b n0 || Nat.ble n0 t || deadAt H t) && pastX n0 H r
  | (_, none) :: r => pastX n0 H r
def isUnit : PV → Bool
  | .tup [] => true
  | _ => false
def canY (n0 : Nat) (res : List RSh) (post : List BT) (r : PV) (h : Heap) (ps : Bd) (Q : PV → Heap → Prop) : Prop :=
  match canRs res (unpack res r) with
  | none => False
  | some rs => match canPost n0 (headN n0 ps) h post 0 with
    | none => False
    | some H => match okB n0 H.length h ps [] && nodupN ((keysB ps).filter (Nat.ble n0)) && pastX n0 H ps && Nat.ble n0 h.length && Nat.ble n0 H.length && Nat.beq rs.length res.length && (Nat.blt 0 rs.length || isUnit r) && subTk (tokRs res (unpack res r)) ps && subTk (postToks n0 (headN n0 ps) h post 0) ps with
      | true => Q (packR rs) H
      | false => False
def canX (n0 : Nat) (res : List RSh) (post : List BT) (r : PV) (h : Heap) (Q : PV → Heap → Prop) : Prop := canY n0 res post r h (postPs n0 h post 0 (tokRs res (unpack res r))) Q
theorem eqTk_eq {x y : Nat × Option Nat} (h : eqTk x y = true) : x = y := by
  obtain ⟨a, x⟩ := x
  obtain ⟨b, y⟩ := y
  cases x <;> cases y <;> simp only [eqTk, Bool.and_eq_true] at h
  · rw [Nat.eq_of_beq_eq_true h]
  · cases h
  · cases h
  · rw [Nat.eq_of_beq_eq_true h.1, Nat.eq_of_beq_eq_true h.2]
theorem subTk_mem {xs ps : Bd} (h : subTk xs ps = true) {x : Nat × Option Nat} (hx : x ∈ xs) : x ∈ ps := by
  have h1 := List.all_eq_true.1 h x hx
  obtain ⟨y, hy, he⟩ := List.any_eq_true.1 h1
  rw [eqTk_eq he]; exact hy
theorem canRs_seen {σ : Nat → Option Nat} {n : Nat} : ∀ {ss : List RSh} {ps qs : List PV}, canRs ss ps = some qs → Bound σ n (tokRs ss ps) → ps.length = qs.length ∧ ∀ j, j < qs.length → SeenAs σ n (ps.getD j .any) (qs.getD j .any)
  | [], [], qs, hc, _ => by
    simp only [canRs, Option.some.injEq] at hc
    subst hc
    exact ⟨rfl, fun j hj => absurd hj (Nat.not_lt_zero _)⟩
  | [], _ :: _, qs, hc, _ => by simp [canRs] at hc
  | _ :: _, [], qs, hc, _ => by simp [canRs] at hc
  | s :: ss, p :: ps, qs, hc, hb => by
    simp only [canRs] at hc
    split at hc
    case h_2 => cases hc
    rename_i q hq
    split at hc
    case h_2 => cases hc
    rename_i qs' hqs
    injection hc with hc
    subst hc
    obtain ⟨h1, h2⟩ := Bound.app (ps := tokR s p) (qs := tokRs ss ps) hb
    obtain ⟨k1, k2⟩ := canRs_seen hqs h2
    refine ⟨by simp [k1], fun j hj => ?_⟩
    cases j with
    | zero => exact canR_seen hq h1
    | succ j => exact k2 j (by simpa using hj)
theorem pack_seen {σ : Nat → Option Nat} {n : Nat} {res : List RSh} {r : PV} {rs : List PV} (hl : rs.length = res.length) (h0 : 0 < rs.length ∨ isUnit r = true) (hs : (unpack res r).length = rs.length ∧ ∀ j, j < rs.length → SeenAs σ n ((unpack res r).getD j .any) (rs.getD j .any)) : SeenAs σ n r (packR rs) := by
  obtain ⟨h1, h2⟩ := hs
  match res, rs, hl with
  | [], [], _ =>
    rcases h0 with h0 | h0
    · simp at h0
    · unfold isUnit at h0
      split at h0
      · exact SeenAs.same (d := 0) rfl (fun b hb => absurd hb (Nat.not_lt_zero _)) (Nat.zero_le _)
      · cases h0
  | [x], [q], _ => exact h2 0 (by simp)
  | x :: y :: l, p :: q :: ps, _ =>
    cases r <;> first
      | (simp [unpack] at h1; done)
      | skip
    rename_i us
    intro G m w n0 v hr
    cases hr with
    | tup _ vs _ hl2 hrr =>
      have h1' : us.length = (p :: q :: ps).length := h1
      exact .tup _ _ _ (by rw [hl2, h1']) (fun i hi => h2 i hi G m w n0 _ (hrr i (by rw [h1']; exact hi)))
theorem newPost_spec {σ : Nat → Option Nat} {n : Nat} {h : Heap} {t : BT} {i : Nat} {l : List PV} (hc : newPost σ h i t = some l) (hb : ∀ x, σ i = some x → Bound σ n (tokB t (h.getD x []))) :
    kind l = .dead ∨ ((kind l = .tip ∨ kind l = .row []) ∧ σ i = none) ∨ ∃ x, σ i = some x ∧ SeenB σ n (h.getD x []) l := by
  cases t with
  | keep => simp [newPost] at hc
  | dead => simp only [newPost, Option.some.injEq] at hc; subst hc; exact .inl rfl
  | tip =>
    simp only [newPost] at hc
    split at hc
    · rename_i he
      injection hc with hc
      subst hc
      exact .inr (.inl ⟨.inl rfl, he⟩)
    · rename_i x he
      split at hc
      case h_2 => cases hc
      rename_i ht
      injection hc with hc
      subst hc
      exact .inr (.inr ⟨x, he, isTip_kind ht, fun hk => by cases hk⟩)
  | cells ss =>
    simp only [newPost] at hc
    split at hc
    · rename_i x he
      rcases canB_seen hc (hb x he) (d := 0) (fun b hb => absurd hb (Nat.not_lt_zero _)) (Nat.zero_le _) with q | q
      · exact .inl q
      · exact .inr (.inr ⟨x, he, q⟩)
    · rename_i he
      split at hc
      · injection hc with hc
        subst hc
        exact .inr (.inl ⟨.inr rfl, he⟩)
      · cases hc
theorem canPost_spec {σ : Nat → Option Nat} {n n0 : Nat} {h : Heap} (hσ : ∀ b, b < n0 → σ b = some b) (hn : n0 ≤ n) : ∀ {bs : List BT} {i : Nat} {H : Heap}, canPost n0 σ h bs i = some H → Bound σ n (postToks n0 σ h bs i) →
    ∀ k, k < H.length → (i + k < n0 → kind (H.getD k []) = .dead ∨ SeenB σ n (h.getD (i + k) []) (H.getD k [])) ∧ (n0 ≤ i + k → kind (H.getD k []) = .dead ∨ ((kind (H.getD k []) = .tip ∨ kind (H.getD k []) = .row []) ∧ σ (i + k) = none) ∨ ∃ x, σ (i + k) = some x ∧ SeenB σ n (h.getD x []) (H.getD k []))
  | [], i, H, hc, _ => by
    simp only [canPost, Option.some.injEq] at hc
    subst hc
    exact fun k hk => absurd hk (Nat.not_lt_zero _)
  | t :: r, i, H, hc, hb => by
    obtain ⟨b1, b2⟩ := Bound.app (ps := postOne n0 σ h t i) (qs := postToks n0 σ h r (i + 1)) hb
    simp only [canPost] at hc
    split at hc
    · rename_i hi
      have hi' := blt_lt hi
      split at hc
      case h_2 => cases hc
      rename_i l hl
      split at hc
      case h_2 => cases hc
      rename_i ls hls
      injection hc with hc
      subst hc
      have b1' : Bound σ n (tokB t (h.getD i [])) := by unfold postOne at b1; rw [hi] at b1; exact b1
      have ih := canPost_spec hσ hn hls b2
      intro k hk
      cases k with
      | zero => exact ⟨fun _ => canB_seen hl b1' hσ hn, fun hge => absurd hge (by omega)⟩
      | succ k =>
        have := ih k (by simpa using hk)
        rw [show i + 1 + k = i + (k + 1) by omega] at this
        exact this
    · rename_i hi
      have hi' : n0 ≤ i := by
        apply Classical.byContradiction
        intro hn
        have : Nat.blt i n0 = true := Nat.ble_eq_true_of_le (by omega)
        rw [this] at hi; cases hi
      split at hc
      case h_2 => cases hc
      rename_i l hl
      split at hc
      case h_2 => cases hc
      rename_i ls hls
      injection hc with hc
      subst hc
      have b1' : ∀ x, σ i = some x → Bound σ n (tokB t (h.getD x [])) := fun x hx => by unfold postOne at b1; rw [hi, hx] at b1; exact b1
      have ih := canPost_spec hσ hn hls b2
      intro k hk
      cases k with
      | zero => exact ⟨fun hlt => absurd hlt (by omega), fun _ => newPost_spec hl b1'⟩
      | succ k =>
        have := ih k (by simpa using hk)
        rw [show i + 1 + k = i + (k + 1) by omega] at this
        exact this
theorem pastX_mem {n0 : Nat} {H : Heap} : ∀ {ps : Bd}, pastX n0 H ps = true → ∀ b t, (b, some t) ∈ ps → n0 ≤ b → n0 ≤ t ∨ H.getD t [] = []
  | [], _, b, t, hm, _ => by cases hm
  | (b', none) :: r, hp, b, t, hm, hb => by
    rcases List.mem_cons.1 hm with e | e
    · injection e with e1 e2; cases e2
    · exact pastX_mem (by simpa only [pastX] using hp) b t e hb
  | (b', some t') :: r, hp, b, t, hm, hb => by
    simp only [pastX, Bool.and_eq_true, Bool.or_eq_true] at hp
    rcases List.mem_cons.1 hm with e | e
    · injection e with e1 e2
      injection e2 with e2
      subst e1 e2
      rcases hp.1 with (q | q) | q
      · have := blt_lt q; omega
      · exact .inl (Nat.le_of_ble_eq_true q)
      · right
        unfold deadAt at q
        cases hq : H.getD t [] with
        | nil => rfl
        | cons x l => rw [hq] at q; cases q
    · exact pastX_mem hp.2 b t e hb
theorem canX_told {h h' : Heap} {res : List RSh} {post : List BT} {Q : PV → Heap → Prop} {r : PV} {v : Value} {G G' : Nat → Nat} {m m' : Nat → Pl} {w w' : World} (hX : canX h.length res post r h' Q) (hrep : Rep G' m' w' h'.length v r) (hs' : HS P G' m' w' h') (hg : Goes G m w h G' m' w' h') :
    ∃ r h' G' m', Q r h' ∧ Rep G' m' w' h'.length v r ∧ HS P G' m' w' h' ∧ Goes G m w h G' m' w' h' := by
  unfold canX at hX
  generalize postPs h.length h' post 0 (tokRs res (unpack res r)) = ps at hX
  unfold canY at hX
  split at hX
  case h_1 => exact hX.elim
  rename_i rs hrs
  split at hX
  case h_1 => exact hX.elim
  rename_i H hH
  split at hX
  case h_2 => exact hX.elim
  rename_i hck
  simp only [Bool.and_eq_true] at hck
  obtain ⟨⟨⟨⟨⟨⟨⟨⟨c1, c2⟩, c3⟩, c4⟩, c5⟩, c6⟩, c7⟩, c8⟩, c9⟩ := hck
  have d4 := Nat.le_of_ble_eq_true c4
  have d5 := Nat.le_of_ble_eq_true c5
  have hid : ∀ b, b < h.length → headN h.length ps b = some b := fun b hb => headN_lt hb
  have hBd : Bound (headN h.length ps) H.length ps := fun b t hm => by
    obtain ⟨q1, q2⟩ := okB_mem c1 b t hm
    by_cases hb : b < h.length
    · refine ⟨by omega, fun x hx => ?_⟩
      rw [headN_lt hb]
      rcases q1 hb with q | ⟨_, q⟩
      · rw [hx] at q; exact q.symm
      · exact q.elim
    · obtain ⟨r1, r2⟩ := q2 (by omega)
      refine ⟨r1, fun x hx => ?_⟩
      rw [headN_ge (by omega), lookB_of c2 b t (by omega) hm, hx]
  have hmemσ : ∀ b t, h.length ≤ b → headN h.length ps b = some t → (b, some t) ∈ ps := fun b t hb he => by
    rw [headN_ge hb] at he
    split at he
    · rename_i x hx
      injection he with he
      subst he
      exact lookB_mem hx
    · cases he
  have b1 : Bound (headN h.length ps) H.length (tokRs res (unpack res r)) := fun b t hm => hBd b t (subTk_mem c8 hm)
  have b2 : Bound (headN h.length ps) H.length (postToks h.length (headN h.length ps) h' post 0) := fun b t hm => hBd b t (subTk_mem c9 hm)
  have hP := canPost_spec hid d5 hH b2
  have N : Norm (headN h.length ps) h' H := by
    refine ⟨fun b hb => ?_, fun b b' t hb hb' hd hd' e1 e2 => ?_⟩
    · obtain ⟨p1, p2⟩ := hP b hb
      rw [Nat.zero_add] at p1 p2
      by_cases hb2 : b < h.length
      · rcases p1 hb2 with q | q
        · exact .inl q
        · exact .inr (.inr ⟨b, hid b hb2, by omega, q⟩)
      · rcases p2 (by omega) with q | q | ⟨t, q1, q2⟩
        · exact .inl q
        · exact .inr (.inl q)
        · obtain ⟨_, q3⟩ := okB_mem c1 b (some t) (hmemσ b t (by omega) q1)
          have hlive := ((q3 (by omega)).2 t rfl).1
          refine .inr (.inr ⟨t, q1, kind_lt (fun he => ?_), q2⟩)
          unfold tipRow at hlive
          rw [he] at hlive
          cases hlive
    · by_cases hb2 : b < h.length <;> by_cases hb3 : b' < h.length
      · rw [hid b hb2] at e1; rw [hid b' hb3] at e2
        injection e1 with e1; injection e2 with e2; omega
      · rw [hid b hb2] at e1
        injection e1 with e1
        subst e1
        rcases pastX_mem c3 b' b (hmemσ b' b (by omega) e2) (by omega) with q | q
        · omega
        · rw [q] at hd; exact absurd rfl hd
      · rw [hid b' hb3] at e2
        injection e2 with e2
        subst e2
        rcases pastX_mem c3 b b' (hmemσ b b' (by omega) e1) (by omega) with q | q
        · omega
        · rw [q] at hd'; exact absurd rfl hd'
      · exact okB_inj c1 b b' t (hmemσ b t (by omega) e1) (hmemσ b' t (by omega) e2) (by omega) (by omega)
  exact ⟨_, H, G', _, hX, pack_seen (Nat.eq_of_beq_eq_true c6) (by rw [Bool.or_eq_true] at c7; exact c7.imp blt_lt id) (canRs_seen hrs b1) _ _ _ _ _ hrep, hs'.norm N, hg.norm N hid d5⟩
theorem tcalls_canon {f : FuncId} {args : List PV} {h : Heap} {res : List RSh} {post : List BT} {Q : PV → Heap → Prop} {H0 : Value → Prop} (hc : TCalls P f args h (fun r h' => canX h.length res post r h' Q) H0) : TCalls P f args h Q H0 := by
  intro G m w vs hs ha
  refine (hc G m w vs hs ha).mono ?_
  rintro e w' (⟨v, r, h', G', m', rfl, hX, hrep, hs', hg⟩ | q)
  · obtain ⟨r2, h2, G2, m2, q⟩ := canX_told hX hrep hs' hg
    exact .inl ⟨v, r2, h2, G2, m2, rfl, q⟩
  · exact .inr q
theorem acalls_canon {f : FuncId} {args : List PV} {h : Heap} {res : List RSh} {post : List BT} {Q : PV → Heap → Prop} (hc : ACalls P f args h fun r h' => canX h.length res post r h' Q) : ACalls P f args h Q := (tcalls_canon hc.t).a
theorem pcalls_weak {f : FuncId} {args : List PV} {Q : PV → Prop} (hc : ACalls P f args [] fun r _ => Q (weak r) ∧ (weak r).under 0 = true) : PCalls P f args Q := by
  intro G m w vs hs ha
  refine (hc G m w vs hs ha).mono ?_
  rintro e w' ⟨v, r, h', G', m', rfl, hX, hrep, hs', hg⟩
  exact ⟨v, weak r, h', G', m', rfl, hX, hrep.weak, hs', hg⟩
theorem HS.seal {G : Nat → Nat} {m : Nat → Pl} {w : World} {h : Heap} (k : HS P G m w h) {b : Nat} {l : List PV} (hb : b < h.length) (hk : h.getD b [] = [.row l]) (h0 : (m b).fr ≠ 0) :
    HS P (updG G (m b).at' l.length) m w (h.set b []) ∧ Goes G m w h (updG G (m b).at' l.length) m w (h.set b []) ∧ ∃ (cs : List Value) (T : TypeId), w.heap[(m b).at']? = some (.cells cs.toArray T (0, 0)) ∧ l.length ≤ cs.length ∧ ∀ j, j < l.length → Rep (updG G (m b).at' l.length) m w 0 (cs.getD j undef) (l.getD j .any) := by
  have hL := k.blk b hb
  unfold Lies at hL
  rw [hk] at hL
  simp only [kind] at hL
  obtain ⟨⟨cs, T, h1, h2, h3⟩, hG0⟩ := hL.1 h0
  have hbal : alive m h b := by unfold alive; rw [hk]; exact h0
  have hmb := k.lt hb hbal
  have hG : ∀ g, G g ≤ updG G (m b).at' l.length g := fun g => by
    by_cases he : g = (m b).at'
    · rw [he, hG0]; exact Nat.zero_le _
    · rw [updG_ne _ _ he]; exact Nat.le_refl _
  have hGn : ∀ g, g ≠ (m b).at' → updG G (m b).at' l.length g = G g := fun g hg => updG_ne _ _ hg
  have ks : ∀ n, Keeps G m w n (updG G (m b).at' l.length) m w := fun n => ⟨hG, fun _ _ _ => rfl, fun _ _ _ h => h, fun _ _ => rfl⟩
  have hal : ∀ x, x < h.length → alive m (h.set b []) x → x ≠ b ∧ alive m h x := fun x hx ha => by
    by_cases he : b = x
    · subst he; unfold alive at ha; rw [getD_set_eq _ _ _ hb] at ha; exact ha.elim
    · exact ⟨fun e => he e.symm, (alive_congr (getD_set_ne _ _ _ he) rfl).1 ha⟩
  refine ⟨⟨fun b' hb' => ?_, fun x y hx hy ha ha' he => ?_, fun g hg => ?_⟩, ⟨rfl, rfl, rfl, Nat.le_refl _, by simp, hG, fun _ _ _ => rfl, fun _ _ _ h => h, fun _ _ => rfl, fun x hx ha => (hal x hx ha).2, fun j hj hx => ⟨rfl, hGn j (fun he => hx b hb hbal he.symm)⟩, fun x hx hx2 => absurd hx2 (by simp; omega)⟩, cs, T, h1, h2, fun j hj => (h3 j hj).keep (Nat.le_refl _) (ks 0)⟩
  · have hb2 : b' < h.length := by simpa using hb'
    simp only [List.length_set]
    by_cases he : b = b'
    · subst he
      rw [getD_set_eq _ _ _ hb2]
      unfold Lies kind
      trivial
    · rw [getD_set_ne _ _ _ he]
      refine (k.blk b' hb2).keep (ks _) (Nat.le_refl _) (fun ha => ⟨rfl, hGn _ (fun e => he ?_)⟩)
      exact (k.inj b' b hb2 hb ha hbal e).symm
  · have hx2 : x < h.length := by simpa using hx
    have hy2 : y < h.length := by simpa using hy
    exact k.inj x y hx2 hy2 (hal x hx2 ha).2 (hal y hy2 ha').2 he
  · by_cases he : g = (m b).at'
    · rw [he]; exact hmb
    · rw [hGn g he] at hg; exact k.old g hg
def rowsOf (sz n : Nat) (l : List PV) : List (List PV) := (List.range n).map fun i => (l.drop (i * sz)).take sz
theorem rowsOf_length (sz n : Nat) (l : List PV) : (rowsOf sz n l).length = n := by simp [rowsOf]
theorem rowsOf_at {sz n i : Nat} {l : List PV} (hi : i < n) : (rowsOf sz n l).getD i [] = (l.drop (i * sz)).take sz := by simp [rowsOf, List.getD_eq_getElem?_getD, hi]
theorem ACalls.seal {f : FuncId} {args : List PV} {sz : Nat} (h0 : 0 < sz) {Q : List PV → Prop} (c : ACalls P f args [] fun r h' => ∃ b n l e, r = .rw b 0 n e sz ∧ b < h'.length ∧ h'.getD b [] = [.row l] ∧ l.length = n * sz ∧ Q l) : PCalls P f args fun r => ∃ n l, l.length = n * sz ∧ Q l ∧ r = .sl (rowsOf sz n l) := fun G m w vs hs ha =>
  (c G m w vs hs ha).mono fun e w' ⟨v, r, h', G', m', he, ⟨b, n, l, e', hr, hb, hk, hl, hQ⟩, hrep, hs', hg⟩ => by
    subst hr
    cases hrep with
    | rw0 _ _ _ _ hb2 =>
      obtain ⟨k1, k2⟩ := hs'.kill b
      refine ⟨_, .sl (rowsOf sz 0 l), _, _, m', he, ⟨⟨0, l, hl, hQ, rfl⟩, rfl⟩, ?_, k1, hg.trans k2⟩
      exact rep_nil _
    | rw _ _ _ _ cc qq N _ _ hb2 hc hm hq hN hsh hf =>
      obtain ⟨k1, k2, cs, T, q1, q2, q3⟩ := hs'.seal hb hk hf
      refine ⟨_, .sl (rowsOf sz n l), _, _, m', he, ⟨⟨n, l, hl, hQ, rfl⟩, rfl⟩, ?_, k1, hg.trans k2⟩
      have hmul : ∀ i, i < n → i * sz + sz ≤ l.length := fun i hi => by rw [hl, ← Nat.succ_mul]; exact Nat.mul_le_mul_right _ hi
      have := Rep.sl (G := updG G' (m' b).at' l.length) (m := m') (w := w') (h'.set b []).length (some ⟨(m' b).at', qq, none⟩) cc sz (rowsOf sz n l) (fun i j => cs.getD (i * sz + j) undef) (by rw [rowsOf_length]; exact hc) hm
        (fun i hi => by rw [rowsOf_length] at hi; rw [rowsOf_at hi, List.length_take, List.length_drop]; have := hmul i hi; omega)
        (fun h => ⟨(m' b).at', 0, by rw [rowsOf_length] at h; have : qq = 0 := by omega
                                     rw [this], by rw [rowsOf_length, updG_eq, hl]; omega, fun i hi j hj => by
          rw [rowsOf_length] at hi
          have := hmul i hi
          have hlt : i * sz + j < cs.length := by omega
          simp only [World.cell?, q1, Nat.zero_add, List.getElem?_toArray]
          simp [List.getElem?_eq_getElem hlt, List.getD_eq_getElem?_getD]⟩)
        (fun i hi j hj => by
          rw [rowsOf_length] at hi
          have := hmul i hi
          have e : ((rowsOf sz n l).getD i []).getD j .any = l.getD (i * sz + j) .any := by
            rw [rowsOf_at hi]
            simp [List.getD_eq_getElem?_getD, hj]
          rw [e]
          exact q3 _ (by omega))
      rw [rowsOf_length] at this
      exact this
end Go.Proofs.Ytbhbgaihhilfmaa.Deep

namespace Go.Proofs.Ytbhbgaihhilfmaa.Deep
open Go.RowKit
set_option linter.unusedVariables false
def blockCells (w : World) (g : Nat) : Nat := match w.heap[g]? with | some (.cells c _ _) => c.size | _ => 0
theorem lies_lt {w : World} {g o : Nat} {v : Value} (h : w.cell? ⟨g, o, none⟩ = some v) : o < blockCells w g := by
  unfold World.cell? at h
  unfold blockCells
  split at h
  · rename_i c T fz hc
    dsimp only at hc
    rw [hc]
    have h : c[o]? = some v := by simpa using h
    exact (Array.getElem?_eq_some_iff.1 h).1
  · cases h
theorem block_old {w : World} (g : Nat) (h : blockCells w g ≠ 0) : g < w.heap.size := by
  rcases Nat.lt_or_ge g w.heap.size with h' | h'
  · exact h'
  · unfold blockCells at h
    rw [Array.getElem?_eq_none h'] at h
    exact absurd rfl h
structure CR (w : World) (cs : List Value) (ps : List PV) : Prop where
  len : cs.length = ps.length
  rep : ∀ i, i < ps.length → Rep (blockCells w) (fun _ => ⟨0, 0⟩) w 0 (cs.getD i undef) (ps.getD i .any)
theorem CR.nil {w : World} {cs : List Value} (h : cs.length = 0) : CR w cs [] := ⟨by simpa using h, fun i hi => absurd hi (Nat.not_lt_zero _)⟩
theorem CR.one {w : World} {v : Value} {p : PV} (h : Rep (blockCells w) (fun _ => ⟨0, 0⟩) w 0 v p) : CR w [v] [p] := ⟨rfl, fun i hi => by
  obtain rfl : i = 0 := by simpa using hi
  exact h⟩
theorem CR.append {w : World} {a b : List Value} {p q : List PV} (h : CR w a p) (k : CR w b q) : CR w (a ++ b) (p ++ q) := by
  refine ⟨by rw [List.length_append, List.length_append, h.len, k.len], fun i hi => ?_⟩
  rw [List.length_append] at hi
  have hl := h.len
  by_cases hlt : i < p.length
  · have := h.rep i hlt
    simp only [List.getD_eq_getElem?_getD] at this ⊢
    rwa [List.getElem?_append_left (by omega), List.getElem?_append_left hlt]
  · have := k.rep (i - p.length) (by omega)
    simp only [List.getD_eq_getElem?_getD] at this ⊢
    rwa [List.getElem?_append_right (by omega), List.getElem?_append_right (by omega), hl]
theorem CR.seg {w : World} {cs : List Value} {o n : Nat} {p q : List PV} (h : CR w ((cs.drop o).take n) p) (k : CR w (cs.drop (o + n)) q) : CR w (cs.drop o) (p ++ q) := by
  have := h.append k
  rwa [← List.drop_drop, List.take_append_drop] at this
theorem CR.int (w : World) (k : IntKind) (n : Int) : CR w [.int k n] [.con (.int k n)] := .one (.con _ _)
theorem CR.str (w : World) (s : ByteArray) : CR w [.string s] [.con (.string s)] := .one (.con _ _)
theorem list_of {α : Type} {M : Nat → α → Prop} : ∀ n : Nat, (∀ i, i < n → ∃ a, M i a) → ∃ zs : List α, zs.length = n ∧ ∀ i (h : i < zs.length), M i zs[i]
  | 0, _ => ⟨[], rfl, fun i h => absurd h (Nat.not_lt_zero _)⟩
  | n + 1, h => by
    obtain ⟨zs, hl, ha⟩ := list_of n (fun i hi => h i (by omega))
    obtain ⟨a, hx⟩ := h n (by omega)
    refine ⟨zs ++ [a], by simp [hl], fun i hi => ?_⟩
    by_cases hlt : i < zs.length
    · rw [List.getElem_append_left hlt]; exact ha i hlt
    · have : i = zs.length := by simp at hi; omega
      subst this
      rw [List.getElem_append_right (Nat.le_refl _)]
      simpa [hl] using hx
section
variable {H : Type} {enc : TypeId × Value → H} {P : Program} {w : World} {spare : Nat → Bool} {held : Bool}
theorem open_slice {α : Type} (view : α → List PV) (M : α → Prop) {t e : TypeId} (ht : P.underlying t = some (.slice e)) (hs : 0 < P.cellsOf e) {fuel : Nat} {cs : List Value} {x : DataW H × List MemPlace} (h : DataW.trod enc P w 0 spare held fuel t cs = some x)
    (hv : ∀ n us y, n < fuel → us.length = P.cellsOf e → DataW.trod enc P w 0 spare held n e us = some y → ∃ a, M a ∧ CR w us (view a)) : ∃ zs : List α, (∀ a ∈ zs, M a) ∧ CR w cs [.sl (zs.map view)] := by
  rcases DataW.trod_slice ht h with ⟨rfl, rfl⟩ | ⟨a, len, cap, elems, rest, n, rfl, rfl, rfl, hb, hle, hcap, hel, hget, _, _⟩
  · exact ⟨[], fun a ha => absurd ha (List.not_mem_nil), .one (.sl 0 none 0 0 [] (fun _ _ => undef) (Nat.le_refl _) (by decide) (fun i hi => absurd hi (Nat.not_lt_zero _)) (fun hi => absurd hi (Nat.not_lt_zero _)) (fun i hi => absurd hi (Nat.not_lt_zero _)))⟩
  · obtain ⟨zs, hl, has⟩ := list_of (M := fun i b => M b ∧ ∃ us, w.cells? 0 (a.add (i * P.cellsOf e)) (P.cellsOf e) = some us ∧ CR w us (view b)) len (fun i hi => by
      have hg := hget i hi
      rw [List.getElem?_eq_getElem (by omega)] at hg
      obtain ⟨us, h1, h2⟩ := Option.bind_eq_some_iff.1 hg
      obtain ⟨b, hb1, hb2⟩ := hv n us _ (by omega) (World.cells?_some h1).2.1 h2
      exact ⟨b, hb1, us, h1, hb2⟩)
    subst hl
    refine ⟨zs, fun b hb => ?_, .one ?_⟩
    · obtain ⟨i, hi, rfl⟩ := List.getElem_of_mem hb
      exact (has i hi).1
    · obtain ⟨b, off, spot⟩ := a
      have hcell : ∀ i (hi : i < zs.length), ∀ j, j < P.cellsOf e → ∃ v, w.cell? ((Addr.mk b off spot).add (i * P.cellsOf e) |>.add j) = some v ∧ Rep (blockCells w) (fun _ => ⟨0, 0⟩) w 0 v ((view zs[i]).getD j .any) := fun i hi j hj => by
        obtain ⟨us, h1, h2⟩ := (has i hi).2
        obtain ⟨_, g1, g2⟩ := World.cells?_some h1
        have hl := h2.len
        have hr := h2.rep j (by omega)
        rw [g2 j hj, List.getElem?_eq_getElem (by omega)]
        refine ⟨us[j], rfl, ?_⟩
        rwa [List.getD_eq_getElem?_getD, List.getElem?_eq_getElem (by omega), Option.getD_some] at hr
      have hxs : ∀ i, i < (zs.map view).length → ∃ hi : i < zs.length, (zs.map view).getD i [] = view zs[i] := fun i hi => by
        have hi' : i < zs.length := by simpa using hi
        exact ⟨hi', by rw [List.getD_eq_getElem?_getD, List.getElem?_map, List.getElem?_eq_getElem hi']; rfl⟩
      have hspot : 0 < zs.length → spot = none := fun h0 => by
        obtain ⟨v, h1, _⟩ := hcell 0 h0 0 hs
        simpa [Addr.add] using World.cell?_spot h1
      have hcell' : ∀ i (hi : i < zs.length), ∀ j, j < P.cellsOf e → ∃ v, w.cell? ⟨b, off + i * P.cellsOf e + j, none⟩ = some v ∧ Rep (blockCells w) (fun _ => ⟨0, 0⟩) w 0 v ((view zs[i]).getD j .any) := fun i hi j hj => by
        obtain rfl := hspot (by omega)
        have := hcell i hi j hj
        rwa [Go.WideShapes.add_plain, Go.WideShapes.add_plain] at this
      rw [show zs.length = (zs.map view).length by simp]
      refine .sl 0 _ cap (P.cellsOf e) (zs.map view) (fun i j => (w.cell? ⟨b, off + i * P.cellsOf e + j, none⟩).getD undef) (by simpa using hle) (by unfold maxLen at hcap; exact hcap) (fun i hi => ?_) (fun h0 => ?_) (fun i hi j hj => ?_)
      · obtain ⟨hi', hq⟩ := hxs i hi
        rw [hq]
        obtain ⟨us, h1, h2⟩ := (has i hi').2
        exact h2.len.symm.trans (World.cells?_some h1).2.1
      · have h0' : 0 < zs.length := by simpa using h0
        obtain rfl := hspot h0'
        refine ⟨b, off, rfl, ?_, fun i hi j hj => ?_⟩
        · obtain ⟨v, h1, _⟩ := hcell' (zs.length - 1) (by omega) (P.cellsOf e - 1) (by omega)
          have := lies_lt h1
          obtain ⟨k, hk⟩ : ∃ k, zs.length = k + 1 := ⟨zs.length - 1, by omega⟩
          rw [List.length_map, hk, Nat.succ_mul]
          rw [hk, Nat.add_sub_cancel] at this
          omega
        · obtain ⟨hi', _⟩ := hxs i hi
          obtain ⟨v, h1, _⟩ := hcell' i hi' j hj
          rw [h1]; rfl
      · obtain ⟨hi', hq⟩ := hxs i hi
        obtain ⟨v, h1, h2⟩ := hcell' i hi' j hj
        rw [h1, hq]
        exact h2
theorem open_flds {T : TypeId → Option TI} (hT : Tok P T) {t : TypeId} {ti : TI} (hi : T t = some ti) (hst : ti.isStruct = true) {fuel : Nat} {cs : List Value} {x : DataW H × List MemPlace} (h : DataW.trod enc P w 0 spare held fuel t cs = some x) :
    ∃ n, n < fuel ∧ cs.length = ti.size ∧ ∀ (i o : Nat) (ft : TypeId) (fi : TI), ti.flds[i]? = some (o, ft) → T ft = some fi → ∃ y, DataW.trod enc P w 0 spare held n ft ((cs.drop o).take fi.size) = some y := by
  obtain ⟨h1, h2⟩ := hT t ti hi
  obtain ⟨d, hd⟩ := Option.isSome_iff_exists.1 h2
  subst h1
  have : ∃ fs, d = .struct fs := by
    unfold infoP at hst
    dsimp only at hst
    rw [hd] at hst
    cases d <;> first | exact ⟨_, rfl⟩ | (exact absurd hst Bool.false_ne_true)
  obtain ⟨fs, rfl⟩ := this
  obtain ⟨xs, n, rfl, rfl, hl, hlen, hf⟩ := DataW.trod_struct hd h
  refine ⟨n, by omega, hl, fun i o ft fi hfi hTf => ?_⟩
  have hfl : (infoP P t).flds = fs.toList.map (fun f => (f.offset, f.type)) := by unfold infoP; dsimp only; rw [hd]
  rw [hfl, List.getElem?_map] at hfi
  obtain ⟨f, hf1, hf2⟩ := Option.map_eq_some_iff.1 hfi
  cases hf2
  have hf1' : fs[i]? = some f := by simpa using hf1
  have hlt : i < xs.length := by rw [hlen]; exact (Array.getElem?_eq_some_iff.1 hf1').1
  have := hf i f hf1'
  rw [List.getElem?_eq_getElem hlt] at this
  have hz : fi.size = P.cellsOf f.type := by rw [← (hT _ _ hTf).1]; rfl
  rw [hz]
  exact ⟨_, this⟩
end
end Go.Proofs.Ytbhbgaihhilfmaa.Deep

namespace Go.Proofs.Ytbhbgaihhilfmaa.Deep
open Go.RowKit Poly
set_option linter.unusedVariables false
set_option linter.unusedSimpArgs false
def u8P (n : Nat) : PV := .con (.int .u8 (n : Int))
def exP (e : Ex) : List PV := [u8P (e.at 0), u8P (e.at 1), u8P (e.at 2), u8P (e.at 3), u8P (e.at 4), u8P (e.at 5), u8P (e.at 6), u8P (e.at 7), u8P (e.at 8), u8P (e.at 9), u8P (e.at 10), u8P (e.at 11)]
def tmP (t : Tm) : List PV := [u8P (t.e.at 0), u8P (t.e.at 1), u8P (t.e.at 2), u8P (t.e.at 3), u8P (t.e.at 4), u8P (t.e.at 5), u8P (t.e.at 6), u8P (t.e.at 7), u8P (t.e.at 8), u8P (t.e.at 9), u8P (t.e.at 10), u8P (t.e.at 11), .con (.int .i64 t.c)]
def plP (p : List Tm) : List (List PV) := p.map tmP
theorem plP_len (p : List Tm) : (plP p).length = p.length := by simp [plP]
theorem plP_at {p : List Tm} {i : Nat} {t : Tm} (h : p[i]? = some t) : (plP p)[i]? = some (tmP t) := by simp [plP, h]
theorem plP_app (p q : List Tm) : plP (p ++ q) = plP p ++ plP q := by simp [plP]
theorem ex_row {e : Ex} {i : Int} (h0 : 0 ≤ i) (h1 : i < 12) : ((exP e).drop (0 + i.toNat * 1)).take [u8P (e.at i.toNat)].length = [u8P (e.at i.toNat)] := by
  obtain ⟨k, rfl⟩ : ∃ k : Nat, i = k := ⟨i.toNat, by omega⟩
  have hk : k < 12 := by omega
  rw [Int.toNat_natCast, Nat.mul_one, Nat.zero_add]
  match k, hk with
  | 0, _ => rfl
  | 1, _ => rfl
  | 2, _ => rfl
  | 3, _ => rfl
  | 4, _ => rfl
  | 5, _ => rfl
  | 6, _ => rfl
  | 7, _ => rfl
  | 8, _ => rfl
  | 9, _ => rfl
  | 10, _ => rfl
  | 11, _ => rfl
theorem tm_row {t : Tm} {i : Int} (h0 : 0 ≤ i) (h1 : i < 12) : ((tmP t).drop (0 + i.toNat * 1)).take [u8P (t.e.at i.toNat)].length = [u8P (t.e.at i.toNat)] := by
  obtain ⟨k, rfl⟩ : ∃ k : Nat, i = k := ⟨i.toNat, by omega⟩
  have hk : k < 12 := by omega
  rw [Int.toNat_natCast, Nat.mul_one, Nat.zero_add]
  match k, hk with
  | 0, _ => rfl
  | 1, _ => rfl
  | 2, _ => rfl
  | 3, _ => rfl
  | 4, _ => rfl
  | 5, _ => rfl
  | 6, _ => rfl
  | 7, _ => rfl
  | 8, _ => rfl
  | 9, _ => rfl
  | 10, _ => rfl
  | 11, _ => rfl
def setE (e : Ex) (i n : Nat) : Ex := fun j => if j.1 = i then n else e j
theorem setE_at (e : Ex) (i n j : Nat) : (setE e i n).at j = if j = i ∧ j < 12 then n else e.at j := by
  unfold setE Ex.at
  by_cases hj : j < 12
  · simp only [hj, dif_pos, and_true]
  · simp [hj]
theorem tm_set {t : Tm} {i : Int} (n : Nat) (h0 : 0 ≤ i) (h1 : i < 12) : splice (0 + i.toNat * 1) [u8P n] (tmP t) = tmP ⟨t.c, setE t.e i.toNat n⟩ := by
  obtain ⟨k, rfl⟩ : ∃ k : Nat, i = k := ⟨i.toNat, by omega⟩
  have hk : k < 12 := by omega
  rw [Int.toNat_natCast, Nat.mul_one, Nat.zero_add]
  match k, hk with
  | 0, _ => simp [tmP, setE_at, splice]
  | 1, _ => simp [tmP, setE_at, splice]
  | 2, _ => simp [tmP, setE_at, splice]
  | 3, _ => simp [tmP, setE_at, splice]
  | 4, _ => simp [tmP, setE_at, splice]
  | 5, _ => simp [tmP, setE_at, splice]
  | 6, _ => simp [tmP, setE_at, splice]
  | 7, _ => simp [tmP, setE_at, splice]
  | 8, _ => simp [tmP, setE_at, splice]
  | 9, _ => simp [tmP, setE_at, splice]
  | 10, _ => simp [tmP, setE_at, splice]
  | 11, _ => simp [tmP, setE_at, splice]
theorem tm_len (t : Tm) : (tmP t).length = 13 := rfl
theorem wrap8_id {n : Int} (h0 : 0 ≤ n) (h1 : n ≤ 255) : IntKind.u8.wrap n = n := by
  simp only [IntKind.wrap, IntKind.bits, IntKind.signed]
  simp; omega
end Go.Proofs.Ytbhbgaihhilfmaa.Deep

namespace Go.Proofs.Ytbhbgaihhilfmaa.Deep
open Go.RowKit
set_option linter.unusedVariables false
inductive TS where
  | leaf
  | node (k : Nat) (x : Sg) (l r : TS)
def lookS (t : Nat) : TS → Option Sg
  | .leaf => none
  | .node k x l r => match Nat.beq t k with
    | true => some x
    | false => match Nat.ble t k with | true => lookS t l | false => lookS t r
def tblS : TS := (.node 31 (.pure [[.cell (.list), .cell (.int .i64)]]) (.node 17 (.pure [[.cell (.int .i64), .cell (.list), .cell (.bool)]]) (.node 10 (.pure [[.cell (.bool)]]) (.node 6 (.pure [[.cell (.bool)]]) (.node 4 (.pure [[.cell (.bool)]]) (.node 3 (.pure [[.cell (.bool)]]) .leaf .leaf) (.node 5 (.pure [[.cell (.bool)]]) .leaf .leaf)) (.node 8 (.pure [[.cell (.bool)]]) (.node 7 (.pure [[.cell (.bool)]]) .leaf .leaf) (.node 9 (.pure [[.cell (.bool)]]) .leaf .leaf))) (.node 14 (.pure [[.cell (.list), .cell (.int .i64)]]) (.node 12 (.pure [[.cell (.list), .cell (.int .i64)]]) (.node 11 (.pure [[.cell (.list), .cell (.int .i64)]]) .leaf .leaf) (.node 13 (.pure [[.cell (.list), .cell (.int .i64)]]) .leaf .leaf)) (.node 16 (.pure [[.cell (.int .i64), .cell (.int .i64)]]) (.node 15 (.pure [[.cell (.int .i64), .cell (.int .i64)]]) .leaf .leaf) .leaf))) (.node 24 (.pure [[.cell (.list), .cell (.int .i64)]]) (.node 21 (.pure [[.cell (.bool)]]) (.node 19 (.pure [[.cell (.bool)]]) (.node 18 (.pure [[.cell (.int .i64), .cell (.list), .cell (.bool)]]) .leaf .leaf) (.node 20 (.pure [[.cell (.bool)]]) .leaf .leaf)) (.node 23 (.pure [[.cell (.bool)]]) (.node 22 (.pure [[.cell (.bool)]]) .leaf .leaf) .leaf)) (.node 28 (.pure [[.cell (.list), .cell (.int .i64)]]) (.node 26 (.pure [[.cell (.list), .cell (.int .i64)]]) (.node 25 (.pure [[.cell (.list), .cell (.int .i64)]]) .leaf .leaf) (.node 27 (.pure [[.cell (.list), .cell (.int .i64)]]) .leaf .leaf)) (.node 30 (.pure [[.cell (.list), .cell (.int .i64)]]) (.node 29 (.pure [[.cell (.list), .cell (.int .i64)]]) .leaf .leaf) .leaf)))) (.node 45 (.pure [[.cell (.list)]]) (.node 38 (.pure [[.cell (.bool)]]) (.node 35 (.pure [[.cell (.bool)]]) (.node 33 (.pure [[.cell (.bool)]]) (.node 32 (.pure [[.cell (.int .i64)]]) .leaf .leaf) (.node 34 (.pure [[.cell (.list), .cell (.int .i64)]]) .leaf .leaf)) (.node 37 (.pure [[.cell (.int .i64), .cell (.int .i64)]]) (.node 36 (.pure [[.cell (.int .i64)]]) .leaf .leaf) .leaf)) (.node 42 (.pure [[.cell (.list)]]) (.node 40 (.pure [[.cell (.bool)]]) (.node 39 (.pure [[.cell (.int .i64)]]) .leaf .leaf) (.node 41 (.pure [[.cell (.bool)]]) .leaf .leaf)) (.node 44 (.pure [[.cell (.list), .cell (.int .i64)]]) (.node 43 (.pure [[.agg [.int .u8, .int .u8, .int .u8, .int .u8, .int .u8, .int .u8, .int .u8, .int .u8, .int .u8, .int .u8, .int .u8, .int .u8, .int .i64]]]) .leaf .leaf) .leaf))) (.node 52 (.pure [[.cell (.int .i64)]]) (.node 49 (.pure [[.cell (.int .i64)]]) (.node 47 (.pure [[.agg [.int .u8, .int .u8, .int .u8, .int .u8, .int .u8, .int .u8, .int .u8, .int .u8, .int .u8, .int .u8, .int .u8, .int .u8, .int .i64]]]) (.node 46 (.pure [[.cell (.list)]]) .leaf .leaf) (.node 48 (.pure [[.cell (.list), .cell (.int .i64)]]) .leaf .leaf)) (.node 51 (.pure [[.cell (.int .u8)]]) (.node 50 (.pure [[.cell (.int .i64)]]) .leaf .leaf) .leaf)) (.node 56 (.pure [[.agg [.int .u8, .int .u8, .int .u8, .int .u8, .int .u8, .int .u8, .int .u8, .int .u8, .int .u8, .int .u8, .int .u8, .int .u8]]]) (.node 54 (.pure [[.cell (.list)]]) (.node 53 (.pure [[.cell (.int .i64)]]) .leaf .leaf) (.node 55 (.pure [[.cell (.list)]]) .leaf .leaf)) (.node 58 (.pure [[.cell (.bool)]]) (.node 57 (.pure [[.cell (.list)]]) .leaf .leaf) .leaf)))))
def S (f : FuncId) : Option Sg := lookS f tblS
abbrev LL := List (List PV)
instance : Coe Int PV := ⟨fun n => .con (.int .i64 n)⟩
instance : Coe Bool PV := ⟨fun b => .con (.bool b)⟩
instance : Coe ByteArray PV := ⟨fun s => .con (.string s)⟩
instance : Coe (List (List PV)) PV := ⟨fun l => .sl l⟩
theorem mixed : Try.prog.follows .mixedOrders = true := by kernel_rfl
def bodyOf (f : Func) : Code := match f.body with | some c => c | none => .skip
end Go.Proofs.Ytbhbgaihhilfmaa.Deep

namespace Go.Proofs.Ytbhbgaihhilfmaa.Deep
open Go.RowKit
set_option linter.unusedVariables false
def loops33 (id : Nat) : Option (List Nat × List (Nat × Sh)) := match Nat.beq id 2 with | true => some ([2, 3], [(5, .int .i64)]) | false => none
def p33 (i1 i2 i3 i4 i5 i6 i7 i8 i9 i10 i11 i12 i13 i14 i15 i16 i17 i18 i19 i20 i21 i22 i23 i24 : Int) (Q : PV → Heap → Prop) : Prop :=
∃ I25 : Nat → ((Int) × Unit) → Prop, (∃ n, I25 n (0, ())) ∧ ∀ (n26 : Nat) (v27 : (Int) × Unit), I25 n26 v27 →
  (br ((decide ((v27.1 : Int) < 12)))
  (IdxR 12 v27.1
  (∃ i28 : Int, RowN [(.con (.int .u8 i1)), (.con (.int .u8 i2)), (.con (.int .u8 i3)), (.con (.int .u8 i4)), (.con (.int .u8 i5)), (.con (.int .u8 i6)), (.con (.int .u8 i7)), (.con (.int .u8 i8)), (.con (.int .u8 i9)), (.con (.int .u8 i10)), (.con (.int .u8 i11)), (.con (.int .u8 i12))] (0 + Int.toNat v27.1 * 1) [(.con (.int .u8 i28))]
  (IdxR 12 v27.1
  (∃ i29 : Int, RowN [(.con (.int .u8 i13)), (.con (.int .u8 i14)), (.con (.int .u8 i15)), (.con (.int .u8 i16)), (.con (.int .u8 i17)), (.con (.int .u8 i18)), (.con (.int .u8 i19)), (.con (.int .u8 i20)), (.con (.int .u8 i21)), (.con (.int .u8 i22)), (.con (.int .u8 i23)), (.con (.int .u8 i24))] (0 + Int.toNat v27.1 * 1) [(.con (.int .u8 i29))]
  (br (((i28 : Int) != i29))
  (IdxR 12 v27.1
  (∃ i30 : Int, RowN [(.con (.int .u8 i1)), (.con (.int .u8 i2)), (.con (.int .u8 i3)), (.con (.int .u8 i4)), (.con (.int .u8 i5)), (.con (.int .u8 i6)), (.con (.int .u8 i7)), (.con (.int .u8 i8)), (.con (.int .u8 i9)), (.con (.int .u8 i10)), (.con (.int .u8 i11)), (.con (.int .u8 i12))] (0 + Int.toNat v27.1 * 1) [(.con (.int .u8 i30))]
  (IdxR 12 v27.1
  (∃ i31 : Int, RowN [(.con (.int .u8 i13)), (.con (.int .u8 i14)), (.con (.int .u8 i15)), (.con (.int .u8 i16)), (.con (.int .u8 i17)), (.con (.int .u8 i18)), (.con (.int .u8 i19)), (.con (.int .u8 i20)), (.con (.int .u8 i21)), (.con (.int .u8 i22)), (.con (.int .u8 i23)), (.con (.int .u8 i24))] (0 + Int.toNat v27.1 * 1) [(.con (.int .u8 i31))]
  (Q (.con (.bool (decide ((i30 : Int) < i31)))) [[(.row [(.con (.int .u8 i1)), (.con (.int .u8 i2)), (.con (.int .u8 i3)), (.con (.int .u8 i4)), (.con (.int .u8 i5)), (.con (.int .u8 i6)), (.con (.int .u8 i7)), (.con (.int .u8 i8)), (.con (.int .u8 i9)), (.con (.int .u8 i10)), (.con (.int .u8 i11)), (.con (.int .u8 i12))])], [(.row [(.con (.int .u8 i13)), (.con (.int .u8 i14)), (.con (.int .u8 i15)), (.con (.int .u8 i16)), (.con (.int .u8 i17)), (.con (.int .u8 i18)), (.con (.int .u8 i19)), (.con (.int .u8 i20)), (.con (.int .u8 i21)), (.con (.int .u8 i22)), (.con (.int .u8 i23)), (.con (.int .u8 i24))])]])))))
  ((@Eq PV (.ptr 0 0) (.ptr 0 0) ∧ @Eq PV (.ptr 1 0) (.ptr 1 0) ∧ True) ∧ @Eq Heap [[(.row [(.con (.int .u8 i1)), (.con (.int .u8 i2)), (.con (.int .u8 i3)), (.con (.int .u8 i4)), (.con (.int .u8 i5)), (.con (.int .u8 i6)), (.con (.int .u8 i7)), (.con (.int .u8 i8)), (.con (.int .u8 i9)), (.con (.int .u8 i10)), (.con (.int .u8 i11)), (.con (.int .u8 i12))])], [(.row [(.con (.int .u8 i13)), (.con (.int .u8 i14)), (.con (.int .u8 i15)), (.con (.int .u8 i16)), (.con (.int .u8 i17)), (.con (.int .u8 i18)), (.con (.int .u8 i19)), (.con (.int .u8 i20)), (.con (.int .u8 i21)), (.con (.int .u8 i22)), (.con (.int .u8 i23)), (.con (.int .u8 i24))])]] [[(.row [(.con (.int .u8 i1)), (.con (.int .u8 i2)), (.con (.int .u8 i3)), (.con (.int .u8 i4)), (.con (.int .u8 i5)), (.con (.int .u8 i6)), (.con (.int .u8 i7)), (.con (.int .u8 i8)), (.con (.int .u8 i9)), (.con (.int .u8 i10)), (.con (.int .u8 i11)), (.con (.int .u8 i12))])], [(.row [(.con (.int .u8 i13)), (.con (.int .u8 i14)), (.con (.int .u8 i15)), (.con (.int .u8 i16)), (.con (.int .u8 i17)), (.con (.int .u8 i18)), (.con (.int .u8 i19)), (.con (.int .u8 i20)), (.con (.int .u8 i21)), (.con (.int .u8 i22)), (.con (.int .u8 i23)), (.con (.int .u8 i24))])]] ∧ ∃ k32, k32 < n26 ∧ I25 k32 ((IntKind.wrap .i64 (v27.1 + 1)), ())))))))
  (Q (.con (.bool false)) [[(.row [(.con (.int .u8 i1)), (.con (.int .u8 i2)), (.con (.int .u8 i3)), (.con (.int .u8 i4)), (.con (.int .u8 i5)), (.con (.int .u8 i6)), (.con (.int .u8 i7)), (.con (.int .u8 i8)), (.con (.int .u8 i9)), (.con (.int .u8 i10)), (.con (.int .u8 i11)), (.con (.int .u8 i12))])], [(.row [(.con (.int .u8 i13)), (.con (.int .u8 i14)), (.con (.int .u8 i15)), (.con (.int .u8 i16)), (.con (.int .u8 i17)), (.con (.int .u8 i18)), (.con (.int .u8 i19)), (.con (.int .u8 i20)), (.con (.int .u8 i21)), (.con (.int .u8 i22)), (.con (.int .u8 i23)), (.con (.int .u8 i24))])]]))
theorem a33 (i1 i2 i3 i4 i5 i6 i7 i8 i9 i10 i11 i12 i13 i14 i15 i16 i17 i18 i19 i20 i21 i22 i23 i24 : Int) (Q : PV → Heap → Prop) (h : p33 i1 i2 i3 i4 i5 i6 i7 i8 i9 i10 i11 i12 i13 i14 i15 i16 i17 i18 i19 i20 i21 i22 i23 i24 Q) : ACalls Try.prog 33 [(.agg [(.con (.int .u8 i1)), (.con (.int .u8 i2)), (.con (.int .u8 i3)), (.con (.int .u8 i4)), (.con (.int .u8 i5)), (.con (.int .u8 i6)), (.con (.int .u8 i7)), (.con (.int .u8 i8)), (.con (.int .u8 i9)), (.con (.int .u8 i10)), (.con (.int .u8 i11)), (.con (.int .u8 i12))]), (.agg [(.con (.int .u8 i13)), (.con (.int .u8 i14)), (.con (.int .u8 i15)), (.con (.int .u8 i16)), (.con (.int .u8 i17)), (.con (.int .u8 i18)), (.con (.int .u8 i19)), (.con (.int .u8 i20)), (.con (.int .u8 i21)), (.con (.int .u8 i22)), (.con (.int .u8 i23)), (.con (.int .u8 i24))])] [] Q := by
  have hb : Option.some (bodyOf Try.f33) = Try.f33.body := by kernel_rfl
  exact acalls_eq (S := S) (L := loops33) mixed tok Try.func33 hb.symm (by kernel_rfl) h
def loops9 (id : Nat) : Option (List Nat × List (Nat × Sh)) := match Nat.beq id 9 with | true => some ([0, 3], [(4, .int .i64)]) | false => match Nat.beq id 4 with | true => some ([0], [(3, .int .i64)]) | false => none
def p9 (l1 : List (List PV)) (Q : PV → Heap → Prop) : Prop :=
br ((decide (((List.length l1 : Int) : Int) > 64)))
  (Q (.con (.bool false)) [])
  (∃ I2 : Nat → ((Int) × Unit) → Prop, (∃ n, I2 n (0, ())) ∧ ∀ (n3 : Nat) (v4 : (Int) × Unit), I2 n3 v4 →
  (br ((decide ((v4.1 : Int) < (List.length l1 : Int))))
  (∃ (i5 i6 i7 i8 i9 i10 i11 i12 i13 i14 i15 i16 i17 : Int), IdxN l1 v4.1 [(.con (.int .u8 i5)), (.con (.int .u8 i6)), (.con (.int .u8 i7)), (.con (.int .u8 i8)), (.con (.int .u8 i9)), (.con (.int .u8 i10)), (.con (.int .u8 i11)), (.con (.int .u8 i12)), (.con (.int .u8 i13)), (.con (.int .u8 i14)), (.con (.int .u8 i15)), (.con (.int .u8 i16)), i17]
  (br ((decide ((i17 : Int) < 1)))
  (Q (.con (.bool false)) [])
  (∃ (i18 i19 i20 i21 i22 i23 i24 i25 i26 i27 i28 i29 i30 : Int), IdxN l1 v4.1 [(.con (.int .u8 i18)), (.con (.int .u8 i19)), (.con (.int .u8 i20)), (.con (.int .u8 i21)), (.con (.int .u8 i22)), (.con (.int .u8 i23)), (.con (.int .u8 i24)), (.con (.int .u8 i25)), (.con (.int .u8 i26)), (.con (.int .u8 i27)), (.con (.int .u8 i28)), (.con (.int .u8 i29)), i30]
  (br ((decide ((i30 : Int) > 1099511627776)))
  (Q (.con (.bool false)) [])
  (br ((decide ((v4.1 : Int) > 0)))
  (∃ (i31 i32 i33 i34 i35 i36 i37 i38 i39 i40 i41 i42 i43 : Int), IdxN l1 (IntKind.wrap .i64 (v4.1 - 1)) [(.con (.int .u8 i31)), (.con (.int .u8 i32)), (.con (.int .u8 i33)), (.con (.int .u8 i34)), (.con (.int .u8 i35)), (.con (.int .u8 i36)), (.con (.int .u8 i37)), (.con (.int .u8 i38)), (.con (.int .u8 i39)), (.con (.int .u8 i40)), (.con (.int .u8 i41)), (.con (.int .u8 i42)), i43]
  (∃ (i44 i45 i46 i47 i48 i49 i50 i51 i52 i53 i54 i55 i56 : Int), IdxN l1 v4.1 [(.con (.int .u8 i44)), (.con (.int .u8 i45)), (.con (.int .u8 i46)), (.con (.int .u8 i47)), (.con (.int .u8 i48)), (.con (.int .u8 i49)), (.con (.int .u8 i50)), (.con (.int .u8 i51)), (.con (.int .u8 i52)), (.con (.int .u8 i53)), (.con (.int .u8 i54)), (.con (.int .u8 i55)), i56]
  (∃ b57 : Bool, CallN Try.prog 33 [(.agg [(.con (.int .u8 i31)), (.con (.int .u8 i32)), (.con (.int .u8 i33)), (.con (.int .u8 i34)), (.con (.int .u8 i35)), (.con (.int .u8 i36)), (.con (.int .u8 i37)), (.con (.int .u8 i38)), (.con (.int .u8 i39)), (.con (.int .u8 i40)), (.con (.int .u8 i41)), (.con (.int .u8 i42))]), (.agg [(.con (.int .u8 i44)), (.con (.int .u8 i45)), (.con (.int .u8 i46)), (.con (.int .u8 i47)), (.con (.int .u8 i48)), (.con (.int .u8 i49)), (.con (.int .u8 i50)), (.con (.int .u8 i51)), (.con (.int .u8 i52)), (.con (.int .u8 i53)), (.con (.int .u8 i54)), (.con (.int .u8 i55))])] [] b57
  (br ((!b57))
  (Q (.con (.bool false)) [])
  (∃ I58 : Nat → ((Int) × Unit) → Prop, (∃ n, I58 n (0, ())) ∧ ∀ (n59 : Nat) (v60 : (Int) × Unit), I58 n59 v60 →
  (br ((decide ((v60.1 : Int) < 12)))
  (∃ (i61 i62 i63 i64 i65 i66 i67 i68 i69 i70 i71 i72 i73 : Int), IdxN l1 v4.1 [(.con (.int .u8 i61)), (.con (.int .u8 i62)), (.con (.int .u8 i63)), (.con (.int .u8 i64)), (.con (.int .u8 i65)), (.con (.int .u8 i66)), (.con (.int .u8 i67)), (.con (.int .u8 i68)), (.con (.int .u8 i69)), (.con (.int .u8 i70)), (.con (.int .u8 i71)), (.con (.int .u8 i72)), i73]
  (IdxR 12 v60.1
  (∃ i74 : Int, RowN [(.con (.int .u8 i61)), (.con (.int .u8 i62)), (.con (.int .u8 i63)), (.con (.int .u8 i64)), (.con (.int .u8 i65)), (.con (.int .u8 i66)), (.con (.int .u8 i67)), (.con (.int .u8 i68)), (.con (.int .u8 i69)), (.con (.int .u8 i70)), (.con (.int .u8 i71)), (.con (.int .u8 i72)), i73] (0 + Int.toNat v60.1 * 1) [(.con (.int .u8 i74))]
  (br ((decide ((i74 : Int) > 6)))
  (Q (.con (.bool false)) [])
  ((@Eq PV l1 l1 ∧ @Eq PV v4.1 v4.1 ∧ True) ∧ @Eq Heap [] [] ∧ ∃ k75, k75 < n59 ∧ I58 k75 ((IntKind.wrap .i64 (v60.1 + 1)), ()))))))
  ((@Eq PV l1 l1 ∧ True) ∧ @Eq Heap [] [] ∧ ∃ k76, k76 < n3 ∧ I2 k76 ((IntKind.wrap .i64 (v4.1 + 1)), ()))))))))
  (∃ I77 : Nat → ((Int) × Unit) → Prop, (∃ n, I77 n (0, ())) ∧ ∀ (n78 : Nat) (v79 : (Int) × Unit), I77 n78 v79 →
  (br ((decide ((v79.1 : Int) < 12)))
  (∃ (i80 i81 i82 i83 i84 i85 i86 i87 i88 i89 i90 i91 i92 : Int), IdxN l1 v4.1 [(.con (.int .u8 i80)), (.con (.int .u8 i81)), (.con (.int .u8 i82)), (.con (.int .u8 i83)), (.con (.int .u8 i84)), (.con (.int .u8 i85)), (.con (.int .u8 i86)), (.con (.int .u8 i87)), (.con (.int .u8 i88)), (.con (.int .u8 i89)), (.con (.int .u8 i90)), (.con (.int .u8 i91)), i92]
  (IdxR 12 v79.1
  (∃ i93 : Int, RowN [(.con (.int .u8 i80)), (.con (.int .u8 i81)), (.con (.int .u8 i82)), (.con (.int .u8 i83)), (.con (.int .u8 i84)), (.con (.int .u8 i85)), (.con (.int .u8 i86)), (.con (.int .u8 i87)), (.con (.int .u8 i88)), (.con (.int .u8 i89)), (.con (.int .u8 i90)), (.con (.int .u8 i91)), i92] (0 + Int.toNat v79.1 * 1) [(.con (.int .u8 i93))]
  (br ((decide ((i93 : Int) > 6)))
  (Q (.con (.bool false)) [])
  ((@Eq PV l1 l1 ∧ @Eq PV v4.1 v4.1 ∧ True) ∧ @Eq Heap [] [] ∧ ∃ k94, k94 < n78 ∧ I77 k94 ((IntKind.wrap .i64 (v79.1 + 1)), ()))))))
  ((@Eq PV l1 l1 ∧ True) ∧ @Eq Heap [] [] ∧ ∃ k95, k95 < n3 ∧ I2 k95 ((IntKind.wrap .i64 (v4.1 + 1)), ())))))))))
  (Q (.con (.bool true)) [])))
theorem a9 (l1 : List (List PV)) (Q : PV → Heap → Prop) (h : p9 l1 Q) : ACalls Try.prog 9 [l1] [] Q := by
  have hb : Option.some (bodyOf Try.f9) = Try.f9.body := by kernel_rfl
  exact acalls_eq (S := S) (L := loops9) mixed tok Try.func9 hb.symm (by kernel_rfl) h
def loops20 (id : Nat) : Option (List Nat × List (Nat × Sh)) := match Nat.beq id 4 with | true => some ([0, 1], [(5, .int .i64)]) | false => none
def p20 (l1 l2 : List (List PV)) (Q : PV → Heap → Prop) : Prop :=
br ((((List.length l1 : Int) : Int) != (List.length l2 : Int)))
  (Q (.con (.bool false)) [])
  (∃ I3 : Nat → ((Int) × Unit) → Prop, (∃ n, I3 n (0, ())) ∧ ∀ (n4 : Nat) (v5 : (Int) × Unit), I3 n4 v5 →
  (br ((decide ((v5.1 : Int) < (List.length l1 : Int))))
  (∃ (i6 i7 i8 i9 i10 i11 i12 i13 i14 i15 i16 i17 i18 : Int), IdxN l1 v5.1 [(.con (.int .u8 i6)), (.con (.int .u8 i7)), (.con (.int .u8 i8)), (.con (.int .u8 i9)), (.con (.int .u8 i10)), (.con (.int .u8 i11)), (.con (.int .u8 i12)), (.con (.int .u8 i13)), (.con (.int .u8 i14)), (.con (.int .u8 i15)), (.con (.int .u8 i16)), (.con (.int .u8 i17)), i18]
  (∃ (i19 i20 i21 i22 i23 i24 i25 i26 i27 i28 i29 i30 i31 : Int), IdxN l2 v5.1 [(.con (.int .u8 i19)), (.con (.int .u8 i20)), (.con (.int .u8 i21)), (.con (.int .u8 i22)), (.con (.int .u8 i23)), (.con (.int .u8 i24)), (.con (.int .u8 i25)), (.con (.int .u8 i26)), (.con (.int .u8 i27)), (.con (.int .u8 i28)), (.con (.int .u8 i29)), (.con (.int .u8 i30)), i31]
  (EqN Try.prog 59
  (br ((!((((i6 : Int) == i19) && (((i7 : Int) == i20) && (((i8 : Int) == i21) && (((i9 : Int) == i22) && (((i10 : Int) == i23) && (((i11 : Int) == i24) && (((i12 : Int) == i25) && (((i13 : Int) == i26) && (((i14 : Int) == i27) && (((i15 : Int) == i28) && (((i16 : Int) == i29) && (((i17 : Int) == i30) && true)))))))))))) && (((i18 : Int) == i31) && true))))
  (Q (.con (.bool false)) [])
  ((@Eq PV l1 l1 ∧ @Eq PV l2 l2 ∧ True) ∧ @Eq Heap [] [] ∧ ∃ k32, k32 < n4 ∧ I3 k32 ((IntKind.wrap .i64 (v5.1 + 1)), ()))))))
  (Q (.con (.bool true)) [])))
theorem a20 (l1 l2 : List (List PV)) (Q : PV → Heap → Prop) (h : p20 l1 l2 Q) : ACalls Try.prog 20 [l1, l2] [] Q := by
  have hb : Option.some (bodyOf Try.f20) = Try.f20.body := by kernel_rfl
  exact acalls_eq (S := S) (L := loops20) mixed tok Try.func20 hb.symm (by kernel_rfl) h
def loops23 (id : Nat) : Option (List Nat × List (Nat × Sh)) := match Nat.beq id 3 with | true => some ([0], [(3, .int .i64), (4, .int .i64)]) | false => none
def p23 (l1 : List (List PV)) (Q : PV → Heap → Prop) : Prop :=
∃ I2 : Nat → ((Int) × (Int) × Unit) → Prop, (∃ n, I2 n (0, 0, ())) ∧ ∀ (n3 : Nat) (v4 : (Int) × (Int) × Unit), I2 n3 v4 →
  (br ((decide ((v4.2.1 : Int) < (List.length l1 : Int))))
  (∃ l5 : List (List PV), IdxN l1 v4.2.1 [l5]
  (∃ l6 : List (List PV), IdxN l1 v4.2.1 [l6]
  (∃ b7 : Bool, CallN Try.prog 9 [l6] [] b7
  (br ((!b7))
  (Q (.con (.bool false)) [])
  (br ((decide (((IntKind.wrap .i64 (v4.1 + (List.length l5 : Int))) : Int) > 30)))
  (Q (.con (.bool false)) [])
  ((@Eq PV l1 l1 ∧ True) ∧ @Eq Heap [] [] ∧ ∃ k8, k8 < n3 ∧ I2 k8 ((IntKind.wrap .i64 (v4.1 + (List.length l5 : Int))), (IntKind.wrap .i64 (v4.2.1 + 1)), ())))))))
  (Q (.con (.bool (decide (((List.length l1 : Int) : Int) ≤ 20)))) []))
theorem a23 (l1 : List (List PV)) (Q : PV → Heap → Prop) (h : p23 l1 Q) : ACalls Try.prog 23 [l1] [] Q := by
  have hb : Option.some (bodyOf Try.f23) = Try.f23.body := by kernel_rfl
  exact acalls_eq (S := S) (L := loops23) mixed tok Try.func23 hb.symm (by kernel_rfl) h
def loops32 (id : Nat) : Option (List Nat × List (Nat × Sh)) := none
def p32 (i1 i2 : Int) (Q : PV → Heap → Prop) : Prop :=
br ((decide ((i1 : Int) > 0)))
  (QuoN i1
  (br ((decide ((i2 : Int) > (IntKind.wrap .i64 (Int.tdiv 1099511627776 i1)))))
  (Q (.con (.int .i64 (-1))) [])
  (Q (IntKind.wrap .i64 (i1 * i2)) [])))
  (Q (IntKind.wrap .i64 (i1 * i2)) [])
theorem a32 (i1 i2 : Int) (Q : PV → Heap → Prop) (h : p32 i1 i2 Q) : ACalls Try.prog 32 [i1, i2] [] Q := by
  have hb : Option.some (bodyOf Try.f32) = Try.f32.body := by kernel_rfl
  exact acalls_eq (S := S) (L := loops32) mixed tok Try.func32 hb.symm (by kernel_rfl) h
end Go.Proofs.Ytbhbgaihhilfmaa.Deep

namespace Go.Proofs.Ytbhbgaihhilfmaa.Deep
open Go.RowKit Poly
set_option linter.unusedVariables false
set_option linter.unusedSimpArgs false
theorem u8_eq {n m : Nat} : (((n : Nat) : Int) != ((m : Nat) : Int)) = !(decide (n = m)) := by
  by_cases h : n = m
  · subst h; simp
  · simp [h]; omega
theorem ltR_at (a b : Ex) {j : Nat} (h : j < 12) : ltR a b (12 - j) = if a.at j = b.at j then ltR a b (12 - (j + 1)) else decide (a.at j < b.at j) := by
  obtain ⟨k, hk⟩ : ∃ k, 12 - j = k + 1 := ⟨11 - j, by omega⟩
  rw [hk, ltR, show 11 - k = j by omega, show 12 - (j + 1) = k by omega]
theorem less_r (a b : Ex) : PCalls Try.prog 33 [.agg (exP a), .agg (exP b)] (fun r => r = .con (.bool (lt a b))) := by
  refine pcalls_weak (a33 _ _ _ _ _ _ _ _ _ _ _ _ _ _ _ _ _ _ _ _ _ _ _ _ _ ?_)
  refine ⟨fun c v => ∃ j : Nat, j ≤ 12 ∧ c = 12 - j ∧ v.1 = (j : Int) ∧ lt a b = ltR a b (12 - j), ⟨_, 0, by omega, rfl, rfl, rfl⟩, ?_⟩
  rintro c ⟨i, u⟩ ⟨j, hj, rfl, hi, hL⟩
  dsimp only at hi hL ⊢
  subst hi
  refine br_i (fun hlt => ?_) (fun hge => ?_)
  rotate_left
  · have hge : ¬ j < 12 := by simp at hge; omega
    rw [show 12 - j = 0 by omega, ltR] at hL
    exact ⟨by rw [hL]; rfl, rfl⟩
  have hlt : j < 12 := by simp at hlt; omega
  have rowa := ex_row (e := a) (i := (j : Int)) (by omega) (by omega)
  have rowb := ex_row (e := b) (i := (j : Int)) (by omega) (by omega)
  refine ⟨by omega, by omega, _, ⟨rowa, ⟨by omega, by omega, _, ⟨rowb, ?_⟩⟩⟩⟩
  rw [ltR_at a b hlt] at hL
  rw [Int.toNat_natCast, u8_eq]
  refine br_i (fun hne => ?_) (fun he => ?_)
  · have hne : ¬ a.at j = b.at j := by simpa using hne
    refine ⟨by omega, by omega, _, ⟨rowa, ⟨by omega, by omega, _, ⟨rowb, ?_⟩⟩⟩⟩
    rw [if_neg hne] at hL
    rw [Int.toNat_natCast]
    exact ⟨by rw [hL]; simp; rfl, rfl⟩
  · have he : a.at j = b.at j := by simpa using he
    rw [if_pos he] at hL
    refine ⟨⟨rfl, rfl, trivial⟩, rfl, 12 - (j + 1), by omega, j + 1, by omega, rfl, ?_, hL⟩
    rw [wrap_id (by omega) (by omega)]; simp
end Go.Proofs.Ytbhbgaihhilfmaa.Deep

namespace Go.Proofs.Ytbhbgaihhilfmaa.Deep
open Go.RowKit Poly
set_option linter.unusedVariables false
set_option linter.unusedSimpArgs false
theorem maxI_max (a b : Int) : maxI a b = max a b := by unfold maxI; split <;> omega
theorem nat_beq (a b : Nat) : (((a : Int)) == (b : Int)) = decide (a = b) := by
  by_cases h : a = b
  · subst h; simp
  · simp [h]; omega
theorem eq12 (a b : Ex) : (((a.at 0 : Int) == b.at 0) && (((a.at 1 : Int) == b.at 1) && (((a.at 2 : Int) == b.at 2) && (((a.at 3 : Int) == b.at 3) && (((a.at 4 : Int) == b.at 4) && (((a.at 5 : Int) == b.at 5) && (((a.at 6 : Int) == b.at 6) && (((a.at 7 : Int) == b.at 7) && (((a.at 8 : Int) == b.at 8) && (((a.at 9 : Int) == b.at 9) && (((a.at 10 : Int) == b.at 10) && (((a.at 11 : Int) == b.at 11) && true)))))))))))) = decide (a = b) := by
  simp only [nat_beq]
  by_cases h : a = b
  · subst h; simp
  · rw [decide_eq_false h]
    apply Bool.eq_false_iff.2
    intro hq
    simp only [Bool.and_eq_true, decide_eq_true_eq] at hq
    refine h (Ex.ext (fun i hi => ?_))
    obtain ⟨h0, h1, h2, h3, h4, h5, h6, h7, h8, h9, h10, h11, _⟩ := hq
    match i, hi with
    | 0, _ => exact h0
    | 1, _ => exact h1
    | 2, _ => exact h2
    | 3, _ => exact h3
    | 4, _ => exact h4
    | 5, _ => exact h5
    | 6, _ => exact h6
    | 7, _ => exact h7
    | 8, _ => exact h8
    | 9, _ => exact h9
    | 10, _ => exact h10
    | 11, _ => exact h11
theorem one_tm (l : List Tm) : ∀ y ∈ plP l, y.length = 13 ∧ ∀ p ∈ y, PV.one p = true := fun y hy => by
  obtain ⟨t, _, rfl⟩ := List.mem_map.1 hy
  refine ⟨rfl, fun p hp => ?_⟩
  simp only [tmP, List.mem_cons, List.not_mem_nil, or_false] at hp
  rcases hp with rfl | rfl | rfl | rfl | rfl | rfl | rfl | rfl | rfl | rfl | rfl | rfl | rfl <;> rfl
end Go.Proofs.Ytbhbgaihhilfmaa.Deep

namespace Go.Proofs.Ytbhbgaihhilfmaa.Deep
open Go.RowKit Poly
set_option linter.unusedVariables false
set_option linter.unusedSimpArgs false
def prv (p : List Tm) : Nat → Option Ex
  | 0 => none
  | j + 1 => p[j]?.map Tm.e
def expFrom (e : Ex) (k : Nat) : Bool := ((List.range 12).drop k).all fun k => decide (e.at k ≤ 6)
theorem expFrom_at {e : Ex} {k : Nat} (h : k < 12) : expFrom e k = (decide (e.at k ≤ 6) && expFrom e (k + 1)) := by
  unfold expFrom
  rw [List.drop_eq_getElem_cons (by simpa using h), List.all_cons]
  simp
set_option maxHeartbeats 2000000 in
theorem fit_r (p : List Tm) : PCalls Try.prog 9 [.sl (plP p)] (fun r => r = .con (.bool (fitF p))) := by
  have enL : Enters Try.prog 33 := enters_of Try.func33 (by kernel_rfl) rfl
  refine pcalls_weak (a9 _ _ ?_)
  unfold p9
  rw [plP_len]
  refine br_i (fun h64 => ?_) (fun h64 => ?_)
  · have h64 : ¬ p.length ≤ 64 := by simp at h64; omega
    have : fitF p = false := by unfold fitF; rw [decide_eq_false h64]; rfl
    exact ⟨by rw [this]; rfl, rfl⟩
  have h64 : p.length ≤ 64 := by simp at h64; omega
  have hF : fitF p = fitL none p := by unfold fitF; rw [decide_eq_true h64]; rfl
  rw [hF]
  obtain ⟨R, hR⟩ : ∃ R, fitL none p = R := ⟨_, rfl⟩
  rw [hR]
  refine ⟨fun c v => ∃ j : Nat, j ≤ p.length ∧ c = p.length - j ∧ v.1 = (j : Int) ∧ fitL (prv p j) (p.drop j) = R, ⟨_, 0, Nat.zero_le _, rfl, rfl, hR⟩, ?_⟩
  rintro c ⟨i, u⟩ ⟨j, hj, rfl, hi, hL⟩
  dsimp only at hi hL ⊢
  subst hi
  refine br_i (fun hlt => ?_) (fun hge => ?_)
  rotate_left
  · have hge : ¬ j < p.length := by simpa using hge
    rw [List.drop_of_length_le (by omega), fitL] at hL
    exact ⟨by rw [← hL]; rfl, rfl⟩
  have hlt : j < p.length := by simpa using hlt
  have hxj : p[j]? = some p[j] := List.getElem?_eq_getElem hlt
  rw [List.drop_eq_getElem_cons hlt] at hL
  unfold fitL at hL
  have hx := plP_at hxj
  generalize p[j] = x at *
  have hw : IntKind.i64.wrap ((j : Int) + 1) = ((j + 1 : Nat) : Int) := by rw [wrap_id (by omega) (by omega)]; simp
  refine ⟨_, _, _, _, _, _, _, _, _, _, _, _, _, ⟨by omega, by rw [Int.toNat_natCast]; exact hx, ?_⟩⟩
  refine br_i (fun h1 => ?_) (fun h1 => ?_)
  · have h1 : ¬ 1 ≤ x.c := by simp at h1; omega
    rw [decide_eq_false h1] at hL
    simp only [Bool.false_and] at hL
    exact ⟨by rw [← hL]; rfl, rfl⟩
  have h1 : 1 ≤ x.c := by simp at h1; omega
  refine ⟨_, _, _, _, _, _, _, _, _, _, _, _, _, ⟨by omega, by rw [Int.toNat_natCast]; exact hx, ?_⟩⟩
  refine br_i (fun h2 => ?_) (fun h2 => ?_)
  · have h2 : ¬ x.c ≤ 1099511627776 := by simp at h2; omega
    rw [decide_eq_false h2] at hL
    simp only [Bool.and_false, Bool.false_and] at hL
    exact ⟨by rw [← hL]; rfl, rfl⟩
  have h2 : x.c ≤ 1099511627776 := by simp at h2; omega
  rw [decide_eq_true h1, decide_eq_true h2, Bool.true_and, Bool.true_and] at hL
  refine br_i (fun h0 => ?_) (fun h0 => ?_)
  · obtain ⟨k, rfl⟩ : ∃ k, j = k + 1 := ⟨j - 1, by simp at h0; omega⟩
    obtain ⟨y, hy⟩ : ∃ y, p[k]? = some y := ⟨_, List.getElem?_eq_getElem (by omega)⟩
    have hyp := plP_at hy
    have hwk : IntKind.i64.wrap (((k + 1 : Nat) : Int) - 1) = (k : Int) := by rw [wrap_id (by omega) (by omega)]; omega
    rw [hwk]
    refine ⟨_, _, _, _, _, _, _, _, _, _, _, _, _, ⟨by omega, by rw [Int.toNat_natCast]; exact hyp, ?_⟩⟩
    refine ⟨_, _, _, _, _, _, _, _, _, _, _, _, _, ⟨by omega, by rw [Int.toNat_natCast]; exact hx, _, call_p enL (less_r y.e x.e) rfl ?_⟩⟩
    simp only [prv, hy, Option.map_some] at hL
    generalize hjj : k + 1 = j at *
    refine br_i (fun h3 => ?_) (fun h3 => ?_)
    · have h3 : lt y.e x.e = false := by simpa using h3
      rw [h3, Bool.false_and, Bool.false_and] at hL
      exact ⟨by rw [← hL]; rfl, rfl⟩
    have h3 : lt y.e x.e = true := by simpa using h3
    rw [h3, Bool.true_and] at hL
    refine ⟨fun c v => ∃ k : Nat, k ≤ 12 ∧ c = 12 - k ∧ v.1 = (k : Int) ∧ expFrom x.e k = expOk x.e, ⟨_, 0, by omega, rfl, rfl, rfl⟩, ?_⟩
    rintro c ⟨i, u⟩ ⟨k, hk, rfl, hi, hE⟩
    dsimp only at hi hE ⊢
    subst hi
    refine br_i (fun hlt2 => ?_) (fun hge2 => ?_)
    rotate_left
    · obtain rfl : k = 12 := by simp at hge2; omega
      have hE : expOk x.e = true := by rw [← hE]; rfl
      rw [hE, Bool.true_and] at hL
      exact ⟨⟨rfl, trivial⟩, rfl, p.length - (j + 1), by omega, j + 1, by omega, rfl, hw, by rw [← hL]; simp [prv, hxj]⟩
    have hlt2 : k < 12 := by simp at hlt2; omega
    refine ⟨_, _, _, _, _, _, _, _, _, _, _, _, _, ⟨by omega, by rw [Int.toNat_natCast]; exact hx, ⟨by omega, by omega, _, ⟨tm_row (by omega) (by omega), ?_⟩⟩⟩⟩
    rw [expFrom_at hlt2] at hE
    rw [Int.toNat_natCast]
    refine br_i (fun h6 => ?_) (fun h6 => ?_)
    · have h6 : ¬ x.e.at k ≤ 6 := by simp at h6; omega
      have hE : expOk x.e = false := by rw [← hE, decide_eq_false h6]; rfl
      rw [hE, Bool.false_and] at hL
      exact ⟨by rw [← hL]; rfl, rfl⟩
    have h6 : x.e.at k ≤ 6 := by simp at h6; omega
    rw [decide_eq_true h6, Bool.true_and] at hE
    refine ⟨⟨rfl, rfl, trivial⟩, rfl, 12 - (k + 1), by omega, k + 1, by omega, rfl, ?_, hE⟩
    rw [wrap_id (by omega) (by omega)]; simp
  · obtain rfl : j = 0 := by simp at h0; omega
    simp only [prv, Bool.true_and] at hL
    refine ⟨fun c v => ∃ k : Nat, k ≤ 12 ∧ c = 12 - k ∧ v.1 = (k : Int) ∧ expFrom x.e k = expOk x.e, ⟨_, 0, by omega, rfl, rfl, rfl⟩, ?_⟩
    rintro c ⟨i, u⟩ ⟨k, hk, rfl, hi, hE⟩
    dsimp only at hi hE ⊢
    subst hi
    refine br_i (fun hlt2 => ?_) (fun hge2 => ?_)
    rotate_left
    · obtain rfl : k = 12 := by simp at hge2; omega
      have hE : expOk x.e = true := by rw [← hE]; rfl
      rw [hE, Bool.true_and] at hL
      exact ⟨⟨rfl, trivial⟩, rfl, p.length - (0 + 1), by omega, 0 + 1, by omega, rfl, hw, by rw [← hL]; simp [prv, hxj]⟩
    have hlt2 : k < 12 := by simp at hlt2; omega
    refine ⟨_, _, _, _, _, _, _, _, _, _, _, _, _, ⟨by omega, by rw [Int.toNat_natCast]; exact hx, ⟨by omega, by omega, _, ⟨tm_row (by omega) (by omega), ?_⟩⟩⟩⟩
    rw [expFrom_at hlt2] at hE
    rw [Int.toNat_natCast]
    refine br_i (fun h6 => ?_) (fun h6 => ?_)
    · have h6 : ¬ x.e.at k ≤ 6 := by simp at h6; omega
      have hE : expOk x.e = false := by rw [← hE, decide_eq_false h6]; rfl
      rw [hE, Bool.false_and] at hL
      exact ⟨by rw [← hL]; rfl, rfl⟩
    have h6 : x.e.at k ≤ 6 := by simp at h6; omega
    rw [decide_eq_true h6, Bool.true_and] at hE
    refine ⟨⟨rfl, rfl, trivial⟩, rfl, 12 - (k + 1), by omega, k + 1, by omega, rfl, ?_, hE⟩
    rw [wrap_id (by omega) (by omega)]; simp
end Go.Proofs.Ytbhbgaihhilfmaa.Deep

namespace Go.Proofs.Ytbhbgaihhilfmaa.Deep
open Go.RowKit Poly
set_option linter.unusedVariables false
set_option linter.unusedSimpArgs false
def resP (r : Res) : PV := .tup [.sl (plP r.1), .con (.int .i64 r.2)]
abbrev W64 : Int → Int := IntKind.i64.wrap
def numF (n : Int) : Res := if n > 1099511627776 then ([], 17) else if n < 1 then ([], 0) else ([⟨n, zeroE⟩], 0)
def varF (k : Int) : Res := if k < 0 ∨ k ≥ 12 then ([], 20) else ([⟨1, oneE k.toNat⟩], 0)
theorem oneE_set (k : Nat) : setE zeroE k 1 = oneE k := by funext j; simp [setE, zeroE, oneE]
end Go.Proofs.Ytbhbgaihhilfmaa.Deep

namespace Go.Proofs.Ytbhbgaihhilfmaa.Deep
open Go.RowKit Poly
set_option linter.unusedVariables false
set_option linter.unusedSimpArgs false
def inP (l : List Int) : List (List PV) := l.map fun x => [.con (.int .i64 x)]
theorem inP_len (l : List Int) : (inP l).length = l.length := by simp [inP]
theorem inP_at {l : List Int} {k : Nat} (h : k < l.length) : (inP l)[k]? = some [.con (.int .i64 (l.getD k 0))] := by
  simp [inP, List.getD_eq_getElem?_getD, List.getElem?_eq_getElem h]
def numP (r : Int × Int) : PV := .tup [.con (.int .i64 r.1), .con (.int .i64 r.2)]
end Go.Proofs.Ytbhbgaihhilfmaa.Deep

namespace Go.Proofs.Ytbhbgaihhilfmaa.Deep
open Go.RowKit Poly
set_option linter.unusedVariables false
set_option linter.unusedSimpArgs false
def splitP : Option (List Tm × Int) → PV
  | some r => .tup [.con (.int .i64 r.2), .sl (plP r.1), .con (.bool true)]
  | none => .tup [.con (.int .i64 0), .sl (plP []), .con (.bool false)]
theorem tm_eq (a b : Tm) : ((((a.e.at 0 : Int) == b.e.at 0) && (((a.e.at 1 : Int) == b.e.at 1) && (((a.e.at 2 : Int) == b.e.at 2) && (((a.e.at 3 : Int) == b.e.at 3) && (((a.e.at 4 : Int) == b.e.at 4) && (((a.e.at 5 : Int) == b.e.at 5) && (((a.e.at 6 : Int) == b.e.at 6) && (((a.e.at 7 : Int) == b.e.at 7) && (((a.e.at 8 : Int) == b.e.at 8) && (((a.e.at 9 : Int) == b.e.at 9) && (((a.e.at 10 : Int) == b.e.at 10) && (((a.e.at 11 : Int) == b.e.at 11) && true)))))))))))) && (((a.c : Int) == b.c) && true)) = decide (a = b) := by
  rw [eq12]
  obtain ⟨ac, ae⟩ := a
  obtain ⟨bc, be⟩ := b
  by_cases h1 : ae = be
  · by_cases h2 : ac = bc
    · subst h1 h2; simp
    · simp [h2]
  · simp [h1]
theorem same_r (p q : List Tm) (hp : p.length ≤ 100000) (hq : q.length ≤ 100000) : PCalls Try.prog 20 [.sl (plP p), .sl (plP q)] (fun r => r = .con (.bool (decide (p = q)))) := by
  refine pcalls_weak (a20 _ _ _ ?_)
  unfold p20
  rw [plP_len, plP_len]
  refine br_i (fun h => ?_) (fun h => ?_)
  · have h : ¬ p.length = q.length := by simp at h; omega
    exact ⟨by rw [decide_eq_false (fun e => h (by rw [e]))]; rfl, rfl⟩
  have h : p.length = q.length := by simp at h; omega
  refine ⟨fun c v => ∃ j : Nat, j ≤ p.length ∧ c = p.length - j ∧ v.1 = (j : Int) ∧ decide (p.drop j = q.drop j) = decide (p = q), ⟨_, 0, by omega, rfl, rfl, rfl⟩, ?_⟩
  rintro c ⟨i, u⟩ ⟨j, hj, rfl, hi, hL⟩
  dsimp only at hi hL ⊢
  subst hi
  refine br_i (fun hlt => ?_) (fun hge => ?_)
  rotate_left
  · have hge : ¬ j < p.length := by simpa using hge
    rw [List.drop_of_length_le (by omega), List.drop_of_length_le (by omega), decide_eq_true rfl] at hL
    exact ⟨by rw [← hL]; rfl, rfl⟩
  have hlt : j < p.length := by simpa using hlt
  have hlt2 : j < q.length := by omega
  have hx := plP_at (List.getElem?_eq_getElem hlt)
  have hy := plP_at (List.getElem?_eq_getElem hlt2)
  rw [List.drop_eq_getElem_cons hlt, List.drop_eq_getElem_cons hlt2] at hL
  generalize p[j] = x at *
  generalize q[j] = y at *
  refine ⟨_, _, _, _, _, _, _, _, _, _, _, _, _, ⟨by omega, by rw [Int.toNat_natCast]; exact hx, _, _, _, _, _, _, _, _, _, _, _, _, _, ⟨by omega, by rw [Int.toNat_natCast]; exact hy, ⟨by kernel_rfl, by kernel_rfl, by kernel_rfl, ?_⟩⟩⟩⟩
  rw [tm_eq]
  refine br_i (fun he => ?_) (fun he => ?_)
  · have he : ¬ x = y := by simpa using he
    rw [decide_eq_false (fun e => he (by injection e))] at hL
    exact ⟨by rw [← hL]; rfl, rfl⟩
  · have he : x = y := by simpa using he
    subst he
    refine ⟨⟨rfl, rfl, trivial⟩, rfl, p.length - (j + 1), by omega, j + 1, by omega, rfl, ?_, by rw [← hL]; simp⟩
    rw [wrap_id (by omega) (by omega)]; simp
def plsP (l : List (List Tm)) : List (List PV) := l.map fun p => [.sl (plP p)]
theorem plsP_len (l : List (List Tm)) : (plsP l).length = l.length := by simp [plsP]
theorem plsP_at {l : List (List Tm)} {i : Nat} {p : List Tm} (h : l[i]? = some p) : (plsP l)[i]? = some [.sl (plP p)] := by simp [plsP, h]
theorem few_r (l : List (List Tm)) (hl : l.length ≤ 9223372036854775807) : PCalls Try.prog 23 [.sl (plsP l)] (fun r => r = .con (.bool (fewF l))) := by
  have enF : Enters Try.prog 9 := enters_of Try.func9 (by kernel_rfl) rfl
  refine pcalls_weak (a23 _ _ ?_)
  unfold p23 fewF
  refine ⟨fun c v => ∃ (j n : Nat), j ≤ l.length ∧ c = l.length - j ∧ v.2.1 = (j : Int) ∧ v.1 = (n : Int) ∧ n ≤ 30 ∧ fewL n (l.drop j) = fewL 0 l, ⟨_, 0, 0, by omega, rfl, rfl, rfl, by omega, rfl⟩, ?_⟩
  rintro c ⟨s, i, u⟩ ⟨j, n, hj, rfl, hi, hn, hn30, hL⟩
  dsimp only at hi hn hL ⊢
  subst hi hn
  rw [plsP_len]
  refine br_i (fun hlt => ?_) (fun hge => ?_)
  rotate_left
  · have hge : ¬ j < l.length := by simpa using hge
    rw [List.drop_of_length_le (by omega), fewL] at hL
    refine ⟨?_, rfl⟩
    rw [← hL, Bool.true_and]
    show PV.con (.bool (decide ((l.length : Int) ≤ 20))) = _
    congr 2
    by_cases h : l.length ≤ 20
    · rw [decide_eq_true h, decide_eq_true (by omega)]
    · rw [decide_eq_false h, decide_eq_false (by omega)]
  have hlt : j < l.length := by simpa using hlt
  have hxm : l[j] ∈ l := List.getElem_mem hlt
  have hx := plsP_at (List.getElem?_eq_getElem hlt)
  rw [List.drop_eq_getElem_cons hlt] at hL
  generalize l[j] = x at *
  obtain ⟨R, hR⟩ : ∃ R, fewL 0 l = R := ⟨_, rfl⟩
  rw [hR] at hL ⊢
  unfold fewL at hL
  refine ⟨_, ⟨by omega, by rw [Int.toNat_natCast]; exact hx, _, ⟨by omega, by rw [Int.toNat_natCast]; exact hx, ?_⟩⟩⟩
  refine ⟨_, call_p enF (fit_r x) rfl ?_⟩
  refine br_i (fun h1 => ?_) (fun h1 => ?_)
  · have h1 : fitF x = false := by simpa using h1
    rw [h1, Bool.false_and] at hL
    exact ⟨by rw [← hL]; rfl, rfl⟩
  have h1 : fitF x = true := by simpa using h1
  have hxl := ((fitF_iff x).1 h1).len
  rw [h1, Bool.true_and] at hL
  rw [plP_len, wrap_id (n := (n : Int) + (x.length : Int)) (by omega) (by omega)]
  refine br_i (fun h2 => ?_) (fun h2 => ?_)
  · have h2 : ¬ n + x.length ≤ 30 := by simp at h2; omega
    rw [decide_eq_false h2, Bool.false_and] at hL
    exact ⟨by rw [← hL]; rfl, rfl⟩
  have h2 : n + x.length ≤ 30 := by simp at h2; omega
  rw [decide_eq_true h2, Bool.true_and] at hL
  refine ⟨⟨rfl, trivial⟩, rfl, l.length - (j + 1), by omega, j + 1, n + x.length, by omega, rfl, ?_, by simp, h2, hL⟩
  rw [wrap_id (by omega) (by omega)]; simp
end Go.Proofs.Ytbhbgaihhilfmaa.Deep

namespace Go.Proofs.Ytbhbgaihhilfmaa.Deep
open Go.RowKit
set_option linter.unusedVariables false
def p3 (l1 l2 : List (List PV)) (i3 i4 : Int) (l5 : List (List PV)) (Q : PV → Heap → Prop) : Prop :=
br ((decide (((List.length l1 : Int) : Int) > 200)))
  (∃ b6 : Bool, CallN Try.prog 10 [] [] b6
  (Q b6 []))
  (∃ b7 : Bool, CallN Try.prog 9 [l2] [] b7
  (br ((!b7))
  (∃ b8 : Bool, CallN Try.prog 10 [] [] b8
  (Q b8 []))
  (br ((decide (((List.length l5 : Int) : Int) > 50)))
  (∃ b9 : Bool, CallN Try.prog 10 [] [] b9
  (Q b9 []))
  (∃ (l10 : LL) (i11 : Int), CallN Try.prog 11 [i3] [] (.tup [l10, i11])
  (∃ (l12 : LL) (i13 : Int), CallN Try.prog 12 [i3] [] (.tup [l12, i13])
  (∃ (l14 : LL) (i15 : Int), CallN Try.prog 13 [i4] [] (.tup [l14, i15])
  (∃ (l16 : LL) (i17 : Int), CallN Try.prog 14 [i4] [] (.tup [l16, i17])
  (∃ (i18 i19 : Int), CallN Try.prog 15 [l2, l5] [] (.tup [i18, i19])
  (∃ (i20 i21 : Int), CallN Try.prog 16 [l2, l5] [] (.tup [i20, i21])
  (∃ (i22 : Int) (l23 : LL) (b24 : Bool), CallN Try.prog 17 [l2, i4] [] (.tup [i22, l23, b24])
  (∃ (i25 : Int) (l26 : LL) (b27 : Bool), CallN Try.prog 18 [l2, i4] [] (.tup [i25, l26, b27])
  (∃ b28 : Bool, CallN Try.prog 19 [l1] [] b28
  (∃ b29 : Bool, CallN Try.prog 9 [l1] [] b29
  (br ((b28 == b29))
  (∃ b30 : Bool, CallN Try.prog 20 [l10, l12] [] b30
  (br (b30)
  (br (((i11 : Int) == i13))
  (∃ b31 : Bool, CallN Try.prog 20 [l14, l16] [] b31
  (br (b31)
  (br (((i15 : Int) == i17))
  (br (((i18 : Int) == i20))
  (br (((i19 : Int) == i21))
  (br (((i22 : Int) == i25))
  (∃ b32 : Bool, CallN Try.prog 20 [l23, l26] [] b32
  (br (b32)
  (br ((b24 == b27))
  (∃ b33 : Bool, CallN Try.prog 21 [l2, i4] [] b33
  (∃ b34 : Bool, CallN Try.prog 22 [l2, i4] [] b34
  (br ((b33 == b34))
  (∃ b35 : Bool, CallN Try.prog 10 [] [] b35
  (Q b35 []))
  (Q (.con (.bool false)) []))))
  (Q (.con (.bool false)) []))
  (Q (.con (.bool false)) [])))
  (Q (.con (.bool false)) []))
  (Q (.con (.bool false)) []))
  (Q (.con (.bool false)) []))
  (Q (.con (.bool false)) []))
  (Q (.con (.bool false)) [])))
  (Q (.con (.bool false)) []))
  (Q (.con (.bool false)) [])))
  (Q (.con (.bool false)) [])))))))))))))))
theorem a3 (l1 l2 : List (List PV)) (i3 i4 : Int) (l5 : List (List PV)) (Q : PV → Heap → Prop) (h : p3 l1 l2 i3 i4 l5 Q) : ACalls Try.prog 3 [l1, l2, i3, i4, l5] [] Q := by
  have hb : Option.some (bodyOf Try.f3) = Try.f3.body := by kernel_rfl
  exact acalls_eq (S := S) (L := loops32) mixed tok Try.func3 hb.symm (by kernel_rfl) h
def p4 (l1 l2 l3 : List (List PV)) (Q : PV → Heap → Prop) : Prop :=
∃ b4 : Bool, CallN Try.prog 23 [(.sl [[l1], [l2]])] [[.tip]] b4
  (br ((!b4))
  (∃ b5 : Bool, CallN Try.prog 10 [] [[.tip]] b5
  (Q b5 [[.tip]]))
  (∃ b6 : Bool, CallN Try.prog 23 [l3] [[.tip]] b6
  (br ((!b6))
  (∃ b7 : Bool, CallN Try.prog 10 [] [[.tip]] b7
  (Q b7 [[.tip]]))
  (∃ (l8 : LL) (i9 : Int), CallN Try.prog 24 [l1, l2] [[.tip]] (.tup [l8, i9])
  (∃ (l10 : LL) (i11 : Int), CallN Try.prog 25 [l1, l2] [[.tip]] (.tup [l10, i11])
  (∃ (l12 : LL) (i13 : Int), CallN Try.prog 26 [l1, l2] [[.tip]] (.tup [l12, i13])
  (∃ (l14 : LL) (i15 : Int), CallN Try.prog 27 [l1, l2] [[.tip]] (.tup [l14, i15])
  (∃ (l16 : LL) (i17 : Int), CallN Try.prog 28 [l1, l2] [[.tip]] (.tup [l16, i17])
  (∃ (l18 : LL) (i19 : Int), CallN Try.prog 29 [l1, l2] [[.tip]] (.tup [l18, i19])
  (∃ (l20 : LL) (i21 : Int), CallN Try.prog 30 [l1, l3] [[.tip]] (.tup [l20, i21])
  (∃ (l22 : LL) (i23 : Int), CallN Try.prog 31 [l1, l3] [[.tip]] (.tup [l22, i23])
  (∃ b24 : Bool, CallN Try.prog 20 [l8, l10] [[.tip]] b24
  (br (b24)
  (br (((i9 : Int) == i11))
  (∃ b25 : Bool, CallN Try.prog 20 [l12, l14] [[.tip]] b25
  (br (b25)
  (br (((i13 : Int) == i15))
  (∃ b26 : Bool, CallN Try.prog 20 [l16, l18] [[.tip]] b26
  (br (b26)
  (br (((i17 : Int) == i19))
  (∃ b27 : Bool, CallN Try.prog 20 [l20, l22] [[.tip]] b27
  (br (b27)
  (br (((i21 : Int) == i23))
  (∃ b28 : Bool, CallN Try.prog 10 [] [[.tip]] b28
  (Q b28 [[.tip]]))
  (Q (.con (.bool false)) [[.tip]]))
  (Q (.con (.bool false)) [[.tip]])))
  (Q (.con (.bool false)) [[.tip]]))
  (Q (.con (.bool false)) [[.tip]])))
  (Q (.con (.bool false)) [[.tip]]))
  (Q (.con (.bool false)) [[.tip]])))
  (Q (.con (.bool false)) [[.tip]]))
  (Q (.con (.bool false)) [[.tip]]))))))))))))))
end Go.Proofs.Ytbhbgaihhilfmaa.Deep

namespace Go.Proofs.Ytbhbgaihhilfmaa.Deep
open Go.RowKit Poly
set_option linter.unusedVariables false
set_option linter.unusedSimpArgs false
structure PolyIs : Prop where
  num : ∀ n, PCalls Try.prog 11 [.con (.int .i64 n)] (fun r => r = resP (numF n))
  var : ∀ k, PCalls Try.prog 13 [.con (.int .i64 k)] (fun r => r = resP (varF k))
  fit : ∀ p, p.length ≤ 200 → PCalls Try.prog 19 [.sl (plP p)] (fun r => r = .con (.bool (fitF p)))
  at' : ∀ p l, FitP p → l.length ≤ 50 → PCalls Try.prog 15 [.sl (plP p), .sl (inP l)] (fun r => r = numP (atF p l))
  has : ∀ p k, FitP p → PCalls Try.prog 21 [.sl (plP p), .con (.int .i64 k)] (fun r => r = .con (.bool (hasF p k)))
  split : ∀ p k, FitP p → PCalls Try.prog 17 [.sl (plP p), .con (.int .i64 k)] (fun r => r = splitP (splitL k p [] 0))
  add : ∀ a b, FitP a → FitP b → PCalls Try.prog 24 [.sl (plP a), .sl (plP b)] (fun r => r = resP (mergeF W64 true a b))
  mul : ∀ a b, FitP a → FitP b → PCalls Try.prog 26 [.sl (plP a), .sl (plP b)] (fun r => r = resP (mulF W64 a b))
  max : ∀ a b, FitP a → FitP b → PCalls Try.prog 28 [.sl (plP a), .sl (plP b)] (fun r => r = resP (mergeF W64 false a b))
  put : ∀ p l, FitP p → (∀ x ∈ l, FitP x) → l.length ≤ 20 → PCalls Try.prog 30 [.sl (plP p), .sl (plsP l)] (fun r => r = resP (putF W64 p l))
def AwakeIs : Prop := PCalls Try.prog 10 [] (fun r => r = .con (.bool true))
theorem few_fit : ∀ {l : List (List Tm)} {n : Nat}, fewL n l = true → (∀ p ∈ l, FitP p) ∧ n + (l.map List.length).sum ≤ max n 30
  | [], n, _ => ⟨by simp, by simp; omega⟩
  | p :: r, n, h => by
    unfold fewL at h
    rw [Bool.and_eq_true, Bool.and_eq_true, decide_eq_true_iff] at h
    obtain ⟨h1, h2, h3⟩ := h
    obtain ⟨g1, g2⟩ := few_fit h3
    refine ⟨fun x hx => ?_, ?_⟩
    · rcases List.mem_cons.1 hx with rfl | hx
      · exact (fitF_iff _).1 h1
      · exact g1 x hx
    · simp only [List.map_cons, List.sum_cons]; omega
end Go.Proofs.Ytbhbgaihhilfmaa.Deep

namespace Go.Proofs.Ytbhbgaihhilfmaa.Deep
open Go.RowKit
set_option linter.unusedVariables false
def p5 (l1 l2 l3 : List (List PV)) (Q : PV → Heap → Prop) : Prop :=
∃ b4 : Bool, CallN Try.prog 23 [(.sl [[l1], [l2], [l3]])] [[.tip]] b4
  (br ((!b4))
  (∃ b5 : Bool, CallN Try.prog 10 [] [[.tip]] b5
  (Q b5 [[.tip]]))
  (∃ (l6 : LL) (i7 : Int), CallN Try.prog 24 [l1, l2] [[.tip]] (.tup [l6, i7])
  (∃ (l8 : LL) (i9 : Int), CallN Try.prog 24 [l2, l1] [[.tip]] (.tup [l8, i9])
  (∃ (l10 : LL) (i11 : Int), CallN Try.prog 26 [l1, l2] [[.tip]] (.tup [l10, i11])
  (∃ (l12 : LL) (i13 : Int), CallN Try.prog 26 [l2, l1] [[.tip]] (.tup [l12, i13])
  (br (((i7 : Int) != i9))
  (Q (.con (.bool false)) [[.tip]])
  (br (((i11 : Int) != i13))
  (Q (.con (.bool false)) [[.tip]])
  (∃ b14 : Bool, CallN Try.prog 20 [l6, l8] [[.tip]] b14
  (br ((!b14))
  (Q (.con (.bool false)) [[.tip]])
  (∃ b15 : Bool, CallN Try.prog 20 [l10, l12] [[.tip]] b15
  (br ((!b15))
  (Q (.con (.bool false)) [[.tip]])
  (∃ b16 : Bool, CallN Try.prog 9 [l6] [[.tip]] b16
  (br ((!b16))
  (Q (.con (.bool false)) [[.tip]])
  (∃ b17 : Bool, CallN Try.prog 9 [l10] [[.tip]] b17
  (br ((!b17))
  (Q (.con (.bool false)) [[.tip]])
  (∃ (l18 : LL) (i19 : Int), CallN Try.prog 26 [l6, l3] [[.tip]] (.tup [l18, i19])
  (∃ (l20 : LL) (i21 : Int), CallN Try.prog 26 [l1, l3] [[.tip]] (.tup [l20, i21])
  (∃ (l22 : LL) (i23 : Int), CallN Try.prog 26 [l2, l3] [[.tip]] (.tup [l22, i23])
  (∃ (l24 : LL) (i25 : Int), CallN Try.prog 24 [l20, l22] [[.tip]] (.tup [l24, i25])
  (br (((i7 : Int) == 0))
  (br (((i19 : Int) == 0))
  (br (((i21 : Int) == 0))
  (br (((i23 : Int) == 0))
  (br (((i25 : Int) == 0))
  (∃ b26 : Bool, CallN Try.prog 20 [l18, l24] [[.tip]] b26
  (br ((!b26))
  (Q (.con (.bool false)) [[.tip]])
  (∃ (l27 : LL) (i28 : Int), CallN Try.prog 26 [l10, l3] [[.tip]] (.tup [l27, i28])
  (∃ (l29 : LL) (i30 : Int), CallN Try.prog 26 [l2, l3] [[.tip]] (.tup [l29, i30])
  (∃ (l31 : LL) (i32 : Int), CallN Try.prog 26 [l1, l29] [[.tip]] (.tup [l31, i32])
  (br (((i11 : Int) != 0))
  (∃ b33 : Bool, CallN Try.prog 10 [] [[.tip]] b33
  (Q b33 [[.tip]]))
  (br (((i28 : Int) != 0))
  (∃ b34 : Bool, CallN Try.prog 10 [] [[.tip]] b34
  (Q b34 [[.tip]]))
  (br (((i30 : Int) != 0))
  (∃ b35 : Bool, CallN Try.prog 10 [] [[.tip]] b35
  (Q b35 [[.tip]]))
  (br (((i32 : Int) != 0))
  (∃ b36 : Bool, CallN Try.prog 10 [] [[.tip]] b36
  (Q b36 [[.tip]]))
  (∃ b37 : Bool, CallN Try.prog 20 [l27, l31] [[.tip]] b37
  (br (b37)
  (∃ b38 : Bool, CallN Try.prog 10 [] [[.tip]] b38
  (Q b38 [[.tip]]))
  (Q (.con (.bool false)) [[.tip]]))))))))))))
  (∃ (l39 : LL) (i40 : Int), CallN Try.prog 26 [l10, l3] [[.tip]] (.tup [l39, i40])
  (∃ (l41 : LL) (i42 : Int), CallN Try.prog 26 [l2, l3] [[.tip]] (.tup [l41, i42])
  (∃ (l43 : LL) (i44 : Int), CallN Try.prog 26 [l1, l41] [[.tip]] (.tup [l43, i44])
  (br (((i11 : Int) != 0))
  (∃ b45 : Bool, CallN Try.prog 10 [] [[.tip]] b45
  (Q b45 [[.tip]]))
  (br (((i40 : Int) != 0))
  (∃ b46 : Bool, CallN Try.prog 10 [] [[.tip]] b46
  (Q b46 [[.tip]]))
  (br (((i42 : Int) != 0))
  (∃ b47 : Bool, CallN Try.prog 10 [] [[.tip]] b47
  (Q b47 [[.tip]]))
  (br (((i44 : Int) != 0))
  (∃ b48 : Bool, CallN Try.prog 10 [] [[.tip]] b48
  (Q b48 [[.tip]]))
  (∃ b49 : Bool, CallN Try.prog 20 [l39, l43] [[.tip]] b49
  (br (b49)
  (∃ b50 : Bool, CallN Try.prog 10 [] [[.tip]] b50
  (Q b50 [[.tip]]))
  (Q (.con (.bool false)) [[.tip]])))))))))))
  (∃ (l51 : LL) (i52 : Int), CallN Try.prog 26 [l10, l3] [[.tip]] (.tup [l51, i52])
  (∃ (l53 : LL) (i54 : Int), CallN Try.prog 26 [l2, l3] [[.tip]] (.tup [l53, i54])
  (∃ (l55 : LL) (i56 : Int), CallN Try.prog 26 [l1, l53] [[.tip]] (.tup [l55, i56])
  (br (((i11 : Int) != 0))
  (∃ b57 : Bool, CallN Try.prog 10 [] [[.tip]] b57
  (Q b57 [[.tip]]))
  (br (((i52 : Int) != 0))
  (∃ b58 : Bool, CallN Try.prog 10 [] [[.tip]] b58
  (Q b58 [[.tip]]))
  (br (((i54 : Int) != 0))
  (∃ b59 : Bool, CallN Try.prog 10 [] [[.tip]] b59
  (Q b59 [[.tip]]))
  (br (((i56 : Int) != 0))
  (∃ b60 : Bool, CallN Try.prog 10 [] [[.tip]] b60
  (Q b60 [[.tip]]))
  (∃ b61 : Bool, CallN Try.prog 20 [l51, l55] [[.tip]] b61
  (br (b61)
  (∃ b62 : Bool, CallN Try.prog 10 [] [[.tip]] b62
  (Q b62 [[.tip]]))
  (Q (.con (.bool false)) [[.tip]])))))))))))
  (∃ (l63 : LL) (i64 : Int), CallN Try.prog 26 [l10, l3] [[.tip]] (.tup [l63, i64])
  (∃ (l65 : LL) (i66 : Int), CallN Try.prog 26 [l2, l3] [[.tip]] (.tup [l65, i66])
  (∃ (l67 : LL) (i68 : Int), CallN Try.prog 26 [l1, l65] [[.tip]] (.tup [l67, i68])
  (br (((i11 : Int) != 0))
  (∃ b69 : Bool, CallN Try.prog 10 [] [[.tip]] b69
  (Q b69 [[.tip]]))
  (br (((i64 : Int) != 0))
  (∃ b70 : Bool, CallN Try.prog 10 [] [[.tip]] b70
  (Q b70 [[.tip]]))
  (br (((i66 : Int) != 0))
  (∃ b71 : Bool, CallN Try.prog 10 [] [[.tip]] b71
  (Q b71 [[.tip]]))
  (br (((i68 : Int) != 0))
  (∃ b72 : Bool, CallN Try.prog 10 [] [[.tip]] b72
  (Q b72 [[.tip]]))
  (∃ b73 : Bool, CallN Try.prog 20 [l63, l67] [[.tip]] b73
  (br (b73)
  (∃ b74 : Bool, CallN Try.prog 10 [] [[.tip]] b74
  (Q b74 [[.tip]]))
  (Q (.con (.bool false)) [[.tip]])))))))))))
  (∃ (l75 : LL) (i76 : Int), CallN Try.prog 26 [l10, l3] [[.tip]] (.tup [l75, i76])
  (∃ (l77 : LL) (i78 : Int), CallN Try.prog 26 [l2, l3] [[.tip]] (.tup [l77, i78])
  (∃ (l79 : LL) (i80 : Int), CallN Try.prog 26 [l1, l77] [[.tip]] (.tup [l79, i80])
  (br (((i11 : Int) != 0))
  (∃ b81 : Bool, CallN Try.prog 10 [] [[.tip]] b81
  (Q b81 [[.tip]]))
  (br (((i76 : Int) != 0))
  (∃ b82 : Bool, CallN Try.prog 10 [] [[.tip]] b82
  (Q b82 [[.tip]]))
  (br (((i78 : Int) != 0))
  (∃ b83 : Bool, CallN Try.prog 10 [] [[.tip]] b83
  (Q b83 [[.tip]]))
  (br (((i80 : Int) != 0))
  (∃ b84 : Bool, CallN Try.prog 10 [] [[.tip]] b84
  (Q b84 [[.tip]]))
  (∃ b85 : Bool, CallN Try.prog 20 [l75, l79] [[.tip]] b85
  (br (b85)
  (∃ b86 : Bool, CallN Try.prog 10 [] [[.tip]] b86
  (Q b86 [[.tip]]))
  (Q (.con (.bool false)) [[.tip]])))))))))))
  (∃ (l87 : LL) (i88 : Int), CallN Try.prog 26 [l10, l3] [[.tip]] (.tup [l87, i88])
  (∃ (l89 : LL) (i90 : Int), CallN Try.prog 26 [l2, l3] [[.tip]] (.tup [l89, i90])
  (∃ (l91 : LL) (i92 : Int), CallN Try.prog 26 [l1, l89] [[.tip]] (.tup [l91, i92])
  (br (((i11 : Int) != 0))
  (∃ b93 : Bool, CallN Try.prog 10 [] [[.tip]] b93
  (Q b93 [[.tip]]))
  (br (((i88 : Int) != 0))
  (∃ b94 : Bool, CallN Try.prog 10 [] [[.tip]] b94
  (Q b94 [[.tip]]))
  (br (((i90 : Int) != 0))
  (∃ b95 : Bool, CallN Try.prog 10 [] [[.tip]] b95
  (Q b95 [[.tip]]))
  (br (((i92 : Int) != 0))
  (∃ b96 : Bool, CallN Try.prog 10 [] [[.tip]] b96
  (Q b96 [[.tip]]))
  (∃ b97 : Bool, CallN Try.prog 20 [l87, l91] [[.tip]] b97
  (br (b97)
  (∃ b98 : Bool, CallN Try.prog 10 [] [[.tip]] b98
  (Q b98 [[.tip]]))
  (Q (.con (.bool false)) [[.tip]]))))))))))))))))))))))))))))))
end Go.Proofs.Ytbhbgaihhilfmaa.Deep

namespace Go.Proofs.Ytbhbgaihhilfmaa.Deep
open Go.RowKit Poly
set_option linter.unusedVariables false
set_option linter.unusedSimpArgs false
theorem wr_small : Small W64 := fun n h0 h1 => by
  show IntKind.i64.wrap n = n
  simp only [IntKind.wrap, IntKind.bits, IntKind.signed]
  simp; omega
end Go.Proofs.Ytbhbgaihhilfmaa.Deep

namespace Go.Proofs.Ytbhbgaihhilfmaa.Deep
open Go.RowKit
set_option linter.unusedVariables false
def p7 (l1 l2 l3 : List (List PV)) (Q : PV → Heap → Prop) : Prop :=
∃ b4 : Bool, CallN Try.prog 23 [(.sl [[l1]])] [[.tip]] b4
  (br ((!b4))
  (∃ b5 : Bool, CallN Try.prog 10 [] [[.tip]] b5
  (Q b5 [[.tip]]))
  (∃ b6 : Bool, CallN Try.prog 23 [l2] [[.tip]] b6
  (br ((!b6))
  (∃ b7 : Bool, CallN Try.prog 10 [] [[.tip]] b7
  (Q b7 [[.tip]]))
  (br ((decide (((List.length l3 : Int) : Int) > 20)))
  (∃ b8 : Bool, CallN Try.prog 10 [] [[.tip]] b8
  (Q b8 [[.tip]]))
  (∃ (l9 : LL) (i10 : Int), CallN Try.prog 30 [l1, l2] [[.tip]] (.tup [l9, i10])
  (br (((i10 : Int) != 0))
  (∃ b11 : Bool, CallN Try.prog 10 [] [[.tip]] b11
  (Q b11 [[.tip]]))
  (∃ I12 : Nat → ((List (List PV)) × (Int) × Unit) → Prop, (∃ n, I12 n ([], 0, ())) ∧ ∀ (n13 : Nat) (v14 : (List (List PV)) × (Int) × Unit), I12 n13 v14 →
  (br ((decide ((v14.2.1 : Int) < (List.length l3 : Int))))
  (∃ i15 : Int, IdxN l3 v14.2.1 [(.con (.int .u8 i15))]
  (AppN v14.1 [[(IntKind.wrap .i64 i15)]] 1 8 PV.one
  ((@Eq PV l1 l1 ∧ @Eq PV l2 l2 ∧ @Eq PV l9 l9 ∧ @Eq PV (.con (.slice none 0 0)) (.con (.slice none 0 0)) ∧ @Eq PV l3 l3 ∧ @Eq PV (.con (.int .i64 (List.length l3 : Int))) (.con (.int .i64 (List.length l3 : Int))) ∧ True) ∧ @Eq Heap [[.tip]] [[.tip]] ∧ ∃ k16, k16 < n13 ∧ I12 k16 ((v14.1 ++ ([[(IntKind.wrap .i64 i15)]] : List (List PV))), (IntKind.wrap .i64 (v14.2.1 + 1)), ()))))
  (∃ I17 : Nat → ((List (List PV)) × (Int) × Unit) → Prop, (∃ n, I17 n ([], 0, ())) ∧ ∀ (n18 : Nat) (v19 : (List (List PV)) × (Int) × Unit), I17 n18 v19 →
  (br ((decide ((v19.2.1 : Int) < 12)))
  (br ((decide ((v19.2.1 : Int) < (List.length l2 : Int))))
  (∃ l20 : List (List PV), IdxN l2 v19.2.1 [l20]
  (∃ (i21 i22 : Int), CallN Try.prog 15 [l20, v14.1] [[.tip], [.tip], [.tip]] (.tup [i21, i22])
  (br (((i22 : Int) != 0))
  (∃ b23 : Bool, CallN Try.prog 10 [] [[.tip], [.tip], [.tip]] b23
  (Q b23 [[.tip], [.tip], [.tip]]))
  (AppN v19.1 [[i21]] 1 8 PV.one
  ((@Eq PV l1 l1 ∧ @Eq PV l2 l2 ∧ @Eq PV l9 l9 ∧ @Eq PV (.own 1 2 1 v14.1) (.own 1 2 1 v14.1) ∧ True) ∧ @Eq Heap [[.tip], [.tip]] [[.tip], [.tip]] ∧ ∃ k24, k24 < n18 ∧ I17 k24 ((v19.1 ++ ([[i21]] : List (List PV))), (IntKind.wrap .i64 (v19.2.1 + 1)), ()))))))
  (br ((decide ((v19.2.1 : Int) < (List.length v14.1 : Int))))
  (∃ i25 : Int, IdxN (v14.1) v19.2.1 [i25]
  (AppN v19.1 [[i25]] 1 8 PV.one
  ((@Eq PV l1 l1 ∧ @Eq PV l2 l2 ∧ @Eq PV l9 l9 ∧ @Eq PV (.own 1 2 1 v14.1) (.own 1 2 1 v14.1) ∧ True) ∧ @Eq Heap [[.tip], [.tip]] [[.tip], [.tip]] ∧ ∃ k26, k26 < n18 ∧ I17 k26 ((v19.1 ++ ([[i25]] : List (List PV))), (IntKind.wrap .i64 (v19.2.1 + 1)), ()))))
  (AppN v19.1 [[(.con (.int .i64 0))]] 1 8 PV.one
  ((@Eq PV l1 l1 ∧ @Eq PV l2 l2 ∧ @Eq PV l9 l9 ∧ @Eq PV (.own 1 2 1 v14.1) (.own 1 2 1 v14.1) ∧ True) ∧ @Eq Heap [[.tip], [.tip]] [[.tip], [.tip]] ∧ ∃ k27, k27 < n18 ∧ I17 k27 ((v19.1 ++ ([[(.con (.int .i64 0))]] : List (List PV))), (IntKind.wrap .i64 (v19.2.1 + 1)), ())))))
  (∃ (i28 i29 : Int), CallN Try.prog 15 [l9, v14.1] [[.tip], [.tip], [.tip]] (.tup [i28, i29])
  (∃ (i30 i31 : Int), CallN Try.prog 15 [l1, v19.1] [[.tip], [.tip], [.tip]] (.tup [i30, i31])
  (br (((i29 : Int) == i31))
  (br (((i28 : Int) == i30))
  (∃ b32 : Bool, CallN Try.prog 10 [] [[.tip], [.tip], [.tip]] b32
  (Q b32 [[.tip], [.tip], [.tip]]))
  (Q (.con (.bool false)) [[.tip], [.tip], [.tip]]))
  (Q (.con (.bool false)) [[.tip], [.tip], [.tip]]))))))))))))))
end Go.Proofs.Ytbhbgaihhilfmaa.Deep

namespace Go.Proofs.Ytbhbgaihhilfmaa.Deep
open Go.RowKit Poly
set_option linter.unusedVariables false
def I2 : TI := ⟨true, 1, false, false, 0, false, false, [], false, some [.con (.int .i64 0)], 8, none, some .i64, none⟩
theorem T2 : T 2 = some I2 := by kernel_rfl
def I57 : TI := ⟨true, 12, true, false, 0, false, false, [], false, some [.con (.int .u8 0), .con (.int .u8 0), .con (.int .u8 0), .con (.int .u8 0), .con (.int .u8 0), .con (.int .u8 0), .con (.int .u8 0), .con (.int .u8 0), .con (.int .u8 0), .con (.int .u8 0), .con (.int .u8 0), .con (.int .u8 0)], 12, none, none, some (12, 5)⟩
theorem T57 : T 57 = some I57 := by kernel_rfl
def I59 : TI := ⟨true, 13, true, false, 0, false, false, [(0, 57), (12, 2)], true, some [.con (.int .u8 0), .con (.int .u8 0), .con (.int .u8 0), .con (.int .u8 0), .con (.int .u8 0), .con (.int .u8 0), .con (.int .u8 0), .con (.int .u8 0), .con (.int .u8 0), .con (.int .u8 0), .con (.int .u8 0), .con (.int .u8 0), .con (.int .i64 0)], 24, none, none, none⟩
theorem T59 : T 59 = some I59 := by kernel_rfl
theorem u3 : Try.prog.underlying 3 = some (.int .i64) := by kernel_rfl
theorem u2 : Try.prog.underlying 2 = some (.int .i64) := by kernel_rfl
theorem u5 : Try.prog.underlying 5 = some (.int .u8) := by kernel_rfl
theorem u57 : Try.prog.underlying 57 = some (.array 12 5) := by kernel_rfl
theorem u23 : Try.prog.underlying 23 = some (.slice 59) := by kernel_rfl
theorem u24 : Try.prog.underlying 24 = some (.slice 2) := by kernel_rfl
theorem c5 : Try.prog.cellsOf 5 = 1 := by kernel_rfl
theorem c2 : Try.prog.cellsOf 2 = 1 := by kernel_rfl
theorem z2 : 0 < Try.prog.cellsOf 2 := by rw [c2]; decide
theorem c59 : Try.prog.cellsOf 59 = 13 := by kernel_rfl
theorem z59 : 0 < Try.prog.cellsOf 59 := by rw [c59]; decide
theorem CR.last {w : World} {cs : List Value} {o n : Nat} {p : List PV} (h : CR w ((cs.drop o).take n) p) (hl : cs.length = o + n) : CR w (cs.drop o) p := by
  rwa [List.take_of_length_le (by rw [List.length_drop]; omega)] at h
section
variable {H : Type} {enc : TypeId × Value → H} {w : World} {spare : Nat → Bool} {held : Bool}
theorem op_i {P : Program} {t : TypeId} {k : IntKind} (u : P.underlying t = some (.int k)) {fuel : Nat} {cs : List Value} {x : DataW H × List MemPlace} (h : DataW.trod enc P w 0 spare held fuel t cs = some x) : ∃ n : Int, (Lit.int k n).wf = true ∧ CR w cs [.con (.int k n)] := by
  obtain ⟨n, rfl, _, hw⟩ := DataW.trod_int u h
  exact ⟨n, hw, .int _ _ _⟩
theorem open_arr {P : Program} {t e : TypeId} {n : Nat} (ht : P.underlying t = some (.array n e)) {fuel : Nat} {cs : List Value} {x : DataW H × List MemPlace} (h : DataW.trod enc P w 0 spare held fuel t cs = some x) :
    ∃ m, cs.length = P.cellsOf t ∧ ∀ i, i < n → ∃ y, DataW.trod enc P w 0 spare held m e ((cs.drop (i * P.cellsOf e)).take (P.cellsOf e)) = some y := by
  cases fuel with
  | zero => simp [DataW.trod] at h
  | succ m =>
    unfold DataW.trod at h
    rw [ht] at h
    split at h <;> simp_all
    obtain ⟨hl, xs, hp, hd⟩ := h
    refine ⟨m, fun i hi => ?_⟩
    have hg := mapM_some_get hp i i (by simp [hi])
    have hlx := mapM_some_length hp
    rw [List.length_range] at hlx
    rw [List.getElem?_eq_getElem (by omega)] at hg
    exact ⟨_, _, hg⟩
theorem exP_getD {e : Ex} : ∀ {i : Nat}, i < 12 → (exP e).getD i .any = u8P (e.at i)
  | 0, _ => rfl
  | 1, _ => rfl
  | 2, _ => rfl
  | 3, _ => rfl
  | 4, _ => rfl
  | 5, _ => rfl
  | 6, _ => rfl
  | 7, _ => rfl
  | 8, _ => rfl
  | 9, _ => rfl
  | 10, _ => rfl
  | 11, _ => rfl
theorem op_u8 {P : Program} {t : TypeId} (u : P.underlying t = some (.int .u8)) {fuel : Nat} {cs : List Value} {x : DataW H × List MemPlace} (h : DataW.trod enc P w 0 spare held fuel t cs = some x) : ∃ n : Nat, n ≤ 255 ∧ CR w cs [u8P n] := by
  obtain ⟨n, hw, c⟩ := op_i u h
  have hb : 0 ≤ n ∧ n ≤ 255 := by
    simp only [Lit.wf, Bool.and_eq_true, decide_eq_true_eq] at hw
    exact hw
  refine ⟨n.toNat, by omega, ?_⟩
  unfold u8P
  rwa [show ((n.toNat : Nat) : Int) = n by omega]
theorem op_ex {fuel : Nat} {cs : List Value} {x : DataW H × List MemPlace} (h : DataW.trod enc Try.prog w 0 spare held fuel 57 cs = some x) (hl : cs.length = 12) : ∃ e : Ex, CR w cs (exP e) := by
  obtain ⟨m, _, hf⟩ := open_arr u57 h
  obtain ⟨zs, hz, ha⟩ := list_of (M := fun i (n : Nat) => CR w ((cs.drop i).take 1) [u8P n]) 12 (fun i hi => by
    obtain ⟨y, hy⟩ := hf i hi
    rw [c5, Nat.mul_one] at hy
    obtain ⟨n, _, c⟩ := op_u8 u5 hy
    exact ⟨n, c⟩)
  refine ⟨fun j => zs.getD j.1 0, ⟨by rw [hl]; rfl, fun i hi => ?_⟩⟩
  have hi : i < 12 := hi
  rw [exP_getD hi]
  have hr := (ha i (by omega)).rep 0 Nat.zero_lt_one
  have e1 : ((cs.drop i).take 1).getD 0 undef = cs.getD i undef := by
    rw [List.getD_eq_getElem?_getD, List.getD_eq_getElem?_getD, List.getElem?_take_of_lt (by decide), List.getElem?_drop]; rfl
  rw [e1] at hr
  have e2 : Ex.at (fun j => zs.getD j.1 0) i = zs[i] := by
    unfold Ex.at; rw [dif_pos hi]; show zs.getD i 0 = _; rw [List.getD_eq_getElem?_getD, List.getElem?_eq_getElem (by omega)]; rfl
  rw [e2]
  exact hr
theorem op_tm {fuel : Nat} {cs : List Value} {x : DataW H × List MemPlace} (h : DataW.trod enc Try.prog w 0 spare held fuel 59 cs = some x) : ∃ t : Tm, CR w cs (tmP t) := by
  obtain ⟨n, hn, hl, hf⟩ := open_flds tok T59 rfl h
  have hl : cs.length = 13 := hl
  obtain ⟨y0, h0⟩ := hf 0 0 57 I57 rfl T57
  obtain ⟨e, c0⟩ := op_ex h0 (by rw [List.length_take, List.length_drop, hl]; rfl)
  obtain ⟨y1, h1⟩ := hf 1 12 2 I2 rfl T2
  obtain ⟨c, _, c1⟩ := op_i u2 h1
  exact ⟨⟨c, e⟩, CR.seg (o := 0) (n := 12) c0 (CR.last c1 hl)⟩
end
theorem CR.agg {w : World} {vs : Array Value} {ps : List PV} (h : CR w vs.toList ps) : Rep (blockCells w) (fun _ => ⟨0, 0⟩) w 0 (.agg vs) (.agg ps) := by
  have := Rep.agg (G := blockCells w) (m := fun _ => ⟨0, 0⟩) (w := w) 0 vs.toList ps h.len h.rep
  simpa using this
end Go.Proofs.Ytbhbgaihhilfmaa.Deep

namespace Go.Proofs.Ytbhbgaihhilfmaa.Deep
open Go.ChangeShapes Go.WideShapes Go.ChangeAt Go.RowKit
set_option linter.unusedVariables false
theorem args_again {H : Type} {enc : TypeId × Value → H} {P : Program} {W W' : World} (hl : laidOutB P = true) (hb : Below W.heap.size W W') : ∀ (ts : List TypeId), (∀ t ∈ ts, P.readableRec t = true ∧ t < P.types.size) → ∀ (vs : List Value) (ds : List (DataW H)) (ps : List MemPlace),
    DataW.TrodAll enc P W 0 (fun _ => true) true ts vs ds ps → (∀ x ∈ ps, x.block < W.heap.size) → ∀ sp : Nat → Bool, (∀ x ∈ ps, sp x.block = true) → DataW.TrodAll enc P W' 0 sp true ts vs ds ps := by
  intro ts
  induction ts with
  | nil => intro _ vs ds ps h _ sp _; obtain ⟨rfl, rfl, rfl⟩ := trodAll_nil h; exact trodAll_mk0
  | cons t ts ih =>
    intro ht vs ds ps h hlt sp hsp
    obtain ⟨v, vs1, d, ds1, a, b, rfl, rfl, rfl, h1, h2⟩ := trodAll_cons h
    have h0 := ht t (by simp)
    exact trodAll_cons_mk (WideElems.Trod_stays hl h0.1 h0.2 h1 (fun x hx => hb.same (hlt x (List.mem_append_left _ hx))) (fun x hx => hsp x (List.mem_append_left _ hx)))
      (ih (fun t h => ht t (by simp [h])) _ _ _ h2 (fun x hx => hlt x (List.mem_append_right _ hx)) sp (fun x hx => hsp x (List.mem_append_right _ hx)))
theorem post_law {H : Type} {enc : TypeId × Value → H} {P : Program} {f : Func} {s : ChangeSpec} {apart fresh handsOn : Bool} {W W' : World} {args : Array Value} {v : Value} {ds gs : List (DataW H)} {before pa pv : List MemPlace}
    (hW : DataW.Whole enc P f.params.toList s.vars apart W args.toList ds gs before)
    (hres : ∀ (b : Nat) (sp : Nat → Bool) (hd : Bool), DataW.TrodAll enc P W' b sp hd f.resultTypes.toList (v.resultList f.resultTypes.size) (s.fn H (ds ++ gs)).results [])
    (hargs : ∀ sp : Nat → Bool, (∀ p ∈ before, sp p.block = true) → DataW.TrodAll enc P W' 0 sp true f.params.toList args.toList (s.fn H (ds ++ gs)).args pa)
    (hvars : ∀ sp : Nat → Bool, (∀ p ∈ before, sp p.block = true) → DataW.TrodVars enc P W' sp s.vars (s.fn H (ds ++ gs)).vars pv)
    (hps : before = pa ++ pv) (hb : Below W.heap.size W W') : s.post enc P f apart fresh handsOn false W args v W' := by
  have hold : ∀ p ∈ before, (fun b => decide (b < W.heap.size)) p.block = true := fun p hp => by simpa using hW.lt p hp
  exact ⟨ds, gs, before, [], pa, pv, hW, hres _ _ _, hargs _ hold, hvars _ hold, World.keptBut_mono (fun p hp => ⟨hp, Or.inr (List.mem_append.1 (hps ▸ hp))⟩) (hb.frame (· ∈ before)), fun h => by cases h⟩
theorem hs_start (P : Program) (W : World) : HS P (blockCells W) (fun _ => ⟨0, 0⟩) W [] := ⟨fun b hb => absurd hb (Nat.not_lt_zero _), fun b _ hb => absurd hb (Nat.not_lt_zero _), block_old⟩
theorem law_calls {f : FuncId} {ps : List PV} (h : PCalls Try.prog f ps (fun r => r = .con (.bool true))) {W : World} {vs : Array Value} (ha : Args (blockCells W) (fun _ => ⟨0, 0⟩) W 0 vs ps) : Calls Try.prog f vs W fun e W' => e = .returned (.bool true) ∧ Below W.heap.size W W' :=
  (h (blockCells W) (fun _ => ⟨0, 0⟩) W vs (hs_start _ W) ha).mono fun e W' ⟨v, r, h', G', m', he, ⟨hr, _⟩, hrep, _, hg⟩ => by
    subst hr
    obtain rfl := hrep.con_eq
    exact ⟨he, hg.below⟩
theorem args_list {w : World} {G : Nat → Nat} {m : Nat → Pl} {n : Nat} : ∀ (vs : List Value) (ps : List PV), vs.length = ps.length → (∀ i (h : i < vs.length) (h2 : i < ps.length), Rep G m w n vs[i] ps[i]) → Args G m w n vs.toArray ps := fun vs ps hl h => by
  refine ⟨by simpa using hl, fun i hi => ?_⟩
  have := h i (by omega) hi
  simp only [List.getD_eq_getElem?_getD, List.getElem?_eq_getElem hi, Option.getD_some]
  simpa [Array.getD, hl, hi] using this
end Go.Proofs.Ytbhbgaihhilfmaa.Deep

namespace Go.Proofs.Ytbhbgaihhilfmaa.Deep
open Go.ChangeShapes Go.WideShapes Go.ChangeAt Go.RowKit
set_option linter.unusedVariables false
theorem open_list {P : Program} {α : Type} (view : α → List PV) (M : α → Prop) {H : Type} {enc : TypeId × Value → H} {t e : TypeId} (ht : P.underlying t = some (.slice e)) (hs : 0 < P.cellsOf e) {W : World} {r : Reach} {b0 : Nat} {v : Value} {d : DataW H} {p : List MemPlace} (hv : Value.okWide P W r b0 t v)
    (h : DataW.Trod enc P W 0 (fun _ => true) true t v d p) (ho : ∀ n us y, us.length = P.cellsOf e → DataW.trod enc P W 0 (fun _ => true) true n e us = some y → ∃ a : α, M a ∧ CR W us (view a)) :
    ∃ zs : List α, (∀ a ∈ zs, M a) ∧ Rep (blockCells W) (fun _ => ⟨0, 0⟩) W 0 v (.sl (zs.map view)) := by
  obtain ⟨a, len, cap, rfl⟩ := okWide_slice ht hv
  obtain ⟨fuel, h⟩ := h
  obtain ⟨zs, hz, hc⟩ := open_slice view M ht hs h (fun n us y _ hl hu => ho n us y hl hu)
  exact ⟨zs, hz, hc.rep 0 (by simp)⟩
theorem open_num {P : Program} {H : Type} {enc : TypeId × Value → H} {t : TypeId} {k : IntKind} (ht : P.underlying t = some (.int k)) {W : World} {r : Reach} {b0 : Nat} {v : Value} {d : DataW H} {p : List MemPlace} (hv : Value.okWide P W r b0 t v)
    (h : DataW.Trod enc P W 0 (fun _ => true) true t v d p) : ∃ n : Int, True ∧ Rep (blockCells W) (fun _ => ⟨0, 0⟩) W 0 v (.con (.int k n)) := by
  obtain ⟨a, rfl, _, _, _⟩ := open_int ht hv h
  exact ⟨a, trivial, .con _ _⟩
end Go.Proofs.Ytbhbgaihhilfmaa.Deep

namespace Go.Proofs.Ytbhbgaihhilfmaa.Deep
open Go.RowKit
set_option linter.unusedVariables false
variable {P : Program} {T : TypeId → Option TI} {S : FuncId → Option Sg} {L : Nat → Option (List Nat × List (Nat × Sh))} {H : Value → Prop}
def cutPre : Nat → Code → Code
  | 0, _ => .skip
  | k + 1, .seq a b => .seq a (cutPre k b)
  | _ + 1, c => c
def cutSuf : Nat → Code → Code
  | 0, c => c
  | k + 1, .seq _ b => cutSuf k b
  | _ + 1, _ => .skip
def plugC : Code → Code → Code
  | .seq a b, B => .seq a (plugC b B)
  | .skip, B => B
  | c, B => .seq c B
def zipE : List Nat → List PV → List (Nat × PV)
  | t :: ts, v :: vs => (t, v) :: zipE ts vs
  | _, _ => []
def WpO (P : Program) (c : Code) (Q : Exit → Env → Heap → Prop) (env : Env) (h : Heap) : Prop := ∀ (G0 : Nat → Nat) (m0 : Nat → Pl) (w0 : World) (G : Nat → Nat) (m : Nat → Pl) (a : Act) (w : World) (R : Exit → Act → World → Prop), St P env h G m a w → Goes G0 m0 w0 [] G m w h → (∀ x a' w', Leads P Q G0 m0 w0 [] x a' w' → R x a' w') → c.wp P R a w
theorem wpO_code (hT : Tok P T) (hm : P.follows .mixedOrders = true) {c : Code} {Q : Exit → Env → Heap → Prop} {env : Env} {h : Heap} (hv : codeA P T S L (fun _ => False) c Q env h) : WpO P c Q env h := fun G0 m0 w0 G m a w R s g hk => codeA_wp hT hm c Q env h G m a w R s hv throws_no (fun x a' w' hl => hk x a' w' (Now.from g hl))
theorem wpO_seq {x y : Code} {Q : Exit → Env → Heap → Prop} {env : Env} {h : Heap} (hv : WpO P x (fun e env' h' => match e with | .normal => WpO P y Q env' h' | e => Q e env' h') env h) : WpO P (.seq x y) Q env h := fun G0 m0 w0 G m a w R s g hk => by
  refine wp_seq (hv G0 m0 w0 G m a w _ s g (fun e a' w' hl => ?_))
  cases e with
  | normal =>
    obtain ⟨env', h', G', m', e1, e2, e3⟩ := hl
    exact e1 G0 m0 w0 G' m' a' w' R e2 e3 hk
  | _ => exact hk _ _ _ hl
theorem wpO_mono {c : Code} {Q Q' : Exit → Env → Heap → Prop} {env : Env} {h : Heap} (hv : WpO P c Q env h) (hq : ∀ x e h', Q x e h' → Q' x e h') : WpO P c Q' env h := fun G0 m0 w0 G m a w R s g hk =>
  hv G0 m0 w0 G m a w R s g (fun x a' w' ⟨env', h', G', m', e1, e2, e3⟩ => hk x a' w' ⟨env', h', G', m', hq _ _ _ e1, e2, e3⟩)
theorem wpO_plug (hT : Tok P T) (hm : P.follows .mixedOrders = true) {B : Code} {Q : Exit → Env → Heap → Prop} {K : Env → Heap → Prop} (hK : ∀ e h, K e h → WpO P B Q e h) :
    ∀ (A : Code) (env : Env) (h : Heap), codeA P T S L (fun _ => False) A (fun x e h' => match x with | .normal => K e h' | x => Q x e h') env h → WpO P (plugC A B) Q env h
  | .seq a b, env, h, hv => by
    refine wpO_seq (wpO_mono (wpO_code hT hm (show codeA P T S L _ a _ env h from hv)) (fun x e h' hx => ?_))
    cases x with
    | normal => exact wpO_plug hT hm hK b e h' hx
    | _ => exact hx
  | .skip, env, h, hv => hK env h hv
  | .label l, env, h, hv => wpO_seq (wpO_mono (wpO_code hT hm hv) (fun x e h' hx => by cases x with | normal => exact hK e h' hx | _ => exact hx))
  | .ret, env, h, hv => wpO_seq (wpO_mono (wpO_code hT hm hv) (fun x e h' hx => by cases x with | normal => exact hK e h' hx | _ => exact hx))
  | .exit id, env, h, hv => wpO_seq (wpO_mono (wpO_code hT hm hv) (fun x e h' hx => by cases x with | normal => exact hK e h' hx | _ => exact hx))
  | .cond c a b, env, h, hv => wpO_seq (wpO_mono (wpO_code hT hm hv) (fun x e h' hx => by cases x with | normal => exact hK e h' hx | _ => exact hx))
  | .block id b, env, h, hv => wpO_seq (wpO_mono (wpO_code hT hm hv) (fun x e h' hx => by cases x with | normal => exact hK e h' hx | _ => exact hx))
  | .loop b, env, h, hv => wpO_seq (wpO_mono (wpO_code hT hm hv) (fun x e h' hx => by cases x with | normal => exact hK e h' hx | _ => exact hx))
  | .region id ops d, env, h, hv => wpO_seq (wpO_mono (wpO_code hT hm hv) (fun x e h' hx => by cases x with | normal => exact hK e h' hx | _ => exact hx))
  | .rangeFunc f ps x y, env, h, hv => wpO_seq (wpO_mono (wpO_code hT hm hv) (fun x e h' hx => by cases x with | normal => exact hK e h' hx | _ => exact hx))
  | .scope b, env, h, hv => wpO_seq (wpO_mono (wpO_code hT hm hv) (fun x e h' hx => by cases x with | normal => exact hK e h' hx | _ => exact hx))
  | .goto l, env, h, hv => wpO_seq (wpO_mono (wpO_code hT hm hv) (fun x e h' hx => by cases x with | normal => exact hK e h' hx | _ => exact hx))
  | .refuse y, env, h, hv => wpO_seq (wpO_mono (wpO_code hT hm hv) (fun x e h' hx => by cases x with | normal => exact hK e h' hx | _ => exact hx))
theorem lookE_zip (t : Nat) : ∀ (ts : List Nat) (f : Nat → PV), lookE .any t (zipE ts (weakL (ts.map f))) = .any ∨ lookE .any t (zipE ts (weakL (ts.map f))) = weak (f t)
  | [], f => .inl rfl
  | x :: ts, f => by
    rw [List.map_cons, weakL, zipE, lookE]
    cases hq : Nat.beq t x with
    | true => rw [Nat.eq_of_beq_eq_true hq]; exact .inr rfl
    | false => exact lookE_zip t ts f
theorem weakL_under {d : Nat} : ∀ {ts : List Nat} {f : Nat → PV}, undersL d (weakL (ts.map f)) = true → ∀ t ∈ ts, (weak (f t)).under d = true
  | [], f, _, t, ht => by cases ht
  | x :: ts, f, h, t, ht => by
    rw [List.map_cons, weakL, undersL, Bool.and_eq_true] at h
    rcases List.mem_cons.1 ht with rfl | ht
    · exact h.1
    · exact weakL_under h.2 t ht
theorem lookE_out (d : PV) (t : Nat) : ∀ (ts : List Nat) (vs : List PV), t ∉ ts → lookE d t (zipE ts vs) = d
  | [], _, _ => rfl
  | x :: ts, [], _ => rfl
  | x :: ts, v :: vs, h => by
    rw [zipE, lookE]
    cases hq : Nat.beq t x with
    | true => exact absurd (Nat.eq_of_beq_eq_true hq) (fun e => h (by simp [e]))
    | false => exact lookE_out d t ts vs (fun h2 => h (by simp [h2]))
theorem St.cut {env : Env} {h : Heap} {G : Nat → Nat} {m : Nat → Pl} {a : Act} {w : World} (s : St P env h G m a w) {ts : List Nat} (hu : undersL 0 (weakL (ts.map env.get)) = true) : St P ⟨env.n, zipE ts (weakL (ts.map env.get)), .any⟩ [] G m a w := by
  refine ⟨s.def0, s.size, fun t ht => ?_, s.hs.bare⟩
  rw [Env.get_lt (e := ⟨env.n, zipE ts (weakL (ts.map env.get)), .any⟩) ht]
  show Rep G m w 0 _ (lookE .any t (zipE ts (weakL (ts.map env.get))))
  rcases lookE_zip t ts env.get with e | e
  · rw [e]; exact .any _ _
  · by_cases hm : t ∈ ts
    · rw [e]
      exact (s.rep t ht).weak.lower (weakL_under hu t hm)
    · rw [lookE_out _ _ _ _ hm]; exact .any _ _
theorem start_look : ∀ (l : List PV) (i t : Nat), lookE (.con undef) t (numE i l) = if i ≤ t ∧ t < i + l.length then l.getD (t - i) .any else .con undef := by
  intro l
  induction l with
  | nil => intro i t; simp only [numE, lookE, List.length_nil]; rw [if_neg (by omega)]
  | cons p ps ih =>
    intro i t
    simp only [numE, lookE, List.length_cons]
    by_cases he : t = i
    · subst he
      have : Nat.beq t t = true := Nat.beq_refl t
      rw [this, if_pos (by omega)]; simp
    · have : Nat.beq t i = false := by
        cases hq : Nat.beq t i
        · rfl
        · exact absurd (Nat.eq_of_beq_eq_true hq) he
      rw [this]
      simp only
      rw [ih]
      by_cases hc : i + 1 ≤ t ∧ t < i + 1 + ps.length
      · rw [if_pos hc, if_pos (by omega)]
        obtain ⟨k, rfl⟩ : ∃ k, t = i + 1 + k := ⟨t - (i + 1), by omega⟩
        rw [show i + 1 + k - (i + 1) = k by omega, show i + 1 + k - i = k + 1 by omega]; simp
      · rw [if_neg hc, if_neg (by omega)]
theorem start_st {fn : Func} {args : List PV} {h : Heap} {G : Nat → Nat} {m : Nat → Pl} {w : World} {vs : Array Value} (hs : HS P G m w h) (hargs : vs.size = args.length ∧ ∀ i, i < args.length → Rep G m w h.length (vs.getD i undef) (args.getD i .any)) :
    St P ⟨args.length + (fn.ntmps - args.length), numE 0 args, .con undef⟩ h G m { tmps := vs ++ Array.replicate (fn.ntmps - vs.size) undef, defers := [] } w := by
  refine ⟨rfl, by simp [hargs.1], fun t ht => ?_, hs⟩
  rw [Env.get_lt ht]
  simp only [start_look, Nat.zero_add, Nat.zero_le, true_and, Nat.sub_zero]
  by_cases hlt : t < args.length
  · have h1 := hargs.2 t hlt
    have e1 : (vs ++ Array.replicate (fn.ntmps - vs.size) undef).getD t undef = vs.getD t undef := by
      have : t < vs.size := by rw [hargs.1]; exact hlt
      simp [Array.getD_eq_getD_getElem?, Array.getElem?_append, this]
    rw [if_pos hlt, e1]
    exact h1
  · have e1 : (vs ++ Array.replicate (fn.ntmps - vs.size) undef).getD t undef = undef := by
      have : ¬ t < vs.size := by rw [hargs.1]; exact hlt
      simp only [Array.getD_eq_getD_getElem?, Array.getElem?_append, this, if_false, Array.getElem?_replicate]
      split <;> rfl
    rw [if_neg hlt, e1]
    exact .con _ _
def finQ (P : Program) (T : TypeId → Option TI) (fn : Func) (Q : PV → Prop) (x : Exit) (env : Env) (h : Heap) : Prop := match x with
  | .normal => resK P T env h fn.results.toList fun ps => Q (weak (packR ps)) ∧ (weak (packR ps)).under 0 = true
  | .ret => resK P T env h fn.results.toList fun ps => Q (weak (packR ps)) ∧ (weak (packR ps)).under 0 = true
  | _ => False
theorem Goes.drop {G : Nat → Nat} {m : Nat → Pl} {w : World} {G' : Nat → Nat} {m' : Nat → Pl} {w' : World} {h' : Heap} (k : Goes G m w [] G' m' w' h') : Goes G m w [] G' m' w' [] :=
  ⟨k.os, k.tape, k.output, k.size, Nat.le_refl _, k.grow, k.cell, k.shp, fun b hb => absurd hb (Nat.not_lt_zero _), fun b hb => absurd hb (Nat.not_lt_zero _), k.rest, fun b _ hb => absurd hb (Nat.not_lt_zero _)⟩
def TailA (P : Program) (T : TypeId → Option TI) (fn : Func) (Q : PV → Prop) (c : Code) (env : Env) : Prop := WpO P c (finQ P T fn Q) env []
theorem tail_code (hT : Tok P T) (hm : P.follows .mixedOrders = true) {fn : Func} {Q : PV → Prop} {c : Code} {env : Env} {X : Prop} (e : codeA P T S L (fun _ => False) c (finQ P T fn Q) env [] = X) (hx : X) : TailA P T fn Q c env := wpO_code hT hm (e.mpr hx)
theorem tail_cut (hT : Tok P T) (hm : P.follows .mixedOrders = true) {fn : Func} {Q : PV → Prop} {A B : Code} {N : Nat} {l : List (Nat × PV)} {d : PV} (ts : List Nat) {R : List PV → Prop} {X : Prop}
    (e : codeA P T S L (fun _ => False) A (fun x e h' => match x with | .normal => Nat.beq e.n N = true ∧ R (weakL (ts.map e.get)) | x => finQ P T fn Q x e h') ⟨N, l, d⟩ [] = X) (hx : X) (hB : ∀ vs, R vs → undersL 0 vs = true ∧ TailA P T fn Q B ⟨N, zipE ts vs, .any⟩) : TailA P T fn Q (plugC A B) ⟨N, l, d⟩ :=
  wpO_plug hT hm (K := fun e h' => Nat.beq e.n N = true ∧ R (weakL (ts.map e.get))) (fun e h' ⟨hn, hR⟩ G0 m0 w0 G m a w R2 s g hk => by
    have hn := Nat.eq_of_beq_eq_true hn
    obtain ⟨hu, hb⟩ := hB _ hR
    have s2 := s.cut hu
    rw [hn] at s2
    exact hb G0 m0 w0 G m a w R2 s2 g.drop hk) A _ [] (e.mpr hx)
theorem tail_cast {fn : Func} {Q : PV → Prop} {A B C : Code} {env : Env} (hb : plugC A B = C) (h : TailA P T fn Q (plugC A B) env) : TailA P T fn Q C env := hb ▸ h
theorem tcalls_tail (hT : Tok P T) {f : FuncId} {fn : Func} {c : Code} {args : List PV} {Q : PV → Prop} (hf : P.funcs[f]? = some fn) (hb : fn.body = some c) (hv : TailA P T fn Q c ⟨args.length + (fn.ntmps - args.length), numE 0 args, .con undef⟩) : TCalls P f args [] (fun r _ => Q r ∧ r.under 0 = true) (fun _ => False) := by
  intro G m w vs hs hargs
  refine calls_of_wp hf hb ?_
  refine hv G m w G m _ w _ (start_st (fn := fn) hs hargs) (.refl _ _ _ _) (fun x a' w' ⟨env', h', G', m', e1, e2, e3⟩ => ?_)
  cases x with
  | normal =>
    obtain ⟨r, v, k0, k1, k2⟩ := resP_run hT e2 (K := fun r => Q (weak r) ∧ (weak r).under 0 = true) e1
    exact ⟨e2.def0, v, k1, .inl ⟨v, weak r, h', G', m', rfl, k0, k2.weak, e2.hs, e3⟩⟩
  | ret =>
    obtain ⟨r, v, k0, k1, k2⟩ := resP_run hT e2 (K := fun r => Q (weak r) ∧ (weak r).under 0 = true) e1
    exact ⟨e2.def0, v, k1, .inl ⟨v, weak r, h', G', m', rfl, k0, k2.weak, e2.hs, e3⟩⟩
  | _ => exact e1.elim
theorem pcalls_tail (hT : Tok P T) {f : FuncId} {fn : Func} {c : Code} {args : List PV} {Q : PV → Prop} (hf : P.funcs[f]? = some fn) (hb : fn.body = some c) (hv : TailA P T fn Q c ⟨args.length + (fn.ntmps - args.length), numE 0 args, .con undef⟩) : PCalls P f args Q := (tcalls_tail hT hf hb hv).a
end Go.Proofs.Ytbhbgaihhilfmaa.Deep

namespace Go.Proofs.Ytbhbgaihhilfmaa.Deep
open Go.RowKit
set_option linter.unusedVariables false
def p6_5  (Q : PV → Prop) : Prop :=
  ∃ b70 : Bool, CallN Try.prog 10 [] [] b70
  ((Q b70 ∧ true = true))
theorem t6_5  (Q : PV → Prop) (h : p6_5  Q) : TailA Try.prog T Try.f6 Q (cutSuf 12 (bodyOf Try.f6)) ⟨206, zipE [] [], .any⟩ :=
  tail_code (S := S) (L := loops32) tok mixed (by kernel_rfl) h
def r6_5 (Q : PV → Prop) (vs : List PV) : Prop := @Eq (List PV) vs [] ∧ p6_5  Q
def p6_4 (l54 : List (List PV)) (i55 : Int) (Q : PV → Prop) : Prop :=
  ∃ (i56 : Int) (l57 : LL) (b58 : Bool), CallN Try.prog 17 [l54, i55] [] (.tup [i56, l57, b58])
  (br (b58)
  (∃ (l59 : LL) (i60 : Int), CallN Try.prog 11 [i56] [] (.tup [l59, i60])
  (∃ (l61 : LL) (i62 : Int), CallN Try.prog 13 [i55] [] (.tup [l61, i62])
  (∃ (l63 : LL) (i64 : Int), CallN Try.prog 26 [l59, l61] [] (.tup [l63, i64])
  (∃ (l65 : LL) (i66 : Int), CallN Try.prog 24 [l63, l57] [] (.tup [l65, i66])
  (br (((i62 : Int) == 0))
  (br (((i64 : Int) != 0))
  ((Q (.con (.bool false)) ∧ true = true))
  (br (((i66 : Int) != 0))
  ((Q (.con (.bool false)) ∧ true = true))
  (∃ b67 : Bool, CallN Try.prog 20 [l65, l54] [] b67
  (br ((!b67))
  ((Q (.con (.bool false)) ∧ true = true))
  (∃ b68 : Bool, CallN Try.prog 21 [l57, i55] [] b68
  (br (b68)
  ((Q (.con (.bool false)) ∧ true = true))
  ((true = true ∧ r6_5 Q []))))))))
  (∃ b69 : Bool, CallN Try.prog 21 [l57, i55] [] b69
  (br (b69)
  ((Q (.con (.bool false)) ∧ true = true))
  ((true = true ∧ r6_5 Q [])))))))))
  ((true = true ∧ r6_5 Q [])))
theorem t6_4 (l54 : List (List PV)) (i55 : Int) (Q : PV → Prop) (h : p6_4 l54 i55 Q) : TailA Try.prog T Try.f6 Q (cutSuf 11 (bodyOf Try.f6)) ⟨206, zipE [0, 3] [l54, i55], .any⟩ :=
  tail_cast (A := cutPre 1 (cutSuf 11 (bodyOf Try.f6))) (B := cutSuf 12 (bodyOf Try.f6)) (by kernel_rfl) (tail_cut (S := S) (L := loops32) tok mixed [] (R := r6_5 Q) (by kernel_rfl) h (fun vs hv => by
    obtain ⟨rfl, hp⟩ := hv
    exact ⟨rfl, t6_5  Q hp⟩))
def r6_4 (Q : PV → Prop) (vs : List PV) : Prop := ∃ l54 : List (List PV), ∃ i55 : Int, @Eq (List PV) vs [l54, i55] ∧ p6_4 l54 i55 Q
def p6_3 (l45 : List (List PV)) (l46 : List (List PV)) (i47 : Int) (i48 : Int) (i49 : Int) (l50 : List (List PV)) (i51 : Int) (Q : PV → Prop) : Prop :=
  ∃ (i52 i53 : Int), CallN Try.prog 15 [l50, l46] [] (.tup [i52, i53])
  (br (((i51 : Int) == 0))
  (br (((i53 : Int) == 0))
  (br ((decide ((i52 : Int) < (maxI i48 i49))))
  ((Q (.con (.bool false)) ∧ true = true))
  ((true = true ∧ r6_4 Q [l45, i47])))
  ((true = true ∧ r6_4 Q [l45, i47])))
  ((true = true ∧ r6_4 Q [l45, i47])))
theorem t6_3 (l45 : List (List PV)) (l46 : List (List PV)) (i47 : Int) (i48 : Int) (i49 : Int) (l50 : List (List PV)) (i51 : Int) (Q : PV → Prop) (h : p6_3 l45 l46 i47 i48 i49 l50 i51 Q) : TailA Try.prog T Try.f6 Q (cutSuf 10 (bodyOf Try.f6)) ⟨206, zipE [0, 2, 3, 9, 11, 17, 18] [l45, l46, i47, i48, i49, l50, i51], .any⟩ :=
  tail_cast (A := cutPre 1 (cutSuf 10 (bodyOf Try.f6))) (B := cutSuf 11 (bodyOf Try.f6)) (by kernel_rfl) (tail_cut (S := S) (L := loops32) tok mixed [0, 3] (R := r6_4 Q) (by kernel_rfl) h (fun vs hv => by
    obtain ⟨l54, i55, rfl, hp⟩ := hv
    exact ⟨rfl, t6_4 l54 i55 Q hp⟩))
def r6_3 (Q : PV → Prop) (vs : List PV) : Prop := ∃ l45 : List (List PV), ∃ l46 : List (List PV), ∃ i47 : Int, ∃ i48 : Int, ∃ i49 : Int, ∃ l50 : List (List PV), ∃ i51 : Int, @Eq (List PV) vs [l45, l46, i47, i48, i49, l50, i51] ∧ p6_3 l45 l46 i47 i48 i49 l50 i51 Q
def p6_2 (l33 : List (List PV)) (l34 : List (List PV)) (i35 : Int) (i36 : Int) (i37 : Int) (l38 : List (List PV)) (i39 : Int) (l40 : List (List PV)) (i41 : Int) (Q : PV → Prop) : Prop :=
  ∃ (i42 i43 : Int), CallN Try.prog 15 [l38, l34] [] (.tup [i42, i43])
  (br (((i39 : Int) == 0))
  (br (((i43 : Int) == 0))
  (∃ i44 : Int, CallN Try.prog 32 [i36, i37] [] i44
  (br (((i42 : Int) != i44))
  ((Q (.con (.bool false)) ∧ true = true))
  ((true = true ∧ r6_3 Q [l33, l34, i35, i36, i37, l40, i41]))))
  ((true = true ∧ r6_3 Q [l33, l34, i35, i36, i37, l40, i41])))
  ((true = true ∧ r6_3 Q [l33, l34, i35, i36, i37, l40, i41])))
theorem t6_2 (l33 : List (List PV)) (l34 : List (List PV)) (i35 : Int) (i36 : Int) (i37 : Int) (l38 : List (List PV)) (i39 : Int) (l40 : List (List PV)) (i41 : Int) (Q : PV → Prop) (h : p6_2 l33 l34 i35 i36 i37 l38 i39 l40 i41 Q) : TailA Try.prog T Try.f6 Q (cutSuf 9 (bodyOf Try.f6)) ⟨206, zipE [0, 2, 3, 9, 11, 15, 16, 17, 18] [l33, l34, i35, i36, i37, l38, i39, l40, i41], .any⟩ :=
  tail_cast (A := cutPre 1 (cutSuf 9 (bodyOf Try.f6))) (B := cutSuf 10 (bodyOf Try.f6)) (by kernel_rfl) (tail_cut (S := S) (L := loops32) tok mixed [0, 2, 3, 9, 11, 17, 18] (R := r6_3 Q) (by kernel_rfl) h (fun vs hv => by
    obtain ⟨l45, l46, i47, i48, i49, l50, i51, rfl, hp⟩ := hv
    exact ⟨rfl, t6_3 l45 l46 i47 i48 i49 l50 i51 Q hp⟩))
def r6_2 (Q : PV → Prop) (vs : List PV) : Prop := ∃ l33 : List (List PV), ∃ l34 : List (List PV), ∃ i35 : Int, ∃ i36 : Int, ∃ i37 : Int, ∃ l38 : List (List PV), ∃ i39 : Int, ∃ l40 : List (List PV), ∃ i41 : Int, @Eq (List PV) vs [l33, l34, i35, i36, i37, l38, i39, l40, i41] ∧ p6_2 l33 l34 i35 i36 i37 l38 i39 l40 i41 Q
def p6_1 (l20 : List (List PV)) (l21 : List (List PV)) (i22 : Int) (i23 : Int) (i24 : Int) (l25 : List (List PV)) (i26 : Int) (l27 : List (List PV)) (i28 : Int) (l29 : List (List PV)) (i30 : Int) (Q : PV → Prop) : Prop :=
  ∃ (i31 i32 : Int), CallN Try.prog 15 [l25, l21] [] (.tup [i31, i32])
  (br (((i26 : Int) == 0))
  (br ((!(((i32 : Int) == 0) == (decide (((IntKind.wrap .i64 (i23 + i24)) : Int) ≤ 1099511627776)))))
  ((Q (.con (.bool false)) ∧ true = true))
  (br (((i26 : Int) == 0))
  (br (((i32 : Int) == 0))
  (br (((i31 : Int) != (IntKind.wrap .i64 (i23 + i24))))
  ((Q (.con (.bool false)) ∧ true = true))
  ((true = true ∧ r6_2 Q [l20, l21, i22, i23, i24, l27, i28, l29, i30])))
  ((true = true ∧ r6_2 Q [l20, l21, i22, i23, i24, l27, i28, l29, i30])))
  ((true = true ∧ r6_2 Q [l20, l21, i22, i23, i24, l27, i28, l29, i30]))))
  (br (((i26 : Int) == 0))
  (br (((i32 : Int) == 0))
  (br (((i31 : Int) != (IntKind.wrap .i64 (i23 + i24))))
  ((Q (.con (.bool false)) ∧ true = true))
  ((true = true ∧ r6_2 Q [l20, l21, i22, i23, i24, l27, i28, l29, i30])))
  ((true = true ∧ r6_2 Q [l20, l21, i22, i23, i24, l27, i28, l29, i30])))
  ((true = true ∧ r6_2 Q [l20, l21, i22, i23, i24, l27, i28, l29, i30]))))
theorem t6_1 (l20 : List (List PV)) (l21 : List (List PV)) (i22 : Int) (i23 : Int) (i24 : Int) (l25 : List (List PV)) (i26 : Int) (l27 : List (List PV)) (i28 : Int) (l29 : List (List PV)) (i30 : Int) (Q : PV → Prop) (h : p6_1 l20 l21 i22 i23 i24 l25 i26 l27 i28 l29 i30 Q) : TailA Try.prog T Try.f6 Q (cutSuf 8 (bodyOf Try.f6)) ⟨206, zipE [0, 2, 3, 9, 11, 13, 14, 15, 16, 17, 18] [l20, l21, i22, i23, i24, l25, i26, l27, i28, l29, i30], .any⟩ :=
  tail_cast (A := cutPre 1 (cutSuf 8 (bodyOf Try.f6))) (B := cutSuf 9 (bodyOf Try.f6)) (by kernel_rfl) (tail_cut (S := S) (L := loops32) tok mixed [0, 2, 3, 9, 11, 15, 16, 17, 18] (R := r6_2 Q) (by kernel_rfl) h (fun vs hv => by
    obtain ⟨l33, l34, i35, i36, i37, l38, i39, l40, i41, rfl, hp⟩ := hv
    exact ⟨rfl, t6_2 l33 l34 i35 i36 i37 l38 i39 l40 i41 Q hp⟩))
def r6_1 (Q : PV → Prop) (vs : List PV) : Prop := ∃ l20 : List (List PV), ∃ l21 : List (List PV), ∃ i22 : Int, ∃ i23 : Int, ∃ i24 : Int, ∃ l25 : List (List PV), ∃ i26 : Int, ∃ l27 : List (List PV), ∃ i28 : Int, ∃ l29 : List (List PV), ∃ i30 : Int, @Eq (List PV) vs [l20, l21, i22, i23, i24, l25, i26, l27, i28, l29, i30] ∧ p6_1 l20 l21 i22 i23 i24 l25 i26 l27 i28 l29 i30 Q
def p6_0 (l1 l2 l3 : List (List PV)) (i4 : Int) (Q : PV → Prop) : Prop :=
  ∃ b5 : Bool, CallN Try.prog 23 [(.sl [[l1], [l2]])] [[.tip]] b5
  (br ((!b5))
  (∃ b6 : Bool, CallN Try.prog 10 [] [[.tip]] b6
  ((Q b6 ∧ true = true)))
  (br ((decide (((List.length l3 : Int) : Int) > 20)))
  (∃ b7 : Bool, CallN Try.prog 10 [] [[.tip]] b7
  ((Q b7 ∧ true = true)))
  (∃ (i8 i9 : Int), CallN Try.prog 15 [l1, l3] [[.tip]] (.tup [i8, i9])
  (∃ (i10 i11 : Int), CallN Try.prog 15 [l2, l3] [[.tip]] (.tup [i10, i11])
  (∃ (l12 : LL) (i13 : Int), CallN Try.prog 24 [l1, l2] [[.tip]] (.tup [l12, i13])
  (∃ (l14 : LL) (i15 : Int), CallN Try.prog 26 [l1, l2] [[.tip]] (.tup [l14, i15])
  (∃ (l16 : LL) (i17 : Int), CallN Try.prog 28 [l1, l2] [[.tip]] (.tup [l16, i17])
  (br (((i9 : Int) != 0))
  (∃ b18 : Bool, CallN Try.prog 10 [] [[.tip]] b18
  ((Q b18 ∧ true = true)))
  (br (((i11 : Int) != 0))
  (∃ b19 : Bool, CallN Try.prog 10 [] [[.tip]] b19
  ((Q b19 ∧ true = true)))
  ((true = true ∧ r6_1 Q [l1, l3, i4, i8, i10, l12, i13, l14, i15, l16, i17])))))))))))
theorem t6_0 (l1 l2 l3 : List (List PV)) (i4 : Int) (Q : PV → Prop) (h : p6_0 l1 l2 l3 i4 Q) : TailA Try.prog T Try.f6 Q (bodyOf Try.f6) ⟨206, numE 0 [l1, l2, l3, i4], .con undef⟩ :=
  tail_cast (A := cutPre 8 (bodyOf Try.f6)) (B := cutSuf 8 (bodyOf Try.f6)) (by kernel_rfl) (tail_cut (S := S) (L := loops32) tok mixed [0, 2, 3, 9, 11, 13, 14, 15, 16, 17, 18] (R := r6_1 Q) (by kernel_rfl) h (fun vs hv => by
    obtain ⟨l20, l21, i22, i23, i24, l25, i26, l27, i28, l29, i30, rfl, hp⟩ := hv
    exact ⟨rfl, t6_1 l20 l21 i22 i23 i24 l25 i26 l27 i28 l29 i30 Q hp⟩))
theorem a6 (l1 l2 l3 : List (List PV)) (i4 : Int) (Q : PV → Prop) (h : p6_0 l1 l2 l3 i4 Q) : PCalls Try.prog 6 [l1, l2, l3, i4] Q := by
  have hb : Option.some (bodyOf Try.f6) = Try.f6.body := by kernel_rfl
  exact pcalls_tail tok Try.func6 hb.symm (t6_0 l1 l2 l3 i4 Q h)
end Go.Proofs.Ytbhbgaihhilfmaa.Deep

namespace Go.Proofs.Ytbhbgaihhilfmaa.Deep
open Go.RowKit Poly
set_option linter.unusedVariables false
set_option linter.unusedSimpArgs false
def yesB : PV → Prop := fun r => r = .con (.bool true)
theorem end_q (hawake : AwakeIs) : p6_5 yesB := ⟨true, call_p (enters_of Try.func10 (by kernel_rfl) rfl) hawake rfl ⟨rfl, rfl⟩⟩
theorem product_r (x y : Int) (hx : 0 ≤ x) (hy : 0 ≤ y) (h : x * y ≤ 1099511627776) (hx1 : x ≤ 1099511627776) : PCalls Try.prog 32 [.con (.int .i64 x), .con (.int .i64 y)] (fun r => r = .con (.int .i64 (x * y))) := by
  have hxy : 0 ≤ x * y := Int.mul_nonneg hx hy
  refine pcalls_weak (a32 _ _ _ ?_)
  unfold p32
  have hw : IntKind.i64.wrap (x * y) = x * y := wr_small _ hxy (by omega)
  refine br_i (fun h0 => ?_) (fun h0 => ?_)
  · have h0 : 0 < x := by simpa using h0
    refine ⟨by omega, ?_⟩
    have hd : Int.tdiv 1099511627776 x = 1099511627776 / x := Int.tdiv_eq_ediv_of_nonneg (by decide)
    have hb : y ≤ 1099511627776 / x := (Int.le_ediv_iff_mul_le h0).2 (by rw [Int.mul_comm]; exact h)
    have hd0 : 0 ≤ 1099511627776 / x := by omega
    have hd1 : 1099511627776 / x ≤ 1099511627776 := Int.ediv_le_self _ (by decide)
    rw [hd, show IntKind.i64.wrap (1099511627776 / x) = 1099511627776 / x from wr_small _ hd0 (by omega)]
    refine br_i (fun h1 => ?_) (fun h1 => ?_)
    · exact absurd hb (by simp at h1; omega)
    · rw [hw]; exact ⟨rfl, rfl⟩
  · rw [hw]; exact ⟨rfl, rfl⟩
set_option maxHeartbeats 2000000 in
theorem split_q (I : PolyIs) (hawake : AwakeIs) (a : List Tm) (k : Int) (ha : FitP a) : p6_4 (plP a) k yesB := by
  have enS : Enters Try.prog 20 := enters_of Try.func20 (by kernel_rfl) rfl
  have fin := end_q hawake
  unfold p6_4
  have hs := I.split a k ha
  cases hq : splitL k a [] 0 with
  | none =>
    rw [hq] at hs
    refine ⟨_, _, false, call_p (enters_of Try.func17 (by kernel_rfl) rfl) hs rfl ?_⟩
    refine br_i (fun h => by cases h) (fun _ => ⟨rfl, rfl, fin⟩)
  | some r =>
    rw [hq] at hs
    obtain ⟨fr, hh, n0, n1⟩ := split_fit ha hq
    refine ⟨_, _, true, call_p (enters_of Try.func17 (by kernel_rfl) rfl) hs rfl ?_⟩
    refine br_i (fun _ => ?_) (fun h => by cases h)
    refine ⟨_, _, call_p (enters_of Try.func11 (by kernel_rfl) rfl) (I.num r.2) rfl ?_⟩
    refine ⟨_, _, call_p (enters_of Try.func13 (by kernel_rfl) rfl) (I.var k) rfl ?_⟩
    have fn : FitP (numF r.2).1 := by
      unfold numF; rw [if_neg (by omega)]
      split
      · exact FitP.nil
      · exact num_ok (by omega) n1
    have fv : FitP (varF k).1 := by
      unfold varF
      split
      · exact FitP.nil
      · exact one_ok _
    refine ⟨_, _, call_p (enters_of Try.func26 (by kernel_rfl) rfl) (I.mul _ _ fn fv) rfl ?_⟩
    refine ⟨_, _, call_p (enters_of Try.func24 (by kernel_rfl) rfl) (I.add _ _ mulF_ok.fit fr) rfl ?_⟩
    have hhas := I.has r.1 k fr
    rw [hh] at hhas
    have enH : Enters Try.prog 21 := enters_of Try.func21 (by kernel_rfl) rfl
    refine br_i (fun hv => ?_) (fun _ => ?_)
    · have hv : (varF k).2 = 0 := by simpa using hv
      have hk : 0 ≤ k ∧ k < 12 := by
        unfold varF at hv
        split at hv
        · simp at hv
        · omega
      have hvf : varF k = ([⟨1, oneE k.toNat⟩], 0) := by unfold varF; rw [if_neg (by omega)]
      obtain ⟨b1, b2⟩ := split_back wr_small ha hk hq (numF r.2).1 (by
        unfold numF; rw [if_neg (by omega)]
        by_cases g : r.2 < 1
        · rw [if_pos g]; exact .inl ⟨g, rfl⟩
        · rw [if_neg g]; exact .inr ⟨by omega, rfl⟩)
      rw [hvf]
      dsimp only
      rw [b2]
      refine br_i (fun h => absurd h (by rw [b1]; simp)) (fun _ => ?_)
      refine br_i (fun h => absurd h (by simp)) (fun _ => ?_)
      have hsm := same_r a a (by have := ha.len; omega) (by have := ha.len; omega)
      rw [decide_eq_true rfl] at hsm
      refine ⟨true, call_p enS hsm rfl ?_⟩
      refine br_i (fun h => by cases h) (fun _ => ?_)
      refine ⟨false, call_p enH hhas rfl ?_⟩
      exact br_i (fun h => by cases h) (fun _ => ⟨rfl, rfl, fin⟩)
    · refine ⟨false, call_p enH hhas rfl ?_⟩
      exact br_i (fun h => by cases h) (fun _ => ⟨rfl, rfl, fin⟩)
theorem max_q (I : PolyIs) (hawake : AwakeIs) (a b : List Tm) (l : List Int) (k : Int) (ha : FitP a) (hb : FitP b) (hl : l.length ≤ 50) : p6_3 (plP a) (inP l) k (lin (G (xAt l)) a) (lin (G (xAt l)) b) (plP (mergeF W64 false a b).1) (mergeF W64 false a b).2 yesB := by
  have sp : true = true ∧ r6_4 yesB [.sl (plP a), .con (.int .i64 k)] := ⟨rfl, _, _, rfl, split_q I hawake a k ha⟩
  unfold p6_3
  refine ⟨_, _, call_p (enters_of Try.func15 (by kernel_rfl) rfl) (I.at' _ l mergeF_ok.fit hl) rfl ?_⟩
  refine br_i (fun h0 => ?_) (fun _ => sp)
  refine br_i (fun h1 => ?_) (fun _ => sp)
  refine br_i (fun h2 => ?_) (fun _ => sp)
  have h0 : (mergeF W64 false a b).2 = 0 := by simpa using h0
  have h1 : (atF (mergeF W64 false a b).1 l).2 = 0 := by simpa using h1
  obtain ⟨g1, g2⟩ := max_ge wr_small ha hb (G_nn (xAt_nn l)) h0
  rw [at_val mergeF_ok.fit] at h1 h2
  rw [(numB_zero h1).2] at h2
  have h2 := of_decide_eq_true h2
  unfold maxI at h2
  split at h2 <;> omega
theorem mul_q (I : PolyIs) (hawake : AwakeIs) (a b : List Tm) (l : List Int) (k : Int) (ha : FitP a) (hb : FitP b) (hl : l.length ≤ 50) (hA : lin (G (xAt l)) a ≤ 1099511627776) : p6_2 (plP a) (inP l) k (lin (G (xAt l)) a) (lin (G (xAt l)) b) (plP (mulF W64 a b).1) (mulF W64 a b).2 (plP (mergeF W64 false a b).1) (mergeF W64 false a b).2 yesB := by
  have sp : true = true ∧ r6_3 yesB [.sl (plP a), .sl (inP l), .con (.int .i64 k), .con (.int .i64 (lin (G (xAt l)) a)), .con (.int .i64 (lin (G (xAt l)) b)), .sl (plP (mergeF W64 false a b).1), .con (.int .i64 (mergeF W64 false a b).2)] := ⟨rfl, _, _, _, _, _, _, _, rfl, max_q I hawake a b l k ha hb hl⟩
  have A0 := lin_nn (G_nn (xAt_nn l)) ha.pos
  have B0 := lin_nn (G_nn (xAt_nn l)) hb.pos
  unfold p6_2
  refine ⟨_, _, call_p (enters_of Try.func15 (by kernel_rfl) rfl) (I.at' _ l mulF_ok.fit hl) rfl ?_⟩
  refine br_i (fun h0 => ?_) (fun _ => sp)
  refine br_i (fun h1 => ?_) (fun _ => sp)
  have h0 : (mulF W64 a b).2 = 0 := by simpa using h0
  have h1 : (atF (mulF W64 a b).1 l).2 = 0 := by simpa using h1
  rw [at_val mulF_ok.fit, mul_val wr_small ha hb _ h0] at h1 ⊢
  obtain ⟨g1, g2⟩ := numB_zero h1
  rw [g2]
  refine ⟨_, call_p (enters_of Try.func32 (by kernel_rfl) rfl) (product_r _ _ A0 B0 g1 hA) rfl ?_⟩
  exact br_i (fun h => absurd h (by simp)) (fun _ => sp)
set_option maxHeartbeats 4000000 in
theorem values_law (I : PolyIs) (hawake : AwakeIs) (a b : List Tm) (l : List Int) (k : Int) : PCalls Try.prog 6 [.sl (plP a), .sl (plP b), .sl (inP l), .con (.int .i64 k)] (fun r => r = .con (.bool true)) := by
  have enK : Enters Try.prog 10 := enters_of Try.func10 (by kernel_rfl) rfl
  have enF : Enters Try.prog 23 := enters_of Try.func23 (by kernel_rfl) rfl
  have enT : Enters Try.prog 15 := enters_of Try.func15 (by kernel_rfl) rfl
  refine a6 _ _ _ _ yesB ?_
  unfold p6_0
  refine ⟨_, call_p enF (few_r [a, b] (by simp)) rfl ?_⟩
  refine br_i (fun _ => ⟨true, call_p enK hawake rfl ⟨rfl, rfl⟩⟩) (fun hf => ?_)
  have hf : fewF [a, b] = true := by simpa using hf
  unfold fewF at hf
  rw [Bool.and_eq_true, decide_eq_true_iff] at hf
  obtain ⟨f1, f2⟩ := few_fit hf.1
  have ha := f1 a (by simp)
  have hb := f1 b (by simp)
  rw [inP_len]
  refine br_i (fun _ => ⟨true, call_p enK hawake rfl ⟨rfl, rfl⟩⟩) (fun hl => ?_)
  have hl : l.length ≤ 50 := by simp at hl; omega
  refine ⟨_, _, call_p enT (I.at' a l ha hl) rfl ?_⟩
  refine ⟨_, _, call_p enT (I.at' b l hb hl) rfl ?_⟩
  refine ⟨_, _, call_p (enters_of Try.func24 (by kernel_rfl) rfl) (I.add a b ha hb) rfl ?_⟩
  refine ⟨_, _, call_p (enters_of Try.func26 (by kernel_rfl) rfl) (I.mul a b ha hb) rfl ?_⟩
  refine ⟨_, _, call_p (enters_of Try.func28 (by kernel_rfl) rfl) (I.max a b ha hb) rfl ?_⟩
  refine br_i (fun _ => ⟨true, call_p enK hawake rfl ⟨rfl, rfl⟩⟩) (fun e => ?_)
  refine br_i (fun _ => ⟨true, call_p enK hawake rfl ⟨rfl, rfl⟩⟩) (fun f => ?_)
  have e : (atF a l).2 = 0 := by simpa using e
  have f : (atF b l).2 = 0 := by simpa using f
  rw [at_val ha] at e ⊢
  rw [at_val hb] at f ⊢
  obtain ⟨e1, e2⟩ := numB_zero e
  obtain ⟨f1, f2⟩ := numB_zero f
  rw [e2, f2]
  have A0 := lin_nn (G_nn (xAt_nn l)) ha.pos
  have B0 := lin_nn (G_nn (xAt_nn l)) hb.pos
  refine ⟨rfl, _, _, _, _, _, _, _, _, _, _, _, rfl, ?_⟩
  unfold p6_1
  rw [show IntKind.i64.wrap (lin (G (xAt l)) a + lin (G (xAt l)) b) = lin (G (xAt l)) a + lin (G (xAt l)) b from wr_small _ (by omega) (by omega)]
  have mq : true = true ∧ r6_2 yesB [.sl (plP a), .sl (inP l), .con (.int .i64 k), .con (.int .i64 (lin (G (xAt l)) a)), .con (.int .i64 (lin (G (xAt l)) b)), .sl (plP (mulF W64 a b).1), .con (.int .i64 (mulF W64 a b).2), .sl (plP (mergeF W64 false a b).1), .con (.int .i64 (mergeF W64 false a b).2)] := ⟨rfl, _, _, _, _, _, _, _, _, _, rfl, mul_q I hawake a b l k ha hb hl e1⟩
  refine ⟨_, _, call_p enT (I.at' _ l mergeF_ok.fit hl) rfl ?_⟩
  have key : (mergeF W64 true a b).2 = 0 → atF (mergeF W64 true a b).1 l = numB (lin (G (xAt l)) a + lin (G (xAt l)) b) := fun h => by
    rw [at_val mergeF_ok.fit, add_val wr_small ha hb _ h]
  have rest : ((mergeF W64 true a b).2 = 0 → (atF (mergeF W64 true a b).1 l).2 = 0 → (atF (mergeF W64 true a b).1 l).1 = lin (G (xAt l)) a + lin (G (xAt l)) b) := fun h g => by
    rw [key h] at g ⊢
    exact (numB_zero g).2
  refine br_i (fun h0 => ?_) (fun h0 => ?_)
  · have h0' : (mergeF W64 true a b).2 = 0 := by simpa using h0
    refine br_i (fun h1 => ?_) (fun h1 => ?_)
    · exfalso
      rw [key h0'] at h1
      by_cases g : lin (G (xAt l)) a + lin (G (xAt l)) b ≤ 1099511627776
      · rw [numB_ok g] at h1; simp [g] at h1
      · rw [numB_no g] at h1; simp [g] at h1
    · refine br_i (fun _ => ?_) (fun _ => mq)
      refine br_i (fun h3 => ?_) (fun _ => mq)
      refine br_i (fun h4 => ?_) (fun _ => mq)
      exact absurd (rest h0' (by simpa using h3)) (by simpa using h4)
  · refine br_i (fun h2 => absurd h2 (by rw [h0]; simp)) (fun _ => mq)
end Go.Proofs.Ytbhbgaihhilfmaa.Deep

namespace Go.Proofs.Ytbhbgaihhilfmaa.Deep
open Go.RowKit
set_option linter.unusedVariables false
def tblS2 : TS := (.node 32 (.pure [[.cell (.int .i64)]]) (.node 17 (.pure [[.cell (.int .i64), .cell (.list), .cell (.bool)]]) (.node 10 (.pure [[.cell (.bool)]]) (.node 6 (.pure [[.cell (.bool)]]) (.node 4 (.pure [[.cell (.bool)]]) (.node 3 (.pure [[.cell (.bool)]]) .leaf .leaf) (.node 5 (.pure [[.cell (.bool)]]) .leaf .leaf)) (.node 8 (.pure [[.cell (.bool)]]) (.node 7 (.pure [[.cell (.bool)]]) .leaf .leaf) (.node 9 (.pure [[.cell (.bool)]]) .leaf .leaf))) (.node 14 (.pure [[.cell (.list), .cell (.int .i64)]]) (.node 12 (.pure [[.cell (.list), .cell (.int .i64)]]) (.node 11 (.pure [[.cell (.list), .cell (.int .i64)]]) .leaf .leaf) (.node 13 (.pure [[.cell (.list), .cell (.int .i64)]]) .leaf .leaf)) (.node 16 (.pure [[.cell (.int .i64), .cell (.int .i64)]]) (.node 15 (.pure [[.cell (.int .i64), .cell (.int .i64)]]) .leaf .leaf) .leaf))) (.node 25 (.pure [[.cell (.list), .cell (.int .i64)]]) (.node 21 (.pure [[.cell (.bool)]]) (.node 19 (.pure [[.cell (.bool)]]) (.node 18 (.pure [[.cell (.int .i64), .cell (.list), .cell (.bool)]]) .leaf .leaf) (.node 20 (.pure [[.cell (.bool)]]) .leaf .leaf)) (.node 23 (.pure [[.cell (.bool)]]) (.node 22 (.pure [[.cell (.bool)]]) .leaf .leaf) (.node 24 (.pure [[.cell (.list), .cell (.int .i64)]]) .leaf .leaf))) (.node 29 (.pure [[.cell (.list), .cell (.int .i64)]]) (.node 27 (.pure [[.cell (.list), .cell (.int .i64)]]) (.node 26 (.pure [[.cell (.list), .cell (.int .i64)]]) .leaf .leaf) (.node 28 (.pure [[.cell (.list), .cell (.int .i64)]]) .leaf .leaf)) (.node 31 (.pure [[.cell (.list), .cell (.int .i64)]]) (.node 30 (.pure [[.cell (.list), .cell (.int .i64)]]) .leaf .leaf) .leaf)))) (.node 47 (.pure [[.agg [.int .u8, .int .u8, .int .u8, .int .u8, .int .u8, .int .u8, .int .u8, .int .u8, .int .u8, .int .u8, .int .u8, .int .u8, .int .i64]]]) (.node 40 (.pure [[.cell (.bool)]]) (.node 36 (.pure [[.cell (.int .i64)]]) (.node 34 (.pure [[.cell (.list), .cell (.int .i64)]]) (.node 33 (.pure [[.cell (.bool)]]) .leaf .leaf) (.node 35 (.pure [[.cell (.bool)]]) .leaf .leaf)) (.node 38 (.pure [[.cell (.bool)]]) (.node 37 (.pure [[.cell (.int .i64), .cell (.int .i64)]]) .leaf .leaf) (.node 39 (.pure [[.cell (.int .i64)]]) .leaf .leaf))) (.node 44 (.pure [[.cell (.list), .cell (.int .i64)]]) (.node 42 (.pure [[.cell (.list)]]) (.node 41 (.pure [[.cell (.bool)]]) .leaf .leaf) (.node 43 (.pure [[.agg [.int .u8, .int .u8, .int .u8, .int .u8, .int .u8, .int .u8, .int .u8, .int .u8, .int .u8, .int .u8, .int .u8, .int .u8, .int .i64]]]) .leaf .leaf)) (.node 46 (.pure [[.cell (.list)]]) (.node 45 (.pure [[.cell (.list)]]) .leaf .leaf) .leaf))) (.node 54 (.eff [.asis, .weak] [] [.cell (.gro 0 59 13)] [.cells [.row]]) (.node 51 (.eff [.sh (.rw 0 0 5 1)] [.cells [.row]] [.cell (.int .u8)] [.keep]) (.node 49 (.pure [[.cell (.int .i64)]]) (.node 48 (.pure [[.cell (.list), .cell (.int .i64)]]) .leaf .leaf) (.node 50 (.pure [[.cell (.int .i64)]]) .leaf .leaf)) (.node 53 (.pure [[.cell (.int .i64)]]) (.node 52 (.pure [[.cell (.int .i64)]]) .leaf .leaf) .leaf)) (.node 58 (.pure [[.cell (.bool)]]) (.node 56 (.pure [[.agg [.int .u8, .int .u8, .int .u8, .int .u8, .int .u8, .int .u8, .int .u8, .int .u8, .int .u8, .int .u8, .int .u8, .int .u8]]]) (.node 55 (.pure [[.cell (.list)]]) .leaf .leaf) (.node 57 (.pure [[.cell (.list)]]) .leaf .leaf)) (.node 2000023 (.pure []) (.node 2000022 (.pure []) .leaf .leaf) .leaf)))))
def S2 (f : FuncId) : Option Sg := lookS f tblS2
end Go.Proofs.Ytbhbgaihhilfmaa.Deep

namespace Go.Proofs.Ytbhbgaihhilfmaa.Deep
open Go.RowKit
set_option linter.unusedVariables false
def loops51 (id : Nat) : Option (List Nat × List (Nat × Sh)) := match Nat.beq id 5 with | true => some ([0], [(3, .int .u8), (4, .int .i64)]) | false => none
def p51 (n1 : Nat) (r2 : List PV) (Q : PV → Heap → Prop) : Prop :=
br ((decide ((((n1 : Nat) : Int) : Int) < 1)))
  (False)
  (IdxR n1 0
  (∃ i3 : Int, RowN r2 (0 + Int.toNat 0 * 1) [(.con (.int .u8 i3))]
  (∃ I4 : Nat → ((Int) × (Int) × Unit) → Prop, (∃ n, I4 n (i3, 1, ())) ∧ ∀ (n5 : Nat) (v6 : (Int) × (Int) × Unit), I4 n5 v6 →
  (br ((decide ((v6.2.1 : Int) < ((n1 : Nat) : Int))))
  (IdxR n1 v6.2.1
  (∃ i7 : Int, RowN r2 (0 + Int.toNat v6.2.1 * 1) [(.con (.int .u8 i7))]
  ((@Eq PV (.rw 0 0 n1 5 1) (.rw 0 0 n1 5 1) ∧ True) ∧ @Eq Heap [[(.row r2)]] [[(.row r2)]] ∧ ∃ k8, k8 < n5 ∧ I4 k8 ((maxI v6.1 i7), (IntKind.wrap .i64 (v6.2.1 + 1)), ()))))
  (Q (.con (.int .u8 v6.1)) [[(.row r2)]])))))
theorem a51 (n1 : Nat) (r2 : List PV) (Q : PV → Heap → Prop) (h : p51 n1 r2 Q) : ACalls Try.prog 51 [(.rw 0 0 n1 5 1)] [[(.row r2)]] Q := by
  have hb : Option.some (bodyOf Try.f51) = Try.f51.body := by kernel_rfl
  exact acalls_canon (res := [.cell (.int .u8)]) (post := [.keep]) (acalls_eq (S := S2) (L := loops51) mixed tok Try.func51 hb.symm (by kernel_rfl) h)
def p54 (i1 : Int) (Q : PV → Heap → Prop) : Prop :=
br ((decide ((i1 : Int) < 0)))
  (False)
  (br ((decide (((IntKind.wrap .i64 (i1 - (IntKind.wrap .i64 (0 - (List.length ([] : List (List PV)) : Int))))) : Int) > 0)))
  (PieceN 0 0 0
  (0 < (IntKind.wrap .i64 (i1 - (IntKind.wrap .i64 (0 - (List.length ([] : List (List PV)) : Int))))) ∧ AppR 0 (Int.toNat (IntKind.wrap .i64 (i1 - (IntKind.wrap .i64 (0 - (List.length ([] : List (List PV)) : Int)))))) 0 (List.flatten (List.replicate (Int.toNat (IntKind.wrap .i64 (i1 - (IntKind.wrap .i64 (0 - (List.length ([] : List (List PV)) : Int)))))) [(.con (.int .u8 0)), (.con (.int .u8 0)), (.con (.int .u8 0)), (.con (.int .u8 0)), (.con (.int .u8 0)), (.con (.int .u8 0)), (.con (.int .u8 0)), (.con (.int .u8 0)), (.con (.int .u8 0)), (.con (.int .u8 0)), (.con (.int .u8 0)), (.con (.int .u8 0)), (.con (.int .i64 0))])) 13 24 PV.one
  (PieceN (Int.toNat (IntKind.wrap .i64 (i1 - (IntKind.wrap .i64 (0 - (List.length ([] : List (List PV)) : Int)))))) 0 (List.length ([] : List (List PV)) : Int)
  (Q (.rw 0 0 (Int.toNat (List.length ([] : List (List PV)) : Int)) 59 13) [[(.row (List.flatten (List.replicate (Int.toNat (IntKind.wrap .i64 (i1 - (IntKind.wrap .i64 (0 - (List.length ([] : List (List PV)) : Int)))))) [(.con (.int .u8 0)), (.con (.int .u8 0)), (.con (.int .u8 0)), (.con (.int .u8 0)), (.con (.int .u8 0)), (.con (.int .u8 0)), (.con (.int .u8 0)), (.con (.int .u8 0)), (.con (.int .u8 0)), (.con (.int .u8 0)), (.con (.int .u8 0)), (.con (.int .u8 0)), (.con (.int .i64 0))])))]]))))
  (Q (.rw 0 0 0 59 13) [[(.row [])]]))
theorem a54 (i1 : Int) (Q : PV → Heap → Prop) (h : p54 i1 Q) : ACalls Try.prog 54 [(.con (.slice none 0 0)), i1] [] Q := by
  have hb : Option.some (bodyOf Try.f54) = Try.f54.body := by kernel_rfl
  exact acalls_canon (res := [.cell (.gro 0 59 13)]) (post := [.cells [.row]]) (acalls_eq (S := S2) (L := loops32) mixed tok Try.func54 hb.symm (by kernel_rfl) h)
def p38 (i1 i2 i3 i4 i5 i6 i7 i8 i9 i10 i11 i12 i13 : Int) (Q : PV → Heap → Prop) : Prop :=
∃ i14 : Int, RowN [(.con (.int .u8 i1)), (.con (.int .u8 i2)), (.con (.int .u8 i3)), (.con (.int .u8 i4)), (.con (.int .u8 i5)), (.con (.int .u8 i6)), (.con (.int .u8 i7)), (.con (.int .u8 i8)), (.con (.int .u8 i9)), (.con (.int .u8 i10)), (.con (.int .u8 i11)), (.con (.int .u8 i12)), i13] 12 [i14]
  (br ((decide ((i14 : Int) ≥ 1)))
  (∃ i15 : Int, RowN [(.con (.int .u8 i1)), (.con (.int .u8 i2)), (.con (.int .u8 i3)), (.con (.int .u8 i4)), (.con (.int .u8 i5)), (.con (.int .u8 i6)), (.con (.int .u8 i7)), (.con (.int .u8 i8)), (.con (.int .u8 i9)), (.con (.int .u8 i10)), (.con (.int .u8 i11)), (.con (.int .u8 i12)), i13] 12 [i15]
  (br ((decide ((i15 : Int) ≤ 1099511627776)))
  (RowW 0 12 (List.length ([(.con (.int .u8 i1)), (.con (.int .u8 i2)), (.con (.int .u8 i3)), (.con (.int .u8 i4)), (.con (.int .u8 i5)), (.con (.int .u8 i6)), (.con (.int .u8 i7)), (.con (.int .u8 i8)), (.con (.int .u8 i9)), (.con (.int .u8 i10)), (.con (.int .u8 i11)), (.con (.int .u8 i12)), i13] : List PV))
  (∃ i16 : Int, CallF Try.prog 51 [(.rw 0 0 12 5 1)] [[(.row [(.con (.int .u8 i1)), (.con (.int .u8 i2)), (.con (.int .u8 i3)), (.con (.int .u8 i4)), (.con (.int .u8 i5)), (.con (.int .u8 i6)), (.con (.int .u8 i7)), (.con (.int .u8 i8)), (.con (.int .u8 i9)), (.con (.int .u8 i10)), (.con (.int .u8 i11)), (.con (.int .u8 i12)), i13])]] (.con (.int .u8 i16)) [[(.row [(.con (.int .u8 i1)), (.con (.int .u8 i2)), (.con (.int .u8 i3)), (.con (.int .u8 i4)), (.con (.int .u8 i5)), (.con (.int .u8 i6)), (.con (.int .u8 i7)), (.con (.int .u8 i8)), (.con (.int .u8 i9)), (.con (.int .u8 i10)), (.con (.int .u8 i11)), (.con (.int .u8 i12)), i13])]]
  (Q (.con (.bool (decide ((i16 : Int) ≤ 6)))) [[(.row [(.con (.int .u8 i1)), (.con (.int .u8 i2)), (.con (.int .u8 i3)), (.con (.int .u8 i4)), (.con (.int .u8 i5)), (.con (.int .u8 i6)), (.con (.int .u8 i7)), (.con (.int .u8 i8)), (.con (.int .u8 i9)), (.con (.int .u8 i10)), (.con (.int .u8 i11)), (.con (.int .u8 i12)), i13])], [(.row [])]])))
  (Q (.con (.bool false)) [[(.row [(.con (.int .u8 i1)), (.con (.int .u8 i2)), (.con (.int .u8 i3)), (.con (.int .u8 i4)), (.con (.int .u8 i5)), (.con (.int .u8 i6)), (.con (.int .u8 i7)), (.con (.int .u8 i8)), (.con (.int .u8 i9)), (.con (.int .u8 i10)), (.con (.int .u8 i11)), (.con (.int .u8 i12)), i13])]])))
  (Q (.con (.bool false)) [[(.row [(.con (.int .u8 i1)), (.con (.int .u8 i2)), (.con (.int .u8 i3)), (.con (.int .u8 i4)), (.con (.int .u8 i5)), (.con (.int .u8 i6)), (.con (.int .u8 i7)), (.con (.int .u8 i8)), (.con (.int .u8 i9)), (.con (.int .u8 i10)), (.con (.int .u8 i11)), (.con (.int .u8 i12)), i13])]]))
theorem a38 (i1 i2 i3 i4 i5 i6 i7 i8 i9 i10 i11 i12 i13 : Int) (Q : PV → Heap → Prop) (h : p38 i1 i2 i3 i4 i5 i6 i7 i8 i9 i10 i11 i12 i13 Q) : ACalls Try.prog 38 [(.agg [(.con (.int .u8 i1)), (.con (.int .u8 i2)), (.con (.int .u8 i3)), (.con (.int .u8 i4)), (.con (.int .u8 i5)), (.con (.int .u8 i6)), (.con (.int .u8 i7)), (.con (.int .u8 i8)), (.con (.int .u8 i9)), (.con (.int .u8 i10)), (.con (.int .u8 i11)), (.con (.int .u8 i12)), i13])] [] Q := by
  have hb : Option.some (bodyOf Try.f38) = Try.f38.body := by kernel_rfl
  exact acalls_eq (S := S2) (L := loops32) mixed tok Try.func38 hb.symm (by kernel_rfl) h
def loops45 (id : Nat) : Option (List Nat × List (Nat × Sh)) := match Nat.beq id 3 with | true => some ([2, 5, 11, 12], [(13, .int .i64), (1001000, .row)]) | false => none
def p45 (i1 i2 i3 i4 i5 i6 i7 i8 i9 i10 i11 i12 i13 : Int) (l14 : List (List PV)) (Q : PV → Heap → Prop) : Prop :=
MakeN (List.length l14 : Int) (List.length l14 : Int) 13 24
  (∃ I15 : Nat → ((Int) × (List PV) × Unit) → Prop, (∃ n, I15 n (0, (List.flatten (List.replicate (Int.toNat (List.length l14 : Int)) [(.con (.int .u8 0)), (.con (.int .u8 0)), (.con (.int .u8 0)), (.con (.int .u8 0)), (.con (.int .u8 0)), (.con (.int .u8 0)), (.con (.int .u8 0)), (.con (.int .u8 0)), (.con (.int .u8 0)), (.con (.int .u8 0)), (.con (.int .u8 0)), (.con (.int .u8 0)), (.con (.int .i64 0))])), ())) ∧ ∀ (n16 : Nat) (v17 : (Int) × (List PV) × Unit), I15 n16 v17 →
  (br ((decide ((v17.1 : Int) < (List.length l14 : Int))))
  (∃ (i18 i19 i20 i21 i22 i23 i24 i25 i26 i27 i28 i29 i30 : Int), IdxN l14 v17.1 [(.con (.int .u8 i18)), (.con (.int .u8 i19)), (.con (.int .u8 i20)), (.con (.int .u8 i21)), (.con (.int .u8 i22)), (.con (.int .u8 i23)), (.con (.int .u8 i24)), (.con (.int .u8 i25)), (.con (.int .u8 i26)), (.con (.int .u8 i27)), (.con (.int .u8 i28)), (.con (.int .u8 i29)), i30]
  (RowW 0 13 (List.length ([(.con (.int .u8 0)), (.con (.int .u8 0)), (.con (.int .u8 0)), (.con (.int .u8 0)), (.con (.int .u8 0)), (.con (.int .u8 0)), (.con (.int .u8 0)), (.con (.int .u8 0)), (.con (.int .u8 0)), (.con (.int .u8 0)), (.con (.int .u8 0)), (.con (.int .u8 0)), (.con (.int .i64 0))] : List PV))
  (∃ (i31 i32 i33 i34 i35 i36 i37 i38 i39 i40 i41 i42 : Int), RowN [(.con (.int .u8 i1)), (.con (.int .u8 i2)), (.con (.int .u8 i3)), (.con (.int .u8 i4)), (.con (.int .u8 i5)), (.con (.int .u8 i6)), (.con (.int .u8 i7)), (.con (.int .u8 i8)), (.con (.int .u8 i9)), (.con (.int .u8 i10)), (.con (.int .u8 i11)), (.con (.int .u8 i12)), i13] 0 [(.con (.int .u8 i31)), (.con (.int .u8 i32)), (.con (.int .u8 i33)), (.con (.int .u8 i34)), (.con (.int .u8 i35)), (.con (.int .u8 i36)), (.con (.int .u8 i37)), (.con (.int .u8 i38)), (.con (.int .u8 i39)), (.con (.int .u8 i40)), (.con (.int .u8 i41)), (.con (.int .u8 i42))]
  (∃ (i43 i44 i45 i46 i47 i48 i49 i50 i51 i52 i53 i54 : Int), RowN (splice 0 [(.con (.int .u8 i18)), (.con (.int .u8 i19)), (.con (.int .u8 i20)), (.con (.int .u8 i21)), (.con (.int .u8 i22)), (.con (.int .u8 i23)), (.con (.int .u8 i24)), (.con (.int .u8 i25)), (.con (.int .u8 i26)), (.con (.int .u8 i27)), (.con (.int .u8 i28)), (.con (.int .u8 i29)), i30] [(.con (.int .u8 0)), (.con (.int .u8 0)), (.con (.int .u8 0)), (.con (.int .u8 0)), (.con (.int .u8 0)), (.con (.int .u8 0)), (.con (.int .u8 0)), (.con (.int .u8 0)), (.con (.int .u8 0)), (.con (.int .u8 0)), (.con (.int .u8 0)), (.con (.int .u8 0)), (.con (.int .i64 0))]) 0 [(.con (.int .u8 i43)), (.con (.int .u8 i44)), (.con (.int .u8 i45)), (.con (.int .u8 i46)), (.con (.int .u8 i47)), (.con (.int .u8 i48)), (.con (.int .u8 i49)), (.con (.int .u8 i50)), (.con (.int .u8 i51)), (.con (.int .u8 i52)), (.con (.int .u8 i53)), (.con (.int .u8 i54))]
  (∃ (i55 i56 i57 i58 i59 i60 i61 i62 i63 i64 i65 i66 : Int), CallN Try.prog 56 [(.agg [(.con (.int .u8 i31)), (.con (.int .u8 i32)), (.con (.int .u8 i33)), (.con (.int .u8 i34)), (.con (.int .u8 i35)), (.con (.int .u8 i36)), (.con (.int .u8 i37)), (.con (.int .u8 i38)), (.con (.int .u8 i39)), (.con (.int .u8 i40)), (.con (.int .u8 i41)), (.con (.int .u8 i42))]), (.agg [(.con (.int .u8 i43)), (.con (.int .u8 i44)), (.con (.int .u8 i45)), (.con (.int .u8 i46)), (.con (.int .u8 i47)), (.con (.int .u8 i48)), (.con (.int .u8 i49)), (.con (.int .u8 i50)), (.con (.int .u8 i51)), (.con (.int .u8 i52)), (.con (.int .u8 i53)), (.con (.int .u8 i54))])] [[(.row [(.con (.int .u8 i1)), (.con (.int .u8 i2)), (.con (.int .u8 i3)), (.con (.int .u8 i4)), (.con (.int .u8 i5)), (.con (.int .u8 i6)), (.con (.int .u8 i7)), (.con (.int .u8 i8)), (.con (.int .u8 i9)), (.con (.int .u8 i10)), (.con (.int .u8 i11)), (.con (.int .u8 i12)), i13])], [(.row v17.2.1)], [(.row (splice 0 [(.con (.int .u8 i18)), (.con (.int .u8 i19)), (.con (.int .u8 i20)), (.con (.int .u8 i21)), (.con (.int .u8 i22)), (.con (.int .u8 i23)), (.con (.int .u8 i24)), (.con (.int .u8 i25)), (.con (.int .u8 i26)), (.con (.int .u8 i27)), (.con (.int .u8 i28)), (.con (.int .u8 i29)), i30] [(.con (.int .u8 0)), (.con (.int .u8 0)), (.con (.int .u8 0)), (.con (.int .u8 0)), (.con (.int .u8 0)), (.con (.int .u8 0)), (.con (.int .u8 0)), (.con (.int .u8 0)), (.con (.int .u8 0)), (.con (.int .u8 0)), (.con (.int .u8 0)), (.con (.int .u8 0)), (.con (.int .i64 0))]))]] (.agg [(.con (.int .u8 i55)), (.con (.int .u8 i56)), (.con (.int .u8 i57)), (.con (.int .u8 i58)), (.con (.int .u8 i59)), (.con (.int .u8 i60)), (.con (.int .u8 i61)), (.con (.int .u8 i62)), (.con (.int .u8 i63)), (.con (.int .u8 i64)), (.con (.int .u8 i65)), (.con (.int .u8 i66))])
  (∃ i67 : Int, RowN [(.con (.int .u8 i1)), (.con (.int .u8 i2)), (.con (.int .u8 i3)), (.con (.int .u8 i4)), (.con (.int .u8 i5)), (.con (.int .u8 i6)), (.con (.int .u8 i7)), (.con (.int .u8 i8)), (.con (.int .u8 i9)), (.con (.int .u8 i10)), (.con (.int .u8 i11)), (.con (.int .u8 i12)), i13] 12 [i67]
  (∃ i68 : Int, RowN (splice 0 [(.con (.int .u8 i18)), (.con (.int .u8 i19)), (.con (.int .u8 i20)), (.con (.int .u8 i21)), (.con (.int .u8 i22)), (.con (.int .u8 i23)), (.con (.int .u8 i24)), (.con (.int .u8 i25)), (.con (.int .u8 i26)), (.con (.int .u8 i27)), (.con (.int .u8 i28)), (.con (.int .u8 i29)), i30] [(.con (.int .u8 0)), (.con (.int .u8 0)), (.con (.int .u8 0)), (.con (.int .u8 0)), (.con (.int .u8 0)), (.con (.int .u8 0)), (.con (.int .u8 0)), (.con (.int .u8 0)), (.con (.int .u8 0)), (.con (.int .u8 0)), (.con (.int .u8 0)), (.con (.int .u8 0)), (.con (.int .i64 0))]) 12 [i68]
  (∃ i69 : Int, CallN Try.prog 49 [i67, i68] [[(.row [(.con (.int .u8 i1)), (.con (.int .u8 i2)), (.con (.int .u8 i3)), (.con (.int .u8 i4)), (.con (.int .u8 i5)), (.con (.int .u8 i6)), (.con (.int .u8 i7)), (.con (.int .u8 i8)), (.con (.int .u8 i9)), (.con (.int .u8 i10)), (.con (.int .u8 i11)), (.con (.int .u8 i12)), i13])], [(.row v17.2.1)], [(.row (splice 0 [(.con (.int .u8 i18)), (.con (.int .u8 i19)), (.con (.int .u8 i20)), (.con (.int .u8 i21)), (.con (.int .u8 i22)), (.con (.int .u8 i23)), (.con (.int .u8 i24)), (.con (.int .u8 i25)), (.con (.int .u8 i26)), (.con (.int .u8 i27)), (.con (.int .u8 i28)), (.con (.int .u8 i29)), i30] [(.con (.int .u8 0)), (.con (.int .u8 0)), (.con (.int .u8 0)), (.con (.int .u8 0)), (.con (.int .u8 0)), (.con (.int .u8 0)), (.con (.int .u8 0)), (.con (.int .u8 0)), (.con (.int .u8 0)), (.con (.int .u8 0)), (.con (.int .u8 0)), (.con (.int .u8 0)), (.con (.int .i64 0))]))]] i69
  (IdxR (Int.toNat (List.length l14 : Int)) v17.1
  (RowW (0 + Int.toNat v17.1 * 13) 13 (List.length v17.2.1)
  ((@Eq PV (.ptr 0 0) (.ptr 0 0) ∧ @Eq PV (.rw 1 0 (Int.toNat (List.length l14 : Int)) 59 13) (.rw 1 0 (Int.toNat (List.length l14 : Int)) 59 13) ∧ @Eq PV l14 l14 ∧ @Eq PV (.con (.int .i64 (List.length l14 : Int))) (.con (.int .i64 (List.length l14 : Int))) ∧ True) ∧ @Eq Heap [[(.row [(.con (.int .u8 i1)), (.con (.int .u8 i2)), (.con (.int .u8 i3)), (.con (.int .u8 i4)), (.con (.int .u8 i5)), (.con (.int .u8 i6)), (.con (.int .u8 i7)), (.con (.int .u8 i8)), (.con (.int .u8 i9)), (.con (.int .u8 i10)), (.con (.int .u8 i11)), (.con (.int .u8 i12)), i13])], [(.row (splice (0 + Int.toNat v17.1 * 13) [(.con (.int .u8 i55)), (.con (.int .u8 i56)), (.con (.int .u8 i57)), (.con (.int .u8 i58)), (.con (.int .u8 i59)), (.con (.int .u8 i60)), (.con (.int .u8 i61)), (.con (.int .u8 i62)), (.con (.int .u8 i63)), (.con (.int .u8 i64)), (.con (.int .u8 i65)), (.con (.int .u8 i66)), i69] v17.2.1))]] [[(.row [(.con (.int .u8 i1)), (.con (.int .u8 i2)), (.con (.int .u8 i3)), (.con (.int .u8 i4)), (.con (.int .u8 i5)), (.con (.int .u8 i6)), (.con (.int .u8 i7)), (.con (.int .u8 i8)), (.con (.int .u8 i9)), (.con (.int .u8 i10)), (.con (.int .u8 i11)), (.con (.int .u8 i12)), i13])], [(.row (splice (0 + Int.toNat v17.1 * 13) [(.con (.int .u8 i55)), (.con (.int .u8 i56)), (.con (.int .u8 i57)), (.con (.int .u8 i58)), (.con (.int .u8 i59)), (.con (.int .u8 i60)), (.con (.int .u8 i61)), (.con (.int .u8 i62)), (.con (.int .u8 i63)), (.con (.int .u8 i64)), (.con (.int .u8 i65)), (.con (.int .u8 i66)), i69] v17.2.1))]] ∧ ∃ k70, k70 < n16 ∧ I15 k70 ((IntKind.wrap .i64 (v17.1 + 1)), (splice (0 + Int.toNat v17.1 * 13) [(.con (.int .u8 i55)), (.con (.int .u8 i56)), (.con (.int .u8 i57)), (.con (.int .u8 i58)), (.con (.int .u8 i59)), (.con (.int .u8 i60)), (.con (.int .u8 i61)), (.con (.int .u8 i62)), (.con (.int .u8 i63)), (.con (.int .u8 i64)), (.con (.int .u8 i65)), (.con (.int .u8 i66)), i69] v17.2.1), ()))))))))))))
  (Q (.rw 1 0 (Int.toNat (List.length l14 : Int)) 59 13) [[(.row [(.con (.int .u8 i1)), (.con (.int .u8 i2)), (.con (.int .u8 i3)), (.con (.int .u8 i4)), (.con (.int .u8 i5)), (.con (.int .u8 i6)), (.con (.int .u8 i7)), (.con (.int .u8 i8)), (.con (.int .u8 i9)), (.con (.int .u8 i10)), (.con (.int .u8 i11)), (.con (.int .u8 i12)), i13])], [(.row v17.2.1)]])))
theorem a45 (i1 i2 i3 i4 i5 i6 i7 i8 i9 i10 i11 i12 i13 : Int) (l14 : List (List PV)) (Q : PV → Heap → Prop) (h : p45 i1 i2 i3 i4 i5 i6 i7 i8 i9 i10 i11 i12 i13 l14 Q) : ACalls Try.prog 45 [(.agg [(.con (.int .u8 i1)), (.con (.int .u8 i2)), (.con (.int .u8 i3)), (.con (.int .u8 i4)), (.con (.int .u8 i5)), (.con (.int .u8 i6)), (.con (.int .u8 i7)), (.con (.int .u8 i8)), (.con (.int .u8 i9)), (.con (.int .u8 i10)), (.con (.int .u8 i11)), (.con (.int .u8 i12)), i13]), l14] [] Q := by
  have hb : Option.some (bodyOf Try.f45) = Try.f45.body := by kernel_rfl
  exact acalls_eq (S := S2) (L := loops45) mixed tok Try.func45 hb.symm (by kernel_rfl) h
def loops42s (id : Nat) : Option (List Nat × List (Nat × Sh)) := match Nat.beq id 2 with | true => some ([2, 3], [(0, .list), (1, .list), (9, .gro 0 59 13)]) | false => none
def p42s (l1 l2 : List (List PV)) (Q : PV → Heap → Prop) : Prop :=
∃ (n3 : Nat) (r4 : List PV), CallF Try.prog 54 [(.con (.slice none 0 0)), (IntKind.wrap .i64 ((List.length l1 : Int) + (List.length l2 : Int)))] [] (.rw 0 0 n3 59 13) [[(.row r4)]]
  (∃ I5 : Nat → ((List (List PV)) × (List (List PV)) × ((Nat × List PV)) × Unit) → Prop, (∃ n, I5 n (l1, l2, (n3, r4), ())) ∧ ∀ (n6 : Nat) (v7 : (List (List PV)) × (List (List PV)) × ((Nat × List PV)) × Unit), I5 n6 v7 →
  (br ((decide (((List.length v7.1 : Int) : Int) > 0)))
  (br ((decide (((List.length v7.2.1 : Int) : Int) > 0)))
  (∃ (i8 i9 i10 i11 i12 i13 i14 i15 i16 i17 i18 i19 i20 : Int), IdxN (v7.1) 0 [(.con (.int .u8 i8)), (.con (.int .u8 i9)), (.con (.int .u8 i10)), (.con (.int .u8 i11)), (.con (.int .u8 i12)), (.con (.int .u8 i13)), (.con (.int .u8 i14)), (.con (.int .u8 i15)), (.con (.int .u8 i16)), (.con (.int .u8 i17)), (.con (.int .u8 i18)), (.con (.int .u8 i19)), i20]
  (∃ (i21 i22 i23 i24 i25 i26 i27 i28 i29 i30 i31 i32 i33 : Int), IdxN (v7.2.1) 0 [(.con (.int .u8 i21)), (.con (.int .u8 i22)), (.con (.int .u8 i23)), (.con (.int .u8 i24)), (.con (.int .u8 i25)), (.con (.int .u8 i26)), (.con (.int .u8 i27)), (.con (.int .u8 i28)), (.con (.int .u8 i29)), (.con (.int .u8 i30)), (.con (.int .u8 i31)), (.con (.int .u8 i32)), i33]
  (∃ i34 : Int, CallN Try.prog 39 [(.agg [(.con (.int .u8 i8)), (.con (.int .u8 i9)), (.con (.int .u8 i10)), (.con (.int .u8 i11)), (.con (.int .u8 i12)), (.con (.int .u8 i13)), (.con (.int .u8 i14)), (.con (.int .u8 i15)), (.con (.int .u8 i16)), (.con (.int .u8 i17)), (.con (.int .u8 i18)), (.con (.int .u8 i19)), i20]), (.agg [(.con (.int .u8 i21)), (.con (.int .u8 i22)), (.con (.int .u8 i23)), (.con (.int .u8 i24)), (.con (.int .u8 i25)), (.con (.int .u8 i26)), (.con (.int .u8 i27)), (.con (.int .u8 i28)), (.con (.int .u8 i29)), (.con (.int .u8 i30)), (.con (.int .u8 i31)), (.con (.int .u8 i32)), i33])] [[], [(.row v7.2.2.1.2)]] i34
  (br ((decide ((i34 : Int) < 0)))
  (∃ (i35 i36 i37 i38 i39 i40 i41 i42 i43 i44 i45 i46 i47 : Int), IdxN (v7.1) 0 [(.con (.int .u8 i35)), (.con (.int .u8 i36)), (.con (.int .u8 i37)), (.con (.int .u8 i38)), (.con (.int .u8 i39)), (.con (.int .u8 i40)), (.con (.int .u8 i41)), (.con (.int .u8 i42)), (.con (.int .u8 i43)), (.con (.int .u8 i44)), (.con (.int .u8 i45)), (.con (.int .u8 i46)), i47]
  (AppRG (True) v7.2.2.1.1 (List.length ([[(.con (.int .u8 i35)), (.con (.int .u8 i36)), (.con (.int .u8 i37)), (.con (.int .u8 i38)), (.con (.int .u8 i39)), (.con (.int .u8 i40)), (.con (.int .u8 i41)), (.con (.int .u8 i42)), (.con (.int .u8 i43)), (.con (.int .u8 i44)), (.con (.int .u8 i45)), (.con (.int .u8 i46)), i47]] : LL)) (List.length v7.2.2.1.2) (List.flatten ([[(.con (.int .u8 i35)), (.con (.int .u8 i36)), (.con (.int .u8 i37)), (.con (.int .u8 i38)), (.con (.int .u8 i39)), (.con (.int .u8 i40)), (.con (.int .u8 i41)), (.con (.int .u8 i42)), (.con (.int .u8 i43)), (.con (.int .u8 i44)), (.con (.int .u8 i45)), (.con (.int .u8 i46)), i47]] : LL)) 13 24 PV.one
  (∃ n48 : Nat, CutN v7.1 13 n48 1
  ((@Eq PV (.fn 39 []) (.fn 39 []) ∧ @Eq PV (.fn 43 []) (.fn 43 []) ∧ True) ∧ @Eq Heap [[]] [[]] ∧ ∃ k49, k49 < n6 ∧ I5 k49 ((List.drop n48 v7.1), v7.2.1, ((v7.2.2.1.1 + (List.length ([[(.con (.int .u8 i35)), (.con (.int .u8 i36)), (.con (.int .u8 i37)), (.con (.int .u8 i38)), (.con (.int .u8 i39)), (.con (.int .u8 i40)), (.con (.int .u8 i41)), (.con (.int .u8 i42)), (.con (.int .u8 i43)), (.con (.int .u8 i44)), (.con (.int .u8 i45)), (.con (.int .u8 i46)), i47]] : LL))), (List.take (v7.2.2.1.1 * 13) v7.2.2.1.2 ++ (List.flatten ([[(.con (.int .u8 i35)), (.con (.int .u8 i36)), (.con (.int .u8 i37)), (.con (.int .u8 i38)), (.con (.int .u8 i39)), (.con (.int .u8 i40)), (.con (.int .u8 i41)), (.con (.int .u8 i42)), (.con (.int .u8 i43)), (.con (.int .u8 i44)), (.con (.int .u8 i45)), (.con (.int .u8 i46)), i47]] : LL)))), ())))))
  (br ((decide ((i34 : Int) > 0)))
  (∃ (i50 i51 i52 i53 i54 i55 i56 i57 i58 i59 i60 i61 i62 : Int), IdxN (v7.2.1) 0 [(.con (.int .u8 i50)), (.con (.int .u8 i51)), (.con (.int .u8 i52)), (.con (.int .u8 i53)), (.con (.int .u8 i54)), (.con (.int .u8 i55)), (.con (.int .u8 i56)), (.con (.int .u8 i57)), (.con (.int .u8 i58)), (.con (.int .u8 i59)), (.con (.int .u8 i60)), (.con (.int .u8 i61)), i62]
  (AppRG (True) v7.2.2.1.1 (List.length ([[(.con (.int .u8 i50)), (.con (.int .u8 i51)), (.con (.int .u8 i52)), (.con (.int .u8 i53)), (.con (.int .u8 i54)), (.con (.int .u8 i55)), (.con (.int .u8 i56)), (.con (.int .u8 i57)), (.con (.int .u8 i58)), (.con (.int .u8 i59)), (.con (.int .u8 i60)), (.con (.int .u8 i61)), i62]] : LL)) (List.length v7.2.2.1.2) (List.flatten ([[(.con (.int .u8 i50)), (.con (.int .u8 i51)), (.con (.int .u8 i52)), (.con (.int .u8 i53)), (.con (.int .u8 i54)), (.con (.int .u8 i55)), (.con (.int .u8 i56)), (.con (.int .u8 i57)), (.con (.int .u8 i58)), (.con (.int .u8 i59)), (.con (.int .u8 i60)), (.con (.int .u8 i61)), i62]] : LL)) 13 24 PV.one
  (∃ n63 : Nat, CutN v7.2.1 13 n63 1
  ((@Eq PV (.fn 39 []) (.fn 39 []) ∧ @Eq PV (.fn 43 []) (.fn 43 []) ∧ True) ∧ @Eq Heap [[]] [[]] ∧ ∃ k64, k64 < n6 ∧ I5 k64 (v7.1, (List.drop n63 v7.2.1), ((v7.2.2.1.1 + (List.length ([[(.con (.int .u8 i50)), (.con (.int .u8 i51)), (.con (.int .u8 i52)), (.con (.int .u8 i53)), (.con (.int .u8 i54)), (.con (.int .u8 i55)), (.con (.int .u8 i56)), (.con (.int .u8 i57)), (.con (.int .u8 i58)), (.con (.int .u8 i59)), (.con (.int .u8 i60)), (.con (.int .u8 i61)), i62]] : LL))), (List.take (v7.2.2.1.1 * 13) v7.2.2.1.2 ++ (List.flatten ([[(.con (.int .u8 i50)), (.con (.int .u8 i51)), (.con (.int .u8 i52)), (.con (.int .u8 i53)), (.con (.int .u8 i54)), (.con (.int .u8 i55)), (.con (.int .u8 i56)), (.con (.int .u8 i57)), (.con (.int .u8 i58)), (.con (.int .u8 i59)), (.con (.int .u8 i60)), (.con (.int .u8 i61)), i62]] : LL)))), ())))))
  (∃ (i65 i66 i67 i68 i69 i70 i71 i72 i73 i74 i75 i76 i77 : Int), IdxN (v7.1) 0 [(.con (.int .u8 i65)), (.con (.int .u8 i66)), (.con (.int .u8 i67)), (.con (.int .u8 i68)), (.con (.int .u8 i69)), (.con (.int .u8 i70)), (.con (.int .u8 i71)), (.con (.int .u8 i72)), (.con (.int .u8 i73)), (.con (.int .u8 i74)), (.con (.int .u8 i75)), (.con (.int .u8 i76)), i77]
  (∃ (i78 i79 i80 i81 i82 i83 i84 i85 i86 i87 i88 i89 i90 : Int), IdxN (v7.2.1) 0 [(.con (.int .u8 i78)), (.con (.int .u8 i79)), (.con (.int .u8 i80)), (.con (.int .u8 i81)), (.con (.int .u8 i82)), (.con (.int .u8 i83)), (.con (.int .u8 i84)), (.con (.int .u8 i85)), (.con (.int .u8 i86)), (.con (.int .u8 i87)), (.con (.int .u8 i88)), (.con (.int .u8 i89)), i90]
  (∃ (i91 i92 i93 i94 i95 i96 i97 i98 i99 i100 i101 i102 i103 : Int), CallN Try.prog 43 [(.agg [(.con (.int .u8 i65)), (.con (.int .u8 i66)), (.con (.int .u8 i67)), (.con (.int .u8 i68)), (.con (.int .u8 i69)), (.con (.int .u8 i70)), (.con (.int .u8 i71)), (.con (.int .u8 i72)), (.con (.int .u8 i73)), (.con (.int .u8 i74)), (.con (.int .u8 i75)), (.con (.int .u8 i76)), i77]), (.agg [(.con (.int .u8 i78)), (.con (.int .u8 i79)), (.con (.int .u8 i80)), (.con (.int .u8 i81)), (.con (.int .u8 i82)), (.con (.int .u8 i83)), (.con (.int .u8 i84)), (.con (.int .u8 i85)), (.con (.int .u8 i86)), (.con (.int .u8 i87)), (.con (.int .u8 i88)), (.con (.int .u8 i89)), i90])] [[], [(.row v7.2.2.1.2)]] (.agg [(.con (.int .u8 i91)), (.con (.int .u8 i92)), (.con (.int .u8 i93)), (.con (.int .u8 i94)), (.con (.int .u8 i95)), (.con (.int .u8 i96)), (.con (.int .u8 i97)), (.con (.int .u8 i98)), (.con (.int .u8 i99)), (.con (.int .u8 i100)), (.con (.int .u8 i101)), (.con (.int .u8 i102)), i103])
  (AppRG (True) v7.2.2.1.1 (List.length ([[(.con (.int .u8 i91)), (.con (.int .u8 i92)), (.con (.int .u8 i93)), (.con (.int .u8 i94)), (.con (.int .u8 i95)), (.con (.int .u8 i96)), (.con (.int .u8 i97)), (.con (.int .u8 i98)), (.con (.int .u8 i99)), (.con (.int .u8 i100)), (.con (.int .u8 i101)), (.con (.int .u8 i102)), i103]] : LL)) (List.length v7.2.2.1.2) (List.flatten ([[(.con (.int .u8 i91)), (.con (.int .u8 i92)), (.con (.int .u8 i93)), (.con (.int .u8 i94)), (.con (.int .u8 i95)), (.con (.int .u8 i96)), (.con (.int .u8 i97)), (.con (.int .u8 i98)), (.con (.int .u8 i99)), (.con (.int .u8 i100)), (.con (.int .u8 i101)), (.con (.int .u8 i102)), i103]] : LL)) 13 24 PV.one
  (∃ n104 : Nat, CutN v7.1 13 n104 1
  (∃ n105 : Nat, CutN v7.2.1 13 n105 1
  ((@Eq PV (.fn 39 []) (.fn 39 []) ∧ @Eq PV (.fn 43 []) (.fn 43 []) ∧ True) ∧ @Eq Heap [[]] [[]] ∧ ∃ k106, k106 < n6 ∧ I5 k106 ((List.drop n104 v7.1), (List.drop n105 v7.2.1), ((v7.2.2.1.1 + (List.length ([[(.con (.int .u8 i91)), (.con (.int .u8 i92)), (.con (.int .u8 i93)), (.con (.int .u8 i94)), (.con (.int .u8 i95)), (.con (.int .u8 i96)), (.con (.int .u8 i97)), (.con (.int .u8 i98)), (.con (.int .u8 i99)), (.con (.int .u8 i100)), (.con (.int .u8 i101)), (.con (.int .u8 i102)), i103]] : LL))), (List.take (v7.2.2.1.1 * 13) v7.2.2.1.2 ++ (List.flatten ([[(.con (.int .u8 i91)), (.con (.int .u8 i92)), (.con (.int .u8 i93)), (.con (.int .u8 i94)), (.con (.int .u8 i95)), (.con (.int .u8 i96)), (.con (.int .u8 i97)), (.con (.int .u8 i98)), (.con (.int .u8 i99)), (.con (.int .u8 i100)), (.con (.int .u8 i101)), (.con (.int .u8 i102)), i103]] : LL)))), ())))))))))))))
  (AppR v7.2.2.1.1 (List.length v7.1) (List.length v7.2.2.1.2) (List.flatten v7.1) 13 24 PV.one
  (AppR (v7.2.2.1.1 + (List.length v7.1)) (List.length v7.2.1) (List.length (List.take (v7.2.2.1.1 * 13) v7.2.2.1.2 ++ (List.flatten v7.1))) (List.flatten v7.2.1) 13 24 PV.one
  (Q (.rw 3 0 ((v7.2.2.1.1 + (List.length v7.1)) + (List.length v7.2.1)) 59 13) [[], [], [], [(.row (List.take ((v7.2.2.1.1 + (List.length v7.1)) * 13) (List.take (v7.2.2.1.1 * 13) v7.2.2.1.2 ++ (List.flatten v7.1)) ++ (List.flatten v7.2.1)))]]))))
  (AppR v7.2.2.1.1 (List.length v7.1) (List.length v7.2.2.1.2) (List.flatten v7.1) 13 24 PV.one
  (AppR (v7.2.2.1.1 + (List.length v7.1)) (List.length v7.2.1) (List.length (List.take (v7.2.2.1.1 * 13) v7.2.2.1.2 ++ (List.flatten v7.1))) (List.flatten v7.2.1) 13 24 PV.one
  (Q (.rw 3 0 ((v7.2.2.1.1 + (List.length v7.1)) + (List.length v7.2.1)) 59 13) [[], [], [], [(.row (List.take ((v7.2.2.1.1 + (List.length v7.1)) * 13) (List.take (v7.2.2.1.1 * 13) v7.2.2.1.2 ++ (List.flatten v7.1)) ++ (List.flatten v7.2.1)))]])))))
theorem a42s (l1 l2 : List (List PV)) (Q : PV → Heap → Prop) (h : p42s l1 l2 Q) : ACalls Try.prog 42 [l1, l2, (.fn 39 []), (.fn 43 [])] [] Q := by
  have hb : Option.some (bodyOf Try.f42) = Try.f42.body := by kernel_rfl
  exact acalls_eq (S := S2) (L := loops42s) mixed tok Try.func42 hb.symm (by kernel_rfl) h
def loops42g (id : Nat) : Option (List Nat × List (Nat × Sh)) := match Nat.beq id 2 with | true => some ([2, 3], [(0, .list), (1, .list), (9, .gro 0 59 13)]) | false => none
def p42g (l1 l2 : List (List PV)) (Q : PV → Heap → Prop) : Prop :=
∃ (n3 : Nat) (r4 : List PV), CallF Try.prog 54 [(.con (.slice none 0 0)), (IntKind.wrap .i64 ((List.length l1 : Int) + (List.length l2 : Int)))] [] (.rw 0 0 n3 59 13) [[(.row r4)]]
  (∃ I5 : Nat → ((List (List PV)) × (List (List PV)) × ((Nat × List PV)) × Unit) → Prop, (∃ n, I5 n (l1, l2, (n3, r4), ())) ∧ ∀ (n6 : Nat) (v7 : (List (List PV)) × (List (List PV)) × ((Nat × List PV)) × Unit), I5 n6 v7 →
  (br ((decide (((List.length v7.1 : Int) : Int) > 0)))
  (br ((decide (((List.length v7.2.1 : Int) : Int) > 0)))
  (∃ (i8 i9 i10 i11 i12 i13 i14 i15 i16 i17 i18 i19 i20 : Int), IdxN (v7.1) 0 [(.con (.int .u8 i8)), (.con (.int .u8 i9)), (.con (.int .u8 i10)), (.con (.int .u8 i11)), (.con (.int .u8 i12)), (.con (.int .u8 i13)), (.con (.int .u8 i14)), (.con (.int .u8 i15)), (.con (.int .u8 i16)), (.con (.int .u8 i17)), (.con (.int .u8 i18)), (.con (.int .u8 i19)), i20]
  (∃ (i21 i22 i23 i24 i25 i26 i27 i28 i29 i30 i31 i32 i33 : Int), IdxN (v7.2.1) 0 [(.con (.int .u8 i21)), (.con (.int .u8 i22)), (.con (.int .u8 i23)), (.con (.int .u8 i24)), (.con (.int .u8 i25)), (.con (.int .u8 i26)), (.con (.int .u8 i27)), (.con (.int .u8 i28)), (.con (.int .u8 i29)), (.con (.int .u8 i30)), (.con (.int .u8 i31)), (.con (.int .u8 i32)), i33]
  (∃ i34 : Int, CallN Try.prog 39 [(.agg [(.con (.int .u8 i8)), (.con (.int .u8 i9)), (.con (.int .u8 i10)), (.con (.int .u8 i11)), (.con (.int .u8 i12)), (.con (.int .u8 i13)), (.con (.int .u8 i14)), (.con (.int .u8 i15)), (.con (.int .u8 i16)), (.con (.int .u8 i17)), (.con (.int .u8 i18)), (.con (.int .u8 i19)), i20]), (.agg [(.con (.int .u8 i21)), (.con (.int .u8 i22)), (.con (.int .u8 i23)), (.con (.int .u8 i24)), (.con (.int .u8 i25)), (.con (.int .u8 i26)), (.con (.int .u8 i27)), (.con (.int .u8 i28)), (.con (.int .u8 i29)), (.con (.int .u8 i30)), (.con (.int .u8 i31)), (.con (.int .u8 i32)), i33])] [[], [(.row v7.2.2.1.2)]] i34
  (br ((decide ((i34 : Int) < 0)))
  (∃ (i35 i36 i37 i38 i39 i40 i41 i42 i43 i44 i45 i46 i47 : Int), IdxN (v7.1) 0 [(.con (.int .u8 i35)), (.con (.int .u8 i36)), (.con (.int .u8 i37)), (.con (.int .u8 i38)), (.con (.int .u8 i39)), (.con (.int .u8 i40)), (.con (.int .u8 i41)), (.con (.int .u8 i42)), (.con (.int .u8 i43)), (.con (.int .u8 i44)), (.con (.int .u8 i45)), (.con (.int .u8 i46)), i47]
  (AppRG (True) v7.2.2.1.1 (List.length ([[(.con (.int .u8 i35)), (.con (.int .u8 i36)), (.con (.int .u8 i37)), (.con (.int .u8 i38)), (.con (.int .u8 i39)), (.con (.int .u8 i40)), (.con (.int .u8 i41)), (.con (.int .u8 i42)), (.con (.int .u8 i43)), (.con (.int .u8 i44)), (.con (.int .u8 i45)), (.con (.int .u8 i46)), i47]] : LL)) (List.length v7.2.2.1.2) (List.flatten ([[(.con (.int .u8 i35)), (.con (.int .u8 i36)), (.con (.int .u8 i37)), (.con (.int .u8 i38)), (.con (.int .u8 i39)), (.con (.int .u8 i40)), (.con (.int .u8 i41)), (.con (.int .u8 i42)), (.con (.int .u8 i43)), (.con (.int .u8 i44)), (.con (.int .u8 i45)), (.con (.int .u8 i46)), i47]] : LL)) 13 24 PV.one
  (∃ n48 : Nat, CutN v7.1 13 n48 1
  ((@Eq PV (.fn 39 []) (.fn 39 []) ∧ @Eq PV (.fn 47 []) (.fn 47 []) ∧ True) ∧ @Eq Heap [[]] [[]] ∧ ∃ k49, k49 < n6 ∧ I5 k49 ((List.drop n48 v7.1), v7.2.1, ((v7.2.2.1.1 + (List.length ([[(.con (.int .u8 i35)), (.con (.int .u8 i36)), (.con (.int .u8 i37)), (.con (.int .u8 i38)), (.con (.int .u8 i39)), (.con (.int .u8 i40)), (.con (.int .u8 i41)), (.con (.int .u8 i42)), (.con (.int .u8 i43)), (.con (.int .u8 i44)), (.con (.int .u8 i45)), (.con (.int .u8 i46)), i47]] : LL))), (List.take (v7.2.2.1.1 * 13) v7.2.2.1.2 ++ (List.flatten ([[(.con (.int .u8 i35)), (.con (.int .u8 i36)), (.con (.int .u8 i37)), (.con (.int .u8 i38)), (.con (.int .u8 i39)), (.con (.int .u8 i40)), (.con (.int .u8 i41)), (.con (.int .u8 i42)), (.con (.int .u8 i43)), (.con (.int .u8 i44)), (.con (.int .u8 i45)), (.con (.int .u8 i46)), i47]] : LL)))), ())))))
  (br ((decide ((i34 : Int) > 0)))
  (∃ (i50 i51 i52 i53 i54 i55 i56 i57 i58 i59 i60 i61 i62 : Int), IdxN (v7.2.1) 0 [(.con (.int .u8 i50)), (.con (.int .u8 i51)), (.con (.int .u8 i52)), (.con (.int .u8 i53)), (.con (.int .u8 i54)), (.con (.int .u8 i55)), (.con (.int .u8 i56)), (.con (.int .u8 i57)), (.con (.int .u8 i58)), (.con (.int .u8 i59)), (.con (.int .u8 i60)), (.con (.int .u8 i61)), i62]
  (AppRG (True) v7.2.2.1.1 (List.length ([[(.con (.int .u8 i50)), (.con (.int .u8 i51)), (.con (.int .u8 i52)), (.con (.int .u8 i53)), (.con (.int .u8 i54)), (.con (.int .u8 i55)), (.con (.int .u8 i56)), (.con (.int .u8 i57)), (.con (.int .u8 i58)), (.con (.int .u8 i59)), (.con (.int .u8 i60)), (.con (.int .u8 i61)), i62]] : LL)) (List.length v7.2.2.1.2) (List.flatten ([[(.con (.int .u8 i50)), (.con (.int .u8 i51)), (.con (.int .u8 i52)), (.con (.int .u8 i53)), (.con (.int .u8 i54)), (.con (.int .u8 i55)), (.con (.int .u8 i56)), (.con (.int .u8 i57)), (.con (.int .u8 i58)), (.con (.int .u8 i59)), (.con (.int .u8 i60)), (.con (.int .u8 i61)), i62]] : LL)) 13 24 PV.one
  (∃ n63 : Nat, CutN v7.2.1 13 n63 1
  ((@Eq PV (.fn 39 []) (.fn 39 []) ∧ @Eq PV (.fn 47 []) (.fn 47 []) ∧ True) ∧ @Eq Heap [[]] [[]] ∧ ∃ k64, k64 < n6 ∧ I5 k64 (v7.1, (List.drop n63 v7.2.1), ((v7.2.2.1.1 + (List.length ([[(.con (.int .u8 i50)), (.con (.int .u8 i51)), (.con (.int .u8 i52)), (.con (.int .u8 i53)), (.con (.int .u8 i54)), (.con (.int .u8 i55)), (.con (.int .u8 i56)), (.con (.int .u8 i57)), (.con (.int .u8 i58)), (.con (.int .u8 i59)), (.con (.int .u8 i60)), (.con (.int .u8 i61)), i62]] : LL))), (List.take (v7.2.2.1.1 * 13) v7.2.2.1.2 ++ (List.flatten ([[(.con (.int .u8 i50)), (.con (.int .u8 i51)), (.con (.int .u8 i52)), (.con (.int .u8 i53)), (.con (.int .u8 i54)), (.con (.int .u8 i55)), (.con (.int .u8 i56)), (.con (.int .u8 i57)), (.con (.int .u8 i58)), (.con (.int .u8 i59)), (.con (.int .u8 i60)), (.con (.int .u8 i61)), i62]] : LL)))), ())))))
  (∃ (i65 i66 i67 i68 i69 i70 i71 i72 i73 i74 i75 i76 i77 : Int), IdxN (v7.1) 0 [(.con (.int .u8 i65)), (.con (.int .u8 i66)), (.con (.int .u8 i67)), (.con (.int .u8 i68)), (.con (.int .u8 i69)), (.con (.int .u8 i70)), (.con (.int .u8 i71)), (.con (.int .u8 i72)), (.con (.int .u8 i73)), (.con (.int .u8 i74)), (.con (.int .u8 i75)), (.con (.int .u8 i76)), i77]
  (∃ (i78 i79 i80 i81 i82 i83 i84 i85 i86 i87 i88 i89 i90 : Int), IdxN (v7.2.1) 0 [(.con (.int .u8 i78)), (.con (.int .u8 i79)), (.con (.int .u8 i80)), (.con (.int .u8 i81)), (.con (.int .u8 i82)), (.con (.int .u8 i83)), (.con (.int .u8 i84)), (.con (.int .u8 i85)), (.con (.int .u8 i86)), (.con (.int .u8 i87)), (.con (.int .u8 i88)), (.con (.int .u8 i89)), i90]
  (∃ (i91 i92 i93 i94 i95 i96 i97 i98 i99 i100 i101 i102 i103 : Int), CallN Try.prog 47 [(.agg [(.con (.int .u8 i65)), (.con (.int .u8 i66)), (.con (.int .u8 i67)), (.con (.int .u8 i68)), (.con (.int .u8 i69)), (.con (.int .u8 i70)), (.con (.int .u8 i71)), (.con (.int .u8 i72)), (.con (.int .u8 i73)), (.con (.int .u8 i74)), (.con (.int .u8 i75)), (.con (.int .u8 i76)), i77]), (.agg [(.con (.int .u8 i78)), (.con (.int .u8 i79)), (.con (.int .u8 i80)), (.con (.int .u8 i81)), (.con (.int .u8 i82)), (.con (.int .u8 i83)), (.con (.int .u8 i84)), (.con (.int .u8 i85)), (.con (.int .u8 i86)), (.con (.int .u8 i87)), (.con (.int .u8 i88)), (.con (.int .u8 i89)), i90])] [[], [(.row v7.2.2.1.2)]] (.agg [(.con (.int .u8 i91)), (.con (.int .u8 i92)), (.con (.int .u8 i93)), (.con (.int .u8 i94)), (.con (.int .u8 i95)), (.con (.int .u8 i96)), (.con (.int .u8 i97)), (.con (.int .u8 i98)), (.con (.int .u8 i99)), (.con (.int .u8 i100)), (.con (.int .u8 i101)), (.con (.int .u8 i102)), i103])
  (AppRG (True) v7.2.2.1.1 (List.length ([[(.con (.int .u8 i91)), (.con (.int .u8 i92)), (.con (.int .u8 i93)), (.con (.int .u8 i94)), (.con (.int .u8 i95)), (.con (.int .u8 i96)), (.con (.int .u8 i97)), (.con (.int .u8 i98)), (.con (.int .u8 i99)), (.con (.int .u8 i100)), (.con (.int .u8 i101)), (.con (.int .u8 i102)), i103]] : LL)) (List.length v7.2.2.1.2) (List.flatten ([[(.con (.int .u8 i91)), (.con (.int .u8 i92)), (.con (.int .u8 i93)), (.con (.int .u8 i94)), (.con (.int .u8 i95)), (.con (.int .u8 i96)), (.con (.int .u8 i97)), (.con (.int .u8 i98)), (.con (.int .u8 i99)), (.con (.int .u8 i100)), (.con (.int .u8 i101)), (.con (.int .u8 i102)), i103]] : LL)) 13 24 PV.one
  (∃ n104 : Nat, CutN v7.1 13 n104 1
  (∃ n105 : Nat, CutN v7.2.1 13 n105 1
  ((@Eq PV (.fn 39 []) (.fn 39 []) ∧ @Eq PV (.fn 47 []) (.fn 47 []) ∧ True) ∧ @Eq Heap [[]] [[]] ∧ ∃ k106, k106 < n6 ∧ I5 k106 ((List.drop n104 v7.1), (List.drop n105 v7.2.1), ((v7.2.2.1.1 + (List.length ([[(.con (.int .u8 i91)), (.con (.int .u8 i92)), (.con (.int .u8 i93)), (.con (.int .u8 i94)), (.con (.int .u8 i95)), (.con (.int .u8 i96)), (.con (.int .u8 i97)), (.con (.int .u8 i98)), (.con (.int .u8 i99)), (.con (.int .u8 i100)), (.con (.int .u8 i101)), (.con (.int .u8 i102)), i103]] : LL))), (List.take (v7.2.2.1.1 * 13) v7.2.2.1.2 ++ (List.flatten ([[(.con (.int .u8 i91)), (.con (.int .u8 i92)), (.con (.int .u8 i93)), (.con (.int .u8 i94)), (.con (.int .u8 i95)), (.con (.int .u8 i96)), (.con (.int .u8 i97)), (.con (.int .u8 i98)), (.con (.int .u8 i99)), (.con (.int .u8 i100)), (.con (.int .u8 i101)), (.con (.int .u8 i102)), i103]] : LL)))), ())))))))))))))
  (AppR v7.2.2.1.1 (List.length v7.1) (List.length v7.2.2.1.2) (List.flatten v7.1) 13 24 PV.one
  (AppR (v7.2.2.1.1 + (List.length v7.1)) (List.length v7.2.1) (List.length (List.take (v7.2.2.1.1 * 13) v7.2.2.1.2 ++ (List.flatten v7.1))) (List.flatten v7.2.1) 13 24 PV.one
  (Q (.rw 3 0 ((v7.2.2.1.1 + (List.length v7.1)) + (List.length v7.2.1)) 59 13) [[], [], [], [(.row (List.take ((v7.2.2.1.1 + (List.length v7.1)) * 13) (List.take (v7.2.2.1.1 * 13) v7.2.2.1.2 ++ (List.flatten v7.1)) ++ (List.flatten v7.2.1)))]]))))
  (AppR v7.2.2.1.1 (List.length v7.1) (List.length v7.2.2.1.2) (List.flatten v7.1) 13 24 PV.one
  (AppR (v7.2.2.1.1 + (List.length v7.1)) (List.length v7.2.1) (List.length (List.take (v7.2.2.1.1 * 13) v7.2.2.1.2 ++ (List.flatten v7.1))) (List.flatten v7.2.1) 13 24 PV.one
  (Q (.rw 3 0 ((v7.2.2.1.1 + (List.length v7.1)) + (List.length v7.2.1)) 59 13) [[], [], [], [(.row (List.take ((v7.2.2.1.1 + (List.length v7.1)) * 13) (List.take (v7.2.2.1.1 * 13) v7.2.2.1.2 ++ (List.flatten v7.1)) ++ (List.flatten v7.2.1)))]])))))
theorem a42g (l1 l2 : List (List PV)) (Q : PV → Heap → Prop) (h : p42g l1 l2 Q) : ACalls Try.prog 42 [l1, l2, (.fn 39 []), (.fn 47 [])] [] Q := by
  have hb : Option.some (bodyOf Try.f42) = Try.f42.body := by kernel_rfl
  exact acalls_eq (S := S2) (L := loops42g) mixed tok Try.func42 hb.symm (by kernel_rfl) h
end Go.Proofs.Ytbhbgaihhilfmaa.Deep
