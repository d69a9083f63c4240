/-
  Texts of one proof, in their order. No condition.
-/
import Derived.Test.YtcmnjodjebcapaaGreatFtNamesW
namespace Go.Proofs.YtcmnjodjebcapaaGreat
open Go.ChangeShapes Go.WideShapes Go.ChangeAt Go.RowKit
set_option linter.unusedVariables false
structure Six (W : World) (g o : Nat) (a b n s l c : Value) : Prop where
  lt : g < W.heap.size
  c0 : W.cell? ⟨g, o, none⟩ = some a
  c1 : W.cell? ⟨g, o + 1, none⟩ = some b
  c2 : W.cell? ⟨g, o + 2, none⟩ = some n
  c3 : W.cell? ⟨g, o + 3, none⟩ = some s
  c4 : W.cell? ⟨g, o + 4, none⟩ = some l
  c5 : W.cell? ⟨g, o + 5, none⟩ = some c
theorem Six.below {W W' : World} {g o : Nat} {a b n s l c : Value} (h : Six W g o a b n s l c) (hb : Below W.heap.size W W') : Six W' g o a b n s l c :=
  ⟨Nat.lt_of_lt_of_le h.lt hb.size, cells_below hb h.lt h.c0, cells_below hb h.lt h.c1, cells_below hb h.lt h.c2, cells_below hb h.lt h.c3, cells_below hb h.lt h.c4, cells_below hb h.lt h.c5⟩
theorem Six.alloc {W : World} {g o : Nat} {a b n s l c : Value} (h : Six W g o a b n s l c) (x : Obj) : Six (W.alloc x) g o a b n s l c := h.below ((Below.refl _ _).alloc (Nat.le_refl _) _)
end Go.Proofs.YtcmnjodjebcapaaGreat
