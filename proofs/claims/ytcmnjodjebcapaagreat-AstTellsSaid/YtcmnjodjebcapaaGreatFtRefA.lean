/-
  Texts of one proof, in their order. No condition.
-/
import Derived.Deep.QuietTactic
import Derived.BigQuiet
import Derived.Lib.QuietBelow
import Derived.Shelf.Strconv.Itoa4
import Derived.Ground.NamesProg
import Derived.Lib.AppendIntMem
import Derived.Test.YtcmnjodjebcapaaGreatFtRefs
import Derived.Test.YtcmnjodjebcapaaGreatFtNamesO
import Derived.Test.YtcmnjodjebcapaaGreatFtSame
namespace Go.Proofs.YtcmnjodjebcapaaGreat
open Go.ChangeShapes Go.WideShapes Go.ChangeAt Go.RowKit
set_option linter.unusedVariables false
structure RRow (W : World) (A : Option Addr) (n c : Nat) (l : List Ent) : Prop where
  len : n = l.length
  cap : n ≤ c
  at' : 0 < n → ∃ g, A = some ⟨g, 0, none⟩ ∧ g < W.heap.size ∧ ∀ k e, l[k]? = some e → W.cell? ⟨g, k * 4, none⟩ = some (.int .i32 e.1) ∧ W.cell? ⟨g, k * 4 + 1, none⟩ = some (.int .i64 (e.2.1 : Int)) ∧ W.cell? ⟨g, k * 4 + 2, none⟩ = some (.int .i64 e.2.2.1) ∧ W.cell? ⟨g, k * 4 + 3, none⟩ = some (.int .i64 e.2.2.2)
theorem RRow.of_owns {w : World} {B : Nat} {A : Option Addr} {n c : Nat} {l : List Ent} (hn : n = l.length) (h : w.ownsRow B 230 4 (.slice A n c) n (listCells l)) : RRow w A n c l := by
  refine ⟨hn, owns_cap h, fun h0 => ?_⟩
  obtain ⟨g, hA, _, hg, _, hx⟩ := owns_cell h h0
  refine ⟨g, hA, hg, fun k e he => ?_⟩
  obtain ⟨x0, x1, x2, x3⟩ := listCells_at l k e he
  exact ⟨hx _ _ x0, hx _ _ x1, hx _ _ x2, hx _ _ x3⟩
theorem RRow.below {w w' : World} {A : Option Addr} {n c : Nat} {l : List Ent} (h : RRow w A n c l) (hb : Below w.heap.size w w') : RRow w' A n c l := by
  refine ⟨h.len, h.cap, fun h0 => ?_⟩
  obtain ⟨g, hA, hg, hx⟩ := h.at' h0
  refine ⟨g, hA, Nat.lt_of_lt_of_le hg hb.size, fun k e he => ?_⟩
  obtain ⟨x0, x1, x2, x3⟩ := hx k e he
  exact ⟨cell_kept hb hg x0, cell_kept hb hg x1, cell_kept hb hg x2, cell_kept hb hg x3⟩
end Go.Proofs.YtcmnjodjebcapaaGreat
