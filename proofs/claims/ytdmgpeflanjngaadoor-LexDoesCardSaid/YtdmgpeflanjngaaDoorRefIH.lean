/-
  What the document's own one tells of a row of runes at a place: the token that begins there. No condition but that the row lies in memory.
-/
import Derived.Test.YtdmgpeflanjngaaDoorRefB
import Derived.Test.YtdmgpeflanjngaaDoorRefC
import Derived.Test.YtdmgpeflanjngaaDoorLine
namespace Go.Proofs.YtdmgpeflanjngaaDoor
open Go.ChangeShapes Go.WideShapes Go.ChangeAt Go.RowKit
set_option linter.unusedVariables false

def OneTells (rs : List Ent) (i : Nat) (L C : Int) (w : World) (e : Ending) (w' : World) : Prop :=
  Below w.heap.size w w' ∧ ((∃ er a b n A' n' c' k, tokF i L C ((runesI rs).drop i) = .inl er ∧ er ≠ 0 ∧ e = .returned (.tuple #[.agg #[.int .i64 a, .string b, .int .i64 n, .slice A' n' c', .int .i64 L, .int .i64 C], .int .i64 k, .int .i64 er])) ∨
    (∃ t k' A' n' c', tokF i L C ((runesI rs).drop i) = .inr (t, k') ∧ e = .returned (.tuple #[.agg #[.int .i64 t.kind, .string ⟨t.text.toArray⟩, .int .i64 t.num, .slice A' n' c', .int .i64 t.line, .int .i64 t.col], .int .i64 ((k' : Int) - i), .int .i64 0]) ∧ w'.ownsRow w.heap.size 5 1 (.slice A' n' c') t.bytes.length (Lib.byteCells t.bytes)))
/-- The token is laid into the result's block, and told. -/
theorem one_end {W : World} {U : Nat} {a b n s l c x0 x1 x2 x3 x4 x5 k er : Value} {tmps : Array Value} {Q : Ending → World → Prop} (hU : TkAt W U a b n s l c) (t4 : tmps[4]?.getD undef = .pointer (some ⟨U, 0, none⟩)) (t5 : tmps[5]?.getD undef = k) (t6 : tmps[6]?.getD undef = er)
    (hQ : ∀ F, TkAt F U x0 x1 x2 x3 x4 x5 → Two W F U U → Q (.returned (.tuple #[.agg #[x0, x1, x2, x3, x4, x5], k, er])) F) :
    bodyPost Tryd.prog Tryd.f23 Q .ret { tmps := tmps, defers := [] } ((((((W.setCell ⟨U, 0, none⟩ x0).setCell ⟨U, 1, none⟩ x1).setCell ⟨U, 2, none⟩ x2).setCell ⟨U, 3, none⟩ x3).setCell ⟨U, 4, none⟩ x4).setCell ⟨U, 5, none⟩ x5) := by
  have hF := hU.fill x0 x1 x2 x3 x4 x5
  have h2 : Two W ((((((W.setCell ⟨U, 0, none⟩ x0).setCell ⟨U, 1, none⟩ x1).setCell ⟨U, 2, none⟩ x2).setCell ⟨U, 3, none⟩ x3).setCell ⟨U, 4, none⟩ x4).setCell ⟨U, 5, none⟩ x5) U U :=
    ((((((Two.refl W U U).set (.inl rfl) _).set (.inl rfl) _).set (.inl rfl) _).set (.inl rfl) _).set (.inl rfl) _).set (.inl rfl) _
  generalize ((((((W.setCell ⟨U, 0, none⟩ x0).setCell ⟨U, 1, none⟩ x1).setCell ⟨U, 2, none⟩ x2).setCell ⟨U, 3, none⟩ x3).setCell ⟨U, 4, none⟩ x4).setCell ⟨U, 5, none⟩ x5) = F at hF h2
  obtain ⟨c0, c1, c2, c3, c4, c5⟩ := hF.cells
  refine bodyPost_ret (v := .tuple #[.agg #[x0, x1, x2, x3, x4, x5], k, er]) ?_ rfl (hQ F hF h2)
  simp [results, Tryd.results23, go_sem, t4, t5, t6, c0, c1, c2, c3, c4, c5]
theorem TkAt.set1 {W : World} {U : Nat} {a b n s l c : Value} (h : TkAt W U a b n s l c) (x : Value) : TkAt (W.setCell ⟨U, 1, none⟩ x) U a x n s l c := by
  have : W.heap[U]? = _ := h
  simp [TkAt, World.setCell, Array.getElem?_modify, this]
end Go.Proofs.YtdmgpeflanjngaaDoor
