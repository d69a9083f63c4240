/-
  Texts of one proof, in their order. No condition.
-/
import Derived.Test.YtcmnjodjebcapaaGreatFtOne
import Derived.Test.YtcmnjodjebcapaaGreatFtPlace
namespace Go.Proofs.YtcmnjodjebcapaaGreat
open Go.ChangeShapes Go.WideShapes Go.ChangeAt Go.RowKit
set_option linter.unusedVariables false
structure QMem (w : World) (wr : World) (L C : Int) : Prop where
  res : wr.heap[w.heap.size]? = some (.cells #[.int .i64 0, .int .i64 0] 28 (0, 0))
  at_ : wr.heap[w.heap.size + 1]? = some (.cells #[.int .i64 L, .int .i64 C] 28 (0, 0))
  below : Below w.heap.size w wr
  size : w.heap.size + 1 + 1 ≤ wr.heap.size
structure QSums (s : ByteArray) (off : Int) (pos f : Nat) (L C : Int) : Prop where
  all : placeF s off f pos L C = placeOf s off
  fuel : s.size ≤ pos + f
  pos_le : pos ≤ s.size
  lo : 1 ≤ L ∧ 1 ≤ C ∧ L ≤ pos + 1 ∧ C ≤ pos + 1
theorem QSums.step {s : ByteArray} {off : Int} {pos f : Nat} {L C : Int} (h : QSums s off pos f L C) (hp : pos < s.size) (ho : ¬ off < (pos : Int) + ((Utf8.decode s pos).2 : Int)) :
    QSums s off (pos + (Utf8.decode s pos).2) (f - 1) (nlL (Utf8.decode s pos).1 L) (nlC (Utf8.decode s pos).1 C) := by
  have hw := dec_width s pos hp
  have hf := h.fuel
  have hl := h.lo
  have hn := nl_le (Utf8.decode s pos).1 L C hl.1 hl.2.1
  obtain ⟨g, rfl⟩ : ∃ g, f = g + 1 := ⟨f - 1, by omega⟩
  exact ⟨by rw [← h.all, placeF_on s off g pos L C hp ho]; rfl, by omega, by omega, by omega⟩
section
variable {w wr w' : World} {L C : Int}
theorem QMem.cells (M : QMem w wr L C) : wr.cell? ⟨w.heap.size, 0, none⟩ = some (.int .i64 0) ∧ wr.cell? ⟨w.heap.size, 1, none⟩ = some (.int .i64 0) ∧ wr.cell? ⟨w.heap.size + 1, 0, none⟩ = some (.int .i64 L) ∧ wr.cell? ⟨w.heap.size + 1, 1, none⟩ = some (.int .i64 C) :=
  ⟨cell_of_row wr _ 0 _ 28 (0, 0) M.res, cell_of_row wr _ 1 _ 28 (0, 0) M.res, cell_of_row wr _ 0 _ 28 (0, 0) M.at_, cell_of_row wr _ 1 _ 28 (0, 0) M.at_⟩
theorem QMem.frees (M : QMem w wr L C) (i : Nat) : wr.frozen? ⟨w.heap.size, i, none⟩ = false ∧ wr.frozen? ⟨w.heap.size + 1, i, none⟩ = false := by
  have h1 := M.res; have h2 := M.at_
  refine ⟨?_, ?_⟩ <;> simp [World.frozen?, h1, h2]
theorem QMem.later (M : QMem w wr L C) (hb : Below wr.heap.size wr w') : QMem w w' L C := by
  have hz := M.size
  exact ⟨(hb.block _ (by omega)).trans M.res, (hb.block _ (by omega)).trans M.at_, M.below.trans (hb.mono (by omega)), Nat.le_trans hz hb.size⟩
theorem QMem.store (M : QMem w wr L C) (a b : Int) : QMem w ((wr.setCell ⟨w.heap.size + 1, 0, none⟩ (.int .i64 a)).setCell ⟨w.heap.size + 1, 1, none⟩ (.int .i64 b)) a b := by
  obtain ⟨h1, h2, h3, h4⟩ := M
  refine ⟨?_, ?_, (h3.setCell (by simp) _).setCell (by simp) _, by simpa [World.setCell] using h4⟩
  · rw [Below.heap_setCell _ _ _ _ (by simp), Below.heap_setCell _ _ _ _ (by simp)]; exact h1
  · simp [World.setCell, Array.getElem?_modify, h2]
end
end Go.Proofs.YtcmnjodjebcapaaGreat
