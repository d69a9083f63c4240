/-
  What the row's list of library tables gives the walks: the table of tens holds its numbers.
-/
import Derived.Test.YtdmgpeflanjngaaDoorShown
import Derived.Lib.LaidTab
namespace Go.Proofs.YtdmgpeflanjngaaDoor
open Go.RowKit

theorem gTens : Tryd.prog.globalNamed "internal/strconv.uint64pow10" = some 0 := by kernel_rfl
theorem gTensType : (Tryd.prog.globals[0]?).map (·.type) = some 103 := by kernel_rfl
theorem cells103 : Tryd.prog.cellsOf 103 = 20 := by kernel_rfl
theorem cells94 : Tryd.prog.cellsOf 94 = 1 := by kernel_rfl
set_option maxRecDepth 100000 in
theorem tens_of {W : World} (h : laidMetH Tryd.prog Rows.lexBackRow.laid W) : Tens W := by
  have h2 : laidMet Tryd.prog Rows.lexBackRow.laid W := h
  obtain ⟨ps, ⟨g0, t0, cs0, f0, p0, q0, hg0, ht0, hv0, hd0, ⟨g1, t1, cs1, f1, p1, q1, hg1, ht1, hv1, hd1, ⟨g2, t2, cs2, f2, p2, q2, hg2, ht2, hv2, hd2, _, _⟩, _⟩, _⟩, _, _⟩ := h2
  obtain rfl := Option.some.inj (gTens.symm.trans hg2)
  obtain rfl := Option.some.inj (gTensType.symm.trans ht2)
  unfold Tens Lib.TabIs
  rw [hv2, ← Lib.cells_of_tab (zs := Lib.pow10Tab) Tryd.underlying103 Tryd.underlying94 cells94 cells103 hd2]
end Go.Proofs.YtdmgpeflanjngaaDoor
