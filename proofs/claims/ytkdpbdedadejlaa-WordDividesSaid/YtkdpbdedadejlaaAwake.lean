/-
  The document's own examples of chapter 1 hold of the calls of package word. No condition.
-/
import Derived.Test.YtkdpbdedadejlaaCalls
namespace Go.Proofs.Ytkdpbdedadejlaa
open Go.ChangeShapes Go.WideShapes Go.ChangeAt Go.RowKit

theorem bne_no {x y : Int} (h : x = y) : (x != y) = false := by subst h; simp
theorem beq_yes {x y : Int} (h : x = y) : (x == y) = true := by subst h; simp
theorem awake_any (w : World) : Calls Try.prog 22 #[] w fun e w' => e = .returned (.bool true) ∧ w = w' := by
  have e1 : (nm 4611686018427387904 == -4611686018427387904) = true := by rw [ex_wrap]; rfl
  have e2 : (doN 3 (-7) 2 == -3) = true := by decide
  have e3 : (doN 4 (-7) 2 == -1) = true := by decide
  have e4 : (doN 4 5 0 == 5) = true := by decide
  have e5 : (immN 3 == 7) = true := by decide
  go_enter Try.func22, Try.ntmps22
  go_wp2_with (first | (go_at_call 12; ((with_reducible refine (Wrap_any _ _).mono ?_); rintro e w' ⟨rfl, rfl⟩)) | (go_at_call 14; ((with_reducible refine (do_any _ _ _ _).mono ?_); rintro e w' ⟨rfl, rfl⟩)) | (go_at_call 18; ((with_reducible refine (imm_any _ _).mono ?_); rintro e w' ⟨rfl, rfl⟩)) | (go_at_call 20; ((with_reducible refine (ptr_any _ (by omega) (by omega) _).mono ?_); rintro e w' ⟨rfl, rfl⟩)))
  go_ret
  exact ⟨rfl, rfl⟩
end Go.Proofs.Ytkdpbdedadejlaa
