/-
  Texts of one proof, in their order. No condition.
-/
import Derived.Test.YtjhnmikciejekaaGreatRows
import Derived.ProofKit
import Derived.OpenShut
import Derived.Handy
import Derived.WalkSmall
import Derived.Laws.BitsAllLaws
import Derived.Lib.Hide
namespace Go.Proofs.YtjhnmikciejekaaGreat
open Go.ChangeShapes Go.WideShapes Go.ChangeAt Go.RowKit
theorem ret_bool {a b : Bool} (h : a = b) : Ending.returned (.bool a) = .returned (.bool b) := by rw [h]
def validB (r : Int) : Bool := decide ((0 ≤ r ∧ r < 55296) ∨ (57343 < r ∧ r ≤ 1114111))
def lowB (r : Int) : Bool := decide ((97 ≤ r ∧ r ≤ 122) ∨ (128 ≤ r ∧ r < 55296) ∨ (57343 < r ∧ r ≤ 1114111))
def upB (r : Int) : Bool := decide (65 ≤ r ∧ r ≤ 90)
def digB (r : Int) : Bool := decide (48 ≤ r ∧ r ≤ 57)
def blankB (r : Int) : Bool := decide (r = 9 ∨ r = 10 ∨ r = 13 ∨ r = 32)
theorem eq_validB {a : Bool} {r : Int} (h : a = true ↔ ((0 ≤ r ∧ r < 55296) ∨ (57343 < r ∧ r ≤ 1114111))) : a = validB r := by
  rw [Bool.eq_iff_iff, h]; simp [validB]
theorem eq_lowB {a : Bool} {r : Int} (h : a = true ↔ ((97 ≤ r ∧ r ≤ 122) ∨ (128 ≤ r ∧ r < 55296) ∨ (57343 < r ∧ r ≤ 1114111))) : a = lowB r := by
  rw [Bool.eq_iff_iff, h]; simp [lowB]
theorem eq_upB {a : Bool} {r : Int} (h : a = true ↔ (65 ≤ r ∧ r ≤ 90)) : a = upB r := by
  rw [Bool.eq_iff_iff, h]; simp [upB]
theorem eq_digB {a : Bool} {r : Int} (h : a = true ↔ (48 ≤ r ∧ r ≤ 57)) : a = digB r := by
  rw [Bool.eq_iff_iff, h]; simp [digB]
theorem eq_blankB {a : Bool} {r : Int} (h : a = true ↔ (r = 9 ∨ r = 10 ∨ r = 13 ∨ r = 32)) : a = blankB r := by
  rw [Bool.eq_iff_iff, h]; simp [blankB]
theorem validB_iff (r : Int) : validB r = true ↔ ((0 ≤ r ∧ r < 55296) ∨ (57343 < r ∧ r ≤ 1114111)) := by simp [validB]
theorem valid_any (r : Int) (w : World) : Calls Tryz.prog 176 #[.int .i32 r] w fun e w' => e = .returned (.bool (validB r)) ∧ w = w' := by
  go_enter Tryz.func176, Tryz.ntmps176
  go_wp2
  all_goals (go_ret; exact ⟨ret_bool (eq_validB (by simp <;> omega)), rfl⟩)
theorem low_any (r : Int) (w : World) : Calls Tryz.prog 146 #[.int .i32 r] w fun e w' => e = .returned (.bool (lowB r)) ∧ w = w' := by
  go_enter Tryz.func146, Tryz.ntmps146
  go_wp2_with (go_at_call 176; ((with_reducible refine (valid_any _ _).mono ?_); rintro e w' ⟨rfl, rfl⟩))
  all_goals (go_ret; exact ⟨ret_bool (eq_lowB (by simp [validB_iff] <;> omega)), rfl⟩)
theorem up_any (r : Int) (w : World) : Calls Tryz.prog 147 #[.int .i32 r] w fun e w' => e = .returned (.bool (upB r)) ∧ w = w' := by
  go_enter Tryz.func147, Tryz.ntmps147
  go_wp2
  all_goals (go_ret; exact ⟨ret_bool (eq_upB (by simp <;> omega)), rfl⟩)
theorem dig_any (r : Int) (w : World) : Calls Tryz.prog 150 #[.int .i32 r] w fun e w' => e = .returned (.bool (digB r)) ∧ w = w' := by
  go_enter Tryz.func150, Tryz.ntmps150
  go_wp2
  all_goals (go_ret; exact ⟨ret_bool (eq_digB (by simp <;> omega)), rfl⟩)
theorem blank_any (r : Int) (w : World) : Calls Tryz.prog 199 #[.int .i32 r] w fun e w' => e = .returned (.bool (blankB r)) ∧ w = w' := by
  go_enter Tryz.func199, Tryz.ntmps199
  go_wp2
  all_goals (go_ret; exact ⟨ret_bool (eq_blankB (by simp <;> omega)), rfl⟩)
def nlL (r L : Int) : Int := if r = 10 then L + 1 else L
def nlC (r C : Int) : Int := if r = 10 then 1 else C + 1
theorem behind_any (L C r : Int) (hL0 : 0 ≤ L) (hL : L ≤ 100000) (hC0 : 0 ≤ C) (hC : C ≤ 100000) (w : World) : Calls Tryz.prog 142 #[.agg #[.int .i64 L, .int .i64 C], .int .i32 r] w fun e w' => e = .returned (.agg #[.int .i64 (nlL r L), .int .i64 (nlC r C)]) ∧ Below w.heap.size w w' := by
  by_cases h : r = 10
  · subst h
    go_enter Tryz.func142, Tryz.ntmps142
    go_wp2
    exact bodyPost_ret (v := .agg #[.int .i64 (L + 1), .int .i64 1]) (by simp [results, Tryz.results142, go_sem]) rfl ⟨rfl, ((Below.refl _ _).alloc (Nat.le_refl _) _).alloc (by simp) _⟩
  · have h1 : (r == 10) = false := by simpa using h
    have hl : nlL r L = L := if_neg h
    have hc : nlC r C = C + 1 := if_neg h
    rw [hl, hc]; clear hl hc h
    go_enter Tryz.func142, Tryz.ntmps142
    go_wp2
    exact bodyPost_ret (v := .agg #[.int .i64 L, .int .i64 (C + 1)]) (by simp [results, Tryz.results142, go_sem]) rfl ⟨rfl, ((Below.refl _ _).alloc (Nat.le_refl _) _).alloc (by simp) _⟩
end Go.Proofs.YtjhnmikciejekaaGreat
