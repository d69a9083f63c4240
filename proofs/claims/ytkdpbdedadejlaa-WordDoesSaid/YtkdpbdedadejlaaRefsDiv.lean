/-
  Quotient and rest among the document's own answers of layer 1. No condition but that an argument is of its own kind.
-/
import Derived.Test.YtkdpbdedadejlaaRefs
import Derived.Lib.Hide
namespace Go.Proofs.Ytkdpbdedadejlaa
open Go.ChangeShapes Go.WideShapes Go.ChangeAt Go.RowKit

theorem nm_urest2 (x y q : Int) : nm (IntKind.u64.wrap x - IntKind.u64.wrap (IntKind.u64.wrap y * q)) = nm (x - y * q) := by
  have e : nm (IntKind.u64.wrap y * q) = nm (y * q) := nm_eq (by rw [Int.mul_emod, u_mod, ← Int.mul_emod])
  rw [nm_usub, ← nm_subr, e, nm_subr]
theorem rest_of (a b q : Int) (hb : nm b ≠ 0) (h : (nm a).tdiv (nm b) = q) : nm (nm a - nm b * q) = modN a b := by
  unfold modN; rw [if_neg hb, ← h]
  have e := Int.tmod_def (nm a) (nm b)
  have t := tmod_bd (nm a) (nm b) (nm_lo a) (nm_hi a)
  rw [← e, nm_in t.1 t.2]
theorem over_of (a b q : Int) (hb : nm b ≠ 0) (h : (nm a).tdiv (nm b) = q) : nm q = divN a b := by
  unfold divN; rw [if_neg hb, ← h]

set_option maxHeartbeats 1000000 in
theorem rdo_div (a b : Int) (w : World) : Calls Try.prog 15 #[.int .i64 3, .int .i64 a, .int .i64 b] w fun e w' => e = .returned (.int .i64 (divN a b)) ∧ w = w' := by
  have x0 := nm_lo a
  have x1 := nm_hi a
  have y0 := nm_lo b
  have y1 := nm_hi b
  by_cases hb : nm b = 0
  · have hz : (nm b != 0) = false := by rw [hb]; rfl
    clear y0 y1
    go_enter Try.func15, Try.ntmps15
    go_wp2_with (first | (go_at_call 13; ((with_reducible refine (rwrap_any _ _).mono ?_); rintro e w' ⟨rfl, rfl⟩)) | (go_at_call 27; ((with_reducible refine (rabs_any _ (by assumption) (by assumption) _).mono ?_); rintro e w' ⟨rfl, rfl⟩)))
    go_ret
    refine ⟨ret_int ?_, rfl⟩
    unfold divN; rw [if_pos hb]; rfl
  have hz : (nm b != 0) = true := by simpa using hb
  have p0 := abs_lo (nm a)
  have p1 := abs_hi (nm a) x0 x1
  have p2 := abs_pos (nm b) hb
  have p3 := abs_hi (nm b) y0 y1
  have q0 : 0 ≤ absN (nm a) / absN (nm b) := Int.ediv_nonneg p0 (by omega)
  have q1 : absN (nm a) / absN (nm b) ≤ 4611686018427387904 := by have := Int.ediv_le_self (absN (nm b)) p0; omega
  have ht := tdiv_abs (nm a) (nm b)
  by_cases hs : (decide (nm a < 0) != decide (nm b < 0)) = true
  · rw [if_pos hs] at ht
    have HT := Lib.hid ht
    have hs' : (!(decide (nm a < 0) == decide (nm b < 0))) = true := hs
    clear ht hs
    go_enter Try.func15, Try.ntmps15
    go_wp2_with (first | (go_at_call 13; ((with_reducible refine (rwrap_any _ _).mono ?_); rintro e w' ⟨rfl, rfl⟩)) | (go_at_call 27; ((with_reducible refine (rabs_any _ (by assumption) (by assumption) _).mono ?_); rintro e w' ⟨rfl, rfl⟩)))
    go_ret
    exact ⟨ret_int (over_of a b _ hb HT.out), rfl⟩
  · rw [if_neg hs] at ht
    have HT := Lib.hid ht
    have hs' : (!(decide (nm a < 0) == decide (nm b < 0))) = false := by simpa using hs
    clear ht hs
    go_enter Try.func15, Try.ntmps15
    go_wp2_with (first | (go_at_call 13; ((with_reducible refine (rwrap_any _ _).mono ?_); rintro e w' ⟨rfl, rfl⟩)) | (go_at_call 27; ((with_reducible refine (rabs_any _ (by assumption) (by assumption) _).mono ?_); rintro e w' ⟨rfl, rfl⟩)))
    go_ret
    exact ⟨ret_int (over_of a b _ hb HT.out), rfl⟩

set_option maxHeartbeats 1000000 in
theorem rdo_mod (a b : Int) (w : World) : Calls Try.prog 15 #[.int .i64 4, .int .i64 a, .int .i64 b] w fun e w' => e = .returned (.int .i64 (modN a b)) ∧ w = w' := by
  have x0 := nm_lo a
  have x1 := nm_hi a
  have y0 := nm_lo b
  have y1 := nm_hi b
  by_cases hb : nm b = 0
  · have hz : (nm b != 0) = false := by rw [hb]; rfl
    clear y0 y1
    go_enter Try.func15, Try.ntmps15
    go_wp2_with (first | (go_at_call 13; ((with_reducible refine (rwrap_any _ _).mono ?_); rintro e w' ⟨rfl, rfl⟩)) | (go_at_call 27; ((with_reducible refine (rabs_any _ (by assumption) (by assumption) _).mono ?_); rintro e w' ⟨rfl, rfl⟩)))
    go_ret
    refine ⟨ret_int ?_, rfl⟩
    show nm (wrap64 (IntKind.u64.wrap (IntKind.u64.wrap (nm a)))) = modN a b
    unfold modN; rw [if_pos hb, nm_u, nm_eq (u_mod _), nm_nm]
  have hz : (nm b != 0) = true := by simpa using hb
  have p0 := abs_lo (nm a)
  have p1 := abs_hi (nm a) x0 x1
  have p2 := abs_pos (nm b) hb
  have p3 := abs_hi (nm b) y0 y1
  have q0 : 0 ≤ absN (nm a) / absN (nm b) := Int.ediv_nonneg p0 (by omega)
  have q1 : absN (nm a) / absN (nm b) ≤ 4611686018427387904 := by have := Int.ediv_le_self (absN (nm b)) p0; omega
  have ht := tdiv_abs (nm a) (nm b)
  by_cases hs : (decide (nm a < 0) != decide (nm b < 0)) = true
  · rw [if_pos hs] at ht
    have HT := Lib.hid ht
    have hs' : (!(decide (nm a < 0) == decide (nm b < 0))) = true := hs
    clear ht hs
    go_enter Try.func15, Try.ntmps15
    go_wp2_with (first | (go_at_call 13; ((with_reducible refine (rwrap_any _ _).mono ?_); rintro e w' ⟨rfl, rfl⟩)) | (go_at_call 27; ((with_reducible refine (rabs_any _ (by assumption) (by assumption) _).mono ?_); rintro e w' ⟨rfl, rfl⟩)))
    go_ret
    exact ⟨ret_int ((nm_u _).trans ((nm_urest _ _ _).trans (rest_of a b _ hb HT.out))), rfl⟩
  · rw [if_neg hs] at ht
    have HT := Lib.hid ht
    have hs' : (!(decide (nm a < 0) == decide (nm b < 0))) = false := by simpa using hs
    clear ht hs
    go_enter Try.func15, Try.ntmps15
    go_wp2_with (first | (go_at_call 13; ((with_reducible refine (rwrap_any _ _).mono ?_); rintro e w' ⟨rfl, rfl⟩)) | (go_at_call 27; ((with_reducible refine (rabs_any _ (by assumption) (by assumption) _).mono ?_); rintro e w' ⟨rfl, rfl⟩)))
    go_ret
    exact ⟨ret_int ((nm_u _).trans ((nm_urest2 _ _ _).trans (rest_of a b _ hb HT.out))), rfl⟩

theorem rdo_any (op a b : Int) (w : World) : Calls Try.prog 15 #[.int .i64 op, .int .i64 a, .int .i64 b] w fun e w' => e = .returned (.int .i64 (doN op a b)) ∧ w = w' := by
  by_cases h0 : op = 0
  · subst h0; exact rdo_add a b w
  by_cases h1 : op = 1
  · subst h1; exact rdo_sub a b w
  by_cases h2 : op = 2
  · subst h2; exact rdo_mul a b w
  by_cases h3 : op = 3
  · subst h3; exact rdo_div a b w
  by_cases h4 : op = 4
  · subst h4; exact rdo_mod a b w
  have e : doN op a b = 0 := by unfold doN; rw [if_neg h0, if_neg h1, if_neg h2, if_neg h3, if_neg h4]
  rw [e]; exact rdo_no op a b (by omega) w
end Go.Proofs.Ytkdpbdedadejlaa
