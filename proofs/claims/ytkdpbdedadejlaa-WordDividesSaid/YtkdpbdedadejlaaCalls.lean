/-
  What the calls of package word answer, whatever they are given, by the plain facts on numbers of 63 bits. No condition but that an argument is of its own kind.
-/
import Derived.Test.YtkdpbdedadejlaaRows
import Derived.Test.YtkdpbdedadejlaaNum
import Derived.ProofKit
import Derived.OpenShut
import Derived.Handy
import Derived.WalkSmall
import Derived.Laws.BitsAllLaws
namespace Go.Proofs.Ytkdpbdedadejlaa
open Go.ChangeShapes Go.WideShapes Go.ChangeAt Go.RowKit

theorem ret_int {k : IntKind} {a b : Int} (h : a = b) : Ending.returned (.int k a) = .returned (.int k b) := by rw [h]
theorem ret_bool {a b : Bool} (h : a = b) : Ending.returned (.bool a) = .returned (.bool b) := by rw [h]
theorem ret_two {k : IntKind} {a b : Int} {c d : Bool} (h : a = b) (g : c = d) : Ending.returned (.tuple #[.int k a, .bool c]) = .returned (.tuple #[.int k b, .bool d]) := by rw [h, g]

theorem wrap_any (a : Int) (w : World) : Calls Try.prog 25 #[.int .i64 a] w fun e w' => e = .returned (.int .i64 (nm a)) ∧ w = w' := by
  go_enter Try.func25, Try.ntmps25
  go_wp2
  go_ret
  exact ⟨ret_int (nm_shift a), rfl⟩

theorem plus_any (a b : Int) (w : World) : Calls Try.prog 30 #[.int .i64 a, .int .i64 b] w fun e w' => e = .returned (.int .i64 (addN a b)) ∧ w = w' := by
  go_enter Try.func30, Try.ntmps30
  go_wp2_with (go_at_call 25; refine (wrap_any _ _).mono ?_; rintro e w' ⟨rfl, rfl⟩)
  go_ret
  exact ⟨ret_int (nm_wrap _), rfl⟩

theorem minus_any (a b : Int) (w : World) : Calls Try.prog 31 #[.int .i64 a, .int .i64 b] w fun e w' => e = .returned (.int .i64 (subN a b)) ∧ w = w' := by
  go_enter Try.func31, Try.ntmps31
  go_wp2_with (go_at_call 25; refine (wrap_any _ _).mono ?_; rintro e w' ⟨rfl, rfl⟩)
  go_ret
  exact ⟨ret_int (nm_wrap _), rfl⟩

theorem times_any (a b : Int) (w : World) : Calls Try.prog 32 #[.int .i64 a, .int .i64 b] w fun e w' => e = .returned (.int .i64 (mulN a b)) ∧ w = w' := by
  go_enter Try.func32, Try.ntmps32
  go_wp2_with (go_at_call 25; refine (wrap_any _ _).mono ?_; rintro e w' ⟨rfl, rfl⟩)
  go_ret
  exact ⟨ret_int (nm_wrap _), rfl⟩

theorem over_zero (a : Int) (w : World) : Calls Try.prog 33 #[.int .i64 a, .int .i64 0] w fun e w' => e = .returned (.int .i64 0) ∧ w = w' := by
  go_enter Try.func33, Try.ntmps33
  go_wp2
  go_ret
  exact ⟨rfl, rfl⟩
theorem over_any (a b : Int) (h : b ≠ 0) (w : World) : Calls Try.prog 33 #[.int .i64 a, .int .i64 b] w fun e w' => e = .returned (.int .i64 (nm (a.tdiv b))) ∧ w = w' := by
  go_enter Try.func33, Try.ntmps33
  go_wp2_with (go_at_call 25; refine (wrap_any _ _).mono ?_; rintro e w' ⟨rfl, rfl⟩)
  go_ret
  exact ⟨ret_int (nm_wrap _), rfl⟩
theorem rest_any (a b : Int) (h : b ≠ 0) (w : World) : Calls Try.prog 34 #[.int .i64 a, .int .i64 b] w fun e w' => e = .returned (.int .i64 ((a.tmod b))) ∧ w = w' := by
  go_enter Try.func34, Try.ntmps34
  go_wp2
  go_ret
  exact ⟨rfl, rfl⟩
theorem rest_zero (a : Int) (w : World) : Calls Try.prog 34 #[.int .i64 a, .int .i64 0] w fun e w' => e = .returned (.int .i64 a) ∧ w = w' := by
  go_enter Try.func34, Try.ntmps34
  go_wp2
  go_ret
  exact ⟨rfl, rfl⟩
theorem nothing_any (a b : Int) (w : World) : Calls Try.prog 35 #[.int .i64 a, .int .i64 b] w fun e w' => e = .returned (.int .i64 0) ∧ w = w' := by
  go_enter Try.func35, Try.ntmps35
  go_wp2
  go_ret
  exact ⟨rfl, rfl⟩
theorem below_any (a b : Int) (w : World) : Calls Try.prog 36 #[.int .i64 a, .int .i64 b] w fun e w' => e = .returned (.bool (decide (a < b))) ∧ w = w' := by
  go_enter Try.func36, Try.ntmps36
  go_wp2
  go_ret
  exact ⟨rfl, rfl⟩
theorem upTo_any (a b : Int) (w : World) : Calls Try.prog 37 #[.int .i64 a, .int .i64 b] w fun e w' => e = .returned (.bool (decide (a ≤ b))) ∧ w = w' := by
  go_enter Try.func37, Try.ntmps37
  go_wp2
  go_ret
  exact ⟨rfl, rfl⟩
theorem same_any (a b : Int) (w : World) : Calls Try.prog 38 #[.int .i64 a, .int .i64 b] w fun e w' => e = .returned (.bool (a == b)) ∧ w = w' := by
  go_enter Try.func38, Try.ntmps38
  go_wp2
  go_ret
  exact ⟨rfl, rfl⟩
theorem never_any (a b : Int) (w : World) : Calls Try.prog 39 #[.int .i64 a, .int .i64 b] w fun e w' => e = .returned (.bool false) ∧ w = w' := by
  go_enter Try.func39, Try.ntmps39
  go_wp2
  go_ret
  exact ⟨rfl, rfl⟩
theorem Wrap_any (a : Int) (w : World) : Calls Try.prog 12 #[.int .i64 a] w fun e w' => e = .returned (.int .i64 (nm a)) ∧ w = w' := by
  go_enter Try.func12, Try.ntmps12
  go_wp2_with (go_at_call 25; refine (wrap_any _ _).mono ?_; rintro e w' ⟨rfl, rfl⟩)
  go_ret
  exact ⟨rfl, rfl⟩
theorem reck0 (w : World) : Calls Try.prog 26 #[.int .i64 0] w fun e w' => e = .returned (.func (.func 30) #[] #[]) ∧ w = w' := by
  go_enter Try.func26, Try.ntmps26
  go_wp2
  go_ret
  exact ⟨rfl, rfl⟩
theorem reck1 (w : World) : Calls Try.prog 26 #[.int .i64 1] w fun e w' => e = .returned (.func (.func 31) #[] #[]) ∧ w = w' := by
  go_enter Try.func26, Try.ntmps26
  go_wp2
  go_ret
  exact ⟨rfl, rfl⟩
theorem reck2 (w : World) : Calls Try.prog 26 #[.int .i64 2] w fun e w' => e = .returned (.func (.func 32) #[] #[]) ∧ w = w' := by
  go_enter Try.func26, Try.ntmps26
  go_wp2
  go_ret
  exact ⟨rfl, rfl⟩
theorem reck3 (w : World) : Calls Try.prog 26 #[.int .i64 3] w fun e w' => e = .returned (.func (.func 33) #[] #[]) ∧ w = w' := by
  go_enter Try.func26, Try.ntmps26
  go_wp2
  go_ret
  exact ⟨rfl, rfl⟩
theorem reck4 (w : World) : Calls Try.prog 26 #[.int .i64 4] w fun e w' => e = .returned (.func (.func 34) #[] #[]) ∧ w = w' := by
  go_enter Try.func26, Try.ntmps26
  go_wp2
  go_ret
  exact ⟨rfl, rfl⟩
theorem reck_no (op : Int) (h : op < 0 ∨ 4 < op) (w : World) : Calls Try.prog 26 #[.int .i64 op] w fun e w' => e = .returned (.func (.func 35) #[] #[]) ∧ w = w' := by
  have h0 : (op == 0) = false := by simp; omega
  have h1 : (op == 1) = false := by simp; omega
  have h2 : (op == 2) = false := by simp; omega
  have h3 : (op == 3) = false := by simp; omega
  have h4 : (op == 4) = false := by simp; omega
  clear h
  go_enter Try.func26, Try.ntmps26
  go_wp2
  go_ret
  exact ⟨rfl, rfl⟩
theorem asker5 (w : World) : Calls Try.prog 28 #[.int .i64 5] w fun e w' => e = .returned (.func (.func 36) #[] #[]) ∧ w = w' := by
  go_enter Try.func28, Try.ntmps28
  go_wp2
  go_ret
  exact ⟨rfl, rfl⟩
theorem asker6 (w : World) : Calls Try.prog 28 #[.int .i64 6] w fun e w' => e = .returned (.func (.func 37) #[] #[]) ∧ w = w' := by
  go_enter Try.func28, Try.ntmps28
  go_wp2
  go_ret
  exact ⟨rfl, rfl⟩
theorem asker7 (w : World) : Calls Try.prog 28 #[.int .i64 7] w fun e w' => e = .returned (.func (.func 38) #[] #[]) ∧ w = w' := by
  go_enter Try.func28, Try.ntmps28
  go_wp2
  go_ret
  exact ⟨rfl, rfl⟩
theorem asker_no (op : Int) (h : op < 5 ∨ 7 < op) (w : World) : Calls Try.prog 28 #[.int .i64 op] w fun e w' => e = .returned (.func (.func 39) #[] #[]) ∧ w = w' := by
  have h5 : (op == 5) = false := by simp; omega
  have h6 : (op == 6) = false := by simp; omega
  have h7 : (op == 7) = false := by simp; omega
  clear h
  go_enter Try.func28, Try.ntmps28
  go_wp2
  go_ret
  exact ⟨rfl, rfl⟩
theorem do_add (a b : Int) (w : World) : Calls Try.prog 14 #[.int .i64 0, .int .i64 a, .int .i64 b] w fun e w' => e = .returned (.int .i64 (addN a b)) ∧ w = w' := by
  go_enter Try.func14, Try.ntmps14
  go_wp2_with (first | (go_at_call 26; refine (reck0 _).mono ?_; rintro e w' ⟨rfl, rfl⟩) | (go_at_call 25; refine (wrap_any _ _).mono ?_; rintro e w' ⟨rfl, rfl⟩) | (go_at_call 30; refine (plus_any _ _ _).mono ?_; rintro e w' ⟨rfl, rfl⟩))
  go_ret
  refine ⟨ret_int ?_, rfl⟩
  unfold addN; rw [nm_addl, nm_addr]
theorem do_sub (a b : Int) (w : World) : Calls Try.prog 14 #[.int .i64 1, .int .i64 a, .int .i64 b] w fun e w' => e = .returned (.int .i64 (subN a b)) ∧ w = w' := by
  go_enter Try.func14, Try.ntmps14
  go_wp2_with (first | (go_at_call 26; refine (reck1 _).mono ?_; rintro e w' ⟨rfl, rfl⟩) | (go_at_call 25; refine (wrap_any _ _).mono ?_; rintro e w' ⟨rfl, rfl⟩) | (go_at_call 31; refine (minus_any _ _ _).mono ?_; rintro e w' ⟨rfl, rfl⟩))
  go_ret
  refine ⟨ret_int ?_, rfl⟩
  unfold subN; rw [nm_subl, nm_subr]
theorem do_mul (a b : Int) (w : World) : Calls Try.prog 14 #[.int .i64 2, .int .i64 a, .int .i64 b] w fun e w' => e = .returned (.int .i64 (mulN a b)) ∧ w = w' := by
  go_enter Try.func14, Try.ntmps14
  go_wp2_with (first | (go_at_call 26; refine (reck2 _).mono ?_; rintro e w' ⟨rfl, rfl⟩) | (go_at_call 25; refine (wrap_any _ _).mono ?_; rintro e w' ⟨rfl, rfl⟩) | (go_at_call 32; refine (times_any _ _ _).mono ?_; rintro e w' ⟨rfl, rfl⟩))
  go_ret
  refine ⟨ret_int ?_, rfl⟩
  unfold mulN; rw [nm_mull, nm_mulr]
theorem do_div (a b : Int) (w : World) : Calls Try.prog 14 #[.int .i64 3, .int .i64 a, .int .i64 b] w fun e w' => e = .returned (.int .i64 (divN a b)) ∧ w = w' := by
  by_cases hb : nm b = 0
  · have e0 : divN a b = 0 := if_pos hb
    go_enter Try.func14, Try.ntmps14
    go_wp2_with (first | (go_at_call 26; refine (reck3 _).mono ?_; rintro e w' ⟨rfl, rfl⟩) | (go_at_call 25; refine (wrap_any _ _).mono ?_; rintro e w' ⟨rfl, rfl⟩) | (go_at_call 33; refine (over_zero _ _).mono ?_; rintro e w' ⟨rfl, rfl⟩))
    go_ret
    exact ⟨ret_int e0.symm, rfl⟩
  · have e0 : divN a b = nm ((nm a).tdiv (nm b)) := if_neg hb
    go_enter Try.func14, Try.ntmps14
    go_wp2_with (first | (go_at_call 26; refine (reck3 _).mono ?_; rintro e w' ⟨rfl, rfl⟩) | (go_at_call 25; refine (wrap_any _ _).mono ?_; rintro e w' ⟨rfl, rfl⟩) | (go_at_call 33; refine (over_any _ _ (by assumption) _).mono ?_; rintro e w' ⟨rfl, rfl⟩))
    go_ret
    exact ⟨ret_int e0.symm, rfl⟩
theorem do_mod (a b : Int) (w : World) : Calls Try.prog 14 #[.int .i64 4, .int .i64 a, .int .i64 b] w fun e w' => e = .returned (.int .i64 (modN a b)) ∧ w = w' := by
  by_cases hb : nm b = 0
  · have e0 : modN a b = nm a := if_pos hb
    go_enter Try.func14, Try.ntmps14
    go_wp2_with (first | (go_at_call 26; refine (reck4 _).mono ?_; rintro e w' ⟨rfl, rfl⟩) | (go_at_call 25; refine (wrap_any _ _).mono ?_; rintro e w' ⟨rfl, rfl⟩) | (go_at_call 34; refine (rest_zero _ _).mono ?_; rintro e w' ⟨rfl, rfl⟩))
    go_ret
    exact ⟨ret_int e0.symm, rfl⟩
  · have e0 : modN a b = (nm a).tmod (nm b) := if_neg hb
    go_enter Try.func14, Try.ntmps14
    go_wp2_with (first | (go_at_call 26; refine (reck4 _).mono ?_; rintro e w' ⟨rfl, rfl⟩) | (go_at_call 25; refine (wrap_any _ _).mono ?_; rintro e w' ⟨rfl, rfl⟩) | (go_at_call 34; refine (rest_any _ _ (by assumption) _).mono ?_; rintro e w' ⟨rfl, rfl⟩))
    go_ret
    exact ⟨ret_int e0.symm, rfl⟩
theorem do_no (op a b : Int) (h : op < 0 ∨ 4 < op) (w : World) : Calls Try.prog 14 #[.int .i64 op, .int .i64 a, .int .i64 b] w fun e w' => e = .returned (.int .i64 0) ∧ w = w' := by
  go_enter Try.func14, Try.ntmps14
  go_wp2_with (first | (go_at_call 26; refine (reck_no op h _).mono ?_; rintro e w' ⟨rfl, rfl⟩) | (go_at_call 25; refine (wrap_any _ _).mono ?_; rintro e w' ⟨rfl, rfl⟩) | (go_at_call 35; refine (nothing_any _ _ _).mono ?_; rintro e w' ⟨rfl, rfl⟩))
  go_ret
  exact ⟨rfl, rfl⟩
theorem do_any (op a b : Int) (w : World) : Calls Try.prog 14 #[.int .i64 op, .int .i64 a, .int .i64 b] w fun e w' => e = .returned (.int .i64 (doN op a b)) ∧ w = w' := by
  by_cases h0 : op = 0
  · subst h0; exact do_add a b w
  by_cases h1 : op = 1
  · subst h1; exact do_sub a b w
  by_cases h2 : op = 2
  · subst h2; exact do_mul a b w
  by_cases h3 : op = 3
  · subst h3; exact do_div a b w
  by_cases h4 : op = 4
  · subst h4; exact do_mod a b w
  have e : doN op a b = 0 := by unfold doN; rw [if_neg h0, if_neg h1, if_neg h2, if_neg h3, if_neg h4]
  rw [e]; exact do_no op a b (by omega) w
theorem ask_lt (a b : Int) (w : World) : Calls Try.prog 16 #[.int .i64 5, .int .i64 a, .int .i64 b] w fun e w' => e = .returned (.bool (decide (nm a < nm b))) ∧ w = w' := by
  go_enter Try.func16, Try.ntmps16
  go_wp2_with (first | (go_at_call 28; refine (asker5 _).mono ?_; rintro e w' ⟨rfl, rfl⟩) | (go_at_call 25; refine (wrap_any _ _).mono ?_; rintro e w' ⟨rfl, rfl⟩) | (go_at_call 36; refine (below_any _ _ _).mono ?_; rintro e w' ⟨rfl, rfl⟩))
  go_ret
  exact ⟨rfl, rfl⟩
theorem ask_le (a b : Int) (w : World) : Calls Try.prog 16 #[.int .i64 6, .int .i64 a, .int .i64 b] w fun e w' => e = .returned (.bool (decide (nm a ≤ nm b))) ∧ w = w' := by
  go_enter Try.func16, Try.ntmps16
  go_wp2_with (first | (go_at_call 28; refine (asker6 _).mono ?_; rintro e w' ⟨rfl, rfl⟩) | (go_at_call 25; refine (wrap_any _ _).mono ?_; rintro e w' ⟨rfl, rfl⟩) | (go_at_call 37; refine (upTo_any _ _ _).mono ?_; rintro e w' ⟨rfl, rfl⟩))
  go_ret
  exact ⟨rfl, rfl⟩
theorem ask_eq (a b : Int) (w : World) : Calls Try.prog 16 #[.int .i64 7, .int .i64 a, .int .i64 b] w fun e w' => e = .returned (.bool (nm a == nm b)) ∧ w = w' := by
  go_enter Try.func16, Try.ntmps16
  go_wp2_with (first | (go_at_call 28; refine (asker7 _).mono ?_; rintro e w' ⟨rfl, rfl⟩) | (go_at_call 25; refine (wrap_any _ _).mono ?_; rintro e w' ⟨rfl, rfl⟩) | (go_at_call 38; refine (same_any _ _ _).mono ?_; rintro e w' ⟨rfl, rfl⟩))
  go_ret
  exact ⟨rfl, rfl⟩
theorem ask_no (op a b : Int) (h : op < 5 ∨ 7 < op) (w : World) : Calls Try.prog 16 #[.int .i64 op, .int .i64 a, .int .i64 b] w fun e w' => e = .returned (.bool false) ∧ w = w' := by
  go_enter Try.func16, Try.ntmps16
  go_wp2_with (first | (go_at_call 28; refine (asker_no op h _).mono ?_; rintro e w' ⟨rfl, rfl⟩) | (go_at_call 25; refine (wrap_any _ _).mono ?_; rintro e w' ⟨rfl, rfl⟩) | (go_at_call 39; refine (never_any _ _ _).mono ?_; rintro e w' ⟨rfl, rfl⟩))
  go_ret
  exact ⟨rfl, rfl⟩
theorem ask_any (op a b : Int) (w : World) : Calls Try.prog 16 #[.int .i64 op, .int .i64 a, .int .i64 b] w fun e w' => e = .returned (.bool (askN op a b)) ∧ w = w' := by
  by_cases h5 : op = 5
  · subst h5; exact ask_lt a b w
  by_cases h6 : op = 6
  · subst h6; exact ask_le a b w
  by_cases h7 : op = 7
  · subst h7; exact ask_eq a b w
  have e : askN op a b = false := by unfold askN; rw [if_neg h5, if_neg h6, if_neg h7]
  rw [e]; exact ask_no op a b (by omega) w

theorem or_one (n : Nat) (h : n % 2 = 0) : n ||| 1 = n + 1 := by
  have e := Nat.two_pow_add_eq_or_of_lt (i := 1) (b := 1) (by omega) (n / 2)
  have g : 2 ^ 1 * (n / 2) = n := by omega
  rw [g] at e; exact e.symm
theorem word_or (a : Int) : bits BinOp.or IntKind.u64 (IntKind.u64.wrap (IntKind.u64.wrap a * 2)) 1 = (2 * a + 1) % 18446744073709551616 := by
  rw [IntKind.wrap_u64, IntKind.wrap_u64, u64_or _ _ (by omega) (by omega) (by omega) (by omega)]
  have e := or_one ((a % 18446744073709551616 * 2 % 18446744073709551616).toNat) (by omega)
  have g : (1 : Int).toNat = 1 := rfl
  rw [g, e]; omega
theorem word_any (a : Int) (w : World) : Calls Try.prog 29 #[.int .i64 a] w fun e w' => e = .returned (.int .u64 ((2 * a + 1) % 18446744073709551616)) ∧ w = w' := by
  go_enter Try.func29, Try.ntmps29
  go_wp2
  go_ret
  exact ⟨ret_int (word_or a), rfl⟩
theorem imm_any (a : Int) (w : World) : Calls Try.prog 18 #[.int .i64 a] w fun e w' => e = .returned (.int .u64 (immN a)) ∧ w = w' := by
  go_enter Try.func18, Try.ntmps18
  go_wp2_with (first | (go_at_call 25; refine (wrap_any _ _).mono ?_; rintro e w' ⟨rfl, rfl⟩) | (go_at_call 29; refine (word_any _ _).mono ?_; rintro e w' ⟨rfl, rfl⟩))
  go_ret
  exact ⟨rfl, rfl⟩
theorem ptr_any (a : Int) (h0 : 0 ≤ a) (h1 : a ≤ 4294967295) (w : World) : Calls Try.prog 20 #[.int .u32 a] w fun e w' => e = .returned (.int .u64 (2 * a)) ∧ w = w' := by
  go_enter Try.func20, Try.ntmps20
  go_wp2
  go_ret
  exact ⟨ret_int (Int.mul_comm _ _), rfl⟩
theorem num_yes (a : Int) (h0 : 0 ≤ a) (h1 : a ≤ 18446744073709551615) (h : a % 2 = 1) (w : World) : Calls Try.prog 8 #[.int .u64 a] w fun e w' => e = .returned (.tuple #[.int .i64 (numN a), .bool true]) ∧ w = w' := by
  have hb : (bits BinOp.and IntKind.u64 a 1 == 0) = false := by rw [and_one_u64 a h0 h1, h]; rfl
  go_enter Try.func8, Try.ntmps8
  go_wp2
  go_ret2
  refine ⟨ret_two ?_ rfl, rfl⟩
  show wrap64 a / 2 = numN a
  unfold numN nm wrap64; rw [if_pos h]; omega
theorem num_no (a : Int) (h0 : 0 ≤ a) (h1 : a ≤ 18446744073709551615) (h : a % 2 = 0) (w : World) : Calls Try.prog 8 #[.int .u64 a] w fun e w' => e = .returned (.tuple #[.int .i64 (numN a), .bool false]) ∧ w = w' := by
  have hb : (bits BinOp.and IntKind.u64 a 1 == 0) = true := by rw [and_one_u64 a h0 h1, h]; rfl
  have e : numN a = 0 := by unfold numN; rw [if_neg (by omega)]
  rw [e]
  clear e
  go_enter Try.func8, Try.ntmps8
  go_wp2
  go_ret2
  exact ⟨rfl, rfl⟩
theorem num_any (a : Int) (h0 : 0 ≤ a) (h1 : a ≤ 18446744073709551615) (w : World) : Calls Try.prog 8 #[.int .u64 a] w fun e w' => e = .returned (.tuple #[.int .i64 (numN a), .bool (isNum a)]) ∧ w = w' := by
  by_cases h : a % 2 = 1
  · have e : isNum a = true := by unfold isNum; simp [h]
    rw [e]; exact num_yes a h0 h1 h w
  · have e : isNum a = false := by unfold isNum; simp; omega
    rw [e]; exact num_no a h0 h1 (by omega) w
theorem at_odd (a : Int) (h0 : 0 ≤ a) (h1 : a ≤ 18446744073709551615) (h : a % 2 = 1) (w : World) : Calls Try.prog 10 #[.int .u64 a] w fun e w' => e = .returned (.tuple #[.int .u32 0, .bool false]) ∧ w = w' := by
  have g0 : (a == 0) = false := by simp; omega
  have g1 : (bits BinOp.and IntKind.u64 a 1 == 1) = true := by rw [and_one_u64 a h0 h1, h]; rfl
  clear h
  go_enter Try.func10, Try.ntmps10
  go_wp2
  go_ret2
  exact ⟨rfl, rfl⟩
theorem at_zero (w : World) : Calls Try.prog 10 #[.int .u64 0] w fun e w' => e = .returned (.tuple #[.int .u32 0, .bool false]) ∧ w = w' := by
  go_enter Try.func10, Try.ntmps10
  go_wp2
  go_ret2
  exact ⟨rfl, rfl⟩
theorem at_far (a : Int) (h0 : 8589934592 ≤ a) (h1 : a ≤ 18446744073709551615) (h : a % 2 = 0) (w : World) : Calls Try.prog 10 #[.int .u64 a] w fun e w' => e = .returned (.tuple #[.int .u32 0, .bool false]) ∧ w = w' := by
  have g0 : (a == 0) = false := by simp; omega
  have g1 : (bits BinOp.and IntKind.u64 a 1 == 1) = false := by rw [and_one_u64 a (by omega) h1, h]; rfl
  have g2 : 4294967295 < a / 2 := by omega
  clear h
  go_enter Try.func10, Try.ntmps10
  go_wp2
  go_ret2
  exact ⟨rfl, rfl⟩
theorem at_yes (a : Int) (h0 : 0 < a) (h1 : a < 8589934592) (h : a % 2 = 0) (w : World) : Calls Try.prog 10 #[.int .u64 a] w fun e w' => e = .returned (.tuple #[.int .u32 (a / 2), .bool true]) ∧ w = w' := by
  have g0 : (a == 0) = false := by simp; omega
  have g1 : (bits BinOp.and IntKind.u64 a 1 == 1) = false := by rw [and_one_u64 a (by omega) (by omega), h]; rfl
  have g2 : a / 2 ≤ 4294967295 := by omega
  have g3 : 0 ≤ a / 2 := by omega
  clear h
  go_enter Try.func10, Try.ntmps10
  go_wp2
  go_ret2
  exact ⟨rfl, rfl⟩
theorem at_any (a : Int) (h0 : 0 ≤ a) (h1 : a ≤ 18446744073709551615) (w : World) : Calls Try.prog 10 #[.int .u64 a] w fun e w' => e = .returned (.tuple #[.int .u32 (atN a), .bool (isAt a)]) ∧ w = w' := by
  by_cases h : a % 2 = 1
  · have e : isAt a = false := by unfold isAt; simp; omega
    have g : atN a = 0 := by unfold atN; rw [if_neg (by omega)]
    rw [e, g]; exact at_odd a h0 h1 h w
  by_cases hz : a = 0
  · subst hz; exact at_zero w
  by_cases hf : 8589934592 ≤ a
  · have e : isAt a = false := by unfold isAt; simp; omega
    have g : atN a = 0 := by unfold atN; rw [if_neg (by omega)]
    rw [e, g]; exact at_far a hf h1 (by omega) w
  · have e : isAt a = true := by unfold isAt; simp; omega
    have g : atN a = a / 2 := by unfold atN; rw [if_pos (by omega)]
    rw [e, g]; exact at_yes a (by omega) (by omega) (by omega) w
end Go.Proofs.Ytkdpbdedadejlaa
