/-
  What the document's own answers of layer 1 are, by the same plain facts on numbers of 63 bits. No condition but that an argument is of its own kind.
-/
import Derived.Test.YtkdpbdedadejlaaAwake
namespace Go.Proofs.Ytkdpbdedadejlaa
open Go.ChangeShapes Go.WideShapes Go.ChangeAt Go.RowKit

theorem low_is (a : Int) : bits BinOp.and IntKind.u64 (IntKind.u64.wrap a) 9223372036854775807 = a % 9223372036854775808 := by
  rw [IntKind.wrap_u64, u64_and _ _ (by omega) (by omega) (by omega) (by omega)]
  have g : (9223372036854775807 : Int).toNat = 2 ^ 63 - 1 := rfl
  rw [g, Nat.and_two_pow_sub_one_eq_mod]
  omega

theorem rwrap_any (a : Int) (w : World) : Calls Try.prog 13 #[.int .i64 a] w fun e w' => e = .returned (.int .i64 (nm a)) ∧ w = w' := by
  obtain ⟨m, hm⟩ : ∃ m, bits BinOp.and IntKind.u64 (IntKind.u64.wrap a) 9223372036854775807 = m := ⟨_, rfl⟩
  have hl := low_is a
  have m0 : 0 ≤ m := by omega
  have m1 : m ≤ 9223372036854775807 := by omega
  by_cases h : 4611686018427387904 ≤ m
  · have e : nm a = m - 9223372036854775808 := by unfold nm; omega
    rw [e]; clear e hl
    go_enter Try.func13, Try.ntmps13
    go_wp2
    go_ret
    refine ⟨ret_int ?_, rfl⟩
    rw [IntKind.wrap_u64]; unfold wrap64; omega
  · have h' : m < 4611686018427387904 := by omega
    have e : nm a = m := by unfold nm; omega
    rw [e]; clear e hl h
    go_enter Try.func13, Try.ntmps13
    go_wp2
    go_ret
    exact ⟨rfl, rfl⟩

theorem rimm_any (a : Int) (w : World) : Calls Try.prog 19 #[.int .i64 a] w fun e w' => e = .returned (.int .u64 (immN a)) ∧ w = w' := by
  go_enter Try.func19, Try.ntmps19
  go_wp2_with ((go_at_call 13; ((with_reducible refine (rwrap_any _ _).mono ?_); rintro e w' ⟨rfl, rfl⟩)))
  go_ret
  refine ⟨ret_int ?_, rfl⟩
  show IntKind.u64.wrap (IntKind.u64.wrap (IntKind.u64.wrap (nm a) * 2) + 1) = immN a
  rw [IntKind.wrap_u64, IntKind.wrap_u64, IntKind.wrap_u64]; unfold immN; omega
theorem rptr_any (a : Int) (h0 : 0 ≤ a) (h1 : a ≤ 4294967295) (w : World) : Calls Try.prog 21 #[.int .u32 a] w fun e w' => e = .returned (.int .u64 (2 * a)) ∧ w = w' := by
  go_enter Try.func21, Try.ntmps21
  go_wp2
  go_ret
  exact ⟨rfl, rfl⟩
theorem rnum_any (a : Int) (h0 : 0 ≤ a) (h1 : a ≤ 18446744073709551615) (w : World) : Calls Try.prog 9 #[.int .u64 a] w fun e w' => e = .returned (.tuple #[.int .i64 (numN a), .bool (isNum a)]) ∧ w = w' := by
  have hm : a.tmod 2 = a % 2 := Int.tmod_eq_emod_of_nonneg h0
  by_cases h : a % 2 = 1
  · have e : isNum a = true := by unfold isNum; simp [h]
    have g : numN a = nm (a / 2) := by unfold numN; rw [if_pos h]
    have hz : (a % 2 == 0) = false := by rw [h]; rfl
    rw [e, g]; clear e g hm h
    go_enter Try.func9, Try.ntmps9
    go_wp2_with ((go_at_call 13; ((with_reducible refine (rwrap_any _ _).mono ?_); rintro e w' ⟨rfl, rfl⟩)))
    go_ret2
    exact ⟨rfl, rfl⟩
  · have e : isNum a = false := by unfold isNum; simp; omega
    have g : numN a = 0 := by unfold numN; rw [if_neg h]
    have hz : (a % 2 == 0) = true := by simp; omega
    rw [e, g]; clear e g hm h
    go_enter Try.func9, Try.ntmps9
    go_wp2
    go_ret2
    exact ⟨rfl, rfl⟩
theorem rat_any (a : Int) (h0 : 0 ≤ a) (h1 : a ≤ 18446744073709551615) (w : World) : Calls Try.prog 11 #[.int .u64 a] w fun e w' => e = .returned (.tuple #[.int .u32 (atN a), .bool (isAt a)]) ∧ w = w' := by
  by_cases h : a % 2 = 1
  · have e : isAt a = false := by unfold isAt; simp; omega
    have g : atN a = 0 := by unfold atN; rw [if_neg (by omega)]
    have hz : (a % 2 == 1) = true := by rw [h]; rfl
    rw [e, g]; clear e g h
    go_enter Try.func11, Try.ntmps11
    go_wp2
    go_ret2
    exact ⟨rfl, rfl⟩
  have hz : (a % 2 == 1) = false := by simpa using h
  by_cases h2 : a = 0
  · have e : isAt a = false := by subst h2; rfl
    have g : atN a = 0 := by subst h2; rfl
    have hy : (a == 0) = true := by simpa using h2
    rw [e, g]; clear e g h h2
    go_enter Try.func11, Try.ntmps11
    go_wp2
    go_ret2
    exact ⟨rfl, rfl⟩
  have hy : (a == 0) = false := by simpa using h2
  by_cases hf : 8589934592 ≤ a
  · have e : isAt a = false := by unfold isAt; simp; omega
    have g : atN a = 0 := by unfold atN; rw [if_neg (by omega)]
    rw [e, g]; clear e g h h2
    go_enter Try.func11, Try.ntmps11
    go_wp2
    go_ret2
    exact ⟨rfl, rfl⟩
  · have e : isAt a = true := by unfold isAt; simp; omega
    have g : atN a = a / 2 := by unfold atN; rw [if_pos (by omega)]
    have hf' : a < 8589934592 := by omega
    have q0 : 0 ≤ a / 2 := by omega
    have q1 : a / 2 ≤ 4294967295 := by omega
    rw [e, g]; clear e g h h2 hf
    go_enter Try.func11, Try.ntmps11
    go_wp2
    go_ret2
    exact ⟨rfl, rfl⟩
theorem rasks_any (op a b : Int) (w : World) : Calls Try.prog 17 #[.int .i64 op, .int .i64 a, .int .i64 b] w fun e w' => e = .returned (.bool (askN op a b)) ∧ w = w' := by
  by_cases h5 : op = 5
  · subst h5
    go_enter Try.func17, Try.ntmps17
    go_wp2_with ((go_at_call 13; ((with_reducible refine (rwrap_any _ _).mono ?_); rintro e w' ⟨rfl, rfl⟩)))
    go_ret
    exact ⟨rfl, rfl⟩
  by_cases h6 : op = 6
  · subst h6
    go_enter Try.func17, Try.ntmps17
    go_wp2_with ((go_at_call 13; ((with_reducible refine (rwrap_any _ _).mono ?_); rintro e w' ⟨rfl, rfl⟩)))
    go_ret
    exact ⟨rfl, rfl⟩
  by_cases h7 : op = 7
  · subst h7
    go_enter Try.func17, Try.ntmps17
    go_wp2_with ((go_at_call 13; ((with_reducible refine (rwrap_any _ _).mono ?_); rintro e w' ⟨rfl, rfl⟩)))
    go_ret
    exact ⟨rfl, rfl⟩
  have e : askN op a b = false := by unfold askN; rw [if_neg h5, if_neg h6, if_neg h7]
  have g5 : (op == 5) = false := by simpa using h5
  have g6 : (op == 6) = false := by simpa using h6
  have g7 : (op == 7) = false := by simpa using h7
  rw [e]; clear e h5 h6 h7
  go_enter Try.func17, Try.ntmps17
  go_wp2_with ((go_at_call 13; ((with_reducible refine (rwrap_any _ _).mono ?_); rintro e w' ⟨rfl, rfl⟩)))
  go_ret
  exact ⟨rfl, rfl⟩
/-- A number without its sign. -/
def absN (a : Int) : Int := if a < 0 then -a else a
theorem abs_lo (a : Int) : 0 ≤ absN a := by unfold absN; split <;> omega
theorem abs_hi (a : Int) (h0 : -4611686018427387904 ≤ a) (h1 : a ≤ 4611686018427387903) : absN a ≤ 4611686018427387904 := by unfold absN; split <;> omega
theorem abs_pos (a : Int) (h : a ≠ 0) : 1 ≤ absN a := by unfold absN; split <;> omega
theorem rabs_any (a : Int) (h0 : -4611686018427387904 ≤ a) (h1 : a ≤ 4611686018427387903) (w : World) : Calls Try.prog 27 #[.int .i64 a] w fun e w' => e = .returned (.int .u64 (absN a)) ∧ w = w' := by
  by_cases h : a < 0
  · have e : absN a = -a := by unfold absN; rw [if_pos h]
    rw [e]; clear e
    go_enter Try.func27, Try.ntmps27
    go_wp2
    go_ret
    exact ⟨rfl, rfl⟩
  · have h' : 0 ≤ a := by omega
    have e : absN a = a := by unfold absN; rw [if_neg h]
    rw [e]; clear e h
    go_enter Try.func27, Try.ntmps27
    go_wp2
    go_ret
    exact ⟨rfl, rfl⟩
theorem tdiv_abs (x y : Int) : x.tdiv y = if (decide (x < 0) != decide (y < 0)) = true then -(absN x / absN y) else absN x / absN y := by
  unfold absN
  by_cases hx : x < 0 <;> by_cases hy : y < 0 <;> simp only [hx, hy, if_true, if_false]
  · have e : x.tdiv y = (-x).tdiv (-y) := by rw [Int.neg_tdiv, Int.tdiv_neg, Int.neg_neg]
    rw [e, Int.tdiv_eq_ediv_of_nonneg (by omega)]; simp
  · have e : x.tdiv y = -((-x).tdiv y) := by rw [Int.neg_tdiv, Int.neg_neg]
    rw [e, Int.tdiv_eq_ediv_of_nonneg (by omega)]; simp
  · have e : x.tdiv y = -(x.tdiv (-y)) := by rw [Int.tdiv_neg, Int.neg_neg]
    rw [e, Int.tdiv_eq_ediv_of_nonneg (by omega)]; simp
  · rw [Int.tdiv_eq_ediv_of_nonneg (by omega)]; simp
theorem nm_u (z : Int) : nm (wrap64 (IntKind.u64.wrap z)) = nm z := by rw [IntKind.wrap_u64]; unfold nm wrap64; omega
theorem u_mod (z : Int) : IntKind.u64.wrap z % 9223372036854775808 = z % 9223372036854775808 := by rw [IntKind.wrap_u64]; omega
theorem nm_uadd (x y : Int) : nm (IntKind.u64.wrap x + IntKind.u64.wrap y) = nm (x + y) := by rw [IntKind.wrap_u64, IntKind.wrap_u64]; unfold nm; omega
theorem nm_usub (x y : Int) : nm (IntKind.u64.wrap x - IntKind.u64.wrap y) = nm (x - y) := by rw [IntKind.wrap_u64, IntKind.wrap_u64]; unfold nm; omega
theorem nm_umul (x y : Int) : nm (IntKind.u64.wrap x * IntKind.u64.wrap y) = nm (x * y) := nm_eq (by rw [Int.mul_emod, u_mod, u_mod, ← Int.mul_emod])
theorem nm_urest (x y q : Int) : nm (IntKind.u64.wrap x - IntKind.u64.wrap (IntKind.u64.wrap y * IntKind.u64.wrap q)) = nm (x - y * q) := by
  have e := nm_umul y q
  rw [nm_usub, ← nm_subr, e, nm_subr]
theorem rdo_add (a b : Int) (w : World) : Calls Try.prog 15 #[.int .i64 0, .int .i64 a, .int .i64 b] w fun e w' => e = .returned (.int .i64 (addN a b)) ∧ w = w' := by
  go_enter Try.func15, Try.ntmps15
  go_wp2_with ((go_at_call 13; ((with_reducible refine (rwrap_any _ _).mono ?_); rintro e w' ⟨rfl, rfl⟩)))
  go_ret
  refine ⟨ret_int ?_, rfl⟩
  show nm (wrap64 (IntKind.u64.wrap (IntKind.u64.wrap (nm a) + IntKind.u64.wrap (nm b)))) = addN a b
  unfold addN; rw [nm_u, nm_uadd, nm_addl, nm_addr]
theorem rdo_sub (a b : Int) (w : World) : Calls Try.prog 15 #[.int .i64 1, .int .i64 a, .int .i64 b] w fun e w' => e = .returned (.int .i64 (subN a b)) ∧ w = w' := by
  go_enter Try.func15, Try.ntmps15
  go_wp2_with ((go_at_call 13; ((with_reducible refine (rwrap_any _ _).mono ?_); rintro e w' ⟨rfl, rfl⟩)))
  go_ret
  refine ⟨ret_int ?_, rfl⟩
  show nm (wrap64 (IntKind.u64.wrap (IntKind.u64.wrap (nm a) - IntKind.u64.wrap (nm b)))) = subN a b
  unfold subN; rw [nm_u, nm_usub, nm_subl, nm_subr]
theorem rdo_mul (a b : Int) (w : World) : Calls Try.prog 15 #[.int .i64 2, .int .i64 a, .int .i64 b] w fun e w' => e = .returned (.int .i64 (mulN a b)) ∧ w = w' := by
  go_enter Try.func15, Try.ntmps15
  go_wp2_with ((go_at_call 13; ((with_reducible refine (rwrap_any _ _).mono ?_); rintro e w' ⟨rfl, rfl⟩)))
  go_ret
  refine ⟨ret_int ?_, rfl⟩
  show nm (wrap64 (IntKind.u64.wrap (IntKind.u64.wrap (nm a) * IntKind.u64.wrap (nm b)))) = mulN a b
  unfold mulN; rw [nm_u, nm_umul, nm_mull, nm_mulr]
theorem rdo_no (op a b : Int) (h : op < 0 ∨ 4 < op) (w : World) : Calls Try.prog 15 #[.int .i64 op, .int .i64 a, .int .i64 b] w fun e w' => e = .returned (.int .i64 0) ∧ w = w' := by
  have h0 : (op == 0) = false := by simp; omega
  have h1 : (op == 1) = false := by simp; omega
  have h2 : (op == 2) = false := by simp; omega
  have h3 : (op != 3) = true := by simp; omega
  have h4 : (op != 4) = true := by simp; omega
  clear h
  go_enter Try.func15, Try.ntmps15
  go_wp2_with ((go_at_call 13; ((with_reducible refine (rwrap_any _ _).mono ?_); rintro e w' ⟨rfl, rfl⟩)))
  go_ret
  exact ⟨rfl, rfl⟩
end Go.Proofs.Ytkdpbdedadejlaa
