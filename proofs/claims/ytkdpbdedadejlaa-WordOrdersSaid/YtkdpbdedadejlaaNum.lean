/-
  Plain facts on numbers of 63 bits: what a number stands for, sums, products, quotients and rests of such, and words. No condition.
-/
import Derived.WalkKit
namespace Go.Proofs.Ytkdpbdedadejlaa
open Go.RowKit

/-- The number that n stands for. -/
def nm (n : Int) : Int := (n + 4611686018427387904) % 9223372036854775808 - 4611686018427387904

theorem nm_lo (n : Int) : -4611686018427387904 ≤ nm n := by unfold nm; omega
theorem nm_hi (n : Int) : nm n ≤ 4611686018427387903 := by unfold nm; omega
theorem nm_in {n : Int} (h0 : -4611686018427387904 ≤ n) (h1 : n ≤ 4611686018427387903) : nm n = n := by unfold nm; omega
theorem nm_nm (n : Int) : nm (nm n) = nm n := nm_in (nm_lo n) (nm_hi n)
theorem nm_mod (n : Int) : nm n % 9223372036854775808 = n % 9223372036854775808 := by unfold nm; omega
theorem nm_eq {m n : Int} (h : m % 9223372036854775808 = n % 9223372036854775808) : nm m = nm n := by unfold nm; omega
theorem nm_wrap (n : Int) : nm (wrap64 n) = nm n := by unfold nm wrap64; omega
theorem nm_shift (n : Int) : wrap64 (n * 2) / 2 = nm n := by unfold nm wrap64; omega
theorem nm_addl (a b : Int) : nm (nm a + b) = nm (a + b) := by unfold nm; omega
theorem nm_addr (a b : Int) : nm (a + nm b) = nm (a + b) := by unfold nm; omega
theorem nm_subl (a b : Int) : nm (nm a - b) = nm (a - b) := by unfold nm; omega
theorem nm_subr (a b : Int) : nm (a - nm b) = nm (a - b) := by unfold nm; omega
theorem nm_mull (a b : Int) : nm (nm a * b) = nm (a * b) := nm_eq (by rw [Int.mul_emod, nm_mod, ← Int.mul_emod])
theorem nm_mulr (a b : Int) : nm (a * nm b) = nm (a * b) := nm_eq (by rw [Int.mul_emod, nm_mod, ← Int.mul_emod])

def addN (a b : Int) : Int := nm (a + b)
def subN (a b : Int) : Int := nm (a - b)
def mulN (a b : Int) : Int := nm (a * b)
def divN (a b : Int) : Int := if nm b = 0 then 0 else nm ((nm a).tdiv (nm b))
def modN (a b : Int) : Int := if nm b = 0 then nm a else (nm a).tmod (nm b)

/-- An operator, by its number. -/
def doN (op a b : Int) : Int :=
  if op = 0 then addN a b else if op = 1 then subN a b else if op = 2 then mulN a b else if op = 3 then divN a b else if op = 4 then modN a b else 0
/-- A comparison, by its number. -/
def askN (op a b : Int) : Bool :=
  if op = 5 then decide (nm a < nm b) else if op = 6 then decide (nm a ≤ nm b) else if op = 7 then (nm a == nm b) else false

/-! ### A ring -/
theorem add_comm (a b : Int) : addN a b = addN b a := by unfold addN; rw [Int.add_comm]
theorem mul_comm (a b : Int) : mulN a b = mulN b a := by unfold mulN; rw [Int.mul_comm]
theorem add_assoc (a b c : Int) : addN (addN a b) c = addN a (addN b c) := by unfold addN; rw [nm_addl, nm_addr, Int.add_assoc]
theorem mul_assoc (a b c : Int) : mulN (mulN a b) c = mulN a (mulN b c) := by unfold mulN; rw [nm_mull, nm_mulr, Int.mul_assoc]
theorem mul_add (a b c : Int) : mulN (addN a b) c = addN (mulN a c) (mulN b c) := by
  unfold mulN addN; rw [nm_mull, nm_addl, nm_addr, Int.add_mul]
theorem sub_add (a b : Int) : subN (addN a b) b = nm a := by unfold subN addN; rw [nm_subl]; congr 1; omega
theorem mul_one (a : Int) : mulN a 1 = nm a := by unfold mulN; rw [Int.mul_one]
theorem add_lo (a b : Int) : -4611686018427387904 ≤ addN a b := nm_lo _
theorem add_hi (a b : Int) : addN a b < 4611686018427387904 := by have := nm_hi (a + b); unfold addN; omega

/-! ### Quotient and rest -/
theorem tmod_abs (x y : Int) (hy : y ≠ 0) : (x.tmod y).natAbs < y.natAbs := by
  rw [Int.natAbs_tmod]; exact Nat.mod_lt _ (by omega)
theorem tmod_bd (x y : Int) (hx0 : -4611686018427387904 ≤ x) (hx1 : x ≤ 4611686018427387903) : -4611686018427387904 ≤ x.tmod y ∧ x.tmod y ≤ 4611686018427387903 := by
  have h : (x.tmod y).natAbs ≤ x.natAbs := by rw [Int.natAbs_tmod]; exact Nat.mod_le _ _
  by_cases hx : 0 ≤ x
  · have := Int.tmod_nonneg y hx; omega
  · have := Int.tmod_nonneg y (a := -x) (by omega); rw [Int.neg_tmod] at this; omega
theorem mod_lo (a b : Int) : -4611686018427387904 ≤ modN a b := by
  unfold modN; split
  · exact nm_lo _
  · exact (tmod_bd _ _ (nm_lo _) (nm_hi _)).1
theorem mod_hi (a b : Int) : modN a b ≤ 4611686018427387903 := by
  unfold modN; split
  · exact nm_hi _
  · exact (tmod_bd _ _ (nm_lo _) (nm_hi _)).2
theorem div_lo (a b : Int) : -4611686018427387904 ≤ divN a b := by
  unfold divN; split
  · omega
  · exact nm_lo _
theorem div_hi (a b : Int) : divN a b ≤ 4611686018427387903 := by
  unfold divN; split
  · omega
  · exact nm_hi _
theorem nm_one : nm 1 = 1 := by decide
theorem div_one (a : Int) : divN a 1 = nm a := by unfold divN; rw [nm_one, if_neg (by omega), Int.tdiv_one, nm_nm]
theorem mod_one (a : Int) : modN a 1 = 0 := by unfold modN; rw [nm_one, if_neg (by omega), Int.tmod_one]
theorem mod_sign (a b : Int) (h : modN a b ≠ 0) : modN a b < 0 ↔ nm a < 0 := by
  unfold modN at *; split at h
  · rename_i hb; rw [if_pos hb]
  · rename_i hb; rw [if_neg hb]
    by_cases hx : 0 ≤ nm a
    · have := Int.tmod_nonneg (nm b) hx; omega
    · have := Int.tmod_nonneg (nm b) (a := -nm a) (by omega); rw [Int.neg_tmod] at this; omega
theorem mod_less (a b : Int) (h : nm b ≠ 0) : (modN a b).natAbs < (nm b).natAbs := by
  unfold modN; rw [if_neg h]; exact tmod_abs _ _ h
theorem div_mod (a b : Int) : addN (mulN (divN a b) b) (modN a b) = nm a := by
  unfold addN mulN divN modN; rw [nm_addl]
  split
  · rw [Int.zero_mul, Int.zero_add, nm_nm]
  · rw [← nm_addl, nm_mull, nm_addl, ← nm_addl, ← nm_mulr, nm_addl, Int.tdiv_mul_add_tmod, nm_nm]

/-! ### The examples -/
theorem ex_wrap : nm 4611686018427387904 = -4611686018427387904 := by decide
theorem ex_div : divN (-7) 2 = -3 := by decide
theorem ex_mod : modN (-7) 2 = -1 := by decide
theorem ex_mod0 : modN 5 0 = 5 := by decide

/-! ### Words -/
/-- The word of the number that n stands for. -/
def immN (n : Int) : Int := (2 * nm n + 1) % 18446744073709551616
/-- A word's number; 0 where it is none. -/
def numN (w : Int) : Int := if w % 2 = 1 then nm (w / 2) else 0
/-- A word's place; 0 where it is none. -/
def atN (w : Int) : Int := if w % 2 = 0 ∧ w < 8589934592 then w / 2 else 0
def isNum (w : Int) : Bool := w % 2 == 1
def isAt (w : Int) : Bool := decide (w % 2 = 0 ∧ 0 < w ∧ w < 8589934592)
theorem imm_lo (n : Int) : 0 ≤ immN n := by unfold immN; omega
theorem imm_hi (n : Int) : immN n ≤ 18446744073709551615 := by unfold immN; omega
theorem num_imm (n : Int) : numN (immN n) = nm n := by unfold numN immN nm; split <;> omega
theorem isNum_imm (n : Int) : isNum (immN n) = true := by unfold isNum immN nm; simp
theorem at_ptr (n : Int) (h0 : 0 ≤ n) (h1 : n ≤ 4294967295) : atN (2 * n) = n := by unfold atN; split <;> omega
theorem isAt_ptr (n : Int) (h0 : 0 ≤ n) (h1 : n ≤ 4294967295) : isAt (2 * n) = decide (0 < n) := by
  unfold isAt; rw [decide_eq_decide]; omega
theorem not_both (w : Int) : (isNum w && isAt w) = false := by
  unfold isNum isAt; by_cases h : w % 2 = 1 <;> simp [h]
theorem ex_imm : immN 3 = 7 := by decide

/-! ### Orders -/
theorem up_max (a : Int) : decide (nm a < nm (addN a 1)) = !(nm a == 4611686018427387903) := by
  have h : addN a 1 = nm (a + 1) := rfl
  rw [h, nm_nm, Bool.eq_iff_iff]; simp; unfold nm; omega
end Go.Proofs.Ytkdpbdedadejlaa
