/-
  Texts of one proof, in their order. No condition.
-/
import Derived.Test.YtbhbgaihhilfmaaQvM3
namespace Go.Proofs.Ytbhbgaihhilfmaa.Poly
set_option linter.unusedVariables false
set_option linter.unusedSimpArgs false
def deadK (e : Ex) (l : List Int) (k : Nat) : Bool := decide (0 < e.at k) && (decide (l.length ≤ k) || decide (l.getD k 0 < 1))
def deadFrom (e : Ex) (l : List Int) (k : Nat) : Bool := ((List.range 12).drop k).any (deadK e l)
theorem range_drop {k : Nat} (h : k < 12) : (List.range 12).drop k = k :: (List.range 12).drop (k + 1) := by
  rw [List.drop_eq_getElem_cons (by simpa using h)]; simp
def facsFrom (e : Ex) (l : List Int) (k : Nat) : List Int := ((List.range 12).drop k).flatMap fun k => List.replicate (e.at k) (l.getD k 0)
def mulAll (n : Int) : List Int → Option Int
  | [] => some n
  | x :: r => if n > Int.tdiv 1099511627776 x then none else mulAll (n * x) r
def numO : Option Int → Int × Int
  | some n => (n, 0)
  | none => (0, 17)
def termF (t : Tm) (l : List Int) : Int × Int := if deadFrom t.e l 0 then (0, 0) else numO (mulAll t.c (facsFrom t.e l 0))
def atL (l : List Int) (s : Int) : List Tm → Option Int
  | [] => some s
  | t :: r => if (termF t l).2 ≠ 0 then none else if (termF t l).1 > 1099511627776 - s then none else atL l (s + (termF t l).1) r
def atF (p : List Tm) (l : List Int) : Int × Int := numO (atL l 0 p)
def hasT (k : Int) (t : Tm) : Bool := decide (0 ≤ k) && (decide (k < 12) && decide (0 < t.e.at k.toNat))
def hasF (p : List Tm) (k : Int) : Bool := p.any (hasT k)
def isVarT (k : Int) (t : Tm) : Bool := (decide (0 ≤ k) && decide (k < 12)) && decide (t.e = oneE k.toNat)
def splitL (k : Int) : List Tm → List Tm → Int → Option (List Tm × Int)
  | [], o, n => some (o, n)
  | t :: r, o, n => if isVarT k t then splitL k r o t.c else if hasT k t then none else splitL k r (o ++ [t]) n
def fewL (n : Nat) : List (List Tm) → Bool
  | [] => true
  | p :: r => fitF p && (decide (n + p.length ≤ 30) && fewL (n + p.length) r)
def fewF (l : List (List Tm)) : Bool := fewL 0 l && decide (l.length ≤ 20)
theorem mulAll_in : ∀ {fs : List Int} {n : Int}, 0 ≤ n → n ≤ 1099511627776 → (∀ x ∈ fs, 1 ≤ x) → ∀ m, mulAll n fs = some m → 0 ≤ m ∧ m ≤ 1099511627776
  | [], n, h0, h1, _, m, h => by simp only [mulAll, Option.some.injEq] at h; omega
  | x :: r, n, h0, h1, hx, m, h => by
    unfold mulAll at h
    split at h
    · cases h
    · rename_i hb
      have hb : n ≤ Int.tdiv 1099511627776 x := by omega
      have x1 := hx x (by simp)
      rw [Int.tdiv_eq_ediv_of_nonneg (by decide)] at hb
      have := (Int.le_ediv_iff_mul_le (by omega)).1 hb
      exact mulAll_in (Int.mul_nonneg h0 (by omega)) this (fun y hy => hx y (by simp [hy])) m h
theorem facs_pos {e : Ex} {l : List Int} (h : deadFrom e l 0 = false) : ∀ x ∈ facsFrom e l 0, 1 ≤ x := by
  intro x hx
  unfold facsFrom at hx
  unfold deadFrom at h
  simp only [List.drop_zero, List.mem_flatMap, List.mem_range, List.mem_replicate] at hx
  obtain ⟨k, hk, h1, rfl⟩ := hx
  rw [List.any_eq_false] at h
  have := h k (by simpa using hk)
  unfold deadK at this
  simp at this
  have h2 := this (by omega)
  have h3 := h2.2
  simpa using h3
end Go.Proofs.Ytbhbgaihhilfmaa.Poly
