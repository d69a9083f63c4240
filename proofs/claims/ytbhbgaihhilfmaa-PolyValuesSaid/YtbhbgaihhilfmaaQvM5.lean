/-
  Texts of one proof, in their order. No condition.
-/
import Derived.Test.YtbhbgaihhilfmaaQvM4
namespace Go.Proofs.Ytbhbgaihhilfmaa.Poly
set_option linter.unusedVariables false
set_option linter.unusedSimpArgs false
def powR (wr : Int → Int) (r : Res) (x : List Tm) : Nat → Res
  | 0 => r
  | n + 1 => if r.2 = 0 then powR wr (mulF wr r.1 x) x n else r
theorem powR_err {wr : Int → Int} {r : Res} {x : List Tm} (h : r.2 ≠ 0) : ∀ n, powR wr r x n = r
  | 0 => rfl
  | n + 1 => by rw [powR, if_neg h]
def xOf (l : List (List Tm)) (k : Nat) : List Tm := l.getD k [⟨1, oneE k⟩]
def termFrom (wr : Int → Int) (l : List (List Tm)) (e : Ex) (r : Res) (k : Nat) : Res := ((List.range 12).drop k).foldl (fun r k => powR wr r (xOf l k) (e.at k)) r
theorem termFrom_at {wr : Int → Int} {l : List (List Tm)} {e : Ex} {r : Res} {k : Nat} (h : k < 12) : termFrom wr l e r k = termFrom wr l e (powR wr r (xOf l k) (e.at k)) (k + 1) := by
  unfold termFrom
  rw [range_drop h, List.foldl_cons]
def termR (wr : Int → Int) (l : List (List Tm)) (t : Tm) : Res := termFrom wr l t.e ([⟨t.c, zeroE⟩], 0) 0
def putL (wr : Int → Int) (l : List (List Tm)) (o : List Tm) : List Tm → Res
  | [] => (o, 0)
  | t :: r => if (termR wr l t).2 = 0 then (if (mergeF wr true o (termR wr l t).1).2 ≠ 0 then ([], (mergeF wr true o (termR wr l t).1).2) else putL wr l (mergeF wr true o (termR wr l t).1).1 r) else ([], (termR wr l t).2)
def putF (wr : Int → Int) (p : List Tm) (l : List (List Tm)) : Res := putL wr l [] p
theorem FitP.nil : FitP [] := ⟨by simp, by simp, by simp⟩
theorem mulL_fit {wr : Int → Int} : ∀ {prs : List (Tm × Tm)} {o o' : List Tm}, FitP o → mulL wr o prs = some o' → FitP o'
  | [], o, o', h, hm => by simp only [mulL, Option.some.injEq] at hm; subst hm; exact h
  | xy :: r, o, o', h, hm => by
    unfold mulL at hm
    split at hm
    · rename_i o2 h2
      unfold mulS at h2
      split at h2
      · cases h2
      · split at h2
        · rename_i hf
          injection h2 with h2
          subst h2
          exact mulL_fit ((fitF_iff _).1 hf) hm
        · cases h2
    · cases hm
def ResOk (r : Res) : Prop := (r.2 = 0 ∧ FitP r.1) ∨ (r.2 = 17 ∧ r.1 = [])
theorem ResOk.fit {r : Res} (h : ResOk r) : FitP r.1 := by
  rcases h with ⟨_, h⟩ | ⟨_, h⟩
  · exact h
  · rw [h]; exact FitP.nil
theorem mulF_ok {wr : Int → Int} {a b : List Tm} : ResOk (mulF wr a b) := by
  unfold mulF
  cases hm : mulL wr [] (pairs a b) with
  | none => exact .inr ⟨rfl, rfl⟩
  | some o => exact .inl ⟨rfl, mulL_fit FitP.nil hm⟩
theorem mergeF_ok {wr : Int → Int} {s : Bool} {a b : List Tm} : ResOk (mergeF wr s a b) := by
  unfold mergeF
  split
  · rename_i h; exact .inl ⟨rfl, (fitF_iff _).1 h⟩
  · exact .inr ⟨rfl, rfl⟩
theorem powR_ok {wr : Int → Int} {x : List Tm} : ∀ {n : Nat} {r : Res}, ResOk r → ResOk (powR wr r x n)
  | 0, r, h => h
  | n + 1, r, h => by
    unfold powR
    split
    · exact powR_ok mulF_ok
    · exact h
theorem one_ok (k : Nat) : FitP [⟨1, oneE k⟩] := by
  refine ⟨by simp, by simp, fun t ht => ?_⟩
  rw [List.mem_singleton] at ht
  subst ht
  refine ⟨Int.le_refl 1, (by decide : (1 : Int) ≤ 1099511627776), fun j hj => ?_⟩
  simp only [Ex.at, hj, oneE, dif_pos]
  split <;> omega
theorem num_ok {c : Int} (h0 : 1 ≤ c) (h1 : c ≤ 1099511627776) : FitP [⟨c, zeroE⟩] := by
  refine ⟨by simp, by simp, fun t ht => ?_⟩
  rw [List.mem_singleton] at ht
  subst ht
  refine ⟨h0, h1, fun j hj => ?_⟩
  simp [Ex.at, hj, zeroE]
theorem xOf_fit {l : List (List Tm)} (h : ∀ p ∈ l, FitP p) (k : Nat) : FitP (xOf l k) := by
  unfold xOf
  rw [List.getD_eq_getElem?_getD]
  cases hq : l[k]? with
  | none => exact one_ok k
  | some p => exact h p (List.mem_of_getElem? hq)
end Go.Proofs.Ytbhbgaihhilfmaa.Poly
