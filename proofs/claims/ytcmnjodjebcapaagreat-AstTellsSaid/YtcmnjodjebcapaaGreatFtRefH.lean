/-
  Texts of one proof, in their order. No condition.
-/
import Derived.Test.YtcmnjodjebcapaaGreatFtRefG
namespace Go.Proofs.YtcmnjodjebcapaaGreat
open Go.ChangeShapes Go.WideShapes Go.ChangeAt Go.RowKit
set_option linter.unusedVariables false
structure NmdI (s : ByteArray) (up : Bool) (q i : Nat) : Prop where
  le : i ≤ s.size
  few : q ≤ 24
  rest : ∃ f L C pre, s.size ≤ i + f ∧ badF s f i L C = badOf s ∧ runesI (runesOf s) = pre ++ runesI (runesF s f i L C) ∧ pre.length = q ∧ pre.all nameB = true ∧ (0 < q → firstB up (pre.headD 0) = true)
theorem NmdI.next {s : ByteArray} {up : Bool} {q i : Nat} (h : NmdI s up q i) (hi : i < s.size) (hb : badAt s i = false) :
    (nameB ((Utf8.decode s i).1 : Int) = false → rnamedB s up = false) ∧ (q = 0 → firstB up ((Utf8.decode s i).1 : Int) = false → rnamedB s up = false) ∧ (24 ≤ q → rnamedB s up = false) ∧
    (nameB ((Utf8.decode s i).1 : Int) = true → (q = 0 → firstB up ((Utf8.decode s i).1 : Int) = true) → q < 24 → NmdI s up (q + 1) (i + (Utf8.decode s i).2)) := by
  obtain ⟨f, L, C, pre, hf, hbad, hr, hl, ha, h0⟩ := h.rest
  obtain ⟨f, rfl⟩ : ∃ f', f = f' + 1 := ⟨f - 1, by omega⟩
  have hw := dec_width s i hi
  rw [runesF_good s f i L C hi hb] at hr
  rw [badF_good s f i L C hi hb] at hbad
  have hr2 : runesI (runesOf s) = pre ++ (((Utf8.decode s i).1 : Int) :: runesI (runesF s f (i + (Utf8.decode s i).2) (nlL (Utf8.decode s i).1 L) (nlC (Utf8.decode s i).1 C))) := hr
  have no : nameRunes up (runesI (runesOf s)) = false → rnamedB s up = false := fun e => by rw [rnamedB, e]; simp
  refine ⟨fun e => no ?_, fun eq e => no ?_, fun e => no ?_, fun e1 e2 e3 => ⟨by omega, by omega, f, _, _, pre ++ [((Utf8.decode s i).1 : Int)], by omega, hbad, by rw [hr2]; simp, by simp [hl], by simp [ha, e1], fun _ => ?_⟩⟩
  · rw [nameRunes, hr2]; simp [e]
  · subst eq
    have : pre = [] := List.eq_nil_of_length_eq_zero hl
    rw [nameRunes, hr2, this]; simp only [List.nil_append, List.headD_cons, e, Bool.and_false]
  · rw [nameRunes, hr2]
    have : ¬ ((pre ++ (((Utf8.decode s i).1 : Int) :: runesI (runesF s f (i + (Utf8.decode s i).2) (nlL (Utf8.decode s i).1 L) (nlC (Utf8.decode s i).1 C)))).length ≤ 24) := by simp; omega
    simp only [this, and_false, decide_false, Bool.false_and]
  · cases pre with
    | nil => exact e2 (by simpa using hl.symm)
    | cons a t => exact h0 (by simp at hl; omega)
theorem NmdI.done {s : ByteArray} {up : Bool} {q i : Nat} (h : NmdI s up q i) (hi : s.size ≤ i) : rnamedB s up = (decide (0 < q) && !wordB s.data.toList) := by
  obtain ⟨f, L, C, pre, hf, hbad, hr, hl, ha, h0⟩ := h.rest
  have hfew := h.few
  rw [runesF_end s f i L C (by omega)] at hr
  rw [badF_end s f i L C (by omega)] at hbad
  have hr2 : runesI (runesOf s) = pre := by rw [hr]; simp [runesI]
  rw [rnamedB, ← hbad, hr2, nameRunes, ha, hl]
  by_cases hq : 0 < q
  · rw [h0 hq]; simp [hq, hfew]
  · simp [hq]
end Go.Proofs.YtcmnjodjebcapaaGreat
