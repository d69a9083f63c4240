/-
  Texts of one proof, in their order. No condition.
-/
import Derived.Test.YtjhnmikciejekaaGreatPqLexok
namespace Go.Proofs.YtjhnmikciejekaaGreat
open Go.RowKit
set_option linter.unusedVariables false
theorem sound_of {s : ByteArray} {R : List Int} (hR : ∀ c ∈ R, validB c = true) (h : s.data.toList = R.flatMap enc) : badOf s = none ∧ runesI (runesOf s) = R := by
  have := runesF_put s R s.size 0 1 1 (by omega) (by simpa using h)
  refine ⟨this.1, ?_⟩
  have h2 : (runesOf s).map (·.1) = R := by
    rw [show runesOf s = runesF s s.size 0 1 1 from rfl, this.2]
    exact List.filter_eq_self.2 hR
  exact h2
theorem sound_runes {s : ByteArray} (h : badOf s = none) : (∀ c ∈ runesI (runesOf s), validB c = true) ∧ s.data.toList = (runesI (runesOf s)).flatMap enc := by
  refine ⟨fun c hc => ?_, ?_⟩
  · obtain ⟨e, he, rfl⟩ := List.mem_map.1 hc
    exact runesOf_ok s e he
  · have := runesF_text s s.size 0 1 1 (by omega) h
    rw [List.drop_zero] at this
    rw [← this, runesI, List.flatMap_map]
    rfl
theorem enc_len_pos {R : List Int} (hR : ∀ c ∈ R, validB c = true) : R.length ≤ (R.flatMap enc).length := by
  induction R with
  | nil => simp
  | cons c t ih =>
    have h1 := (enc_len c (hR c (by simp))).1
    have h2 := ih (fun x hx => hR x (by simp [hx]))
    simp only [List.flatMap_cons, List.length_append, List.length_cons]; omega
def bare (t : Tok) : Tok := ⟨t.kind, t.text, t.num, t.bytes, 0, 0⟩
theorem skipF_from : ∀ (l : List Int) (m : Bool) (k : Nat), skipF m k l = k + skipF m 0 l := by
  intro l
  induction l with
  | nil => intro m k; cases m <;> simp [skipF]
  | cons c t ih =>
    intro m k
    have a1 := ih false (k + 1)
    have a2 := ih true (k + 1)
    have b1 := ih false (0 + 1)
    have b2 := ih true (0 + 1)
    cases m
    · rw [skipF, skipF]
      split
      · omega
      · split <;> omega
    · rw [skipF, skipF]
      split <;> omega
theorem numF_from : ∀ (l : List Int) (n : Int) (k : Nat), numF n k l = (numF n 0 l).map (fun p => (p.1, k + p.2)) := by
  intro l
  induction l with
  | nil => intro n k; simp [numF]
  | cons c t ih =>
    intro n k
    rw [numF, numF]
    split
    · split
      · rfl
      · rw [ih _ (k + 1), ih _ (0 + 1), Option.map_map]; congr 1; funext p; simp; omega
    · simp
theorem txtF_from : ∀ (f : Nat) (acc : List UInt8) (k : Nat) (l : List Int), txtF f acc k l = (txtF f acc 0 l).map (fun p => (p.1, k + p.2)) := by
  intro f
  induction f with
  | zero => intro acc k l; simp [txtF]
  | succ f ih =>
    intro acc k l
    cases l with
    | nil => simp [txtF]
    | cons c t =>
      rw [txtF, txtF]
      split
      · simp
      split
      · rfl
      split
      · cases he : escF t with
        | none => rfl
        | some p =>
          obtain ⟨b, m⟩ := p
          simp only
          rw [ih _ (k + 1 + m), ih _ (0 + 1 + m), Option.map_map]; congr 1; funext p; simp; omega
      · rw [ih _ (k + 1), ih _ (0 + 1), Option.map_map]; congr 1; funext p; simp; omega
theorem tokF_bare (k : Nat) (L C : Int) (l : List Int) : (match tokF k L C l with | .inl e => .inl e | .inr (t, j) => .inr (bare t, j)) = (match tokF 0 0 0 l with | .inl e => (.inl e : Sum Int (Tok × Nat)) | .inr (t, j) => .inr (t, k + j)) := by
  cases l with
  | nil => rfl
  | cons c r =>
    by_cases h1 : lowB c = true ∨ upB c = true
    · rw [tokF_name h1, tokF_name h1]
      by_cases h24 : 24 < (namB (c :: r)).length
      · rw [if_pos h24, if_pos h24]
      · rw [if_neg h24, if_neg h24]; simp [bare]
    by_cases h2 : digB c = true
    · have hk := numF_from (c :: r) 0 k
      cases hn : numF 0 0 (c :: r) with
      | none => rw [hn] at hk; rw [tokF_num_no h1 h2 hn, tokF_num_no h1 h2 hk]
      | some p => obtain ⟨n, j⟩ := p
                  rw [hn] at hk; rw [tokF_num h1 h2 hn, tokF_num h1 h2 hk]; rfl
    by_cases h3 : c = 34
    · subst h3
      have hk := txtF_from (r.length + 1) [] (k + 1) r
      have h0 := txtF_from (r.length + 1) [] (0 + 1) r
      have e1 : textF [] (k + 1) r = txtF (r.length + 1) [] (k + 1) r := rfl
      have e0 : textF [] (0 + 1) r = txtF (r.length + 1) [] (0 + 1) r := rfl
      cases hn : txtF (r.length + 1) [] 0 r with
      | none => rw [hn] at hk h0; rw [tokF_text_no (e0.trans h0), tokF_text_no (e1.trans hk)]
      | some p => obtain ⟨b, j⟩ := p
                  rw [hn] at hk h0; rw [tokF_text (e0.trans h0), tokF_text (e1.trans hk)]
                  simp only
                  by_cases h64 : 64 < b.length
                  · rw [if_pos h64, if_pos h64]
                  · rw [if_neg h64, if_neg h64]; simp [bare]; omega
    · rw [tokF_sign h1 h2 h3, tokF_sign h1 h2 h3]
      by_cases hs : signF c (r.headD (-1)) = []
      · rw [if_pos hs, if_pos hs]
      · rw [if_neg hs, if_neg hs]; simp [bare]
def headL (l : List Int) : Sum Int (Tok × List Int) := match tokF 0 0 0 (l.drop (skipF false 0 l)) with | .inl e => .inl e | .inr (t, j) => .inr (t, (l.drop (skipF false 0 l)).drop j)
def lexL : Nat → List Int → Nat → Sum Int (List Tok)
  | 0, _, _ => .inr []
  | f + 1, l, cnt => match headL l with
    | .inl e => .inl e
    | .inr (t, r) => if cnt = 4096 then .inl 27 else if t.kind = 0 then .inr [t] else (match lexL f r (cnt + 1) with | .inl e => .inl e | .inr T => .inr (t :: T))
def bareS (x : Sum (Int × Int × Int) (List Tok)) : Sum Int (List Tok) := match x with | .inl e => .inl e.1 | .inr T => .inr (T.map bare)
theorem lexF_bare (rs : List Ent) (eL eC : Int) : ∀ (f k cnt : Nat), bareS (lexF rs eL eC f k cnt) = lexL f ((runesI rs).drop k) cnt := by
  intro f
  induction f with
  | zero => intro k cnt; rfl
  | succ f ih =>
    intro k cnt
    have hp : passF rs k = k + skipF false 0 ((runesI rs).drop k) := skipF_from _ _ _
    have hd : (runesI rs).drop (passF rs k) = ((runesI rs).drop k).drop (skipF false 0 ((runesI rs).drop k)) := by rw [List.drop_drop, hp]
    have hb := tokF_bare (passF rs k) (lineAt rs eL (passF rs k)) (colAt rs eC (passF rs k)) ((runesI rs).drop (passF rs k))
    rw [lexF, lexL, headL, ← hd]
    unfold oneF
    cases ho : tokF (passF rs k) (lineAt rs eL (passF rs k)) (colAt rs eC (passF rs k)) ((runesI rs).drop (passF rs k)) with
    | inl e =>
      rw [ho] at hb
      cases h0 : tokF 0 0 0 ((runesI rs).drop (passF rs k)) with
      | inl e' => rw [h0] at hb; simp at hb; subst hb; rfl
      | inr p => obtain ⟨t, j⟩ := p; rw [h0] at hb; cases hb
    | inr p =>
      obtain ⟨t, k'⟩ := p
      rw [ho] at hb
      cases h0 : tokF 0 0 0 ((runesI rs).drop (passF rs k)) with
      | inl e' => rw [h0] at hb; cases hb
      | inr p =>
        obtain ⟨t0, j⟩ := p
        rw [h0] at hb
        simp only [Sum.inr.injEq, Prod.mk.injEq] at hb
        obtain ⟨rfl, rfl⟩ := hb
        simp only
        by_cases hc : cnt = 4096
        · rw [if_pos hc, if_pos hc]; rfl
        rw [if_neg hc, if_neg hc]
        by_cases hk : t.kind = 0
        · rw [if_pos hk, if_pos (show (bare t).kind = 0 from hk)]; rfl
        · rw [if_neg hk, if_neg (show ¬ (bare t).kind = 0 from hk)]
          have h2 := ih (passF rs k + j) (cnt + 1)
          rw [List.drop_drop, ← h2]
          cases lexF rs eL eC f (passF rs k + j) (cnt + 1) <;> rfl
theorem lexOf_bare {s : ByteArray} (hs : s.size ≤ 16384) (hb : badOf s = none) : bareS (lexOf s) = lexL ((runesI (runesOf s)).length + 1) (runesI (runesOf s)) 0 := by
  rw [lexOf, if_neg (by omega), hb]
  simp only
  rw [lexF_bare, List.drop_zero]
  simp [runesI]
end Go.Proofs.YtjhnmikciejekaaGreat
