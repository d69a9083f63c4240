/-
  Texts of one proof, in their order. No condition.
-/
import Derived.Test.YtjhnmikciejekaaGreatPqBare
namespace Go.Proofs.YtjhnmikciejekaaGreat
open Go.RowKit
set_option linter.unusedVariables false
theorem skipF_line : ∀ (l : List Int) (m : Bool) (q : List Int), skipF m 0 (l ++ 10 :: q) = if skipF m 0 l < l.length then skipF m 0 l else l.length + 1 + skipF false 0 q := by
  intro l
  induction l with
  | nil =>
    intro m q
    have h := skipF_from q false (0 + 1)
    have e1 : skipF false 0 (10 :: q) = skipF false (0 + 1) q := by rw [skipF, if_pos (by decide)]
    have e2 : skipF true 0 (10 :: q) = skipF false (0 + 1) q := by rw [skipF, if_pos rfl]
    cases m
    · rw [List.nil_append, e1, h]; simp
    · rw [List.nil_append, e2, h]; simp
  | cons c t ih =>
    intro m q
    have a1 := ih false q
    have a2 := ih true q
    have b1 := skipF_from t false (0 + 1)
    have b2 := skipF_from t true (0 + 1)
    have c1 := skipF_from (t ++ 10 :: q) false (0 + 1)
    have c2 := skipF_from (t ++ 10 :: q) true (0 + 1)
    have key : ∀ m', skipF m' (0 + 1) (t ++ 10 :: q) = if skipF m' (0 + 1) t < (c :: t).length then skipF m' (0 + 1) t else (c :: t).length + 1 + skipF false 0 q := by
      intro m'
      cases m'
      · rw [c1, b1, a1, List.length_cons]
        by_cases h : skipF false 0 t < t.length
        · rw [if_pos h, if_pos (by omega)]
        · rw [if_neg h, if_neg (by omega)]; omega
      · rw [c2, b2, a2, List.length_cons]
        by_cases h : skipF true 0 t < t.length
        · rw [if_pos h, if_pos (by omega)]
        · rw [if_neg h, if_neg (by omega)]; omega
    rw [List.cons_append]
    cases m
    · rw [skipF, skipF]
      by_cases h1 : blankB c = true
      · rw [if_pos h1, if_pos h1]; exact key false
      rw [if_neg h1, if_neg h1]
      by_cases h2 : c = 35
      · rw [if_pos h2, if_pos h2]; exact key true
      · rw [if_neg h2, if_neg h2]; simp
    · rw [skipF, skipF]
      by_cases h1 : c = 10
      · rw [if_pos h1, if_pos h1]; exact key false
      · rw [if_neg h1, if_neg h1]; exact key true
theorem namB_line (l q : List Int) : namB (l ++ 10 :: q) = namB l := by
  induction l with
  | nil => simp [namB, nameB, lowB, upB, digB]
  | cons c t ih =>
    unfold namB at ih ⊢
    rw [List.cons_append, List.takeWhile_cons, List.takeWhile_cons, ih]
theorem numF_line : ∀ (l q : List Int) (n : Int) (k : Nat), numF n k (l ++ 10 :: q) = numF n k l := by
  intro l
  induction l with
  | nil => intro q n k; simp [numF, digB]
  | cons c t ih => intro q n k; rw [List.cons_append, numF, numF, ih]
theorem escF_other {a : Int} {t : List Int} (h : a ≠ 120 ∧ a ≠ 34 ∧ a ≠ 92 ∧ a ≠ 110 ∧ a ≠ 116) : escF (a :: t) = none := by
  unfold escF
  split <;> simp_all
theorem escF_hex {t : List Int} : escF (120 :: t) = match t with | h :: i :: _ => if hexV h < 0 ∨ hexV i < 0 then none else some ((16 * hexV h + hexV i).toNat.toUInt8, 3) | _ => none := by
  match t with
  | [] => rfl
  | [_] => rfl
  | _ :: _ :: _ => rfl
theorem hexV_line : hexV 10 < 0 := by decide
theorem escF_line (t q : List Int) : escF (t ++ 10 :: q) = escF t := by
  match t with
  | [] => exact escF_other (by decide)
  | a :: r =>
    rw [List.cons_append]
    by_cases h1 : a = 120
    · subst h1
      rw [escF_hex, escF_hex]
      match r with
      | [] => match q with
        | [] => rfl
        | i :: _ => simp [hexV_line]
      | [h] => simp [hexV_line]
      | h :: i :: _ => rfl
    by_cases h2 : a = 34
    · subst h2; rfl
    by_cases h3 : a = 92
    · subst h3; rfl
    by_cases h4 : a = 110
    · subst h4; rfl
    by_cases h5 : a = 116
    · subst h5; rfl
    rw [escF_other ⟨h1, h2, h3, h4, h5⟩, escF_other ⟨h1, h2, h3, h4, h5⟩]
theorem txtF_line (q : List Int) : ∀ (f g : Nat) (l : List Int) (acc : List UInt8) (k : Nat), l.length < f → l.length + q.length + 1 < g → txtF g acc k (l ++ 10 :: q) = txtF f acc k l := by
  intro f
  induction f with
  | zero => intro g l acc k h; omega
  | succ f ih =>
    intro g l acc k hf hg
    obtain ⟨g, rfl⟩ : ∃ g', g = g' + 1 := ⟨g - 1, by omega⟩
    cases l with
    | nil =>
      have e1 : txtF (g + 1) acc k (10 :: q) = none := by rw [txtF, if_neg (by decide), if_pos rfl]
      rw [List.nil_append, e1]; rfl
    | cons c t =>
      simp only [List.length_cons] at hf hg
      rw [List.cons_append, txtF, txtF, escF_line]
      cases he : escF t with
      | none => rw [ih g t _ _ (by omega) (by omega)]
      | some p =>
        obtain ⟨b, m⟩ := p
        have hm := escF_pos he
        simp only
        have hd : (t ++ 10 :: q).drop m = t.drop m ++ 10 :: q := by rw [List.drop_append_of_le_length hm.2]
        rw [hd, ih g t _ _ (by omega) (by omega), ih g (t.drop m) _ _ (by simp; omega) (by simp; omega)]
theorem textF_line2 (acc : List UInt8) (k : Nat) (l q : List Int) : textF acc k (l ++ 10 :: q) = textF acc k l := by
  unfold textF
  exact txtF_line q _ _ _ _ _ (by omega) (by rw [List.length_append, List.length_cons]; omega)
theorem tokF_line {l : List Int} (hl : l ≠ []) (q : List Int) : tokF 0 0 0 (l ++ 10 :: q) = tokF 0 0 0 l := by
  match l, hl with
  | c :: t, _ =>
    have e1 := namB_line (c :: t) q
    have e2 := numF_line (c :: t) q 0 0
    rw [List.cons_append] at e1 e2 ⊢
    have e4 : signF c ((t ++ 10 :: q).headD (-1)) = signF c (t.headD (-1)) := by
      cases t with
      | nil => simp [signF]
      | cons d r => rfl
    rw [tokF, tokF, e1, e2, textF_line2, e4]
theorem numF_le : ∀ (l : List Int) (n : Int) (k : Nat) (n' : Int) (k' : Nat), numF n k l = some (n', k') → k' ≤ k + l.length := by
  intro l
  induction l with
  | nil => intro n k n' k' h; simp [numF] at h; simp; omega
  | cons c t ih =>
    intro n k n' k' h
    rw [numF] at h
    rw [List.length_cons]
    split at h
    · split at h
      · cases h
      · have := ih _ _ _ _ h; omega
    · simp at h; omega
theorem txtF_le : ∀ (f : Nat) (acc : List UInt8) (k : Nat) (l : List Int) (b : List UInt8) (k' : Nat), txtF f acc k l = some (b, k') → k' ≤ k + l.length := by
  intro f
  induction f with
  | zero => intro acc k l b k' h; simp [txtF] at h
  | succ f ih =>
    intro acc k l b k' h
    cases l with
    | nil => simp [txtF] at h
    | cons c t =>
      rw [txtF] at h
      rw [List.length_cons]
      split at h
      · simp at h; omega
      split at h
      · cases h
      split at h
      · cases he : escF t with
        | none => rw [he] at h; cases h
        | some p =>
          obtain ⟨x, m⟩ := p
          have hm := escF_pos he
          rw [he] at h
          have := ih _ _ _ _ _ h
          simp only [List.length_drop] at this; omega
      · have := ih _ _ _ _ _ h; omega
theorem signF_le (c d : Int) (t : List Int) (h : t.headD (-1) = d) : (signF c d).length ≤ (c :: t).length := by
  rw [List.length_cons]
  unfold signF
  split
  · rename_i h1
    cases t with
    | nil => simp at h; omega
    | cons x r => simp
  split
  · cases t with
    | nil => simp at h; omega
    | cons x r => simp
  split
  · cases t with
    | nil => simp at h; omega
    | cons x r => simp
  split <;> simp
theorem tokF_le {l : List Int} {t : Tok} {j : Nat} (h : tokF 0 0 0 l = .inr (t, j)) : j ≤ l.length := by
  cases l with
  | nil => rw [tokF_end rfl] at h; cases h; simp
  | cons c r =>
    by_cases h1 : lowB c = true ∨ upB c = true
    · rw [tokF_name h1] at h
      split at h
      · cases h
      · cases h
        have := (List.takeWhile_sublist nameB (l := c :: r)).length_le
        unfold namB; omega
    by_cases h2 : digB c = true
    · cases hn : numF 0 0 (c :: r) with
      | none => rw [tokF_num_no h1 h2 hn] at h; cases h
      | some p => obtain ⟨n, j'⟩ := p
                  have := numF_le _ _ _ _ _ hn
                  rw [tokF_num h1 h2 hn] at h; cases h; omega
    by_cases h3 : c = 34
    · subst h3
      cases hn : textF [] (0 + 1) r with
      | none => rw [tokF_text_no hn] at h; cases h
      | some p => obtain ⟨b, j'⟩ := p
                  have := txtF_le _ _ _ _ _ _ hn
                  rw [tokF_text hn] at h
                  split at h
                  · cases h
                  · cases h; rw [List.length_cons]; omega
    · rw [tokF_sign h1 h2 h3] at h
      split at h
      · cases h
      · cases h
        have := signF_le c _ r rfl
        omega
def endT : Tok := ⟨0, [], 0, [], 0, 0⟩
theorem tokF_kind0 {l : List Int} {t : Tok} {j : Nat} (h : tokF 0 0 0 l = .inr (t, j)) (hk : t.kind = 0) : l = [] ∧ t = endT ∧ j = 0 := by
  cases l with
  | nil => rw [tokF_end rfl] at h; cases h; exact ⟨rfl, rfl, rfl⟩
  | cons c r =>
    exfalso
    by_cases h1 : lowB c = true ∨ upB c = true
    · rw [tokF_name h1] at h
      split at h
      · cases h
      · cases h; simp only [kindF] at hk; split at hk <;> (try split at hk) <;> omega
    by_cases h2 : digB c = true
    · cases hn : numF 0 0 (c :: r) with
      | none => rw [tokF_num_no h1 h2 hn] at h; cases h
      | some p => obtain ⟨n, j'⟩ := p
                  rw [tokF_num h1 h2 hn] at h; cases h; simp at hk
    by_cases h3 : c = 34
    · subst h3
      cases hn : textF [] (0 + 1) r with
      | none => rw [tokF_text_no hn] at h; cases h
      | some p => obtain ⟨b, j'⟩ := p
                  rw [tokF_text hn] at h
                  split at h
                  · cases h
                  · cases h; simp at hk
    · rw [tokF_sign h1 h2 h3] at h
      split at h
      · cases h
      · cases h; simp at hk
theorem headL_nil {l : List Int} (h : l.length ≤ skipF false 0 l) : headL l = .inr (endT, []) := by
  have : l.drop (skipF false 0 l) = [] := List.drop_eq_nil_of_le h
  rw [headL, this]; rfl
theorem headL_line_in {l : List Int} (h : skipF false 0 l < l.length) (q : List Int) : headL (l ++ 10 :: q) = match headL l with | .inl e => .inl e | .inr (t, r) => .inr (t, r ++ 10 :: q) := by
  have hne : l.drop (skipF false 0 l) ≠ [] := by
    intro e; have := congrArg List.length e; simp at this; omega
  have hs : skipF false 0 (l ++ 10 :: q) = skipF false 0 l := by rw [skipF_line, if_pos h]
  rw [headL, headL, hs, List.drop_append_of_le_length (by omega), tokF_line hne]
  cases ht : tokF 0 0 0 (l.drop (skipF false 0 l)) with
  | inl e => rfl
  | inr p =>
    obtain ⟨t, j⟩ := p
    simp only
    rw [List.drop_append_of_le_length (tokF_le ht)]
theorem headL_line_out {l : List Int} (h : l.length ≤ skipF false 0 l) (q : List Int) : headL (l ++ 10 :: q) = headL q := by
  have hs : skipF false 0 (l ++ 10 :: q) = l.length + 1 + skipF false 0 q := by rw [skipF_line, if_neg (by omega)]
  have hd : (l ++ 10 :: q).drop (skipF false 0 (l ++ 10 :: q)) = q.drop (skipF false 0 q) := by
    rw [hs, show l.length + 1 + skipF false 0 q = l.length + (1 + skipF false 0 q) by omega, List.drop_append]
    simp [Nat.add_comm 1]
  rw [headL, headL, hd]
theorem headL_less {l : List Int} {t : Tok} {r : List Int} (h : headL l = .inr (t, r)) (hk : t.kind ≠ 0) : r.length < l.length := by
  unfold headL at h
  cases ht : tokF 0 0 0 (l.drop (skipF false 0 l)) with
  | inl e => rw [ht] at h; cases h
  | inr p =>
    obtain ⟨t', j⟩ := p
    rw [ht] at h
    simp only [Sum.inr.injEq, Prod.mk.injEq] at h
    obtain ⟨rfl, rfl⟩ := h
    have h1 := tokF_le ht
    have h2 := tokF_gt ht hk
    simp only [List.length_drop] at h1 ⊢
    omega
theorem headL_end {l : List Int} {t : Tok} {r : List Int} (h : headL l = .inr (t, r)) (hk : t.kind = 0) : l.length ≤ skipF false 0 l ∧ t = endT := by
  unfold headL at h
  cases ht : tokF 0 0 0 (l.drop (skipF false 0 l)) with
  | inl e => rw [ht] at h; cases h
  | inr p =>
    obtain ⟨t', j⟩ := p
    rw [ht] at h
    simp only [Sum.inr.injEq, Prod.mk.injEq] at h
    obtain ⟨rfl, rfl⟩ := h
    obtain ⟨h1, h2, _⟩ := tokF_kind0 ht hk
    exact ⟨by have := congrArg List.length h1; simp at this; omega, h2⟩
def lexP : Nat → List Int → Sum Int (List Tok)
  | 0, _ => .inr []
  | f + 1, l => match headL l with
    | .inl e => .inl e
    | .inr (t, r) => if t.kind = 0 then .inr [t] else (match lexP f r with | .inl e => .inl e | .inr T => .inr (t :: T))
theorem lexP_fault {f : Nat} {l : List Int} {e : Int} (h : headL l = .inl e) : lexP (f + 1) l = .inl e := by rw [lexP, h]
theorem lexP_end {f : Nat} {l : List Int} {t : Tok} {r : List Int} (h : headL l = .inr (t, r)) (hk : t.kind = 0) : lexP (f + 1) l = .inr [t] := by rw [lexP, h]; simp only; rw [if_pos hk]
theorem lexP_on {f : Nat} {l : List Int} {t : Tok} {r : List Int} (h : headL l = .inr (t, r)) (hk : t.kind ≠ 0) : lexP (f + 1) l = match lexP f r with | .inl e => .inl e | .inr T => .inr (t :: T) := by rw [lexP, h]; simp only; rw [if_neg hk]
theorem lexP_fuel : ∀ (f g : Nat) (l : List Int), l.length < f → l.length < g → lexP f l = lexP g l := by
  intro f
  induction f with
  | zero => intro g l h; omega
  | succ f ih =>
    intro g l hf hg
    obtain ⟨g, rfl⟩ : ∃ g', g = g' + 1 := ⟨g - 1, by omega⟩
    cases h : headL l with
    | inl e => rw [lexP_fault h, lexP_fault h]
    | inr p =>
      obtain ⟨t, r⟩ := p
      by_cases hk : t.kind = 0
      · rw [lexP_end h hk, lexP_end h hk]
      · have := headL_less h hk
        rw [lexP_on h hk, lexP_on h hk, ih g r (by omega) (by omega)]
theorem lexL_lexP : ∀ (f : Nat) (l : List Int) (cnt : Nat), cnt + l.length < 4096 → lexL f l cnt = lexP f l := by
  intro f
  induction f with
  | zero => intro l cnt h; rfl
  | succ f ih =>
    intro l cnt hc
    cases h : headL l with
    | inl e => rw [lexP_fault h, lexL, h]
    | inr p =>
      obtain ⟨t, r⟩ := p
      rw [lexL, h]
      simp only
      rw [if_neg (by omega)]
      by_cases hk : t.kind = 0
      · rw [if_pos hk, lexP_end h hk]
      · have := headL_less h hk
        rw [if_neg hk, lexP_on h hk, ih r (cnt + 1) (by omega)]
        cases lexP f r <;> rfl
theorem lexP_ends : ∀ (f : Nat) (l : List Int) (T : List Tok), l.length < f → lexP f l = .inr T → ∃ U, T = U ++ [endT] ∧ ∀ t ∈ U, t.kind ≠ 0 := by
  intro f
  induction f with
  | zero => intro l T h; omega
  | succ f ih =>
    intro l T hf hT
    cases h : headL l with
    | inl e => rw [lexP_fault h] at hT; cases hT
    | inr p =>
      obtain ⟨t, r⟩ := p
      by_cases hk : t.kind = 0
      · rw [lexP_end h hk] at hT
        cases hT
        exact ⟨[], by rw [(headL_end h hk).2]; rfl, by simp⟩
      · have hl := headL_less h hk
        rw [lexP_on h hk] at hT
        cases hr : lexP f r with
        | inl e => rw [hr] at hT; cases hT
        | inr V =>
          rw [hr] at hT
          cases hT
          obtain ⟨U, rfl, hU⟩ := ih r V (by omega) hr
          refine ⟨t :: U, rfl, fun x hx => ?_⟩
          rcases List.mem_cons.1 hx with rfl | hx
          · exact hk
          · exact hU x hx
theorem lexP_line (q : List Int) : ∀ (f g h : Nat) (l : List Int), l.length < f → l.length + q.length + 1 < g → q.length < h → lexP g (l ++ 10 :: q) = match lexP f l with | .inl e => .inl e | .inr T => (match lexP h q with | .inl e => .inl e | .inr U => .inr (T.dropLast ++ U)) := by
  intro f
  induction f with
  | zero => intro g h l hf; omega
  | succ f ih =>
    intro g h l hf hg hh
    obtain ⟨g, rfl⟩ : ∃ g', g = g' + 1 := ⟨g - 1, by omega⟩
    by_cases hs : skipF false 0 l < l.length
    · have hL := headL_line_in hs q
      cases ht : headL l with
      | inl e => rw [ht] at hL; rw [lexP_fault hL, lexP_fault ht]
      | inr p =>
        obtain ⟨t, r⟩ := p
        rw [ht] at hL
        have hk : t.kind ≠ 0 := fun hk => by have := (headL_end ht hk).1; omega
        have hl := headL_less ht hk
        rw [lexP_on hL hk, lexP_on ht hk, ih g h r (by omega) (by omega) hh]
        cases hr : lexP f r with
        | inl e => rfl
        | inr T =>
          simp only
          obtain ⟨U, rfl, -⟩ := lexP_ends f r T (by omega) hr
          cases lexP h q with
          | inl e => rfl
          | inr V =>
            have e1 : (t :: (U ++ [endT])).dropLast = t :: U := by rw [← List.cons_append]; exact List.dropLast_concat
            simp [e1]
    · have hn := headL_nil (l := l) (by omega)
      have hL := headL_line_out (l := l) (by omega) q
      rw [lexP_end hn rfl]
      obtain ⟨h, rfl⟩ : ∃ h', h = h' + 1 := ⟨h - 1, by omega⟩
      have e1 : lexP (g + 1) (l ++ 10 :: q) = lexP (g + 1) q := by rw [lexP, lexP, hL]
      rw [e1, lexP_fuel (g + 1) (h + 1) q (by omega) (by omega)]
      cases lexP (h + 1) q <;> rfl
end Go.Proofs.YtjhnmikciejekaaGreat
