/-
  Texts of one proof, in the order in which they lean on one another. No condition.
-/
import Derived.Test.YtcmnjodjebcapaaGreatFaRefA
import Derived.Test.YtcmnjodjebcapaaGreatFaBare
import Derived.Test.YtcmnjodjebcapaaGreatFaPads
namespace Go.Proofs.YtcmnjodjebcapaaGreat
open Go.ChangeShapes Go.WideShapes Go.ChangeAt Go.RowKit
set_option linter.unusedVariables false
def firstB (up : Bool) (c : Int) : Bool := if up then upB c else lowB c
def nameRunes (up : Bool) (R : List Int) : Bool := decide (0 < R.length ∧ R.length ≤ 24) && R.all nameB && firstB up (R.headD 0)
def rnamedB (s : ByteArray) (up : Bool) : Bool := (badOf s).isNone && nameRunes up (runesI (runesOf s)) && !wordB s.data.toList
theorem namB_all {R : List Int} (h : R.all nameB = true) : namB R = R := by
  induction R with
  | nil => rfl
  | cons c t ih =>
    simp only [List.all_cons, Bool.and_eq_true] at h
    have := ih h.2
    unfold namB at this ⊢
    rw [List.takeWhile_cons, if_pos h.1, this]
theorem tokF_name_of {l : List Int} {t : Tok} {j : Nat} (h : tokF 0 0 0 l = .inr (t, j)) (hk : t.kind = 1 ∨ t.kind = 2) : ∃ c r, l = c :: r ∧ (lowB c = true ∨ upB c = true) ∧ (namB l).length ≤ 24 ∧ t.kind = kindF ((namB l).flatMap enc) c ∧ t.text = (namB l).flatMap enc := by
  cases l with
  | nil => rw [tokF_end rfl] at h; cases h; simp at hk
  | cons c r =>
    by_cases h1 : lowB c = true ∨ upB c = true
    · rw [tokF_name h1] at h
      split at h
      · cases h
      · cases h; exact ⟨c, r, rfl, h1, by omega, rfl, rfl⟩
    by_cases h2 : digB c = true
    · cases hn : numF 0 0 (c :: r) with
      | none => rw [tokF_num_no h1 h2 hn] at h; cases h
      | some p => obtain ⟨n, j'⟩ := p
                  rw [tokF_num h1 h2 hn] at h; cases h; simp at hk
    by_cases h3 : c = 34
    · subst h3
      cases hn : textF [] (0 + 1) r with
      | none => rw [tokF_text_no hn] at h; cases h
      | some p => obtain ⟨b, j'⟩ := p
                  rw [tokF_text hn] at h
                  split at h
                  · cases h
                  · cases h; simp at hk
    · rw [tokF_sign h1 h2 h3] at h
      split at h
      · cases h
      · cases h; simp at hk
theorem part_all {R a b c : List Int} (hv : ∀ x ∈ R, validB x = true) (h : R = a ++ (b ++ c)) (he : b.flatMap enc = R.flatMap enc) : R = b := by
  subst h
  have h1 := enc_len_pos (R := a) (fun x hx => hv x (by simp [hx]))
  have h2 := enc_len_pos (R := c) (fun x hx => hv x (by simp [hx]))
  have e := congrArg List.length he
  simp only [List.flatMap_append, List.length_append] at e
  have ha : a = [] := List.eq_nil_of_length_eq_zero (by omega)
  have hc : c = [] := List.eq_nil_of_length_eq_zero (by omega)
  simp [ha, hc]
theorem low_up {c : Int} (h : lowB c = true) : upB c = false := by simp [lowB, upB] at *; omega
theorem named_same (s : ByteArray) (up : Bool) (hs : s.size ≤ 3000) : namedB s up = rnamedB s up := by
  rw [named_one]
  cases hb : badOf s with
  | some p =>
    have hf : oneB s (if up then 2 else 1) = false := oneB_fault (by rw [lexOf, if_neg (by omega), hb])
    rw [hf, rnamedB, hb]; simp
  | none =>
    obtain ⟨v, tx⟩ := sound_runes hb
    have hz := size_len s
    have hlen := enc_len_pos v
    rw [tx] at hz
    obtain ⟨R, hR⟩ : ∃ R, runesI (runesOf s) = R := ⟨_, rfl⟩
    have hbare := bare_sound (by omega) v tx
    rw [hR] at v tx hbare hz hlen
    rw [rnamedB, hb, hR]
    simp only [Option.isNone_none, Bool.true_and]
    by_cases hnr : nameRunes up R = true
    · -- a name's runes
      have h0 := hnr
      simp only [nameRunes, Bool.and_eq_true, decide_eq_true_eq] at h0
      obtain ⟨⟨⟨hp, h24⟩, hall⟩, hfst⟩ := h0
      obtain ⟨c, r, rfl⟩ := List.exists_cons_of_ne_nil (l := R) (by intro e; rw [e] at hp; simp at hp)
      have hn := namB_all hall
      have hcl : lowB c = true ∨ upB c = true := by
        cases up
        · left; simpa [firstB] using hfst
        · right; simpa [firstB] using hfst
      have hskip : skipF false 0 (c :: r) = 0 := by
        rw [skipF, if_neg, if_neg]
        · simp [lowB, upB] at hcl; omega
        · simp [lowB, upB] at hcl; simp [blankB]; omega
      have hhead : headL (c :: r) = .inr (⟨kindF ((c :: r).flatMap enc) c, (c :: r).flatMap enc, 0, [], 0, 0⟩, []) := by
        rw [headL, hskip, List.drop_zero, tokF_name hcl, hn, if_neg (by omega)]
        simp
      have hk0 : kindF ((c :: r).flatMap enc) c ≠ 0 := by
        unfold kindF; split
        · omega
        · split <;> omega
      have hP : lexP ((c :: r).length + 1) (c :: r) = .inr [⟨kindF ((c :: r).flatMap enc) c, (c :: r).flatMap enc, 0, [], 0, 0⟩, endT] := by
        rw [lexP_on hhead hk0]
        obtain ⟨f, hf⟩ : ∃ f, (c :: r).length = f + 1 := ⟨r.length, rfl⟩
        rw [hf, lexP_end (headL_nil (by decide)) rfl]
      rw [hP] at hbare
      cases hl : lexOf s with
      | inl e => rw [hl] at hbare; cases hbare.1
      | inr T =>
        rw [hl] at hbare
        have hT : T.map bare = _ := Sum.inr.inj hbare.1
        have h2 : T.length = 2 := by have := congrArg List.length hT; simpa using this
        obtain ⟨t, e, rfl⟩ : ∃ t e, T = [t, e] := by
          match T, h2 with
          | [t, e], _ => exact ⟨t, e, rfl⟩
        · simp only [List.map_cons, List.map_nil, List.cons.injEq] at hT
          have e1 : t.kind = kindF ((c :: r).flatMap enc) c := by have := congrArg (·.kind) hT.1; exact this
          have e2 : t.text = (c :: r).flatMap enc := by have := congrArg (·.text) hT.1; exact this
          rw [oneB_two hl, e1, e2, hnr, ← tx]
          simp only [beq_self_eq_true, Bool.true_and]
          unfold kindF
          cases hw : wordB s.data.toList
          · cases up
            · have : upB c = false := low_up (by simpa [firstB] using hfst)
              simp [this]
            · have : upB c = true := by simpa [firstB] using hfst
              simp [this]
          · cases up <;> simp
    · have hnr' : nameRunes up R = false := by simpa using hnr
      rw [hnr']
      simp only [Bool.false_and]
      cases ho : oneB s (if up then 2 else 1)
      · rfl
      · exfalso
        obtain ⟨t, e, hl, htx, hk⟩ := oneB_some ho
        have hPt : lexP (R.length + 1) R = .inr [bare t, bare e] := by rw [← hbare.1, hl]; rfl
        apply hnr
        cases hh : headL R with
        | inl x => rw [lexP_fault hh] at hPt; cases hPt
        | inr p =>
          obtain ⟨t0, r0⟩ := p
          by_cases hk0 : t0.kind = 0
          · rw [lexP_end hh hk0] at hPt; cases hPt
          · rw [lexP_on hh hk0] at hPt
            have ht0 : t0 = bare t := by
              cases hq : lexP R.length r0 with
              | inl x => rw [hq] at hPt; cases hPt
              | inr U => rw [hq] at hPt; cases hPt; rfl
            obtain ⟨j, hj, hr0⟩ := headL_of hh
            have hkk : t0.kind = 1 ∨ t0.kind = 2 := by rw [ht0, bare_kind, hk]; cases up <;> simp
            obtain ⟨c, r, hl', hcl, h24, hkd, htt⟩ := tokF_name_of hj hkk
            have hRb : R = namB (R.drop (skipF false 0 R)) := by
              refine part_all (a := R.take (skipF false 0 R)) (c := (R.drop (skipF false 0 R)).dropWhile nameB) v ?_ ?_
              · rw [namB, List.takeWhile_append_dropWhile, List.take_append_drop]
              · rw [← htt, ht0, ← tx, ← htx]; rfl
            have hne : 0 < (namB (R.drop (skipF false 0 R))).length := by rw [hl']; exact namB_pos hcl
            have hhd : R.headD 0 = c := by
              rw [hRb, hl', namB, List.takeWhile_cons, if_pos (by simp [nameB]; rcases hcl with h | h <;> simp [h])]; rfl
            have hall : R.all nameB = true := by
              rw [List.all_eq_true]; intro x hx; rw [hRb] at hx; exact takeW_mem _ x hx
            rw [← hRb] at h24 hne hkd
            simp only [nameRunes, Bool.and_eq_true, decide_eq_true_eq]
            refine ⟨⟨⟨hne, h24⟩, hall⟩, ?_⟩
            rw [hhd]
            rw [ht0, bare_kind, hk] at hkd
            unfold kindF at hkd
            cases up
            · simp at hkd
              split at hkd
              · omega
              split at hkd
              · omega
              · rename_i hu; simpa [firstB, hu] using hcl
            · simp at hkd
              split at hkd
              · omega
              split at hkd
              · rename_i hu; simpa [firstB] using hu
              · omega
end Go.Proofs.YtcmnjodjebcapaaGreat
