/-
  A text with blanks or remarks ahead of it and behind it, and two texts with a line's end between: what is told of them. No program in it.
-/
import Derived.Test.YtdmgpeflanjngaaDoorAgain
namespace Go.Proofs.YtdmgpeflanjngaaDoor
open Go.RowKit
set_option linter.unusedVariables false

theorem enc_high {c : Int} (hv : validB c = true) (h : 128 ≤ c) : ∀ b ∈ enc c, 128 ≤ b.toNat := by
  rw [enc_yes hv]
  rw [validB_iff] at hv
  intro b hb
  by_cases c1 : c ≤ 2047
  · rw [encodeRune_of (Lib.encodeRuneZ_two (by omega) c1)] at hb
    simp at hb; rcases hb with rfl | rfl <;> simp <;> omega
  by_cases c2 : c ≤ 65535
  · rw [encodeRune_of (Lib.encodeRuneZ_three (by omega))] at hb
    simp at hb; rcases hb with rfl | rfl | rfl <;> simp <;> omega
  · rw [encodeRune_of (Lib.encodeRuneZ_four (by omega) (by omega))] at hb
    simp at hb; rcases hb with rfl | rfl | rfl | rfl <;> simp <;> omega
theorem enc_low {c : Int} (hv : validB c = true) (h : ¬ 128 ≤ c) : enc c = [c.toNat.toUInt8] := by
  have h0 := (validB_iff c).1 hv
  have := enc_ascii c.toNat.toUInt8 (by simp; omega)
  rwa [show ((c.toNat.toUInt8.toNat : Nat) : Int) = c by simp; omega] at this
theorem split_line : ∀ (R : List Int) (a u : List UInt8), (∀ c ∈ R, validB c = true) → R.flatMap enc = a ++ 10 :: u → ∃ R1 R2, R = R1 ++ 10 :: R2 ∧ a = R1.flatMap enc ∧ u = R2.flatMap enc := by
  intro R
  induction R with
  | nil => intro a u _ h; simp at h
  | cons c R ih =>
    intro a u hv h
    have hc := hv c (by simp)
    rw [List.flatMap_cons] at h
    by_cases hl : (enc c).length ≤ a.length
    · obtain ⟨a', rfl⟩ : ∃ a', a = enc c ++ a' := by
        have e := congrArg (List.take (enc c).length) h
        rw [List.take_left, List.take_append_of_le_length hl] at e
        exact ⟨a.drop (enc c).length, by rw (occs := .pos [1]) [← List.take_append_drop (enc c).length a]; rw [← e]⟩
      rw [List.append_assoc] at h
      obtain ⟨R1, R2, rfl, h1, h2⟩ := ih a' u (fun x hx => hv x (by simp [hx])) (List.append_cancel_left h)
      exact ⟨c :: R1, R2, rfl, by rw [List.flatMap_cons, ← h1], h2⟩
    · have hm : (10 : UInt8) ∈ enc c := by
        have e := congrArg (fun l => l[a.length]?) h
        simp only [List.getElem?_append_right (Nat.le_refl _), Nat.sub_self, List.getElem?_cons_zero] at e
        rw [List.getElem?_append_left (by omega)] at e
        exact List.mem_of_getElem? e
      by_cases h128 : 128 ≤ c
      · have := enc_high hc h128 10 hm
        simp at this
      · have e1 := enc_low hc h128
        rw [e1] at hm hl h
        simp at hm hl
        subst hl
        simp at h
        have h0 := (validB_iff c).1 hc
        have hc10 : c = 10 := by
          have := congrArg UInt8.toNat hm
          simp at this; omega
        exact ⟨[], R, by rw [hc10]; rfl, rfl, h.2.symm⟩
theorem split_ascii : ∀ (p : List UInt8), (∀ b ∈ p, b.toNat < 128) → ∀ (R : List Int) (x : List UInt8), (∀ c ∈ R, validB c = true) → R.flatMap enc = p ++ x → ∃ R2, R = ints p ++ R2 ∧ x = R2.flatMap enc := by
  intro p
  induction p with
  | nil => intro _ R x _ h; exact ⟨R, rfl, by simpa using h.symm⟩
  | cons b p ih =>
    intro hp R x hv h
    cases R with
    | nil => simp at h
    | cons c R =>
      have hc := hv c (by simp)
      have h0 := (validB_iff c).1 hc
      rw [List.flatMap_cons] at h
      by_cases h128 : 128 ≤ c
      · exfalso
        have hpos := (enc_len c hc).1
        obtain ⟨y, ys, hy⟩ := List.exists_cons_of_ne_nil (l := enc c) (by intro e; rw [e] at hpos; simp at hpos)
        rw [hy] at h
        simp at h
        have h1 := enc_high hc h128 y (by rw [hy]; simp)
        have h2 := hp b (by simp)
        rw [h.1] at h1; omega
      · have e1 := enc_low hc h128
        rw [e1] at h
        simp at h
        obtain ⟨R2, rfl, h3⟩ := ih (fun y hy => hp y (by simp [hy])) R x (fun y hy => hv y (by simp [hy])) (by rw [h.2])
        refine ⟨R2, ?_, h3⟩
        have : (b.toNat : Int) = c := by
          have := congrArg UInt8.toNat h.1
          simp at this; omega
        simp [ints, this]

/-! ### Blanks and remarks -/
/-- The four ways to pad. -/
def padsL : Nat → List UInt8
  | 0 => [32]
  | 1 => [9, 10]
  | 2 => [35, 32, 97, 32, 114, 101, 109, 97, 114, 107, 10]
  | _ => [13, 10, 32, 35, 10]
theorem pads_ascii (n : Nat) : ∀ b ∈ padsL n, b.toNat < 128 := by
  unfold padsL
  split <;> decide
theorem pads_len (n : Nat) : (padsL n).length ≤ 11 := by
  unfold padsL
  split <;> decide
theorem skip_pad (n : Nat) (x : List Int) : skipF false 0 (ints (padsL n) ++ x) = (padsL n).length + skipF false 0 x := by
  unfold padsL
  split
  all_goals
    simp only [ints, List.map_cons, List.map_nil, List.cons_append, List.nil_append, List.length_cons, List.length_nil]
    simp [skipF, blankB]
    exact skipF_from _ _ _
theorem headL_pad (n : Nat) (x : List Int) : headL (ints (padsL n) ++ x) = headL x := by
  have hd : (ints (padsL n) ++ x).drop (skipF false 0 (ints (padsL n) ++ x)) = x.drop (skipF false 0 x) := by
    rw [skip_pad, ← ints_len, List.drop_append]
    simp
  rw [headL, headL, hd]
theorem lexP_pad (n : Nat) (x : List Int) (f g : Nat) (hf : (ints (padsL n) ++ x).length < f) (hg : x.length < g) : lexP f (ints (padsL n) ++ x) = lexP g x := by
  obtain ⟨f, rfl⟩ : ∃ f', f = f' + 1 := ⟨f - 1, by omega⟩
  have e : lexP (f + 1) (ints (padsL n) ++ x) = lexP (f + 1) x := by rw [lexP, lexP, headL_pad]
  rw [e]
  exact lexP_fuel _ _ _ (by simp at hf; omega) hg
theorem lexP_pad0 (n : Nat) (f : Nat) (hf : (ints (padsL n)).length < f) : lexP f (ints (padsL n)) = .inr [endT] := by
  have := lexP_pad n [] f 1 (by simpa using hf) (by decide)
  rw [List.append_nil] at this
  rw [this]
  exact lexP_end (headL_nil (by decide)) rfl

/-! ### Texts -/
theorem size_len (s : ByteArray) : s.size = s.data.toList.length := (Array.length_toList).symm
theorem bare_fault {s : ByteArray} (hs : s.size ≤ 16384) {p : Int × Int} (h : badOf s = some p) : bareS (lexOf s) = .inl 1 := by
  rw [lexOf, if_neg (by omega), h]; rfl
theorem bare_sound {s : ByteArray} (hs : s.size ≤ 3000) {R : List Int} (hv : ∀ c ∈ R, validB c = true) (h : s.data.toList = R.flatMap enc) : bareS (lexOf s) = lexP (R.length + 1) R ∧ R.length ≤ 3000 := by
  obtain ⟨hb, hr⟩ := sound_of hv h
  have hl := enc_len_pos hv
  have hz := size_len s
  rw [h] at hz
  have := lexOf_bare (s := s) (by omega) hb
  rw [hr] at this
  rw [this, lexL_lexP _ _ _ (by omega)]
  exact ⟨rfl, by omega⟩
/-- What is told of two texts with a line's end between. -/
def catS (a b : Sum Int (List Tok)) : Sum Int (List Tok) := match a with | .inl e => .inl e | .inr T => (match b with | .inl e => .inl e | .inr U => .inr (T.dropLast ++ U))
theorem cat_same {s t X : ByteArray} (hs : s.size ≤ 800) (ht : t.size ≤ 811) (h : X.data.toList = s.data.toList ++ 10 :: t.data.toList) :
    (bareS (lexOf X) = catS (bareS (lexOf s)) (bareS (lexOf t))) ∨ (bareS (lexOf X) = .inl 1 ∧ bareS (lexOf t) = .inl 1 ∧ ∃ e, bareS (lexOf s) = .inl e) := by
  have hz : ∀ s : ByteArray, s.size = s.data.toList.length := size_len
  have hX : X.size ≤ 1612 := by
    rw [hz X, h, List.length_append, List.length_cons]
    have a := hz s
    have b := hz t
    omega
  cases hb : badOf X with
  | some p =>
    have e1 := bare_fault (by omega) hb
    rw [e1]
    cases hbs : badOf s with
    | some q => left; rw [bare_fault (by omega) hbs]; rfl
    | none =>
      cases hbt : badOf t with
      | some q =>
        rw [bare_fault (by omega) hbt]
        cases hls : bareS (lexOf s) with
        | inl e => right; exact ⟨rfl, rfl, e, rfl⟩
        | inr T => left; rfl
      | none =>
        exfalso
        obtain ⟨v1, t1⟩ := sound_runes hbs
        obtain ⟨v2, t2⟩ := sound_runes hbt
        have := (sound_of (s := X) (R := runesI (runesOf s) ++ 10 :: runesI (runesOf t)) (fun c hc => by
          rcases List.mem_append.1 hc with hc | hc
          · exact v1 c hc
          rcases List.mem_cons.1 hc with rfl | hc
          · decide
          · exact v2 c hc) (by rw [h, t1, t2, List.flatMap_append, List.flatMap_cons, show enc 10 = [10] from by decide +kernel]; rfl)).1
        rw [hb] at this; cases this
  | none =>
    left
    obtain ⟨v, tx⟩ := sound_runes hb
    rw [h] at tx
    obtain ⟨R1, R2, hR, h1, h2⟩ := split_line _ _ _ v tx.symm
    have v1 : ∀ c ∈ R1, validB c = true := fun c hc => v c (by rw [hR]; simp [hc])
    have v2 : ∀ c ∈ R2, validB c = true := fun c hc => v c (by rw [hR]; simp [hc])
    obtain ⟨a1, b1⟩ := bare_sound (by omega) v1 h1
    obtain ⟨a2, b2⟩ := bare_sound (by omega) v2 h2
    obtain ⟨a3, b3⟩ := bare_sound (s := X) (by omega) (R := R1 ++ 10 :: R2) (by rw [← hR]; exact v) (by rw [← hR, h]; exact tx)
    rw [a1, a2, a3, lexP_line R2 (R1.length + 1) _ (R2.length + 1) R1 (by omega) (by rw [List.length_append, List.length_cons]; omega) (by omega)]
    cases lexP (R1.length + 1) R1 with
    | inl e => rfl
    | inr T => cases lexP (R2.length + 1) R2 <;> rfl
theorem pad_same {s X : ByteArray} (n : Nat) (hs : s.size ≤ 2000) (h : X.data.toList = padsL n ++ s.data.toList) : bareS (lexOf X) = bareS (lexOf s) := by
  have hz : ∀ s : ByteArray, s.size = s.data.toList.length := size_len
  have hp := pads_len n
  have hX : X.size ≤ 2011 := by
    rw [hz X, h, List.length_append]
    have a := hz s
    omega
  cases hb : badOf X with
  | some p =>
    rw [bare_fault (by omega) hb]
    cases hbs : badOf s with
    | some q => rw [bare_fault (by omega) hbs]
    | none =>
      exfalso
      obtain ⟨v1, t1⟩ := sound_runes hbs
      have := (sound_of (s := X) (R := ints (padsL n) ++ runesI (runesOf s)) (fun c hc => by
        rcases List.mem_append.1 hc with hc | hc
        · exact ints_valid _ (pads_ascii n) c hc
        · exact v1 c hc) (by rw [h, t1, List.flatMap_append, ints_enc _ (pads_ascii n)])).1
      rw [hb] at this; cases this
  | none =>
    obtain ⟨v, tx⟩ := sound_runes hb
    rw [h] at tx
    obtain ⟨R2, hR, h2⟩ := split_ascii _ (pads_ascii n) _ _ v tx.symm
    have v2 : ∀ c ∈ R2, validB c = true := fun c hc => v c (by rw [hR]; simp [hc])
    obtain ⟨a2, b2⟩ := bare_sound (by omega) v2 h2
    obtain ⟨a3, b3⟩ := bare_sound (s := X) (by omega) (R := ints (padsL n) ++ R2) (by rw [← hR]; exact v) (by rw [← hR, h]; exact tx)
    rw [a2, a3]
    exact lexP_pad n R2 _ _ (by omega) (by omega)
theorem ends_of {s : ByteArray} (hs : s.size ≤ 800) {T : List Tok} (h : bareS (lexOf s) = .inr T) : ∃ U, T = U ++ [endT] := by
  cases hb : badOf s with
  | some p => rw [bare_fault (by omega) hb] at h; cases h
  | none =>
    obtain ⟨v, tx⟩ := sound_runes hb
    obtain ⟨a, b⟩ := bare_sound (by omega) v tx
    rw [a] at h
    obtain ⟨U, hU, -⟩ := lexP_ends _ _ _ (by omega) h
    exact ⟨U, hU⟩
/-- Padded ahead and behind. -/
theorem pads_same {s X : ByteArray} (n : Nat) (hs : s.size ≤ 800) (h : X.data.toList = padsL n ++ (s.data.toList ++ 10 :: padsL n)) : bareS (lexOf X) = bareS (lexOf s) := by
  have hp := pads_len n
  have hz : ∀ s : ByteArray, s.size = s.data.toList.length := size_len
  have e1 := pad_same (s := ⟨(s.data.toList ++ 10 :: padsL n).toArray⟩) (X := X) n (by
    rw [hz]; have := hz s; simp only [List.length_append, List.length_cons]; omega) (by rw [h])
  have hpad : bareS (lexOf ⟨(padsL n).toArray⟩) = .inr [endT] := by
    obtain ⟨a, b⟩ := bare_sound (s := ⟨(padsL n).toArray⟩) (by rw [hz]; simp only []; omega) (ints_valid _ (pads_ascii n)) (by rw [ints_enc _ (pads_ascii n)])
    rw [a]
    exact lexP_pad0 n _ (by omega)
  rw [e1]
  rcases cat_same (s := s) (t := ⟨(padsL n).toArray⟩) (X := ⟨(s.data.toList ++ 10 :: padsL n).toArray⟩) hs (by rw [hz]; simp only []; omega) rfl with e2 | ⟨_, e2, _⟩
  · rw [e2, hpad]
    cases hl : bareS (lexOf s) with
    | inl e => rfl
    | inr T =>
      obtain ⟨U, rfl⟩ := ends_of hs hl
      simp [catS]
  · rw [hpad] at e2; cases e2
end Go.Proofs.YtdmgpeflanjngaaDoor
