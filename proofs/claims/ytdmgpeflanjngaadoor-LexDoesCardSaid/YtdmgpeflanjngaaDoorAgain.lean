/-
  Tokens that were read, shown with a blank behind each, are read as the same tokens. No program in it.
-/
import Derived.Test.YtdmgpeflanjngaaDoorLine
import Derived.Test.YtdmgpeflanjngaaDoorOne1
namespace Go.Proofs.YtdmgpeflanjngaaDoor
open Go.RowKit
set_option linter.unusedVariables false

def ints (l : List UInt8) : List Int := l.map (fun b => (b.toNat : Int))
theorem ints_len (l : List UInt8) : (ints l).length = l.length := by simp [ints]
theorem ints_append (a b : List UInt8) : ints (a ++ b) = ints a ++ ints b := by simp [ints]
theorem enc_ascii (b : UInt8) (h : b.toNat < 128) : enc (b.toNat : Int) = [b] := by
  have hv : validB (b.toNat : Int) = true := by rw [validB_iff]; omega
  rw [enc_yes hv, encodeRune_of (Lib.encodeRuneZ_one (by omega) (by omega))]
  simp
theorem ints_enc (l : List UInt8) (h : ∀ b ∈ l, b.toNat < 128) : (ints l).flatMap enc = l := by
  induction l with
  | nil => rfl
  | cons b t ih =>
    have h1 := enc_ascii b (h b (by simp))
    have h2 := ih (fun x hx => h x (by simp [hx]))
    have e1 : ints (b :: t) = (b.toNat : Int) :: ints t := rfl
    rw [e1, List.flatMap_cons, h1, h2]; rfl
theorem ints_valid (l : List UInt8) (h : ∀ b ∈ l, b.toNat < 128) : ∀ c ∈ ints l, validB c = true := by
  intro c hc
  obtain ⟨b, hb, rfl⟩ := List.mem_map.1 hc
  have := h b hb
  rw [validB_iff]; omega

/-- The runes of a token as it is shown. -/
structure Fits (t : Tok) (R : List Int) : Prop where
  valid : ∀ c ∈ R, validB c = true
  text : showT t = R.flatMap enc
  read : ∀ q, tokF 0 0 0 (R ++ 32 :: q) = .inr (t, R.length)
  first : ∃ c r, R = c :: r ∧ blankB c = false ∧ c ≠ 35

/-! ### Names -/
theorem takeW_all (R q : List Int) (h : ∀ c ∈ R, nameB c = true) : (R ++ 32 :: q).takeWhile nameB = R := by
  induction R with
  | nil => simp [nameB, lowB, upB, digB]
  | cons c t ih => rw [List.cons_append, List.takeWhile_cons, if_pos (h c (by simp)), ih (fun x hx => h x (by simp [hx]))]
theorem takeW_mem (l : List Int) : ∀ c ∈ l.takeWhile nameB, nameB c = true := by
  induction l with
  | nil => intro c h; cases h
  | cons d t ih =>
    intro c hc
    rw [List.takeWhile_cons] at hc
    by_cases hd : nameB d = true
    · rw [if_pos hd] at hc
      rcases List.mem_cons.1 hc with rfl | hc
      · exact hd
      · exact ih c hc
    · rw [if_neg hd] at hc; cases hc
theorem name_valid {c : Int} (h : nameB c = true) : validB c = true := by
  rw [validB_iff]
  simp [nameB, lowB, upB, digB] at h
  omega
theorem name_fits {c : Int} {r : List Int} (h1 : lowB c = true ∨ upB c = true) (h24 : ¬ 24 < (namB (c :: r)).length) : Fits ⟨kindF ((namB (c :: r)).flatMap enc) c, (namB (c :: r)).flatMap enc, 0, [], 0, 0⟩ (namB (c :: r)) := by
  have hc : nameB c = true := by simp [nameB]; rcases h1 with h | h <;> simp [h]
  have hn : ∀ x ∈ namB (c :: r), nameB x = true := takeW_mem _
  refine ⟨fun x hx => name_valid (hn x hx), ?_, fun q => ?_, ?_⟩
  · have : kindF ((namB (c :: r)).flatMap enc) c = 1 ∨ kindF ((namB (c :: r)).flatMap enc) c = 2 ∨ kindF ((namB (c :: r)).flatMap enc) c = 5 ∨ kindF ((namB (c :: r)).flatMap enc) c = 6 := by
      unfold kindF; split
      · omega
      · split <;> omega
    rw [showT, if_pos this]
  · have e0 : namB (c :: r) = c :: r.takeWhile nameB := by rw [namB, List.takeWhile_cons, if_pos hc]
    have e1 : namB (namB (c :: r) ++ 32 :: q) = namB (c :: r) := takeW_all _ _ hn
    rw [e0] at e1 h24 ⊢
    rw [List.cons_append] at e1 ⊢
    rw [tokF_name h1, e1, if_neg h24]
    simp
  · refine ⟨c, r.takeWhile nameB, by rw [namB, List.takeWhile_cons, if_pos hc], ?_, ?_⟩
    · simp [lowB, upB] at h1; simp [blankB]; omega
    · simp [lowB, upB] at h1; omega

/-! ### Numbers -/
theorem dec_mem : ∀ (u : Nat) (b : UInt8), b ∈ Lib.decDigits u → 48 ≤ b.toNat ∧ b.toNat ≤ 57 := by
  intro u
  induction u using Nat.strongRecOn with
  | _ u ih =>
    intro b hb
    rw [Lib.decDigits] at hb
    split at hb
    · simp at hb; subst hb; simp; omega
    · rcases List.mem_append.1 hb with hb | hb
      · exact ih (u / 10) (by omega) b hb
      · simp at hb; subst hb; simp; omega
theorem digB_dec {c : Int} (h : 48 ≤ c ∧ c ≤ 57) : digB c = true := by simp [digB]; omega
theorem numF_dec : ∀ (u : Nat), (u : Int) ≤ 4611686018427387903 → ∀ (k : Nat) (x : List Int), numF 0 k (ints (Lib.decDigits u) ++ x) = numF (u : Int) (k + (Lib.decDigits u).length) x := by
  intro u
  induction u using Nat.strongRecOn with
  | _ u ih =>
    intro hu k x
    rw [Lib.decDigits]
    split
    · rename_i h10
      have e : ((UInt8.ofNat (48 + u)).toNat : Int) = 48 + (u : Int) := by simp; omega
      simp only [ints, List.map_cons, List.map_nil, List.cons_append, List.nil_append, List.length_cons, List.length_nil, Nat.zero_add]
      rw [numF, e, if_pos (digB_dec (by omega)), if_neg (by omega)]
      congr 1; omega
    · rename_i h10
      have e : ((UInt8.ofNat (48 + u % 10)).toNat : Int) = 48 + ((u % 10 : Nat) : Int) := by simp; omega
      rw [ints_append, List.append_assoc, ih (u / 10) (by omega) (by omega)]
      simp only [ints, List.map_cons, List.map_nil, List.cons_append, List.nil_append, List.length_append, List.length_cons, List.length_nil, Nat.zero_add]
      rw [numF, e, if_pos (digB_dec (by omega)), if_neg (by omega)]
      congr 1; omega
theorem numF_rng : ∀ (l : List Int) (n : Int) (k : Nat) (n' : Int) (k' : Nat), 0 ≤ n → n ≤ 4611686018427387903 → numF n k l = some (n', k') → 0 ≤ n' ∧ n' ≤ 4611686018427387903 ∧ Lib.nDigits n'.toNat + k ≤ Lib.nDigits n.toNat + k' := by
  intro l
  induction l with
  | nil => intro n k n' k' h0 h1 h; simp [numF] at h; obtain ⟨rfl, rfl⟩ := h; exact ⟨h0, h1, Nat.le_refl _⟩
  | cons c t ih =>
    intro n k n' k' h0 h1 h
    rw [numF] at h
    split at h
    · rename_i hd
      have hd' : 48 ≤ c ∧ c ≤ 57 := by simpa [digB] using hd
      split at h
      · cases h
      · obtain ⟨a1, a2, a3⟩ := ih _ _ _ _ (by omega) (by omega) h
        refine ⟨a1, a2, ?_⟩
        have : Lib.nDigits (10 * n + (c - 48)).toNat ≤ Lib.nDigits n.toNat + 1 := by
          rw [Lib.nDigits]
          split
          · omega
          · rw [show (10 * n + (c - 48)).toNat / 10 = n.toNat by omega]; exact Nat.le_refl _
        omega
    · simp at h; obtain ⟨rfl, rfl⟩ := h; exact ⟨h0, h1, Nat.le_refl _⟩
theorem num_fits {n : Int} (h0 : 0 ≤ n) (h1 : n ≤ 4611686018427387903) : Fits ⟨3, [], n, [], 0, 0⟩ (ints (Lib.decDigits n.toNat)) := by
  have hm := dec_mem n.toNat
  have hlt : ∀ b ∈ Lib.decDigits n.toNat, b.toNat < 128 := fun b hb => by have := hm b hb; omega
  have hne : Lib.decDigits n.toNat ≠ [] := by
    rw [Lib.decDigits]; split <;> simp
  obtain ⟨d, dr, hd⟩ := List.exists_cons_of_ne_nil hne
  have hdb := hm d (by rw [hd]; simp)
  have hfirst : ints (Lib.decDigits n.toNat) = (d.toNat : Int) :: ints dr := by rw [hd]; rfl
  refine ⟨ints_valid _ hlt, ?_, fun q => ?_, ⟨_, _, hfirst, ?_, by omega⟩⟩
  · rw [ints_enc _ hlt]; rfl
  · have hn := numF_dec n.toNat (by omega) 0 (32 :: q)
    have e32 : numF (n.toNat : Int) (0 + (Lib.decDigits n.toNat).length) (32 :: q) = some (n, (Lib.decDigits n.toNat).length) := by
      rw [numF, if_neg (by decide)]; simp; omega
    rw [e32, hfirst, List.cons_append] at hn
    have hlen : (ints (Lib.decDigits n.toNat)).length = (Lib.decDigits n.toNat).length := ints_len _
    rw [hlen, hfirst, List.cons_append]
    exact tokF_num (by simp [lowB, upB]; omega) (digB_dec (by omega)) hn
  · simp [blankB]; omega

/-! ### Texts -/
theorem hexV_D (n : Nat) (h : n ≤ 15) : hexV ((hexU n).toNat : Int) = n := by
  rw [hexU_toNat n h]
  unfold hexD hexV
  split <;> split <;> (try split) <;> omega
theorem byte_split (a : UInt8) : (16 * ((a.toNat / 16 : Nat) : Int) + ((a.toNat % 16 : Nat) : Int)).toNat.toUInt8 = a := by
  have : (16 * ((a.toNat / 16 : Nat) : Int) + ((a.toNat % 16 : Nat) : Int)).toNat = a.toNat := by omega
  rw [this]; simp
theorem quoteB_mem (a b : UInt8) (h : b ∈ quoteB a) : 32 ≤ b.toNat ∧ b.toNat < 128 := by
  have l1 := a.toNat_lt
  have h1 := hexU_toNat (a.toNat / 16) (by omega)
  have h2 := hexU_toNat (a.toNat % 16) (by omega)
  have h3 := hexD_bd ((a.toNat / 16 : Nat) : Int) (by omega) (by omega)
  have h4 := hexD_bd ((a.toNat % 16 : Nat) : Int) (by omega) (by omega)
  unfold quoteB at h
  split at h
  · rename_i hq
    rcases hq with rfl | rfl <;> simp at h <;> rcases h with rfl | rfl <;> decide
  split at h
  · simp at h; subst h; omega
  · simp at h
    rcases h with rfl | rfl | rfl | rfl
    · decide
    · decide
    · omega
    · omega
theorem textF_quote (a : UInt8) (acc : List UInt8) (k : Nat) (x : List Int) : textF acc k (ints (quoteB a) ++ x) = textF (acc ++ [a]) (k + (quoteB a).length) x := by
  have l1 := a.toNat_lt
  by_cases h1 : a = 34 ∨ a = 92
  · have hq : quoteB a = [92, a] := by rw [quoteB, if_pos h1]
    rw [hq]
    have e : ints [92, a] ++ x = 92 :: ((a.toNat : Int) :: x) := rfl
    have he : escF ((a.toNat : Int) :: x) = some (a, 1) := by rcases h1 with rfl | rfl <;> rfl
    rw [e, textF_esc acc k _ he]; simp [Nat.add_assoc]
  by_cases h2 : 32 ≤ a.toNat ∧ a.toNat ≤ 126
  · have hq : quoteB a = [a] := by rw [quoteB, if_neg h1, if_pos h2]
    rw [hq]
    have e : ints [a] ++ x = (a.toNat : Int) :: x := rfl
    have n1 : a.toNat ≠ 34 := fun e => h1 (.inl (UInt8.toNat_inj.1 e))
    have n2 : a.toNat ≠ 92 := fun e => h1 (.inr (UInt8.toNat_inj.1 e))
    rw [e, textF_rune acc k _ _ (by simp [textB]; omega) (by omega), enc_ascii a (by omega)]; rfl
  · have hq : quoteB a = [92, 120, hexU (a.toNat / 16), hexU (a.toNat % 16)] := by rw [quoteB, if_neg h1, if_neg h2]
    rw [hq]
    have e : ints [92, 120, hexU (a.toNat / 16), hexU (a.toNat % 16)] ++ x = 92 :: (120 :: ((hexU (a.toNat / 16)).toNat : Int) :: ((hexU (a.toNat % 16)).toNat : Int) :: x) := rfl
    have he : escF (120 :: ((hexU (a.toNat / 16)).toNat : Int) :: ((hexU (a.toNat % 16)).toNat : Int) :: x) = some (a, 3) := by
      rw [escF_hex]
      simp only [hexV_D (a.toNat / 16) (by omega), hexV_D (a.toNat % 16) (by omega)]
      rw [if_neg (by omega), byte_split]
    rw [e, textF_esc acc k _ he]; simp [Nat.add_assoc]
theorem textF_quotes : ∀ (b : List UInt8) (acc : List UInt8) (k : Nat) (x : List Int), textF acc k (ints (b.flatMap quoteB) ++ x) = textF (acc ++ b) (k + (b.flatMap quoteB).length) x := by
  intro b
  induction b with
  | nil => intro acc k x; simp [ints]
  | cons a t ih =>
    intro acc k x
    rw [List.flatMap_cons, ints_append, List.append_assoc, textF_quote, ih]
    simp [Nat.add_assoc]
theorem text_fits {b : List UInt8} (h64 : ¬ 64 < b.length) : Fits ⟨4, [], 0, b, 0, 0⟩ (ints (quoteF b)) := by
  have hm : ∀ x ∈ quoteF b, x.toNat < 128 := by
    intro x hx
    rw [quoteF, List.cons_append] at hx
    rcases List.mem_cons.1 hx with rfl | hx
    · decide
    rcases List.mem_append.1 hx with hx | hx
    · obtain ⟨a, _, ha⟩ := List.mem_flatMap.1 hx
      exact (quoteB_mem a x ha).2
    · simp at hx; subst hx; decide
  refine ⟨ints_valid _ hm, by rw [ints_enc _ hm]; rfl, fun q => ?_, ⟨34, ints (b.flatMap quoteB ++ [34]), rfl, by decide, by decide⟩⟩
  have e : ints (quoteF b) ++ 32 :: q = 34 :: (ints (b.flatMap quoteB) ++ (34 :: 32 :: q)) := by simp [quoteF, ints]
  have ht : textF [] (0 + 1) (ints (b.flatMap quoteB) ++ (34 :: 32 :: q)) = some (b, (ints (quoteF b)).length) := by
    rw [textF_quotes, textF_end, ints_len]
    simp [quoteF]; omega
  rw [e, tokF_text ht, if_neg h64]
theorem txtF_few : ∀ (f : Nat) (acc : List UInt8) (k : Nat) (l : List Int) (b : List UInt8) (k' : Nat), (∀ c ∈ l, validB c = true) → txtF f acc k l = some (b, k') → b.length + 4 * k + 4 ≤ acc.length + 4 * k' := by
  intro f
  induction f with
  | zero => intro acc k l b k' _ h; simp [txtF] at h
  | succ f ih =>
    intro acc k l b k' hv h
    cases l with
    | nil => simp [txtF] at h
    | cons c t =>
      rw [txtF] at h
      split at h
      · simp at h; obtain ⟨rfl, rfl⟩ := h; omega
      split at h
      · cases h
      split at h
      · cases he : escF t with
        | none => rw [he] at h; cases h
        | some p =>
          obtain ⟨x, m⟩ := p
          have hm := escF_pos he
          rw [he] at h
          have := ih _ _ _ _ _ (fun c hc => hv c (List.mem_cons_of_mem _ (List.mem_of_mem_drop hc))) h
          simp at this; omega
      · have h4 := (enc_len c (hv c (by simp))).2
        have := ih _ _ _ _ _ (fun c hc => hv c (List.mem_cons_of_mem _ hc)) h
        simp at this; omega

/-! ### Signs -/
theorem sign_fits {c d : Int} (hs : signF c d ≠ []) : Fits ⟨6, signF c d, 0, [], 0, 0⟩ (ints (signF c d)) := by
  have two : ∀ (x y : UInt8) (u v : Int), u = x.toNat → v = y.toNat → x.toNat < 128 → y.toNat < 128 → ¬ (lowB u = true ∨ upB u = true) → ¬ digB u = true → u ≠ 34 → blankB u = false → u ≠ 35 → signF u v = [x, y] → Fits ⟨6, [x, y], 0, [], 0, 0⟩ (ints [x, y]) := by
    intro x y u v hu hv hx hy h1 h2 h3 h4 h5 hsg
    have hm : ∀ b ∈ [x, y], b.toNat < 128 := by intro b hb; simp at hb; rcases hb with rfl | rfl <;> assumption
    refine ⟨ints_valid _ hm, by rw [ints_enc _ hm]; rfl, fun q => ?_, ⟨u, [v], by simp [ints, hu, hv], h4, h5⟩⟩
    have e : ints [x, y] ++ 32 :: q = u :: v :: 32 :: q := by simp [ints, hu, hv]
    rw [e, tokF_sign h1 h2 h3, show (v :: 32 :: q).headD (-1) = v from rfl, hsg, if_neg (by simp)]
    rfl
  have one : ∀ (x : UInt8) (u : Int), u = x.toNat → x.toNat < 128 → ¬ (lowB u = true ∨ upB u = true) → ¬ digB u = true → u ≠ 34 → blankB u = false → u ≠ 35 → signF u 32 = [x] → Fits ⟨6, [x], 0, [], 0, 0⟩ (ints [x]) := by
    intro x u hu hx h1 h2 h3 h4 h5 hsg
    have hm : ∀ b ∈ [x], b.toNat < 128 := by intro b hb; simp at hb; subst hb; assumption
    refine ⟨ints_valid _ hm, by rw [ints_enc _ hm]; rfl, fun q => ?_, ⟨u, [], by simp [ints, hu], h4, h5⟩⟩
    have e : ints [x] ++ 32 :: q = u :: 32 :: q := by simp [ints, hu]
    rw [e, tokF_sign h1 h2 h3, show (32 :: q).headD (-1) = 32 from rfl, hsg, if_neg (by simp)]
    rfl
  unfold signF at hs ⊢
  split
  · exact two 45 62 45 62 rfl rfl (by decide) (by decide) (by decide) (by decide) (by decide) (by decide) (by decide) (by decide)
  split
  · exact two 60 61 60 61 rfl rfl (by decide) (by decide) (by decide) (by decide) (by decide) (by decide) (by decide) (by decide)
  split
  · exact two 61 61 61 61 rfl rfl (by decide) (by decide) (by decide) (by decide) (by decide) (by decide) (by decide) (by decide)
  split
  · rename_i h
    rcases h with rfl | rfl | rfl | rfl | rfl | rfl | rfl | rfl | rfl | rfl | rfl | rfl | rfl | rfl
    all_goals exact one _ _ rfl (by decide) (by decide) (by decide) (by decide) (by decide) (by decide) (by decide)
  · rename_i h1 h2 h3 h4
    rw [if_neg h1, if_neg h2, if_neg h3, if_neg h4] at hs
    exact absurd rfl hs
theorem signF_two (c d : Int) : (signF c d).length ≤ 2 := by
  unfold signF
  repeat' split
  all_goals simp

/-! ### Any token -/
/-- What a token that was read is like. -/
structure Known (t : Tok) : Prop where
  num : 0 ≤ t.num ∧ t.num ≤ 4611686018427387903
  bytes : t.bytes.length ≤ 64
theorem tok_fits {l : List Int} (hv : ∀ c ∈ l, validB c = true) {t : Tok} {j : Nat} (h : tokF 0 0 0 l = .inr (t, j)) (hk : t.kind ≠ 0) : (∃ R, Fits t R) ∧ Known t ∧ (showT t).length ≤ 16 * j := by
  cases l with
  | nil => rw [tokF_end rfl] at h; cases h; exact absurd rfl hk
  | cons c r =>
    by_cases h1 : lowB c = true ∨ upB c = true
    · rw [tokF_name h1] at h
      split at h
      · cases h
      · rename_i h24
        cases h
        have hf := name_fits (r := r) h1 h24
        refine ⟨⟨_, hf⟩, ⟨by simp, by simp⟩, ?_⟩
        rw [hf.text]
        have := flat_enc_le (namB (c :: r)); omega
    by_cases h2 : digB c = true
    · cases hn : numF 0 0 (c :: r) with
      | none => rw [tokF_num_no h1 h2 hn] at h; cases h
      | some p =>
        obtain ⟨n, j'⟩ := p
        have hg := numF_gt h2 hn
        obtain ⟨a1, a2, a3⟩ := numF_rng _ _ _ _ _ (by omega) (by omega) hn
        rw [tokF_num h1 h2 hn] at h; cases h
        refine ⟨⟨_, num_fits a1 a2⟩, ⟨⟨a1, a2⟩, by simp⟩, ?_⟩
        have e : showT ⟨3, [], n, [], 0, 0⟩ = Lib.decDigits n.toNat := rfl
        rw [e, Lib.decDigits_length]
        have : Lib.nDigits (0 : Int).toNat = 1 := Lib.nDigits_small (by decide)
        omega
    by_cases h3 : c = 34
    · subst h3
      cases hn : textF [] (0 + 1) r with
      | none => rw [tokF_text_no hn] at h; cases h
      | some p =>
        obtain ⟨b, j'⟩ := p
        have hb := txtF_few _ _ _ _ _ _ (fun x hx => hv x (List.mem_cons_of_mem _ hx)) hn
        rw [tokF_text hn] at h
        split at h
        · cases h
        · rename_i h64
          cases h
          refine ⟨⟨_, text_fits h64⟩, ⟨by simp, by simp only; omega⟩, ?_⟩
          have e : showT ⟨4, [], 0, b, 0, 0⟩ = quoteF b := rfl
          have := quote_len b
          rw [e, quoteF, List.length_append, List.length_cons, List.length_cons, List.length_nil]
          simp at hb; omega
    · rw [tokF_sign h1 h2 h3] at h
      split at h
      · cases h
      · rename_i hs
        cases h
        refine ⟨⟨_, sign_fits hs⟩, ⟨by simp, by simp⟩, ?_⟩
        have e : showT ⟨6, signF c (r.headD (-1)), 0, [], 0, 0⟩ = signF c (r.headD (-1)) := rfl
        rw [e]
        have : (signF c (r.headD (-1))).length ≠ 0 := fun e => hs (List.eq_nil_of_length_eq_zero e)
        omega
theorem headL_show {t : Tok} {R : List Int} (h : Fits t R) (q : List Int) : headL (R ++ 32 :: q) = .inr (t, 32 :: q) := by
  obtain ⟨c, r, hR, h1, h2⟩ := h.first
  have hs : skipF false 0 (R ++ 32 :: q) = 0 := by rw [hR, List.cons_append, skipF, if_neg (by simp [h1]), if_neg h2]
  rw [headL, hs, List.drop_zero, h.read q]
  simp
theorem headL_blank (q : List Int) : headL (32 :: q) = headL q := by
  have hs : skipF false 0 (32 :: q) = 1 + skipF false 0 q := by rw [skipF, if_pos (by decide), skipF_from]
  have hd : (32 :: q).drop (skipF false 0 (32 :: q)) = q.drop (skipF false 0 q) := by rw [hs, Nat.add_comm]; rfl
  rw [headL, headL, hd]
theorem headL_of {l : List Int} {t : Tok} {r : List Int} (h : headL l = .inr (t, r)) : ∃ j, tokF 0 0 0 (l.drop (skipF false 0 l)) = .inr (t, j) ∧ r = (l.drop (skipF false 0 l)).drop j := by
  unfold headL at h
  cases ht : tokF 0 0 0 (l.drop (skipF false 0 l)) with
  | inl e => rw [ht] at h; cases h
  | inr p =>
    obtain ⟨t', j⟩ := p
    rw [ht] at h
    simp only [Sum.inr.injEq, Prod.mk.injEq] at h
    obtain ⟨rfl, rfl⟩ := h
    exact ⟨j, rfl, rfl⟩
def shown (T : List Tok) : List UInt8 := T.flatMap (fun t => showT t ++ [32])
theorem lexP_again : ∀ (f : Nat) (l : List Int) (T : List Tok), l.length < f → (∀ c ∈ l, validB c = true) → lexP f l = .inr T →
    (∃ R, (∀ c ∈ R, validB c = true) ∧ shown T = R.flatMap enc ∧ ∀ g, R.length < g → lexP g R = .inr T) ∧ (∀ t ∈ T, Known t) ∧ (shown T).length ≤ 17 * l.length + 1 ∧ T.length ≤ l.length + 1 := by
  intro f
  induction f with
  | zero => intro l T h; omega
  | succ f ih =>
    intro l T hf hv hT
    cases h : headL l with
    | inl e => rw [lexP_fault h] at hT; cases hT
    | inr p =>
      obtain ⟨t, r⟩ := p
      by_cases hk : t.kind = 0
      · rw [lexP_end h hk] at hT
        cases hT
        rw [(headL_end h hk).2]
        refine ⟨⟨[32], by decide, by decide +kernel, fun g hg => ?_⟩, fun t ht => ?_, ?_, by simp⟩
        · obtain ⟨g, rfl⟩ : ∃ g', g = g' + 1 := ⟨g - 1, by omega⟩
          exact lexP_end (headL_nil (by decide)) rfl
        · simp at ht; subst ht; exact ⟨by decide, by decide⟩
        · simp [shown, showT, endT]
      · have hl := headL_less h hk
        obtain ⟨j, hj, hr⟩ := headL_of h
        have hv' : ∀ c ∈ l.drop (skipF false 0 l), validB c = true := fun c hc => hv c (List.mem_of_mem_drop hc)
        have hjl := tokF_le hj
        have hjg := tokF_gt hj hk
        obtain ⟨⟨R1, hR1⟩, hkn, hsh⟩ := tok_fits hv' hj hk
        have hrl : r.length + j ≤ l.length := by rw [hr]; simp at hjl ⊢; omega
        rw [lexP_on h hk] at hT
        cases hU : lexP f r with
        | inl e => rw [hU] at hT; cases hT
        | inr U =>
          rw [hU] at hT
          cases hT
          obtain ⟨⟨R, hRv, hRs, hRr⟩, hUk, hUs, hUl⟩ := ih r U (by omega) (fun c hc => hv' c (by rw [hr] at hc; exact List.mem_of_mem_drop hc)) hU
          refine ⟨⟨R1 ++ 32 :: R, fun c hc => ?_, ?_, fun g hg => ?_⟩, fun x hx => ?_, ?_, ?_⟩
          · rcases List.mem_append.1 hc with hc | hc
            · exact hR1.valid c hc
            rcases List.mem_cons.1 hc with rfl | hc
            · decide
            · exact hRv c hc
          · have e32 : enc 32 = [32] := by decide +kernel
            have : shown (t :: U) = showT t ++ [32] ++ shown U := by simp [shown]
            rw [this, hR1.text, hRs]
            simp [e32]
          · obtain ⟨g, rfl⟩ : ∃ g', g = g' + 1 := ⟨g - 1, by omega⟩
            simp only [List.length_append, List.length_cons] at hg
            rw [lexP_on (headL_show hR1 R) hk]
            have e1 : lexP g (32 :: R) = .inr U := by
              obtain ⟨c, rr, hRR, _⟩ := hR1.first
              have hgl : R.length < g := by omega
              have := hRr g hgl
              obtain ⟨g, rfl⟩ : ∃ g', g = g' + 1 := ⟨g - 1, by omega⟩
              rw [lexP, headL_blank]
              rw [lexP] at this; exact this
            rw [e1]
          · rcases List.mem_cons.1 hx with rfl | hx
            · exact hkn
            · exact hUk x hx
          · have : shown (t :: U) = showT t ++ [32] ++ shown U := by simp [shown]
            rw [this]
            simp only [List.length_append, List.length_cons, List.length_nil]; omega
          · simp only [List.length_cons]; omega
end Go.Proofs.YtdmgpeflanjngaaDoor
