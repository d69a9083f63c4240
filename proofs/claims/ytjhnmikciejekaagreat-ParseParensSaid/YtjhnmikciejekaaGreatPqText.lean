/-
  Texts of one proof, in their order. No condition.
-/
import Derived.Lib.DecodeN
import Derived.Laws.RangeAny
import Derived.Test.YtjhnmikciejekaaGreatPqPut
namespace Go.Proofs.YtjhnmikciejekaaGreat
open Go.RowKit
set_option linter.unusedVariables false
set_option maxRecDepth 100000 in
set_option maxHeartbeats 4000000 in
theorem decN_width (n b0 b1 b2 b3 : Nat) (hn : 1 ≤ n) : 1 ≤ (Lib.decodeN n b0 b1 b2 b3).2 ∧ (Lib.decodeN n b0 b1 b2 b3).2 ≤ n ∧ (Lib.decodeN n b0 b1 b2 b3).2 ≤ 4 := by
  unfold Lib.decodeN
  repeat' split
  all_goals (simp only; omega)
set_option maxRecDepth 100000 in
set_option maxHeartbeats 4000000 in
theorem decN_valid (n b0 b1 b2 b3 : Nat) : (Lib.decodeN n b0 b1 b2 b3).1 < 55296 ∨ (57343 < (Lib.decodeN n b0 b1 b2 b3).1 ∧ (Lib.decodeN n b0 b1 b2 b3).1 ≤ 1114111) := by
  unfold Lib.decodeN
  repeat' split
  all_goals (simp only; omega)
theorem decN_back (n b0 b1 b2 b3 : Nat) (h0 : b0 < 256) (h1 : b1 < 256) (h2 : b2 < 256) (hg : ¬ ((Lib.decodeN n b0 b1 b2 b3).1 = 65533 ∧ (Lib.decodeN n b0 b1 b2 b3).2 = 1)) :
    Lib.encodeRuneZ ((Lib.decodeN n b0 b1 b2 b3).1 : Int) = ([(b0 : Int), b1, b2, b3]).take (Lib.decodeN n b0 b1 b2 b3).2 := by
  revert hg
  unfold Lib.decodeN
  split
  · intro _
    rw [Lib.encodeRuneZ_one (by simp only; omega) (by simp only; omega)]; rfl
  split
  · split
    · intro _
      rw [Lib.encodeRuneZ_two (by simp only; omega) (by simp only; omega)]
      simp only [List.take_succ_cons, List.take_zero, List.cons.injEq, and_true]; omega
    · intro h; exact absurd ⟨rfl, rfl⟩ h
  split
  · split
    · intro _
      rw [Lib.encodeRuneZ_three (by simp only; omega)]
      simp only [List.take_succ_cons, List.take_zero, List.cons.injEq, and_true]; omega
    · intro h; exact absurd ⟨rfl, rfl⟩ h
  split
  · split
    · intro _
      rw [Lib.encodeRuneZ_four (by simp only; omega) (by simp only; omega)]
      simp only [List.take_succ_cons, List.take_zero, List.cons.injEq, and_true]; omega
    · intro h; exact absurd ⟨rfl, rfl⟩ h
  · intro h; exact absurd ⟨rfl, rfl⟩ h
theorem decN_three (n b0 b1 b2 b3 : Nat) (h0 : b0 < 256) (h1 : b1 < 256) (h2 : b2 < 256) (hr : (Lib.decodeN n b0 b1 b2 b3).1 = 65533) :
    (Lib.decodeN n b0 b1 b2 b3).2 = 1 ↔ ¬ (3 ≤ n ∧ b0 = 239 ∧ b1 = 191 ∧ b2 = 189) := by
  obtain ⟨x, y, h⟩ : ∃ x y, Lib.decodeN n b0 b1 b2 b3 = (x, y) := ⟨_, _, rfl⟩
  rw [h] at hr ⊢
  have hr' : x = 65533 := hr
  show y = 1 ↔ _
  clear hr
  unfold Lib.decodeN at h
  repeat' split at h
  all_goals (rw [Prod.mk.injEq] at h; omega)
theorem decN_one (n b0 b1 b2 b3 : Nat) (h : b0 < 128) : Lib.decodeN n b0 b1 b2 b3 = (b0, 1) := by
  unfold Lib.decodeN; rw [if_pos h]
theorem decN_two (n c b2 b3 : Nat) (hn : 2 ≤ n) (h0 : 128 ≤ c) (h1 : c ≤ 2047) : Lib.decodeN n (192 + c / 64) (128 + c % 64) b2 b3 = (c, 2) := by
  unfold Lib.decodeN
  rw [if_neg (by omega), if_pos (by omega), if_pos (by omega)]
  congr 1; omega
theorem decN_thr (n c b3 : Nat) (hn : 3 ≤ n) (h : (2048 ≤ c ∧ c < 55296) ∨ (57343 < c ∧ c ≤ 65535)) : Lib.decodeN n (224 + c / 4096) (128 + c / 64 % 64) (128 + c % 64) b3 = (c, 3) := by
  unfold Lib.decodeN
  rw [if_neg (by omega), if_neg (by omega), if_pos (by omega), if_pos (by omega)]
  congr 1; omega
theorem decN_four (n c : Nat) (hn : 4 ≤ n) (h0 : 65536 ≤ c) (h1 : c ≤ 1114111) : Lib.decodeN n (240 + c / 262144) (128 + c / 4096 % 64) (128 + c / 64 % 64) (128 + c % 64) = (c, 4) := by
  unfold Lib.decodeN
  rw [if_neg (by omega), if_neg (by omega), if_neg (by omega), if_pos (by omega), if_pos (by omega)]
  congr 1; omega
theorem dec_width (s : ByteArray) (i : Nat) (h : i < s.size) : 1 ≤ (Utf8.decode s i).2 ∧ i + (Utf8.decode s i).2 ≤ s.size ∧ (Utf8.decode s i).2 ≤ 4 := by
  rw [Lib.decode_at]
  have := decN_width (s.size - i) (s.get! i).toNat (s.get! (i + 1)).toNat (s.get! (i + 2)).toNat (s.get! (i + 3)).toNat (by omega)
  omega
theorem dec_valid (s : ByteArray) (i : Nat) : validB ((Utf8.decode s i).1 : Int) = true := by
  rw [Lib.decode_at, validB_iff]
  have := decN_valid (s.size - i) (s.get! i).toNat (s.get! (i + 1)).toNat (s.get! (i + 2)).toNat (s.get! (i + 3)).toNat
  omega
def badAt (s : ByteArray) (i : Nat) : Bool := decide ((Utf8.decode s i).1 = 65533 ∧ (Utf8.decode s i).2 = 1)
def pre3 (l : List UInt8) : Bool := l.take 3 == [239, 191, 189]
theorem get_list (s : ByteArray) (i k : Nat) : s.get! (i + k) = (s.data.toList.drop i).getD k 0 := by
  cases s with
  | mk d =>
    rw [List.getD_eq_getElem?_getD, List.getElem?_drop]
    simp [ByteArray.get!, getElem!_def]
    rcases d[i + k]? with _ | x <;> rfl
theorem size_list (s : ByteArray) (i : Nat) : s.size - i = (s.data.toList.drop i).length := by
  rw [List.length_drop]; rfl
def decL (m : List UInt8) : Nat × Nat := Lib.decodeN m.length (m.getD 0 0).toNat (m.getD 1 0).toNat (m.getD 2 0).toNat (m.getD 3 0).toNat
theorem dec_list (s : ByteArray) (i : Nat) : Utf8.decode s i = decL (s.data.toList.drop i) := by
  rw [Lib.decode_at, decL, ← size_list, ← get_list, ← get_list, ← get_list, ← get_list]; rfl
theorem pre3_iff (m : List UInt8) : pre3 m = true ↔ (3 ≤ m.length ∧ (m.getD 0 0).toNat = 239 ∧ (m.getD 1 0).toNat = 191 ∧ (m.getD 2 0).toNat = 189) := by
  unfold pre3
  match m with
  | [] => simp
  | [a] => simp
  | [a, b] => simp
  | a :: b :: c :: t =>
    simp [← UInt8.toNat_inj]
theorem bad_list (s : ByteArray) (i : Nat) : badAt s i = (decide ((Utf8.decode s i).1 = 65533) && !pre3 (s.data.toList.drop i)) := by
  unfold badAt
  rw [dec_list]
  by_cases h : (decL (s.data.toList.drop i)).1 = 65533
  · have h3 := decN_three _ _ _ _ _ (UInt8.toNat_lt _) (UInt8.toNat_lt _) (UInt8.toNat_lt _) h
    rw [← pre3_iff] at h3
    have h4 : (decL (s.data.toList.drop i)).2 = 1 ↔ ¬ pre3 (s.data.toList.drop i) = true := h3
    rw [Bool.eq_iff_iff]
    simp [h, h4]
  · simp [h]
theorem encodeRune_of {r : Int} {l : List Int} (h : Lib.encodeRuneZ r = l) : Lib.encodeRune r = l.map fun x => x.toNat.toUInt8 := by rw [Lib.encodeRune, h]
theorem nat_u8 (b : UInt8) : ((b.toNat : Int)).toNat.toUInt8 = b := by simp
theorem dec_back (s : ByteArray) (i : Nat) (hi : i < s.size) (hg : badAt s i = false) : enc ((Utf8.decode s i).1 : Int) = (s.data.toList.drop i).take (Utf8.decode s i).2 := by
  have hw := dec_width s i hi
  rw [enc_yes (dec_valid s i)]
  have hg' : ¬ ((Utf8.decode s i).1 = 65533 ∧ (Utf8.decode s i).2 = 1) := by simpa [badAt] using hg
  have hn : (Utf8.decode s i).2 ≤ (s.data.toList.drop i).length := by rw [← size_list]; omega
  rw [dec_list] at hg' hn hw ⊢
  have hb : Lib.encodeRuneZ ((decL (s.data.toList.drop i)).1 : Int) = List.take (decL (s.data.toList.drop i)).2 [(((s.data.toList.drop i).getD 0 0).toNat : Int), (((s.data.toList.drop i).getD 1 0).toNat : Int), (((s.data.toList.drop i).getD 2 0).toNat : Int), (((s.data.toList.drop i).getD 3 0).toNat : Int)] := decN_back _ _ _ _ _ (UInt8.toNat_lt _) (UInt8.toNat_lt _) (UInt8.toNat_lt _) hg'
  rw [encodeRune_of hb, List.map_take]
  simp only [List.map_cons, List.map_nil, nat_u8]
  have hw4 : (decL (s.data.toList.drop i)).2 ≤ 4 := hw.2.2
  show List.take (decL (s.data.toList.drop i)).2 _ = _
  generalize (decL (s.data.toList.drop i)).2 = k at hn hw4
  generalize s.data.toList.drop i = m at hn
  match m, k with
  | m, 0 => simp
  | [], k + 1 => simp at hn
  | [a], 1 => rfl
  | [a], k + 2 => simp at hn
  | [a, b], 1 => rfl
  | [a, b], 2 => rfl
  | [a, b], k + 3 => simp at hn
  | [a, b, c], 1 => rfl
  | [a, b, c], 2 => rfl
  | [a, b, c], 3 => rfl
  | [a, b, c], k + 4 => simp at hn
  | a :: b :: c :: d :: t, 1 => rfl
  | a :: b :: c :: d :: t, 2 => rfl
  | a :: b :: c :: d :: t, 3 => rfl
  | a :: b :: c :: d :: t, 4 => rfl
  | a :: b :: c :: d :: t, k + 5 => omega
theorem decL_put (c : Int) (hv : validB c = true) (u : List UInt8) : decL (enc c ++ u) = (c.toNat, (enc c).length) := by
  rw [enc_yes hv]
  rw [validB_iff] at hv
  obtain ⟨n, rfl⟩ : ∃ n : Nat, c = n := ⟨c.toNat, by omega⟩
  by_cases c0 : n ≤ 127
  · rw [encodeRune_of (Lib.encodeRuneZ_one (by omega) (by omega))]
    have e : (((n : Nat) : Int).toNat.toUInt8).toNat = n := by simp; omega
    simp only [decL, List.map_cons, List.map_nil, List.cons_append, List.nil_append, List.getD_cons_zero, e]
    rw [decN_one _ _ _ _ _ (by omega)]; rfl
  by_cases c1 : n ≤ 2047
  · rw [encodeRune_of (Lib.encodeRuneZ_two (by omega) (by omega))]
    have e0 : ((192 + (n : Int) / 64).toNat.toUInt8).toNat = 192 + n / 64 := by simp; omega
    have e1 : ((128 + (n : Int) % 64).toNat.toUInt8).toNat = 128 + n % 64 := by simp; omega
    simp only [decL, List.map_cons, List.map_nil, List.cons_append, List.nil_append, List.getD_cons_zero, List.getD_cons_succ, e0, e1]
    rw [decN_two _ _ _ _ (by simp) (by omega) (by omega)]; rfl
  by_cases c2 : n ≤ 65535
  · rw [encodeRune_of (Lib.encodeRuneZ_three (by omega))]
    have e0 : ((224 + (n : Int) / 4096).toNat.toUInt8).toNat = 224 + n / 4096 := by simp; omega
    have e1 : ((128 + (n : Int) / 64 % 64).toNat.toUInt8).toNat = 128 + n / 64 % 64 := by simp; omega
    have e2 : ((128 + (n : Int) % 64).toNat.toUInt8).toNat = 128 + n % 64 := by simp; omega
    simp only [decL, List.map_cons, List.map_nil, List.cons_append, List.nil_append, List.getD_cons_zero, List.getD_cons_succ, e0, e1, e2]
    rw [decN_thr _ _ _ (by simp) (by omega)]; rfl
  · rw [encodeRune_of (Lib.encodeRuneZ_four (by omega) (by omega))]
    have e0 : ((240 + (n : Int) / 262144).toNat.toUInt8).toNat = 240 + n / 262144 := by simp; omega
    have e3 : ((128 + (n : Int) / 4096 % 64).toNat.toUInt8).toNat = 128 + n / 4096 % 64 := by simp; omega
    have e1 : ((128 + (n : Int) / 64 % 64).toNat.toUInt8).toNat = 128 + n / 64 % 64 := by simp; omega
    have e2 : ((128 + (n : Int) % 64).toNat.toUInt8).toNat = 128 + n % 64 := by simp; omega
    simp only [decL, List.map_cons, List.map_nil, List.cons_append, List.nil_append, List.getD_cons_zero, List.getD_cons_succ, e0, e1, e2, e3]
    rw [decN_four _ _ (by simp) (by omega) (by omega)]; rfl
theorem enc_len (c : Int) (hv : validB c = true) : 1 ≤ (enc c).length ∧ (enc c).length ≤ 4 := by
  rw [enc_yes hv]; have := Lib.encodeRuneZ_length c; simpa [Lib.encodeRune] using this
theorem good_put (s : ByteArray) (i : Nat) (c : Int) (hv : validB c = true) (u : List UInt8) (h : s.data.toList.drop i = enc c ++ u) : badAt s i = false := by
  have hd : Utf8.decode s i = (c.toNat, (enc c).length) := by rw [dec_list, h, decL_put c hv u]
  unfold badAt
  rw [hd]
  rw [decide_eq_false_iff_not]
  rintro ⟨h1, h2⟩
  have hc : c = 65533 := by simp at h1; omega
  subst hc
  revert h2; decide
abbrev Ent := Int × Nat × Int × Int
def runesF (s : ByteArray) : Nat → Nat → Int → Int → List Ent
  | 0, _, _, _ => []
  | f + 1, i, L, C => if i < s.size then (if badAt s i = true then [] else (((Utf8.decode s i).1 : Int), i, L, C) :: runesF s f (i + (Utf8.decode s i).2) (nlL (Utf8.decode s i).1 L) (nlC (Utf8.decode s i).1 C)) else []
def badF (s : ByteArray) : Nat → Nat → Int → Int → Option (Int × Int)
  | 0, _, _, _ => none
  | f + 1, i, L, C => if i < s.size then (if badAt s i = true then some (L, C) else badF s f (i + (Utf8.decode s i).2) (nlL (Utf8.decode s i).1 L) (nlC (Utf8.decode s i).1 C)) else none
def placeF (s : ByteArray) (off : Int) : Nat → Nat → Int → Int → Int × Int
  | 0, _, L, C => (L, C)
  | f + 1, i, L, C => if i < s.size then (if off < (i : Int) + ((Utf8.decode s i).2 : Int) then (L, C) else placeF s off f (i + (Utf8.decode s i).2) (nlL (Utf8.decode s i).1 L) (nlC (Utf8.decode s i).1 C)) else (L, C)
def runesOf (s : ByteArray) : List Ent := runesF s s.size 0 1 1
def badOf (s : ByteArray) : Option (Int × Int) := badF s s.size 0 1 1
def placeOf (s : ByteArray) (off : Int) : Int × Int := placeF s off s.size 0 1 1
def entCells (e : Ent) : List Value := [.int .i32 e.1, .int .i64 (e.2.1 : Int), .int .i64 e.2.2.1, .int .i64 e.2.2.2]
def listCells (l : List Ent) : List Value := l.flatMap entCells
theorem listCells_snoc (l : List Ent) (e : Ent) : listCells (l ++ [e]) = listCells l ++ entCells e := by simp [listCells]
theorem runesF_end (s : ByteArray) (f i : Nat) (L C : Int) (h : ¬ i < s.size) : runesF s f i L C = [] := by cases f <;> simp [runesF, h]
theorem badF_end (s : ByteArray) (f i : Nat) (L C : Int) (h : ¬ i < s.size) : badF s f i L C = none := by cases f <;> simp [badF, h]
theorem placeF_end (s : ByteArray) (off : Int) (f i : Nat) (L C : Int) (h : ¬ i < s.size) : placeF s off f i L C = (L, C) := by cases f <;> simp [placeF, h]
theorem runesF_bad (s : ByteArray) (f i : Nat) (L C : Int) (h : badAt s i = true) : runesF s f i L C = [] := by cases f <;> simp [runesF, h]
theorem badF_bad (s : ByteArray) (f i : Nat) (L C : Int) (hi : i < s.size) (h : badAt s i = true) : badF s (f + 1) i L C = some (L, C) := by simp [badF, h, hi]
theorem runesF_good (s : ByteArray) (f i : Nat) (L C : Int) (hi : i < s.size) (h : badAt s i = false) : runesF s (f + 1) i L C = (((Utf8.decode s i).1 : Int), i, L, C) :: runesF s f (i + (Utf8.decode s i).2) (nlL (Utf8.decode s i).1 L) (nlC (Utf8.decode s i).1 C) := by simp [runesF, h, hi]
theorem badF_good (s : ByteArray) (f i : Nat) (L C : Int) (hi : i < s.size) (h : badAt s i = false) : badF s (f + 1) i L C = badF s f (i + (Utf8.decode s i).2) (nlL (Utf8.decode s i).1 L) (nlC (Utf8.decode s i).1 C) := by simp [badF, h, hi]
theorem placeF_in (s : ByteArray) (off : Int) (f i : Nat) (L C : Int) (hi : i < s.size) (h : off < (i : Int) + ((Utf8.decode s i).2 : Int)) : placeF s off (f + 1) i L C = (L, C) := by simp [placeF, h, hi]
theorem placeF_on (s : ByteArray) (off : Int) (f i : Nat) (L C : Int) (hi : i < s.size) (h : ¬ off < (i : Int) + ((Utf8.decode s i).2 : Int)) : placeF s off (f + 1) i L C = placeF s off f (i + (Utf8.decode s i).2) (nlL (Utf8.decode s i).1 L) (nlC (Utf8.decode s i).1 C) := by simp [placeF, h, hi]
theorem nl_le (r L C : Int) (hL : 1 ≤ L) (hC : 1 ≤ C) : 1 ≤ nlL r L ∧ nlL r L ≤ L + 1 ∧ 1 ≤ nlC r C ∧ nlC r C ≤ C + 1 := by
  unfold nlL nlC; split <;> omega
theorem runesF_text (s : ByteArray) : ∀ (f i : Nat) (L C : Int), s.size ≤ i + f → badF s f i L C = none → (runesF s f i L C).flatMap (fun e => enc e.1) = s.data.toList.drop i := by
  intro f
  induction f with
  | zero =>
    intro i L C h _
    rw [List.drop_eq_nil_of_le (by show s.size ≤ i; omega)]; rfl
  | succ f ih =>
    intro i L C h hb
    by_cases hi : i < s.size
    · cases hbad : badAt s i
      · rw [badF_good s f i L C hi hbad] at hb
        have hw := dec_width s i hi
        rw [runesF_good s f i L C hi hbad, List.flatMap_cons, ih _ _ _ (by omega) hb, dec_back s i hi hbad]
        rw [← List.drop_drop, List.take_append_drop]
      · rw [badF_bad s f i L C hi hbad] at hb; cases hb
    · rw [runesF_end s _ i L C hi, List.drop_eq_nil_of_le (by show s.size ≤ i; omega)]; rfl
theorem runesF_bd (s : ByteArray) : ∀ (f i : Nat) (L C : Int) (e : Ent), e ∈ runesF s f i L C → 1 ≤ L → 1 ≤ C → L ≤ i + 1 → C ≤ i + 1 → validB e.1 = true ∧ 1 ≤ e.2.2.1 ∧ e.2.2.1 ≤ s.size ∧ 1 ≤ e.2.2.2 ∧ e.2.2.2 ≤ s.size := by
  intro f
  induction f with
  | zero => intro i L C e h; simp [runesF] at h
  | succ f ih =>
    intro i L C e h h1 h2 h3 h4
    by_cases hi : i < s.size
    · cases hbad : badAt s i
      · rw [runesF_good s f i L C hi hbad] at h
        have hw := dec_width s i hi
        rcases List.mem_cons.1 h with rfl | h
        · exact ⟨dec_valid s i, h1, by simp only; omega, h2, by simp only; omega⟩
        · have hn := nl_le (Utf8.decode s i).1 L C h1 h2
          exact ih _ _ _ e h (by omega) (by omega) (by omega) (by omega)
      · rw [runesF_bad s _ i L C hbad] at h; cases h
    · rw [runesF_end s _ i L C hi] at h; cases h
theorem runesF_len (s : ByteArray) : ∀ (f i : Nat) (L C : Int), (runesF s f i L C).length ≤ f := by
  intro f
  induction f with
  | zero => intro i L C; simp [runesF]
  | succ f ih =>
    intro i L C
    unfold runesF
    split
    · split
      · simp
      · simp only [List.length_cons]; have := ih (i + (Utf8.decode s i).2) (nlL (Utf8.decode s i).1 L) (nlC (Utf8.decode s i).1 C); omega
    · simp
theorem runesF_put (s : ByteArray) : ∀ (cs : List Int) (f i : Nat) (L C : Int), s.size ≤ i + f → s.data.toList.drop i = cs.flatMap enc → badF s f i L C = none ∧ (runesF s f i L C).map (·.1) = cs.filter validB := by
  intro cs
  induction cs with
  | nil =>
    intro f i L C h hd
    have hi : ¬ i < s.size := by
      have := congrArg List.length hd
      rw [List.length_drop] at this
      have e : s.data.toList.length = s.size := rfl
      have e2 : (([] : List Int).flatMap enc).length = 0 := rfl
      omega
    rw [badF_end s f i L C hi, runesF_end s f i L C hi]; exact ⟨rfl, rfl⟩
  | cons c cs ih =>
    intro f i L C h hd
    rw [List.flatMap_cons] at hd
    cases hv : validB c
    · rw [enc_no hv, List.nil_append] at hd
      have := ih f i L C h hd
      rw [List.filter_cons_of_neg (by simp [hv])]; exact this
    · have hl := enc_len c hv
      have hi : i < s.size := by
        have := congrArg List.length hd
        rw [List.length_drop, List.length_append] at this
        have e : s.data.toList.length = s.size := rfl
        omega
      have hg := good_put s i c hv _ hd
      have hdec : Utf8.decode s i = (c.toNat, (enc c).length) := by rw [dec_list, hd, decL_put c hv]
      obtain ⟨f, rfl⟩ : ∃ g, f = g + 1 := ⟨f - 1, by omega⟩
      rw [badF_good s f i L C hi hg, runesF_good s f i L C hi hg, hdec]
      have hv' := (validB_iff c).1 hv
      have hdr : s.data.toList.drop (i + (enc c).length) = cs.flatMap enc := by rw [← List.drop_drop, hd, List.drop_left]
      have := ih f (i + (enc c).length) (nlL (c.toNat : Nat) L) (nlC (c.toNat : Nat) C) (by omega) hdr
      refine ⟨this.1, ?_⟩
      rw [List.map_cons, this.2, List.filter_cons_of_pos hv]
      congr 1
      simp only; omega
theorem put_pos (r : Int) (h : validB r = true) (w : World) :
    Calls Tryz.prog 181 #[.int .i32 r] w fun e w' => ∃ A n c, e = .returned (.slice A n c) ∧ Row w' A n (enc r) ∧ 0 < n ∧ n ≤ 4 ∧ Below w.heap.size w w' :=
  (put_yes r h w).mono fun e w' ⟨A, n, c, he, hr, hb⟩ => ⟨A, n, c, he, hr, by have := enc_len r h; have := hr.len; omega, by have := enc_len r h; have := hr.len; omega, hb⟩
end Go.Proofs.YtjhnmikciejekaaGreat
