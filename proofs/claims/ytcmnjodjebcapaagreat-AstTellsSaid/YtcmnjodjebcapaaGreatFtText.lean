/-
  Texts of one proof, in their order. No condition.
-/
import Derived.Lib.DecodeN
import Derived.Laws.RangeAny
import Derived.Test.YtcmnjodjebcapaaGreatFtPut
namespace Go.Proofs.YtcmnjodjebcapaaGreat
open Go.RowKit
set_option linter.unusedVariables false
set_option maxRecDepth 100000 in
set_option maxHeartbeats 4000000 in
theorem decN_width (n b0 b1 b2 b3 : Nat) (hn : 1 ≤ n) : 1 ≤ (Lib.decodeN n b0 b1 b2 b3).2 ∧ (Lib.decodeN n b0 b1 b2 b3).2 ≤ n ∧ (Lib.decodeN n b0 b1 b2 b3).2 ≤ 4 := by
  unfold Lib.decodeN
  repeat' split
  all_goals (simp only; omega)
set_option maxRecDepth 100000 in
set_option maxHeartbeats 4000000 in
theorem decN_valid (n b0 b1 b2 b3 : Nat) : (Lib.decodeN n b0 b1 b2 b3).1 < 55296 ∨ (57343 < (Lib.decodeN n b0 b1 b2 b3).1 ∧ (Lib.decodeN n b0 b1 b2 b3).1 ≤ 1114111) := by
  unfold Lib.decodeN
  repeat' split
  all_goals (simp only; omega)
theorem decN_three (n b0 b1 b2 b3 : Nat) (h0 : b0 < 256) (h1 : b1 < 256) (h2 : b2 < 256) (hr : (Lib.decodeN n b0 b1 b2 b3).1 = 65533) :
    (Lib.decodeN n b0 b1 b2 b3).2 = 1 ↔ ¬ (3 ≤ n ∧ b0 = 239 ∧ b1 = 191 ∧ b2 = 189) := by
  obtain ⟨x, y, h⟩ : ∃ x y, Lib.decodeN n b0 b1 b2 b3 = (x, y) := ⟨_, _, rfl⟩
  rw [h] at hr ⊢
  have hr' : x = 65533 := hr
  show y = 1 ↔ _
  clear hr
  unfold Lib.decodeN at h
  repeat' split at h
  all_goals (rw [Prod.mk.injEq] at h; omega)
theorem dec_width (s : ByteArray) (i : Nat) (h : i < s.size) : 1 ≤ (Utf8.decode s i).2 ∧ i + (Utf8.decode s i).2 ≤ s.size ∧ (Utf8.decode s i).2 ≤ 4 := by
  rw [Lib.decode_at]
  have := decN_width (s.size - i) (s.get! i).toNat (s.get! (i + 1)).toNat (s.get! (i + 2)).toNat (s.get! (i + 3)).toNat (by omega)
  omega
theorem dec_valid (s : ByteArray) (i : Nat) : validB ((Utf8.decode s i).1 : Int) = true := by
  rw [Lib.decode_at, validB_iff]
  have := decN_valid (s.size - i) (s.get! i).toNat (s.get! (i + 1)).toNat (s.get! (i + 2)).toNat (s.get! (i + 3)).toNat
  omega
def badAt (s : ByteArray) (i : Nat) : Bool := decide ((Utf8.decode s i).1 = 65533 ∧ (Utf8.decode s i).2 = 1)
def pre3 (l : List UInt8) : Bool := l.take 3 == [239, 191, 189]
theorem get_list (s : ByteArray) (i k : Nat) : s.get! (i + k) = (s.data.toList.drop i).getD k 0 := by
  cases s with
  | mk d =>
    rw [List.getD_eq_getElem?_getD, List.getElem?_drop]
    simp [ByteArray.get!, getElem!_def]
    rcases d[i + k]? with _ | x <;> rfl
theorem size_list (s : ByteArray) (i : Nat) : s.size - i = (s.data.toList.drop i).length := by
  rw [List.length_drop]; rfl
def decL (m : List UInt8) : Nat × Nat := Lib.decodeN m.length (m.getD 0 0).toNat (m.getD 1 0).toNat (m.getD 2 0).toNat (m.getD 3 0).toNat
theorem dec_list (s : ByteArray) (i : Nat) : Utf8.decode s i = decL (s.data.toList.drop i) := by
  rw [Lib.decode_at, decL, ← size_list, ← get_list, ← get_list, ← get_list, ← get_list]; rfl
theorem pre3_iff (m : List UInt8) : pre3 m = true ↔ (3 ≤ m.length ∧ (m.getD 0 0).toNat = 239 ∧ (m.getD 1 0).toNat = 191 ∧ (m.getD 2 0).toNat = 189) := by
  unfold pre3
  match m with
  | [] => simp
  | [a] => simp
  | [a, b] => simp
  | a :: b :: c :: t =>
    simp [← UInt8.toNat_inj]
theorem bad_list (s : ByteArray) (i : Nat) : badAt s i = (decide ((Utf8.decode s i).1 = 65533) && !pre3 (s.data.toList.drop i)) := by
  unfold badAt
  rw [dec_list]
  by_cases h : (decL (s.data.toList.drop i)).1 = 65533
  · have h3 := decN_three _ _ _ _ _ (UInt8.toNat_lt _) (UInt8.toNat_lt _) (UInt8.toNat_lt _) h
    rw [← pre3_iff] at h3
    have h4 : (decL (s.data.toList.drop i)).2 = 1 ↔ ¬ pre3 (s.data.toList.drop i) = true := h3
    rw [Bool.eq_iff_iff]
    simp [h, h4]
  · simp [h]
theorem encodeRune_of {r : Int} {l : List Int} (h : Lib.encodeRuneZ r = l) : Lib.encodeRune r = l.map fun x => x.toNat.toUInt8 := by rw [Lib.encodeRune, h]
theorem enc_len (c : Int) (hv : validB c = true) : 1 ≤ (enc c).length ∧ (enc c).length ≤ 4 := by
  rw [enc_yes hv]; have := Lib.encodeRuneZ_length c; simpa [Lib.encodeRune] using this
abbrev Ent := Int × Nat × Int × Int
def runesF (s : ByteArray) : Nat → Nat → Int → Int → List Ent
  | 0, _, _, _ => []
  | f + 1, i, L, C => if i < s.size then (if badAt s i = true then [] else (((Utf8.decode s i).1 : Int), i, L, C) :: runesF s f (i + (Utf8.decode s i).2) (nlL (Utf8.decode s i).1 L) (nlC (Utf8.decode s i).1 C)) else []
def badF (s : ByteArray) : Nat → Nat → Int → Int → Option (Int × Int)
  | 0, _, _, _ => none
  | f + 1, i, L, C => if i < s.size then (if badAt s i = true then some (L, C) else badF s f (i + (Utf8.decode s i).2) (nlL (Utf8.decode s i).1 L) (nlC (Utf8.decode s i).1 C)) else none
def placeF (s : ByteArray) (off : Int) : Nat → Nat → Int → Int → Int × Int
  | 0, _, L, C => (L, C)
  | f + 1, i, L, C => if i < s.size then (if off < (i : Int) + ((Utf8.decode s i).2 : Int) then (L, C) else placeF s off f (i + (Utf8.decode s i).2) (nlL (Utf8.decode s i).1 L) (nlC (Utf8.decode s i).1 C)) else (L, C)
def runesOf (s : ByteArray) : List Ent := runesF s s.size 0 1 1
def badOf (s : ByteArray) : Option (Int × Int) := badF s s.size 0 1 1
def placeOf (s : ByteArray) (off : Int) : Int × Int := placeF s off s.size 0 1 1
def entCells (e : Ent) : List Value := [.int .i32 e.1, .int .i64 (e.2.1 : Int), .int .i64 e.2.2.1, .int .i64 e.2.2.2]
def listCells (l : List Ent) : List Value := l.flatMap entCells
theorem listCells_snoc (l : List Ent) (e : Ent) : listCells (l ++ [e]) = listCells l ++ entCells e := by simp [listCells]
theorem runesF_end (s : ByteArray) (f i : Nat) (L C : Int) (h : ¬ i < s.size) : runesF s f i L C = [] := by cases f <;> simp [runesF, h]
theorem badF_end (s : ByteArray) (f i : Nat) (L C : Int) (h : ¬ i < s.size) : badF s f i L C = none := by cases f <;> simp [badF, h]
theorem placeF_end (s : ByteArray) (off : Int) (f i : Nat) (L C : Int) (h : ¬ i < s.size) : placeF s off f i L C = (L, C) := by cases f <;> simp [placeF, h]
theorem runesF_bad (s : ByteArray) (f i : Nat) (L C : Int) (h : badAt s i = true) : runesF s f i L C = [] := by cases f <;> simp [runesF, h]
theorem badF_bad (s : ByteArray) (f i : Nat) (L C : Int) (hi : i < s.size) (h : badAt s i = true) : badF s (f + 1) i L C = some (L, C) := by simp [badF, h, hi]
theorem runesF_good (s : ByteArray) (f i : Nat) (L C : Int) (hi : i < s.size) (h : badAt s i = false) : runesF s (f + 1) i L C = (((Utf8.decode s i).1 : Int), i, L, C) :: runesF s f (i + (Utf8.decode s i).2) (nlL (Utf8.decode s i).1 L) (nlC (Utf8.decode s i).1 C) := by simp [runesF, h, hi]
theorem badF_good (s : ByteArray) (f i : Nat) (L C : Int) (hi : i < s.size) (h : badAt s i = false) : badF s (f + 1) i L C = badF s f (i + (Utf8.decode s i).2) (nlL (Utf8.decode s i).1 L) (nlC (Utf8.decode s i).1 C) := by simp [badF, h, hi]
theorem placeF_in (s : ByteArray) (off : Int) (f i : Nat) (L C : Int) (hi : i < s.size) (h : off < (i : Int) + ((Utf8.decode s i).2 : Int)) : placeF s off (f + 1) i L C = (L, C) := by simp [placeF, h, hi]
theorem placeF_on (s : ByteArray) (off : Int) (f i : Nat) (L C : Int) (hi : i < s.size) (h : ¬ off < (i : Int) + ((Utf8.decode s i).2 : Int)) : placeF s off (f + 1) i L C = placeF s off f (i + (Utf8.decode s i).2) (nlL (Utf8.decode s i).1 L) (nlC (Utf8.decode s i).1 C) := by simp [placeF, h, hi]
theorem nl_le (r L C : Int) (hL : 1 ≤ L) (hC : 1 ≤ C) : 1 ≤ nlL r L ∧ nlL r L ≤ L + 1 ∧ 1 ≤ nlC r C ∧ nlC r C ≤ C + 1 := by
  unfold nlL nlC; split <;> omega
theorem runesF_bd (s : ByteArray) : ∀ (f i : Nat) (L C : Int) (e : Ent), e ∈ runesF s f i L C → 1 ≤ L → 1 ≤ C → L ≤ i + 1 → C ≤ i + 1 → validB e.1 = true ∧ 1 ≤ e.2.2.1 ∧ e.2.2.1 ≤ s.size ∧ 1 ≤ e.2.2.2 ∧ e.2.2.2 ≤ s.size := by
  intro f
  induction f with
  | zero => intro i L C e h; simp [runesF] at h
  | succ f ih =>
    intro i L C e h h1 h2 h3 h4
    by_cases hi : i < s.size
    · cases hbad : badAt s i
      · rw [runesF_good s f i L C hi hbad] at h
        have hw := dec_width s i hi
        rcases List.mem_cons.1 h with rfl | h
        · exact ⟨dec_valid s i, h1, by simp only; omega, h2, by simp only; omega⟩
        · have hn := nl_le (Utf8.decode s i).1 L C h1 h2
          exact ih _ _ _ e h (by omega) (by omega) (by omega) (by omega)
      · rw [runesF_bad s _ i L C hbad] at h; cases h
    · rw [runesF_end s _ i L C hi] at h; cases h
theorem runesF_len (s : ByteArray) : ∀ (f i : Nat) (L C : Int), (runesF s f i L C).length ≤ f := by
  intro f
  induction f with
  | zero => intro i L C; simp [runesF]
  | succ f ih =>
    intro i L C
    unfold runesF
    split
    · split
      · simp
      · simp only [List.length_cons]; have := ih (i + (Utf8.decode s i).2) (nlL (Utf8.decode s i).1 L) (nlC (Utf8.decode s i).1 C); omega
    · simp
theorem put_pos (r : Int) (h : validB r = true) (w : World) :
    Calls Tryz.prog 226 #[.int .i32 r] w fun e w' => ∃ A n c, e = .returned (.slice A n c) ∧ Row w' A n (enc r) ∧ 0 < n ∧ n ≤ 4 ∧ Below w.heap.size w w' :=
  (put_yes r h w).mono fun e w' ⟨A, n, c, he, hr, hb⟩ => ⟨A, n, c, he, hr, by have := enc_len r h; have := hr.len; omega, by have := enc_len r h; have := hr.len; omega, hb⟩
end Go.Proofs.YtcmnjodjebcapaaGreat
