/-
  Texts of one proof, in their order. No condition.
-/
import Derived.Test.YtjhnmikciejekaaGreatPqReader
namespace Go.Proofs.YtjhnmikciejekaaGreat
open Go.RowKit
set_option linter.unusedVariables false
def skipF : Bool → Nat → List Int → Nat
  | _, k, [] => k
  | false, k, c :: t => if blankB c = true then skipF false (k + 1) t else if c = 35 then skipF true (k + 1) t else k
  | true, k, c :: t => if c = 10 then skipF false (k + 1) t else skipF true (k + 1) t
def numF : Int → Nat → List Int → Option (Int × Nat)
  | n, k, [] => some (n, k)
  | n, k, c :: t => if digB c = true then (if (4611686018427387903 - (c - 48)) / 10 < n then none else numF (10 * n + (c - 48)) (k + 1) t) else some (n, k)
def escF : List Int → Option (UInt8 × Nat)
  | [] => none
  | 120 :: h :: i :: _ => if hexV h < 0 ∨ hexV i < 0 then none else some ((16 * hexV h + hexV i).toNat.toUInt8, 3)
  | 34 :: _ => some (34, 1)
  | 92 :: _ => some (92, 1)
  | 110 :: _ => some (10, 1)
  | 116 :: _ => some (9, 1)
  | _ => none
theorem escF_pos {l : List Int} {b : UInt8} {m : Nat} (h : escF l = some (b, m)) : 1 ≤ m ∧ m ≤ l.length := by
  unfold escF at h
  split at h
  · cases h
  · split at h
    · cases h
    · cases h; simp
  all_goals (first | (cases h; simp) | cases h)
def txtF : Nat → List UInt8 → Nat → List Int → Option (List UInt8 × Nat)
  | 0, _, _, _ => none
  | _ + 1, _, _, [] => none
  | f + 1, acc, k, c :: t =>
    if c = 34 then some (acc, k + 1) else if c = 10 then none else if c = 92 then
      (match escF t with
       | none => none
       | some (b, m) => txtF f (acc ++ [b]) (k + 1 + m) (t.drop m))
    else txtF f (acc ++ enc c) (k + 1) t
theorem txtF_fuel : ∀ (f g : Nat) (acc : List UInt8) (k : Nat) (l : List Int), l.length < f → l.length < g → txtF f acc k l = txtF g acc k l := by
  intro f
  induction f with
  | zero => intro g acc k l h; omega
  | succ f ih =>
    intro g acc k l hf hg
    obtain ⟨g, rfl⟩ : ∃ h, g = h + 1 := ⟨g - 1, by omega⟩
    cases l with
    | nil => rfl
    | cons c t =>
      simp only [List.length_cons] at hf hg
      unfold txtF
      cases he : escF t with
      | none => rw [ih g _ _ t (by omega) (by omega)]
      | some p =>
        obtain ⟨b, m⟩ := p
        have hm := escF_pos he
        simp only
        rw [ih g _ _ t (by omega) (by omega), ih g _ _ (t.drop m) (by simp; omega) (by simp; omega)]
def textF (acc : List UInt8) (k : Nat) (l : List Int) : Option (List UInt8 × Nat) := txtF (l.length + 1) acc k l
theorem textF_no (acc : List UInt8) (k : Nat) (t : List Int) (h : escF t = none) : textF acc k (92 :: t) = none := by
  simp [textF, txtF, h]
theorem textF_esc (acc : List UInt8) (k : Nat) (t : List Int) {b : UInt8} {m : Nat} (h : escF t = some (b, m)) : textF acc k (92 :: t) = textF (acc ++ [b]) (k + 1 + m) (t.drop m) := by
  have hm := escF_pos h
  have e : textF acc k (92 :: t) = txtF (t.length + 1) (acc ++ [b]) (k + 1 + m) (t.drop m) := by simp [textF, txtF, h]
  rw [e]
  exact txtF_fuel _ _ _ _ _ (by simp; omega) (by omega)
theorem textF_rune (acc : List UInt8) (k : Nat) (c : Int) (t : List Int) (h1 : textB c = true) (h2 : c ≠ 92) : textF acc k (c :: t) = textF (acc ++ enc c) (k + 1) t := by
  have h1' : c ≠ 34 ∧ c ≠ 10 := by simpa [textB] using h1
  simp only [textF, List.length_cons]
  rw [txtF, if_neg h1'.1, if_neg h1'.2, if_neg h2]
def signF (c d : Int) : List UInt8 :=
  if c = 45 ∧ d = 62 then [45, 62] else if c = 60 ∧ d = 61 then [60, 61] else if c = 61 ∧ d = 61 then [61, 61]
  else if c = 45 ∨ c = 60 ∨ c = 61 ∨ c = 40 ∨ c = 41 ∨ c = 44 ∨ c = 124 ∨ c = 58 ∨ c = 43 ∨ c = 42 ∨ c = 47 ∨ c = 37 ∨ c = 95 ∨ c = 126 then [c.toNat.toUInt8] else []
def words : List (List UInt8) := [[99, 97, 112], [100, 111], [101, 108, 115, 101], [101, 110, 100], [102, 111, 114], [102, 117, 110], [105, 102], [105, 110], [108, 101, 116], [109, 97, 116, 99, 104], [111, 102], [111, 110], [113, 117, 101, 117, 101], [115, 116, 97, 116, 101], [116, 104, 101, 110], [116, 105, 109, 101, 114, 115], [116, 121, 112, 101], [119, 105, 116, 104]]
def wordB (s : List UInt8) : Bool := decide (s ∈ words)
def kindF (s : List UInt8) (c : Int) : Int := if wordB s = true then 5 else if upB c = true then 2 else 1
structure Tok where
  kind : Int
  text : List UInt8
  num : Int
  bytes : List UInt8
  line : Int
  col : Int
def namB (l : List Int) : List Int := l.takeWhile nameB
def tokF (k : Nat) (L C : Int) : List Int → Sum Int (Tok × Nat)
  | [] => .inr (⟨0, [], 0, [], L, C⟩, k)
  | c :: t =>
    if lowB c = true ∨ upB c = true then
      (if 24 < (namB (c :: t)).length then .inl 5 else .inr (⟨kindF ((namB (c :: t)).flatMap enc) c, (namB (c :: t)).flatMap enc, 0, [], L, C⟩, k + (namB (c :: t)).length))
    else if digB c = true then
      (match numF 0 k (c :: t) with
       | none => .inl 3
       | some (n, k') => .inr (⟨3, [], n, [], L, C⟩, k'))
    else if c = 34 then
      (match textF [] (k + 1) t with
       | none => .inl 4
       | some (b, k') => if 64 < b.length then .inl 5 else .inr (⟨4, [], 0, b, L, C⟩, k'))
    else (if signF c (t.headD (-1)) = [] then .inl 2 else .inr (⟨6, signF c (t.headD (-1)), 0, [], L, C⟩, k + (signF c (t.headD (-1))).length))
def runesI (rs : List Ent) : List Int := rs.map (fun e => e.1)
def lineAt (rs : List Ent) (eL : Int) (k : Nat) : Int := (rs[k]?.map (fun e => e.2.2.1)).getD eL
def colAt (rs : List Ent) (eC : Int) (k : Nat) : Int := (rs[k]?.map (fun e => e.2.2.2)).getD eC
def passF (rs : List Ent) (k : Nat) : Nat := skipF false k ((runesI rs).drop k)
def oneF (rs : List Ent) (eL eC : Int) (k : Nat) : Sum Int (Tok × Nat) := tokF (passF rs k) (lineAt rs eL (passF rs k)) (colAt rs eC (passF rs k)) ((runesI rs).drop (passF rs k))
def lexF (rs : List Ent) (eL eC : Int) : Nat → Nat → Nat → Sum (Int × Int × Int) (List Tok)
  | 0, _, _ => .inr []
  | f + 1, k, cnt =>
    match oneF rs eL eC k with
    | .inl e => .inl (e, lineAt rs eL (passF rs k), colAt rs eC (passF rs k))
    | .inr (t, k') => if cnt = 4096 then .inl (27, lineAt rs eL (passF rs k), colAt rs eC (passF rs k)) else if t.kind = 0 then .inr [t] else
        (match lexF rs eL eC f k' (cnt + 1) with
         | .inl e => .inl e
         | .inr l => .inr (t :: l))
def lexOf (s : ByteArray) : Sum (Int × Int × Int) (List Tok) :=
  if 16384 < s.size then .inl (5, 1, 1) else
    match badOf s with
    | some p => .inl (1, p.1, p.2)
    | none => lexF (runesOf s) (placeOf s s.size).1 (placeOf s s.size).2 ((runesOf s).length + 1) 0 0
theorem runesI_at (rs : List Ent) (k : Nat) : runeAt rs k = ((runesI rs)[k]?).getD (-1) := by simp [runeAt, runesI]
theorem drop_at {rs : List Ent} {k : Nat} (h : k < rs.length) : (runesI rs).drop k = runeAt rs k :: (runesI rs).drop (k + 1) := by
  have hl : k < (runesI rs).length := by simpa [runesI] using h
  rw [List.drop_eq_getElem_cons hl]
  congr 1
  rw [runesI_at, List.getElem?_eq_getElem hl]; rfl
theorem drop_end {rs : List Ent} {k : Nat} (h : rs.length ≤ k) : (runesI rs).drop k = [] := List.drop_eq_nil_of_le (by simpa [runesI] using h)
theorem headD_at (rs : List Ent) (k : Nat) : ((runesI rs).drop k).headD (-1) = runeAt rs k := by
  by_cases h : k < rs.length
  · rw [drop_at h]; rfl
  · rw [drop_end (by omega), runeAt_out (by omega)]; rfl
end Go.Proofs.YtjhnmikciejekaaGreat
