/-
  What the calls in a look at a whole text tell: runes' places rise, a rune's place is its own, a text of runes is sound. No condition but the sizes named.
-/
import Derived.Test.YtbkcmbpclcamgaaSame
import Derived.Test.YtbkcmbpclcamgaaPlace
namespace Go.Proofs.Ytbkcmbpclcamgaa
open Go.ChangeShapes Go.WideShapes Go.ChangeAt Go.RowKit
set_option linter.unusedVariables false

set_option maxRecDepth 100000 in
theorem ahead_yes (a b c d : Int) (h : a < c ∨ (a = c ∧ b < d)) (w : World) : Calls Try.prog 24 #[.agg #[.int .i64 a, .int .i64 b], .agg #[.int .i64 c, .int .i64 d]] w fun e w' => e = .returned (.bool true) ∧ Below w.heap.size w w' := by
  by_cases h1 : a < c
  · clear h
    go_enter Try.func24, Try.ntmps24
    go_wp2
    go_ret
    exact ⟨rfl, ((Below.refl _ _).alloc (Nat.le_refl _) _).alloc (by simp) _⟩
  · obtain ⟨rfl, h2⟩ : a = c ∧ b < d := by omega
    clear h h1
    go_enter Try.func24, Try.ntmps24
    go_wp2
    go_ret
    exact ⟨rfl, ((Below.refl _ _).alloc (Nat.le_refl _) _).alloc (by simp) _⟩

/-- The bytes of runes. -/
def textOf (zs : List Int) : List UInt8 := zs.flatMap enc
def countOf (zs : List Int) : Nat := (zs.filter validB).length
theorem enc_le (c : Int) : (enc c).length ≤ 4 := by
  cases hv : validB c
  · rw [enc_no hv]; simp
  · exact (enc_len c hv).2
theorem textOf_len (zs : List Int) : (textOf zs).length ≤ 4 * zs.length := by
  induction zs with
  | nil => simp [textOf]
  | cons c t ih =>
    have := enc_le c
    simp only [textOf, List.flatMap_cons, List.length_append, List.length_cons] at ih ⊢
    omega
theorem textOf_snoc (zs : List Int) (c : Int) : textOf (zs ++ [c]) = textOf zs ++ enc c := by simp [textOf]
theorem countOf_yes (zs : List Int) (c : Int) (h : validB c = true) : countOf (zs ++ [c]) = countOf zs + 1 := by simp [countOf, List.filter_append, h]
theorem countOf_no (zs : List Int) (c : Int) (h : validB c = false) : countOf (zs ++ [c]) = countOf zs := by simp [countOf, List.filter_append, h]
theorem countOf_le (zs : List Int) : countOf zs ≤ zs.length := List.length_filter_le _ _
theorem take_snoc {α : Type} (zs : List α) (k : Nat) (c : α) (h : zs[k]? = some c) : zs.take (k + 1) = zs.take k ++ [c] := by
  obtain ⟨hk, he⟩ := List.getElem?_eq_some_iff.1 h
  rw [← he, List.take_succ_eq_append_getElem hk]

theorem split_text (zs : List Int) (hl : zs.length ≤ 200) (w : World) : Calls Try.prog 8 #[.string ⟨(textOf zs).toArray⟩] w fun e w' => ∃ A cc, e = .returned (.tuple #[.slice A (countOf zs) cc, .agg #[.int .i64 0, .int .i64 0, .int .i64 0]]) ∧ Below w.heap.size w w' := by
  have ht := textOf_len zs
  have hp := runesF_put ⟨(textOf zs).toArray⟩ zs (textOf zs).length 0 1 1 (by show (textOf zs).length ≤ _; omega) (by simp [textOf])
  refine (split_any _ (by show (textOf zs).length ≤ 16384; omega) w).mono fun e w' h => ?_
  rcases h with ⟨L, C, hb, _⟩ | ⟨_, A, n, cc, rfl, hn, ho, hb⟩
  · have hb' : badF ⟨(textOf zs).toArray⟩ (textOf zs).length 0 1 1 = some (L, C) := hb
    rw [hp.1] at hb'; cases hb'
  · have hn' : n = (runesF ⟨(textOf zs).toArray⟩ (textOf zs).length 0 1 1).length := hn
    have e : n = countOf zs := by
      rw [hn', countOf, ← hp.2, List.length_map]
    subst e
    exact ⟨A, cc, rfl, hb⟩

/-- A slice of numbers that reads as zs. -/
def LRow (w : World) (A : Option Addr) (n : Nat) (zs : List Int) : Prop :=
  n = zs.length ∧ (0 < n → ∃ b off, A = some ⟨b, off, none⟩ ∧ b < w.heap.size ∧ ∀ k c, zs[k]? = some c → w.cell? ⟨b, off + k, none⟩ = some (.int .i32 c))

def All2 (w : World) (zs : List Int) (t n j : Value) (wr : World) : Prop :=
  ∃ k : Nat, k ≤ zs.length ∧ j = .int .i64 (k : Int) ∧ t = .string ⟨(textOf (zs.take k)).toArray⟩ ∧ n = .int .i64 (countOf (zs.take k) : Int) ∧ Below w.heap.size w wr

set_option maxRecDepth 100000 in
set_option maxHeartbeats 2000000 in
theorem all_bad (s : ByteArray) (A : Option Addr) (n cap : Nat) (zs : List Int) (w : World) (hs : s.size ≤ 1000) (hn : n ≤ 200) (hl : LRow w A n zs) (L C : Int) (hbad : badOf s = some (L, C)) : Calls Try.prog 4 #[.string s, .slice A n cap] w fun e w' => e = .returned (.bool true) ∧ Below w.heap.size w w' := by
  go_enter Try.func4, Try.ntmps4
  go_wp2_with fail
  refine (split_any s (by omega) _).mono ?_
  rintro e w1 (⟨L', C', hb', rfl, hb1⟩ | ⟨hb', _⟩)
  · go_wp2_with fail
    obtain rfl := hl.1
    go_loopw [10, 11, 80] (fun t m j wr => All2 w zs t m j wr) (fun _ _ j _ => zs.length - (intOf j).toNat)
    case atStart => exact ⟨0, by omega, rfl, rfl, rfl, hb1.alloc hb1.size _⟩
    case round =>
      obtain ⟨k, hk, rfl, rfl, rfl, hB⟩ := hrel
      by_cases hlt : k < zs.length
      · have hlt' : (k : Int) < zs.length := by omega
        obtain ⟨b, off, rfl, hbz, hx⟩ := hl.2 (by omega)
        obtain ⟨c, hc⟩ : ∃ c, zs[k]? = some c := ⟨zs[k], List.getElem?_eq_getElem hlt⟩
        have hcell := (hB.cell (p := ⟨b, off + k, none⟩) hbz).trans (hx k c hc)
        have hl1 := textOf_len (zs.take k)
        have hl2 : (zs.take k).length ≤ k := List.length_take_le _ _
        have hcn := countOf_le (zs.take k)
        have hts := take_snoc zs k c hc
        have Hts := Lib.hid hts
        clear hx hc hts
        have hle := enc_le c
        cases hv : validB c
        · have Hv := Lib.hid hv
          clear hv
          go_wp2_with fail
          refine (put_no c Hv.out _).mono ?_
          rintro e w3 ⟨rfl, rfl⟩
          have hcv := Lib.run_convert_nil_bytes (P := Try.prog) wr 35 9 5 0 Try.underlying35 Try.underlying5 Try.underlying9
          go_wp2
          refine ⟨⟨k + 1, by omega, by go_num, ?_, ?_, hB⟩, ?_⟩
          · rw [Hts.out, textOf_snoc, enc_no Hv.out]; exact congrArg Value.string (ByteArray.mk_append_mk _ [])
          · rw [Hts.out, countOf_no _ _ Hv.out]
          · simp [intOf]; omega
        · have Hv := Lib.hid hv
          clear hv
          go_wp2_with fail
          refine (put_pos c Hv.out _).mono ?_
          rintro e w3 ⟨A3, n3, c3, rfl, hrow, h30, h34, hb3⟩
          have hcv := hrow.conv c3
          go_wp2
          refine ⟨⟨k + 1, by omega, by go_num, ?_, ?_, hB.trans (hb3.mono hB.size)⟩, ?_⟩
          · rw [Hts.out, textOf_snoc, ByteArray.mk_append_mk]
          · rw [Hts.out, countOf_yes _ _ Hv.out]; go_num
          · simp [intOf]; omega
      · obtain rfl : k = zs.length := by omega
        rw [List.take_of_length_le (Nat.le_refl _)]
        have hge : (zs.length : Int) ≤ zs.length := by omega
        go_wp2_with fail
        refine (split_text zs hn _).mono ?_
        rintro e w4 ⟨A4, c4, rfl, hb4⟩
        have hB4 := hB.trans (hb4.mono hB.size)
        go_wp2_with (go_at_call 7; ((with_reducible refine (awake_any _).mono ?_); rintro e w5 ⟨rfl, hb5⟩))
        go_ret
        exact ⟨rfl, (hB4.alloc hB4.size _).trans (hb5.mono (by have := hB4.size; simp; omega))⟩
  · rw [hbad] at hb'; cases hb'
end Go.Proofs.Ytbkcmbpclcamgaa
