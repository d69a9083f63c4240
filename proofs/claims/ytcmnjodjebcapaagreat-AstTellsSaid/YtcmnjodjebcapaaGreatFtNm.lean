/-
  Texts of one proof, in their order. No condition.
-/
import Derived.Test.YtcmnjodjebcapaaGreatFtTree
import Derived.Test.YtcmnjodjebcapaaGreatFtRefH
namespace Go.Proofs.YtcmnjodjebcapaaGreat
open Go.ChangeShapes Go.WideShapes Go.ChangeAt Go.RowKit
set_option linter.unusedVariables false
theorem is_one {s t : ByteArray} (h : isOne s t = true) : s = t := by
  have h1 : s.data.toList = t.data.toList := eq_of_beq h
  cases s; cases t
  simp only [ByteArray.mk.injEq]
  exact Array.toList_inj.1 h1
theorem not_one {s t : ByteArray} (h : isOne s t = false) {l : List UInt8} (hl : t.data.toList = l) : (s.toList == l) = false := by
  subst hl
  rw [beq_eq_false_iff_ne, Lib.toList_data]
  intro e
  simp [isOne, e] at h
theorem not_none {s : ByteArray} (h : noneB s = false) : s.toList.isEmpty = false ∧ (s.toList == []) = false := by
  have h1 := not_one h (l := []) rfl
  refine ⟨?_, h1⟩
  cases hs : s.toList with
  | nil => rw [hs] at h1; simp at h1
  | cons a t => rfl
theorem empty_any (s : ByteArray) (w : World) : Calls Tryz.prog 164 #[.string s] w fun e w' => e = .returned (.bool (noneB s)) ∧ w = w' := by
  cases h : noneB s
  · obtain ⟨h1, h2⟩ := not_none h
    clear h
    go_enter Tryz.func164, Tryz.ntmps164
    go_wp2
    go_ret
    exact ⟨rfl, rfl⟩
  · obtain rfl := is_one h
    clear h
    go_enter Tryz.func164, Tryz.ntmps164
    go_wp2
    go_ret
    exact ⟨rfl, rfl⟩
theorem nothing_any (s : ByteArray) (w : World) : Calls Tryz.prog 195 #[.string s] w fun e w' => e = .returned (.bool false) ∧ w = w' := by
  go_enter Tryz.func195, Tryz.ntmps195
  go_wp2
  go_ret
  exact ⟨rfl, rfl⟩
theorem small_any (s : ByteArray) (hs : s.size ≤ 9223372036854775807) (w : World) : Calls Tryz.prog 92 #[.string s] w fun e w' => e = .returned (.bool (namedB s false)) ∧ Below w.heap.size w w' := by
  have H := Lib.hid (fun w => named_any s false hs w)
  go_enter Tryz.func92, Tryz.ntmps92
  go_wp2_with (go_at_call 159; ((with_reducible refine (H.out _).mono ?_); rintro e w' ⟨rfl, hb⟩))
  go_ret
  exact ⟨rfl, hb⟩
theorem great_any (s : ByteArray) (hs : s.size ≤ 9223372036854775807) (w : World) : Calls Tryz.prog 156 #[.string s] w fun e w' => e = .returned (.bool (namedB s true)) ∧ Below w.heap.size w w' := by
  have H := Lib.hid (fun w => named_any s true hs w)
  go_enter Tryz.func156, Tryz.ntmps156
  go_wp2_with (go_at_call 159; ((with_reducible refine (H.out _).mono ?_); rintro e w' ⟨rfl, hb⟩))
  go_ret
  exact ⟨rfl, hb⟩
theorem var_any (s : ByteArray) (hs : s.size ≤ 9223372036854775807) (w : World) : Calls Tryz.prog 165 #[.string s] w fun e w' => e = .returned (.bool (varB s)) ∧ Below w.heap.size w w' := by
  unfold varB
  cases h : isOne s bState
  · have e1 := not_one h (l := [115, 116, 97, 116, 101]) rfl
    have H := Lib.hid (fun w => small_any s hs w)
    clear h
    go_enter Tryz.func165, Tryz.ntmps165
    go_wp2_with (go_at_call 92; ((with_reducible refine (H.out _).mono ?_); rintro e w' ⟨rfl, hb⟩))
    go_ret
    exact ⟨rfl, hb⟩
  · obtain rfl := is_one h
    clear h
    unfold bState
    go_enter Tryz.func165, Tryz.ntmps165
    go_wp2
    go_ret
    exact ⟨rfl, Below.refl _ _⟩
theorem ofdata_any (s : ByteArray) (hs : s.size ≤ 9223372036854775807) (w : World) : Calls Tryz.prog 82 #[.string s] w fun e w' => e = .returned (.bool (dataB s)) ∧ Below w.heap.size w w' := by
  unfold dataB
  cases h : isOne s bInt
  · cases h' : isOne s bBytes
    · have e1 := not_one h (l := [105, 110, 116]) rfl
      have e2 := not_one h' (l := [98, 121, 116, 101, 115]) rfl
      have H := Lib.hid (fun w => small_any s hs w)
      clear h h'
      go_enter Tryz.func82, Tryz.ntmps82
      go_wp2_with (go_at_call 92; ((with_reducible refine (H.out _).mono ?_); rintro e w' ⟨rfl, hb⟩))
      go_ret
      exact ⟨rfl, hb⟩
    · obtain rfl := is_one h'
      clear h h'
      unfold bBytes
      go_enter Tryz.func82, Tryz.ntmps82
      go_wp2
      go_ret
      exact ⟨rfl, Below.refl _ _⟩
  · obtain rfl := is_one h
    clear h
    unfold bInt
    go_enter Tryz.func82, Tryz.ntmps82
    go_wp2
    go_ret
    exact ⟨rfl, Below.refl _ _⟩
theorem offun_any (s : ByteArray) (hs : s.size ≤ 9223372036854775807) (w : World) : Calls Tryz.prog 87 #[.string s] w fun e w' => e = .returned (.bool (funB s)) ∧ Below w.heap.size w w' := by
  unfold funB
  cases h1 : isOne s bLen
  · cases h2 : isOne s bAt
    · cases h3 : isOne s bCat
      · cases h4 : isOne s bCut
        · have e1 := not_one h1 (l := [108, 101, 110]) rfl
          have e2 := not_one h2 (l := [97, 116]) rfl
          have e3 := not_one h3 (l := [99, 97, 116]) rfl
          have e4 := not_one h4 (l := [99, 117, 116]) rfl
          have H := Lib.hid (fun w => ofdata_any s hs w)
          clear h1 h2 h3 h4
          go_enter Tryz.func87, Tryz.ntmps87
          go_wp2_with (go_at_call 82; ((with_reducible refine (H.out _).mono ?_); rintro e w' ⟨rfl, hb⟩))
          go_ret
          exact ⟨rfl, hb⟩
        · obtain rfl := is_one h4
          clear h1 h2 h3 h4
          unfold bCut
          go_enter Tryz.func87, Tryz.ntmps87
          go_wp2
          go_ret
          exact ⟨rfl, Below.refl _ _⟩
      · obtain rfl := is_one h3
        clear h1 h2 h3
        unfold bCat
        go_enter Tryz.func87, Tryz.ntmps87
        go_wp2
        go_ret
        exact ⟨rfl, Below.refl _ _⟩
    · obtain rfl := is_one h2
      clear h1 h2
      unfold bAt
      go_enter Tryz.func87, Tryz.ntmps87
      go_wp2
      go_ret
      exact ⟨rfl, Below.refl _ _⟩
  · obtain rfl := is_one h1
    clear h1
    unfold bLen
    go_enter Tryz.func87, Tryz.ntmps87
    go_wp2
    go_ret
    exact ⟨rfl, Below.refl _ _⟩
theorem operands_any (m : Int) (w : World) : Calls Tryz.prog 167 #[.int .i64 m] w fun e w' => e = .returned (.int .i64 (argsOf m)) ∧ w = w' := by
  unfold argsOf
  by_cases h8 : m = 8
  · subst h8
    go_enter Tryz.func167, Tryz.ntmps167
    go_wp2
    go_ret
    exact ⟨rfl, rfl⟩
  by_cases h11 : m = 11
  · subst h11
    go_enter Tryz.func167, Tryz.ntmps167
    go_wp2
    go_ret
    exact ⟨rfl, rfl⟩
  · rw [if_neg h8, if_neg h11]
    have e1 : (m == 8) = false := by simpa using h8
    have e2 : (m == 11) = false := by simpa using h11
    clear h8 h11
    go_enter Tryz.func167, Tryz.ntmps167
    go_wp2
    go_ret
    exact ⟨rfl, rfl⟩
end Go.Proofs.YtcmnjodjebcapaaGreat
