/-
  Texts of one proof, in their order. No condition.
-/
import Derived.RegionTactic
import Derived.Test.YtjhnmikciejekaaGreatPqSign
namespace Go.Proofs.YtjhnmikciejekaaGreat
open Go.ChangeShapes Go.WideShapes Go.ChangeAt Go.RowKit
set_option linter.unusedVariables false
theorem bytes_eq {s : ByteArray} {l : List UInt8} (h : s.data.toList = l) : s = ⟨l.toArray⟩ := by
  subst h; rfl
theorem not_word {s : ByteArray} (h : wordB s.data.toList = false) {l : List UInt8} (hl : l ∈ words) : (s.toList == l) = false := by
  rw [beq_eq_false_iff_ne, Lib.toList_data]
  intro e
  rw [e] at h
  simp [wordB, hl] at h
set_option maxRecDepth 100000 in
set_option maxHeartbeats 4000000 in
theorem word_yes (l : List UInt8) (h : l ∈ words) (w : World) : Calls Tryz.prog 178 #[.string ⟨l.toArray⟩] w fun e w' => e = .returned (.bool true) ∧ w = w' := by
  simp only [words, List.mem_cons, List.not_mem_nil, or_false] at h
  rcases h with rfl | rfl | rfl | rfl | rfl | rfl | rfl | rfl | rfl | rfl | rfl | rfl | rfl | rfl | rfl | rfl | rfl | rfl
  all_goals
    go_enter Tryz.func178, Tryz.ntmps178
    go_wp2
    go_ret
    exact ⟨rfl, rfl⟩
set_option maxRecDepth 100000 in
set_option maxHeartbeats 4000000 in
theorem word_no (s : ByteArray) (h : wordB s.data.toList = false) (w : World) : Calls Tryz.prog 178 #[.string s] w fun e w' => e = .returned (.bool false) ∧ w = w' := by
  have e0 := not_word h (l := [99, 97, 112]) (by decide)
  have e1 := not_word h (l := [100, 111]) (by decide)
  have e2 := not_word h (l := [101, 108, 115, 101]) (by decide)
  have e3 := not_word h (l := [101, 110, 100]) (by decide)
  have e4 := not_word h (l := [102, 111, 114]) (by decide)
  have e5 := not_word h (l := [102, 117, 110]) (by decide)
  have e6 := not_word h (l := [105, 102]) (by decide)
  have e7 := not_word h (l := [105, 110]) (by decide)
  have e8 := not_word h (l := [108, 101, 116]) (by decide)
  have e9 := not_word h (l := [109, 97, 116, 99, 104]) (by decide)
  have e10 := not_word h (l := [111, 102]) (by decide)
  have e11 := not_word h (l := [111, 110]) (by decide)
  have e12 := not_word h (l := [113, 117, 101, 117, 101]) (by decide)
  have e13 := not_word h (l := [115, 116, 97, 116, 101]) (by decide)
  have e14 := not_word h (l := [116, 104, 101, 110]) (by decide)
  have e15 := not_word h (l := [116, 105, 109, 101, 114, 115]) (by decide)
  have e16 := not_word h (l := [116, 121, 112, 101]) (by decide)
  have e17 := not_word h (l := [119, 105, 116, 104]) (by decide)
  clear h
  go_enter Tryz.func178, Tryz.ntmps178
  go_wp2
  go_ret
  exact ⟨rfl, rfl⟩
theorem word_any (s : ByteArray) (w : World) : Calls Tryz.prog 178 #[.string s] w fun e w' => e = .returned (.bool (wordB s.data.toList)) ∧ w = w' := by
  cases h : wordB s.data.toList
  · exact word_no s h w
  · have := word_yes s.data.toList (by simpa [wordB] using h) w
    rw [← bytes_eq (s := s) rfl] at this
    exact this
theorem kind_any (s : ByteArray) (r : Int) (w : World) : Calls Tryz.prog 149 #[.string s, .int .i32 r] w fun e w' => e = .returned (.int .i64 (kindF s.data.toList r)) ∧ w = w' := by
  unfold kindF
  cases h1 : wordB s.data.toList
  · have H1 := Lib.hid (h1 ▸ word_any s w)
    clear h1
    cases h2 : upB r
    · have H2 := Lib.hid (h2 ▸ up_any r w)
      clear h2
      go_enter Tryz.func149, Tryz.ntmps149
      go_wp2_with (first | (go_at_call 178; ((with_reducible refine (H1.out).mono ?_); rintro e w' ⟨rfl, rfl⟩)) | (go_at_call 147; ((with_reducible refine (H2.out).mono ?_); rintro e w' ⟨rfl, rfl⟩)))
      go_ret
      exact ⟨rfl, rfl⟩
    · have H2 := Lib.hid (h2 ▸ up_any r w)
      clear h2
      go_enter Tryz.func149, Tryz.ntmps149
      go_wp2_with (first | (go_at_call 178; ((with_reducible refine (H1.out).mono ?_); rintro e w' ⟨rfl, rfl⟩)) | (go_at_call 147; ((with_reducible refine (H2.out).mono ?_); rintro e w' ⟨rfl, rfl⟩)))
      go_ret
      exact ⟨rfl, rfl⟩
  · have H1 := Lib.hid (h1 ▸ word_any s w)
    clear h1
    go_enter Tryz.func149, Tryz.ntmps149
    go_wp2_with (go_at_call 178; ((with_reducible refine (H1.out).mono ?_); rintro e w' ⟨rfl, rfl⟩))
    go_ret
    exact ⟨rfl, rfl⟩
end Go.Proofs.YtjhnmikciejekaaGreat
