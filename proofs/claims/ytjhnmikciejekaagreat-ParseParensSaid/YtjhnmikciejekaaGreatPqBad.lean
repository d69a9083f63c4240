/-
  Texts of one proof, in their order. No condition.
-/
import Derived.WalkSpells
import Derived.Lib.Strings
import Derived.Test.YtjhnmikciejekaaGreatPqText
namespace Go.Proofs.YtjhnmikciejekaaGreat
open Go.ChangeShapes Go.WideShapes Go.ChangeAt Go.RowKit
set_option linter.unusedVariables false
theorem pre3_short {l : List UInt8} (h : l.length < 3) : pre3 l = false := by
  rw [← Bool.not_eq_true, pre3_iff]; omega
theorem pre3_ext (t : ByteArray) : ((t.extract 0 3).toList == [239, 191, 189]) = pre3 t.data.toList := by
  rw [Lib.toList_data, Lib.extract_data]; rfl
set_option maxRecDepth 100000 in
theorem litePre_any (t : ByteArray) (w : World) (ht : t.size ≤ 140737488355328) : Calls Tryz.prog 197 #[.string t, .string ⟨#[239, 191, 189]⟩] w fun e w' => e = .returned (.bool (pre3 t.data.toList)) ∧ w = w' := by
  by_cases h : 3 ≤ t.size
  · go_enter Tryz.func197, Tryz.ntmps197
    go_wp2
    go_ret
    exact ⟨ret_bool (pre3_ext t), rfl⟩
  · have h' : t.size < 3 := by omega
    go_enter Tryz.func197, Tryz.ntmps197
    go_wp2
    go_ret
    exact ⟨ret_bool (pre3_short h').symm, rfl⟩
theorem hasPre_any (t : ByteArray) (w : World) (ht : t.size ≤ 140737488355328) : Calls Tryz.prog 172 #[.string t, .string ⟨#[239, 191, 189]⟩] w fun e w' => e = .returned (.bool (pre3 t.data.toList)) ∧ w = w' := by
  go_enter Tryz.func172, Tryz.ntmps172
  go_wp2_with (go_at_call 197; ((with_reducible refine (litePre_any _ _ ht).mono ?_); rintro e w' ⟨rfl, rfl⟩))
  go_ret
  exact ⟨rfl, rfl⟩
set_option maxRecDepth 100000 in
theorem bad_any (s : ByteArray) (i : Nat) (hs : s.size ≤ 16384) (hi : i < s.size) (w : World) : Calls Tryz.prog 141 #[.string s, .int .i64 (i : Int), .int .i32 ((Utf8.decode s i).1 : Int)] w fun e w' => e = .returned (.bool (badAt s i)) ∧ w = w' := by
  rw [bad_list s i]
  obtain ⟨r, hr⟩ : ∃ r, (Utf8.decode s i).1 = r := ⟨_, rfl⟩
  rw [hr]
  by_cases h : r = 65533
  · subst h
    clear hr
    have hz : (s.extract i s.size).size ≤ 140737488355328 := by simp; omega
    go_enter Tryz.func141, Tryz.ntmps141
    go_wp2_with (go_at_call 172; ((with_reducible refine (hasPre_any _ _ hz).mono ?_); rintro e w' ⟨rfl, rfl⟩))
    go_ret
    exact ⟨ret_bool (by rw [List.take_of_length_le (by rw [List.length_drop]; exact Nat.le_refl _)]; rfl), rfl⟩
  · have h1 : ((r : Int) == 65533) = false := by simp; omega
    have h2 : decide (r = 65533) = false := by simpa using h
    rw [h2]
    clear hr h h2
    go_enter Tryz.func141, Tryz.ntmps141
    go_wp2_with fail
    go_ret
    exact ⟨rfl, rfl⟩
theorem first_new (w : World) : Calls Tryz.prog 140 #[] w fun e w' => e = .returned (.agg #[.int .i64 1, .int .i64 1]) ∧ w' = w.alloc (.cells #[.int .i64 1, .int .i64 1] 29) := by
  go_enter Tryz.func140, Tryz.ntmps140
  go_wp2
  exact bodyPost_ret (v := .agg #[.int .i64 1, .int .i64 1]) (by simp [results, Tryz.results140, go_sem]) rfl ⟨rfl, rfl⟩
end Go.Proofs.YtjhnmikciejekaaGreat
