/-
  Texts of one proof, in their order. No condition.
-/
import Derived.Test.YtcmnjodjebcapaaGreatFtTreeE
import Derived.Test.YtcmnjodjebcapaaGreatFtPkc
namespace Go.Proofs.YtcmnjodjebcapaaGreat.Deep
open Go.RowKit
set_option linter.unusedVariables false
set_option linter.unusedSimpArgs false
theorem any_p : PCalls Tryz.prog 163 [] (fun r => r = .agg [.fn 195 [], .con (.int .i64 0), .con (.int .i64 0), .con (.int .i64 0), .con (.int .i64 0), .con (.int .i64 0), .con (.int .i64 0), .con (.int .i64 0), .con (.int .i64 0)]) := by
  refine a163 _ ?_
  unfold p163
  exact ⟨rfl, rfl⟩
theorem from_p (a b : Int) : PCalls Tryz.prog 33 [.con (.int .i64 a), .con (.int .i64 b)] (fun r => r = .agg [.con (.int .i64 a), .con (.int .i64 b)]) := by
  refine a33 _ _ _ ?_
  unfold p33
  exact ⟨rfl, rfl⟩
theorem just_p (a : Int) : PCalls Tryz.prog 166 [.con (.int .i64 a)] (fun r => r = .agg [.con (.int .i64 a), .con (.int .i64 a)]) := by
  refine a166 _ _ ?_
  unfold p166
  exact ⟨rfl, rfl⟩
theorem has_p (a b n : Int) : PCalls Tryz.prog 79 [.agg [.con (.int .i64 a), .con (.int .i64 b)], .con (.int .i64 n)] (fun r => r = .con (.bool (inB a b n))) := by
  refine a79 _ _ _ _ ?_
  unfold p79 inB
  exact br_i (fun h => ⟨by rw [h]; rfl, rfl⟩) (fun h => ⟨by rw [h]; rfl, rfl⟩)
theorem many_p (a b n : Int) : PCalls Tryz.prog 34 [.agg [.con (.int .i64 a), .con (.int .i64 b)], .con (.int .i64 n)] (fun r => r = .con (.bool (inB a b n))) := by
  refine a34 _ _ _ _ ?_
  unfold p34
  exact ⟨_, call_p (enters_of Tryz.func79 (by kernel_rfl) rfl) (has_p a b n) rfl ⟨rfl, rfl⟩⟩
theorem operands_p (m : Int) : PCalls Tryz.prog 167 [.con (.int .i64 m)] (fun r => r = .con (.int .i64 (argsOf m))) := pcalls_of (us := [.int .i64 m]) (fun w => still_below (operands_any m w))
theorem empty_p (s : ByteArray) : PCalls Tryz.prog 164 [.con (.string s)] (fun r => r = .con (.bool (noneB s))) := pcalls_of (us := [.string s]) (fun w => still_below (empty_any s w))
theorem nothing_p (s : ByteArray) : PCalls Tryz.prog 195 [.con (.string s)] (fun r => r = .con (.bool false)) := pcalls_of (us := [.string s]) (fun w => still_below (nothing_any s w))
theorem small_p (s : ByteArray) (hs : s.size ≤ 3000) : PCalls Tryz.prog 92 [.con (.string s)] (fun r => r = .con (.bool (namedB s false))) := pcalls_of (us := [.string s]) (small_any s (by omega))
theorem great_p (s : ByteArray) (hs : s.size ≤ 3000) : PCalls Tryz.prog 156 [.con (.string s)] (fun r => r = .con (.bool (namedB s true))) := pcalls_of (us := [.string s]) (great_any s (by omega))
theorem var_p (s : ByteArray) (hs : s.size ≤ 3000) : PCalls Tryz.prog 165 [.con (.string s)] (fun r => r = .con (.bool (varB s))) := pcalls_of (us := [.string s]) (var_any s (by omega))
theorem offun_p (s : ByteArray) (hs : s.size ≤ 3000) : PCalls Tryz.prog 87 [.con (.string s)] (fun r => r = .con (.bool (funB s))) := pcalls_of (us := [.string s]) (offun_any s (by omega))
theorem in_n (c : Nat) (n : Nat) : inB c c n = decide (n = c) := by unfold inB; rw [Bool.eq_iff_iff]; simp; omega
theorem in_0 (n : Nat) : inB 0 0 n = decide (n = 0) := in_n 0 n
theorem in_1 (n : Nat) : inB 1 1 n = decide (n = 1) := in_n 1 n
theorem in_2 (n : Nat) : inB 2 2 n = decide (n = 2) := in_n 2 n
theorem in_3 (n : Nat) : inB 3 3 n = decide (n = 3) := in_n 3 n
theorem in_i (c n : Int) : inB c c n = decide (n = c) := by unfold inB; rw [Bool.eq_iff_iff]; simp; omega
theorem in_z (n : Int) : inB 0 0 n = decide (n = 0) := in_i 0 n
theorem range_all {α : Type} (l : List α) (d : α) (f : α → Bool) : (List.range l.length).all (fun j => f (l.getD j d)) = l.all f := by
  rw [Bool.eq_iff_iff]
  simp only [List.all_eq_true, List.mem_range]
  constructor
  · intro h x hx
    obtain ⟨i, hi, rfl⟩ := List.getElem_of_mem hx
    have := h i hi
    rwa [List.getD_eq_getElem?_getD, List.getElem?_eq_getElem hi] at this
  · intro h i hi
    rw [List.getD_eq_getElem?_getD, List.getElem?_eq_getElem hi]
    exact h _ (List.getElem_mem hi)
theorem getD_at {α : Type} (l : List α) (d : α) (j : Nat) (h : j < l.length) : l.getD j d = l[j] := by
  rw [List.getD_eq_getElem?_getD, List.getElem?_eq_getElem h]; rfl
theorem pt_shape0  : PCalls Tryz.prog 106 [.con (.int .i64 0)] (fun r => r = .agg [.fn 164 [], .con (.int .i64 0), .con (.int .i64 0), .con (.int .i64 0), .con (.int .i64 0), .con (.int .i64 0), .con (.int .i64 0), .con (.int .i64 0), .con (.int .i64 0)]) := by
  refine a106 _ _ ?_
  unfold p106
  refine ⟨_, _, _, _, _, _, _, _, call_p (enters_of Tryz.func163 (by kernel_rfl) rfl) any_p rfl ?_⟩
  refine br_i (fun _ => ?_) (fun h => absurd h (by decide))
  exact ⟨rfl, rfl⟩
theorem pt_shape1  : PCalls Tryz.prog 106 [.con (.int .i64 1)] (fun r => r = .agg [.fn 92 [], .con (.int .i64 0), .con (.int .i64 0), .con (.int .i64 0), .con (.int .i64 0), .con (.int .i64 0), .con (.int .i64 0), .con (.int .i64 0), .con (.int .i64 0)]) := by
  refine a106 _ _ ?_
  unfold p106
  refine ⟨_, _, _, _, _, _, _, _, call_p (enters_of Tryz.func163 (by kernel_rfl) rfl) any_p rfl ?_⟩
  refine br_i (fun h => absurd h (by decide)) (fun _ => ?_)
  refine br_i (fun _ => ?_) (fun h => absurd h (by decide))
  exact ⟨rfl, rfl⟩
theorem pt_shape2  : PCalls Tryz.prog 106 [.con (.int .i64 2)] (fun r => r = .agg [.fn 164 [], .con (.int .i64 (-4611686018427387903)), .con (.int .i64 4611686018427387903), .con (.int .i64 0), .con (.int .i64 0), .con (.int .i64 0), .con (.int .i64 0), .con (.int .i64 0), .con (.int .i64 0)]) := by
  refine a106 _ _ ?_
  unfold p106
  refine ⟨_, _, _, _, _, _, _, _, call_p (enters_of Tryz.func163 (by kernel_rfl) rfl) any_p rfl ?_⟩
  refine br_i (fun h => absurd h (by decide)) (fun _ => ?_)
  refine br_i (fun h => absurd h (by decide)) (fun _ => ?_)
  refine br_i (fun _ => ?_) (fun h => absurd h (by decide))
  refine ⟨_, _, call_p (enters_of Tryz.func33 (by kernel_rfl) rfl) (from_p (-4611686018427387903) 4611686018427387903) rfl ?_⟩
  exact ⟨rfl, rfl⟩
theorem pt_shape3  : PCalls Tryz.prog 106 [.con (.int .i64 3)] (fun r => r = .agg [.fn 156 [], .con (.int .i64 0), .con (.int .i64 0), .con (.int .i64 0), .con (.int .i64 0), .con (.int .i64 0), .con (.int .i64 6), .con (.int .i64 0), .con (.int .i64 0)]) := by
  refine a106 _ _ ?_
  unfold p106
  refine ⟨_, _, _, _, _, _, _, _, call_p (enters_of Tryz.func163 (by kernel_rfl) rfl) any_p rfl ?_⟩
  refine br_i (fun h => absurd h (by decide)) (fun _ => ?_)
  refine br_i (fun h => absurd h (by decide)) (fun _ => ?_)
  refine br_i (fun h => absurd h (by decide)) (fun _ => ?_)
  refine br_i (fun _ => ?_) (fun h => absurd h (by decide))
  refine ⟨_, _, call_p (enters_of Tryz.func33 (by kernel_rfl) rfl) (from_p 0 6) rfl ?_⟩
  exact ⟨rfl, rfl⟩
theorem pt_shape4  : PCalls Tryz.prog 106 [.con (.int .i64 4)] (fun r => r = .agg [.fn 164 [], .con (.int .i64 0), .con (.int .i64 0), .con (.int .i64 0), .con (.int .i64 0), .con (.int .i64 2), .con (.int .i64 6), .con (.int .i64 0), .con (.int .i64 0)]) := by
  refine a106 _ _ ?_
  unfold p106
  refine ⟨_, _, _, _, _, _, _, _, call_p (enters_of Tryz.func163 (by kernel_rfl) rfl) any_p rfl ?_⟩
  refine br_i (fun h => absurd h (by decide)) (fun _ => ?_)
  refine br_i (fun h => absurd h (by decide)) (fun _ => ?_)
  refine br_i (fun h => absurd h (by decide)) (fun _ => ?_)
  refine br_i (fun h => absurd h (by decide)) (fun _ => ?_)
  refine br_i (fun _ => ?_) (fun h => absurd h (by decide))
  refine ⟨_, _, call_p (enters_of Tryz.func33 (by kernel_rfl) rfl) (from_p 2 6) rfl ?_⟩
  exact ⟨rfl, rfl⟩
theorem pt_shape_no (k : Int)  (h0 : k ≠ 0) (h1 : k ≠ 1) (h2 : k ≠ 2) (h3 : k ≠ 3) (h4 : k ≠ 4) : PCalls Tryz.prog 106 [.con (.int .i64 k)] (fun r => r = .agg [.fn 195 [], .con (.int .i64 0), .con (.int .i64 0), .con (.int .i64 0), .con (.int .i64 0), .con (.int .i64 0), .con (.int .i64 0), .con (.int .i64 0), .con (.int .i64 0)]) := by
  refine a106 _ _ ?_
  unfold p106
  refine ⟨_, _, _, _, _, _, _, _, call_p (enters_of Tryz.func163 (by kernel_rfl) rfl) any_p rfl ?_⟩
  refine br_i (fun h => absurd (by simpa using h) h0) (fun _ => ?_)
  refine br_i (fun h => absurd (by simpa using h) h1) (fun _ => ?_)
  refine br_i (fun h => absurd (by simpa using h) h2) (fun _ => ?_)
  refine br_i (fun h => absurd (by simpa using h) h3) (fun _ => ?_)
  refine br_i (fun h => absurd (by simpa using h) h4) (fun _ => ?_)
  exact ⟨rfl, rfl⟩
theorem ex_shape0 (m : Int) : PCalls Tryz.prog 100 [.con (.int .i64 0), .con (.int .i64 m)] (fun r => r = .agg [.fn 164 [], .con (.int .i64 (-4611686018427387903)), .con (.int .i64 4611686018427387903), .con (.int .i64 0), .con (.int .i64 0), .con (.int .i64 0), .con (.int .i64 0), .con (.int .i64 0), .con (.int .i64 0)]) := by
  refine a100 _ _ _ ?_
  unfold p100
  refine ⟨_, _, _, _, _, _, _, _, call_p (enters_of Tryz.func163 (by kernel_rfl) rfl) any_p rfl ?_⟩
  refine br_i (fun _ => ?_) (fun h => absurd h (by decide))
  refine ⟨_, _, call_p (enters_of Tryz.func33 (by kernel_rfl) rfl) (from_p (-4611686018427387903) 4611686018427387903) rfl ?_⟩
  exact ⟨rfl, rfl⟩
theorem ex_shape1 (m : Int) : PCalls Tryz.prog 100 [.con (.int .i64 1), .con (.int .i64 m)] (fun r => r = .agg [.fn 164 [], .con (.int .i64 0), .con (.int .i64 0), .con (.int .i64 0), .con (.int .i64 64), .con (.int .i64 0), .con (.int .i64 0), .con (.int .i64 0), .con (.int .i64 0)]) := by
  refine a100 _ _ _ ?_
  unfold p100
  refine ⟨_, _, _, _, _, _, _, _, call_p (enters_of Tryz.func163 (by kernel_rfl) rfl) any_p rfl ?_⟩
  refine br_i (fun h => absurd h (by decide)) (fun _ => ?_)
  refine br_i (fun _ => ?_) (fun h => absurd h (by decide))
  refine ⟨_, _, call_p (enters_of Tryz.func33 (by kernel_rfl) rfl) (from_p 0 64) rfl ?_⟩
  exact ⟨rfl, rfl⟩
theorem ex_shape2 (m : Int) : PCalls Tryz.prog 100 [.con (.int .i64 2), .con (.int .i64 m)] (fun r => r = .agg [.fn 165 [], .con (.int .i64 0), .con (.int .i64 0), .con (.int .i64 0), .con (.int .i64 0), .con (.int .i64 0), .con (.int .i64 0), .con (.int .i64 0), .con (.int .i64 0)]) := by
  refine a100 _ _ _ ?_
  unfold p100
  refine ⟨_, _, _, _, _, _, _, _, call_p (enters_of Tryz.func163 (by kernel_rfl) rfl) any_p rfl ?_⟩
  refine br_i (fun h => absurd h (by decide)) (fun _ => ?_)
  refine br_i (fun h => absurd h (by decide)) (fun _ => ?_)
  refine br_i (fun _ => ?_) (fun h => absurd h (by decide))
  exact ⟨rfl, rfl⟩
theorem ex_shape3 (m : Int) : PCalls Tryz.prog 100 [.con (.int .i64 3), .con (.int .i64 m)] (fun r => r = .agg [.fn 156 [], .con (.int .i64 0), .con (.int .i64 0), .con (.int .i64 0), .con (.int .i64 0), .con (.int .i64 0), .con (.int .i64 6), .con (.int .i64 0), .con (.int .i64 0)]) := by
  refine a100 _ _ _ ?_
  unfold p100
  refine ⟨_, _, _, _, _, _, _, _, call_p (enters_of Tryz.func163 (by kernel_rfl) rfl) any_p rfl ?_⟩
  refine br_i (fun h => absurd h (by decide)) (fun _ => ?_)
  refine br_i (fun h => absurd h (by decide)) (fun _ => ?_)
  refine br_i (fun h => absurd h (by decide)) (fun _ => ?_)
  refine br_i (fun _ => ?_) (fun h => absurd h (by decide))
  refine ⟨_, _, call_p (enters_of Tryz.func33 (by kernel_rfl) rfl) (from_p 0 6) rfl ?_⟩
  exact ⟨rfl, rfl⟩
theorem ex_shape4 (m : Int) : PCalls Tryz.prog 100 [.con (.int .i64 4), .con (.int .i64 m)] (fun r => r = .agg [.fn 164 [], .con (.int .i64 0), .con (.int .i64 0), .con (.int .i64 0), .con (.int .i64 0), .con (.int .i64 2), .con (.int .i64 6), .con (.int .i64 0), .con (.int .i64 0)]) := by
  refine a100 _ _ _ ?_
  unfold p100
  refine ⟨_, _, _, _, _, _, _, _, call_p (enters_of Tryz.func163 (by kernel_rfl) rfl) any_p rfl ?_⟩
  refine br_i (fun h => absurd h (by decide)) (fun _ => ?_)
  refine br_i (fun h => absurd h (by decide)) (fun _ => ?_)
  refine br_i (fun h => absurd h (by decide)) (fun _ => ?_)
  refine br_i (fun h => absurd h (by decide)) (fun _ => ?_)
  refine br_i (fun _ => ?_) (fun h => absurd h (by decide))
  refine ⟨_, _, call_p (enters_of Tryz.func33 (by kernel_rfl) rfl) (from_p 2 6) rfl ?_⟩
  exact ⟨rfl, rfl⟩
theorem ex_shape5 (m : Int) : PCalls Tryz.prog 100 [.con (.int .i64 5), .con (.int .i64 m)] (fun r => r = .agg [.fn 87 [], .con (.int .i64 0), .con (.int .i64 0), .con (.int .i64 0), .con (.int .i64 0), .con (.int .i64 1), .con (.int .i64 6), .con (.int .i64 0), .con (.int .i64 0)]) := by
  refine a100 _ _ _ ?_
  unfold p100
  refine ⟨_, _, _, _, _, _, _, _, call_p (enters_of Tryz.func163 (by kernel_rfl) rfl) any_p rfl ?_⟩
  refine br_i (fun h => absurd h (by decide)) (fun _ => ?_)
  refine br_i (fun h => absurd h (by decide)) (fun _ => ?_)
  refine br_i (fun h => absurd h (by decide)) (fun _ => ?_)
  refine br_i (fun h => absurd h (by decide)) (fun _ => ?_)
  refine br_i (fun h => absurd h (by decide)) (fun _ => ?_)
  refine br_i (fun _ => ?_) (fun h => absurd h (by decide))
  refine ⟨_, _, call_p (enters_of Tryz.func33 (by kernel_rfl) rfl) (from_p 1 6) rfl ?_⟩
  exact ⟨rfl, rfl⟩
theorem ex_shape6 (m : Int) : PCalls Tryz.prog 100 [.con (.int .i64 6), .con (.int .i64 m)] (fun r => r = .agg [.fn 92 [], .con (.int .i64 0), .con (.int .i64 0), .con (.int .i64 0), .con (.int .i64 0), .con (.int .i64 2), .con (.int .i64 2), .con (.int .i64 0), .con (.int .i64 0)]) := by
  refine a100 _ _ _ ?_
  unfold p100
  refine ⟨_, _, _, _, _, _, _, _, call_p (enters_of Tryz.func163 (by kernel_rfl) rfl) any_p rfl ?_⟩
  refine br_i (fun h => absurd h (by decide)) (fun _ => ?_)
  refine br_i (fun h => absurd h (by decide)) (fun _ => ?_)
  refine br_i (fun h => absurd h (by decide)) (fun _ => ?_)
  refine br_i (fun h => absurd h (by decide)) (fun _ => ?_)
  refine br_i (fun h => absurd h (by decide)) (fun _ => ?_)
  refine br_i (fun h => absurd h (by decide)) (fun _ => ?_)
  refine br_i (fun _ => ?_) (fun h => absurd h (by decide))
  refine ⟨_, _, call_p (enters_of Tryz.func166 (by kernel_rfl) rfl) (just_p 2) rfl ?_⟩
  exact ⟨rfl, rfl⟩
theorem ex_shape7 (m : Int) : PCalls Tryz.prog 100 [.con (.int .i64 7), .con (.int .i64 m)] (fun r => r = .agg [.fn 164 [], .con (.int .i64 0), .con (.int .i64 0), .con (.int .i64 0), .con (.int .i64 0), .con (.int .i64 3), .con (.int .i64 3), .con (.int .i64 0), .con (.int .i64 0)]) := by
  refine a100 _ _ _ ?_
  unfold p100
  refine ⟨_, _, _, _, _, _, _, _, call_p (enters_of Tryz.func163 (by kernel_rfl) rfl) any_p rfl ?_⟩
  refine br_i (fun h => absurd h (by decide)) (fun _ => ?_)
  refine br_i (fun h => absurd h (by decide)) (fun _ => ?_)
  refine br_i (fun h => absurd h (by decide)) (fun _ => ?_)
  refine br_i (fun h => absurd h (by decide)) (fun _ => ?_)
  refine br_i (fun h => absurd h (by decide)) (fun _ => ?_)
  refine br_i (fun h => absurd h (by decide)) (fun _ => ?_)
  refine br_i (fun h => absurd h (by decide)) (fun _ => ?_)
  refine br_i (fun _ => ?_) (fun h => absurd h (by decide))
  refine ⟨_, _, call_p (enters_of Tryz.func166 (by kernel_rfl) rfl) (just_p 3) rfl ?_⟩
  exact ⟨rfl, rfl⟩
theorem ex_shape8 (m : Int) : PCalls Tryz.prog 100 [.con (.int .i64 8), .con (.int .i64 m)] (fun r => r = .agg [.fn 164 [], .con (.int .i64 0), .con (.int .i64 0), .con (.int .i64 0), .con (.int .i64 0), .con (.int .i64 1), .con (.int .i64 1), .con (.int .i64 1), .con (.int .i64 32)]) := by
  refine a100 _ _ _ ?_
  unfold p100
  refine ⟨_, _, _, _, _, _, _, _, call_p (enters_of Tryz.func163 (by kernel_rfl) rfl) any_p rfl ?_⟩
  refine br_i (fun h => absurd h (by decide)) (fun _ => ?_)
  refine br_i (fun h => absurd h (by decide)) (fun _ => ?_)
  refine br_i (fun h => absurd h (by decide)) (fun _ => ?_)
  refine br_i (fun h => absurd h (by decide)) (fun _ => ?_)
  refine br_i (fun h => absurd h (by decide)) (fun _ => ?_)
  refine br_i (fun h => absurd h (by decide)) (fun _ => ?_)
  refine br_i (fun h => absurd h (by decide)) (fun _ => ?_)
  refine br_i (fun h => absurd h (by decide)) (fun _ => ?_)
  refine br_i (fun _ => ?_) (fun h => absurd h (by decide))
  refine ⟨_, _, call_p (enters_of Tryz.func166 (by kernel_rfl) rfl) (just_p 1) rfl ?_⟩
  refine ⟨_, _, call_p (enters_of Tryz.func33 (by kernel_rfl) rfl) (from_p 1 32) rfl ?_⟩
  exact ⟨rfl, rfl⟩
theorem ex_shape9 (m : Int) : PCalls Tryz.prog 100 [.con (.int .i64 9), .con (.int .i64 m)] (fun r => r = .agg [.fn 164 [], .con (.int .i64 0), .con (.int .i64 11), .con (.int .i64 0), .con (.int .i64 0), .con (.int .i64 (argsOf m)), .con (.int .i64 (argsOf m)), .con (.int .i64 0), .con (.int .i64 0)]) := by
  refine a100 _ _ _ ?_
  unfold p100
  refine ⟨_, _, _, _, _, _, _, _, call_p (enters_of Tryz.func163 (by kernel_rfl) rfl) any_p rfl ?_⟩
  refine br_i (fun h => absurd h (by decide)) (fun _ => ?_)
  refine br_i (fun h => absurd h (by decide)) (fun _ => ?_)
  refine br_i (fun h => absurd h (by decide)) (fun _ => ?_)
  refine br_i (fun h => absurd h (by decide)) (fun _ => ?_)
  refine br_i (fun h => absurd h (by decide)) (fun _ => ?_)
  refine br_i (fun h => absurd h (by decide)) (fun _ => ?_)
  refine br_i (fun h => absurd h (by decide)) (fun _ => ?_)
  refine br_i (fun h => absurd h (by decide)) (fun _ => ?_)
  refine br_i (fun h => absurd h (by decide)) (fun _ => ?_)
  refine br_i (fun _ => ?_) (fun h => absurd h (by decide))
  refine ⟨_, _, call_p (enters_of Tryz.func33 (by kernel_rfl) rfl) (from_p 0 11) rfl ?_⟩
  refine ⟨_, call_p (enters_of Tryz.func167 (by kernel_rfl) rfl) (operands_p m) rfl ?_⟩
  refine ⟨_, _, call_p (enters_of Tryz.func166 (by kernel_rfl) rfl) (just_p (argsOf m)) rfl ?_⟩
  exact ⟨rfl, rfl⟩
theorem ex_shape10 (m : Int) : PCalls Tryz.prog 100 [.con (.int .i64 10), .con (.int .i64 m)] (fun r => r = .agg [.fn 92 [], .con (.int .i64 0), .con (.int .i64 1000), .con (.int .i64 0), .con (.int .i64 0), .con (.int .i64 2), .con (.int .i64 2), .con (.int .i64 0), .con (.int .i64 0)]) := by
  refine a100 _ _ _ ?_
  unfold p100
  refine ⟨_, _, _, _, _, _, _, _, call_p (enters_of Tryz.func163 (by kernel_rfl) rfl) any_p rfl ?_⟩
  refine br_i (fun h => absurd h (by decide)) (fun _ => ?_)
  refine br_i (fun h => absurd h (by decide)) (fun _ => ?_)
  refine br_i (fun h => absurd h (by decide)) (fun _ => ?_)
  refine br_i (fun h => absurd h (by decide)) (fun _ => ?_)
  refine br_i (fun h => absurd h (by decide)) (fun _ => ?_)
  refine br_i (fun h => absurd h (by decide)) (fun _ => ?_)
  refine br_i (fun h => absurd h (by decide)) (fun _ => ?_)
  refine br_i (fun h => absurd h (by decide)) (fun _ => ?_)
  refine br_i (fun h => absurd h (by decide)) (fun _ => ?_)
  refine br_i (fun h => absurd h (by decide)) (fun _ => ?_)
  refine br_i (fun _ => ?_) (fun h => absurd h (by decide))
  refine ⟨_, _, call_p (enters_of Tryz.func33 (by kernel_rfl) rfl) (from_p 0 1000) rfl ?_⟩
  refine ⟨_, _, call_p (enters_of Tryz.func166 (by kernel_rfl) rfl) (just_p 2) rfl ?_⟩
  exact ⟨rfl, rfl⟩
theorem ex_shape_no (k : Int) (m : Int) (h0 : k ≠ 0) (h1 : k ≠ 1) (h2 : k ≠ 2) (h3 : k ≠ 3) (h4 : k ≠ 4) (h5 : k ≠ 5) (h6 : k ≠ 6) (h7 : k ≠ 7) (h8 : k ≠ 8) (h9 : k ≠ 9) (h10 : k ≠ 10) : PCalls Tryz.prog 100 [.con (.int .i64 k), .con (.int .i64 m)] (fun r => r = .agg [.fn 195 [], .con (.int .i64 0), .con (.int .i64 0), .con (.int .i64 0), .con (.int .i64 0), .con (.int .i64 0), .con (.int .i64 0), .con (.int .i64 0), .con (.int .i64 0)]) := by
  refine a100 _ _ _ ?_
  unfold p100
  refine ⟨_, _, _, _, _, _, _, _, call_p (enters_of Tryz.func163 (by kernel_rfl) rfl) any_p rfl ?_⟩
  refine br_i (fun h => absurd (by simpa using h) h0) (fun _ => ?_)
  refine br_i (fun h => absurd (by simpa using h) h1) (fun _ => ?_)
  refine br_i (fun h => absurd (by simpa using h) h2) (fun _ => ?_)
  refine br_i (fun h => absurd (by simpa using h) h3) (fun _ => ?_)
  refine br_i (fun h => absurd (by simpa using h) h4) (fun _ => ?_)
  refine br_i (fun h => absurd (by simpa using h) h5) (fun _ => ?_)
  refine br_i (fun h => absurd (by simpa using h) h6) (fun _ => ?_)
  refine br_i (fun h => absurd (by simpa using h) h7) (fun _ => ?_)
  refine br_i (fun h => absurd (by simpa using h) h8) (fun _ => ?_)
  refine br_i (fun h => absurd (by simpa using h) h9) (fun _ => ?_)
  refine br_i (fun h => absurd (by simpa using h) h10) (fun _ => ?_)
  exact ⟨rfl, rfl⟩
theorem fit_pt' (t : Pt) : smallPt t → ∀ D : Int, 0 ≤ D → D ≤ 64 → PCalls Tryz.prog 47 [.agg (ptP t), .con (.int .i64 D)] (fun r => r = .con (.bool (fitPt D.toNat t))) := by
  induction t using Pt.ind with
  | h k li co n m ps ih =>
  intro hs D h0 h1
  unfold smallPt at hs
  obtain ⟨hn, hlen, hss⟩ := hs
  refine a47 _ _ _ _ _ _ _ _ ?_
  unfold p47
  rw [ptPs_len]
  by_cases hd : 0 < D
  case neg =>
    rw [show D.toNat = 0 by omega, fitPt]
    by_cases hk0 : k = 0
    · subst hk0
      refine Or.inr (Or.inl ?_)
      exact ⟨_, _, _, _, _, _, _, _, call_p (enters_of Tryz.func106 (by kernel_rfl) rfl) (pt_shape0) rfl (br_i (fun hf => absurd (by simpa using hf) hd) (fun _ => ⟨rfl, rfl⟩))⟩
    by_cases hk1 : k = 1
    · subst hk1
      refine Or.inr (Or.inr (Or.inl ?_))
      exact ⟨_, _, _, _, _, _, _, _, call_p (enters_of Tryz.func106 (by kernel_rfl) rfl) (pt_shape1) rfl (br_i (fun hf => absurd (by simpa using hf) hd) (fun _ => ⟨rfl, rfl⟩))⟩
    by_cases hk2 : k = 2
    · subst hk2
      refine Or.inr (Or.inl ?_)
      exact ⟨_, _, _, _, _, _, _, _, call_p (enters_of Tryz.func106 (by kernel_rfl) rfl) (pt_shape2) rfl (br_i (fun hf => absurd (by simpa using hf) hd) (fun _ => ⟨rfl, rfl⟩))⟩
    by_cases hk3 : k = 3
    · subst hk3
      refine Or.inr (Or.inr (Or.inr (?_)))
      exact ⟨_, _, _, _, _, _, _, _, call_p (enters_of Tryz.func106 (by kernel_rfl) rfl) (pt_shape3) rfl (br_i (fun hf => absurd (by simpa using hf) hd) (fun _ => ⟨rfl, rfl⟩))⟩
    by_cases hk4 : k = 4
    · subst hk4
      refine Or.inr (Or.inl ?_)
      exact ⟨_, _, _, _, _, _, _, _, call_p (enters_of Tryz.func106 (by kernel_rfl) rfl) (pt_shape4) rfl (br_i (fun hf => absurd (by simpa using hf) hd) (fun _ => ⟨rfl, rfl⟩))⟩
    refine Or.inl ?_
    exact ⟨_, _, _, _, _, _, _, _, call_p (enters_of Tryz.func106 (by kernel_rfl) rfl) (pt_shape_no k hk0 hk1 hk2 hk3 hk4) rfl (br_i (fun hf => absurd (by simpa using hf) hd) (fun _ => ⟨rfl, rfl⟩))⟩
  rw [fitPt_pos' hd]
  have hA : PCalls Tryz.prog 107 [.sl (ptPs ps), .fn 108 [.ept [.con (.int .i64 D)] 0]] (fun r => r = .con (.bool (ps.all (fitPt (D.toNat - 1))))) := by
    rw [← range_all ps Pt.zero (fitPt (D.toNat - 1))]
    refine all_c (ptPs ps) ps.length (ptPs_len ps) (by omega) D (fun j => fitPt (D.toNat - 1) (ps.getD j Pt.zero)) (fun j hj => ?_)
    have hx := ptPs_get ps j hj
    have hi := ih j hj (smallPts_get ps hss j hj) (D - 1) (by omega) (by omega)
    rw [show (D - 1).toNat = D.toNat - 1 by omega] at hi
    rw [getD_at ps Pt.zero j hj]
    obtain ⟨k', li', co', n', m', ps', hp⟩ := pt_mk ps[j]
    rw [hp] at hx hi ⊢
    refine ⟨_, _, _, _, _, _, hx, a108c _ _ _ _ _ _ _ _ ?_⟩
    unfold p108c
    rw [wrap_id (n := D - 1) (by omega) (by omega)]
    exact ⟨_, call_p (enters_of Tryz.func47 (by kernel_rfl) rfl) hi rfl ⟨rfl, rfl⟩⟩
  have eA := enters_of Tryz.func107 (by kernel_rfl) rfl
  obtain ⟨V, hV0⟩ : ∃ V, shapePt k n m ps.length = V := ⟨_, rfl⟩
  rw [hV0]
  by_cases hk0 : k = 0
  · subst hk0
    have hV : V = (noneB n && (inB 0 0 m && inB 0 0 (ps.length : Int))) := by rw [← hV0]; simp [shapePt, in_0, in_z, numB]
    refine Or.inr (Or.inl ?_)
    refine ⟨_, _, _, _, _, _, _, _, call_p (enters_of Tryz.func106 (by kernel_rfl) rfl) pt_shape0 rfl ?_⟩
    refine br_i (fun _ => ?_) (fun hf => absurd hd (by simpa using hf))
    refine ⟨_, call_p (enters_of Tryz.func164 (by kernel_rfl) rfl) (empty_p n) rfl ?_⟩
    refine br_i (fun hx => ?_) (fun hx => ⟨by rw [hV, hx]; simp, rfl⟩)
    rw [hx, Bool.true_and] at hV
    clear hx
    refine ⟨_, call_p (enters_of Tryz.func79 (by kernel_rfl) rfl) (has_p 0 0 m) rfl ?_⟩
    refine br_i (fun hx => ?_) (fun hx => ⟨by rw [hV, hx]; simp, rfl⟩)
    rw [hx, Bool.true_and] at hV
    clear hx
    refine ⟨_, call_p (enters_of Tryz.func34 (by kernel_rfl) rfl) (many_p 0 0 ps.length) rfl ?_⟩
    refine br_i (fun hx => ?_) (fun hx => ⟨by rw [hV, hx]; simp, rfl⟩)
    rw [hx] at hV
    clear hx
    exact ⟨_, call_p eA hA rfl ⟨by rw [hV, Bool.true_and], rfl⟩⟩
  by_cases hk1 : k = 1
  · subst hk1
    have hV : V = (namedB n false && (inB 0 0 m && inB 0 0 (ps.length : Int))) := by rw [← hV0]; simp [shapePt, in_0, in_z, numB]
    refine Or.inr (Or.inr (Or.inl ?_))
    refine ⟨_, _, _, _, _, _, _, _, call_p (enters_of Tryz.func106 (by kernel_rfl) rfl) pt_shape1 rfl ?_⟩
    refine br_i (fun _ => ?_) (fun hf => absurd hd (by simpa using hf))
    refine ⟨_, call_p (enters_of Tryz.func92 (by kernel_rfl) rfl) (small_p n hn) rfl ?_⟩
    refine br_i (fun hx => ?_) (fun hx => ⟨by rw [hV, hx]; simp, rfl⟩)
    rw [hx, Bool.true_and] at hV
    clear hx
    refine ⟨_, call_p (enters_of Tryz.func79 (by kernel_rfl) rfl) (has_p 0 0 m) rfl ?_⟩
    refine br_i (fun hx => ?_) (fun hx => ⟨by rw [hV, hx]; simp, rfl⟩)
    rw [hx, Bool.true_and] at hV
    clear hx
    refine ⟨_, call_p (enters_of Tryz.func34 (by kernel_rfl) rfl) (many_p 0 0 ps.length) rfl ?_⟩
    refine br_i (fun hx => ?_) (fun hx => ⟨by rw [hV, hx]; simp, rfl⟩)
    rw [hx] at hV
    clear hx
    exact ⟨_, call_p eA hA rfl ⟨by rw [hV, Bool.true_and], rfl⟩⟩
  by_cases hk2 : k = 2
  · subst hk2
    have hV : V = (noneB n && (inB (-4611686018427387903) 4611686018427387903 m && inB 0 0 (ps.length : Int))) := by rw [← hV0]; simp [shapePt, in_0, in_z, numB]
    refine Or.inr (Or.inl ?_)
    refine ⟨_, _, _, _, _, _, _, _, call_p (enters_of Tryz.func106 (by kernel_rfl) rfl) pt_shape2 rfl ?_⟩
    refine br_i (fun _ => ?_) (fun hf => absurd hd (by simpa using hf))
    refine ⟨_, call_p (enters_of Tryz.func164 (by kernel_rfl) rfl) (empty_p n) rfl ?_⟩
    refine br_i (fun hx => ?_) (fun hx => ⟨by rw [hV, hx]; simp, rfl⟩)
    rw [hx, Bool.true_and] at hV
    clear hx
    refine ⟨_, call_p (enters_of Tryz.func79 (by kernel_rfl) rfl) (has_p (-4611686018427387903) 4611686018427387903 m) rfl ?_⟩
    refine br_i (fun hx => ?_) (fun hx => ⟨by rw [hV, hx]; simp, rfl⟩)
    rw [hx, Bool.true_and] at hV
    clear hx
    refine ⟨_, call_p (enters_of Tryz.func34 (by kernel_rfl) rfl) (many_p 0 0 ps.length) rfl ?_⟩
    refine br_i (fun hx => ?_) (fun hx => ⟨by rw [hV, hx]; simp, rfl⟩)
    rw [hx] at hV
    clear hx
    exact ⟨_, call_p eA hA rfl ⟨by rw [hV, Bool.true_and], rfl⟩⟩
  by_cases hk3 : k = 3
  · subst hk3
    have hV : V = (namedB n true && (inB 0 0 m && inB 0 6 (ps.length : Int))) := by rw [← hV0]; simp [shapePt, in_0, in_z, numB]
    refine Or.inr (Or.inr (Or.inr (?_)))
    refine ⟨_, _, _, _, _, _, _, _, call_p (enters_of Tryz.func106 (by kernel_rfl) rfl) pt_shape3 rfl ?_⟩
    refine br_i (fun _ => ?_) (fun hf => absurd hd (by simpa using hf))
    refine ⟨_, call_p (enters_of Tryz.func156 (by kernel_rfl) rfl) (great_p n hn) rfl ?_⟩
    refine br_i (fun hx => ?_) (fun hx => ⟨by rw [hV, hx]; simp, rfl⟩)
    rw [hx, Bool.true_and] at hV
    clear hx
    refine ⟨_, call_p (enters_of Tryz.func79 (by kernel_rfl) rfl) (has_p 0 0 m) rfl ?_⟩
    refine br_i (fun hx => ?_) (fun hx => ⟨by rw [hV, hx]; simp, rfl⟩)
    rw [hx, Bool.true_and] at hV
    clear hx
    refine ⟨_, call_p (enters_of Tryz.func34 (by kernel_rfl) rfl) (many_p 0 6 ps.length) rfl ?_⟩
    refine br_i (fun hx => ?_) (fun hx => ⟨by rw [hV, hx]; simp, rfl⟩)
    rw [hx] at hV
    clear hx
    exact ⟨_, call_p eA hA rfl ⟨by rw [hV, Bool.true_and], rfl⟩⟩
  by_cases hk4 : k = 4
  · subst hk4
    have hV : V = (noneB n && (inB 0 0 m && inB 2 6 (ps.length : Int))) := by rw [← hV0]; simp [shapePt, in_0, in_z, numB]
    refine Or.inr (Or.inl ?_)
    refine ⟨_, _, _, _, _, _, _, _, call_p (enters_of Tryz.func106 (by kernel_rfl) rfl) pt_shape4 rfl ?_⟩
    refine br_i (fun _ => ?_) (fun hf => absurd hd (by simpa using hf))
    refine ⟨_, call_p (enters_of Tryz.func164 (by kernel_rfl) rfl) (empty_p n) rfl ?_⟩
    refine br_i (fun hx => ?_) (fun hx => ⟨by rw [hV, hx]; simp, rfl⟩)
    rw [hx, Bool.true_and] at hV
    clear hx
    refine ⟨_, call_p (enters_of Tryz.func79 (by kernel_rfl) rfl) (has_p 0 0 m) rfl ?_⟩
    refine br_i (fun hx => ?_) (fun hx => ⟨by rw [hV, hx]; simp, rfl⟩)
    rw [hx, Bool.true_and] at hV
    clear hx
    refine ⟨_, call_p (enters_of Tryz.func34 (by kernel_rfl) rfl) (many_p 2 6 ps.length) rfl ?_⟩
    refine br_i (fun hx => ?_) (fun hx => ⟨by rw [hV, hx]; simp, rfl⟩)
    rw [hx] at hV
    clear hx
    exact ⟨_, call_p eA hA rfl ⟨by rw [hV, Bool.true_and], rfl⟩⟩
  have hV : V = false := by rw [← hV0]; simp [shapePt, hk0, hk1, hk2, hk3, hk4]
  refine Or.inl ?_
  refine ⟨_, _, _, _, _, _, _, _, call_p (enters_of Tryz.func106 (by kernel_rfl) rfl) (pt_shape_no k hk0 hk1 hk2 hk3 hk4) rfl ?_⟩
  refine br_i (fun _ => ?_) (fun hf => absurd hd (by simpa using hf))
  refine ⟨_, call_p (enters_of Tryz.func195 (by kernel_rfl) rfl) (nothing_p n) rfl ?_⟩
  exact br_i (fun hx => by cases hx) (fun hx => ⟨by rw [hV]; rfl, rfl⟩)
set_option maxHeartbeats 2000000 in
theorem fit_ex' (t : Ex) : smallEx t → wfEx t → ∀ D : Int, 0 ≤ D → D ≤ 64 → PCalls Tryz.prog 45 [.agg (exP t), .con (.int .i64 D)] (fun r => r = .con (.bool (fitEx D.toNat t))) := by
  induction t using Ex.ind with
  | h k li co m b n ks ps bs ihk ihb =>
  intro hs hw D h0 h1
  unfold smallEx at hs
  unfold wfEx at hw
  obtain ⟨hpb, hwk, hwb⟩ := hw
  obtain ⟨hb3, hn, hlk, hlp, hlb, hsk, hsp, hsb⟩ := hs
  refine a45 _ _ _ _ _ _ _ _ _ _ ?_
  unfold p45
  rw [exPs_len, arPs_len bs ps hpb, show (byP b).length = b.length by simp [byP]]
  by_cases hd : 0 < D
  case neg =>
    rw [show D.toNat = 0 by omega, fitEx]
    by_cases hk0 : k = 0
    · subst hk0
      refine Or.inr (Or.inl ?_)
      exact ⟨_, _, _, _, _, _, _, _, call_p (enters_of Tryz.func100 (by kernel_rfl) rfl) (ex_shape0 m) rfl (br_i (fun hf => absurd (by simpa using hf) hd) (fun _ => ⟨rfl, rfl⟩))⟩
    by_cases hk1 : k = 1
    · subst hk1
      refine Or.inr (Or.inl ?_)
      exact ⟨_, _, _, _, _, _, _, _, call_p (enters_of Tryz.func100 (by kernel_rfl) rfl) (ex_shape1 m) rfl (br_i (fun hf => absurd (by simpa using hf) hd) (fun _ => ⟨rfl, rfl⟩))⟩
    by_cases hk2 : k = 2
    · subst hk2
      refine Or.inr (Or.inr (Or.inl ?_))
      exact ⟨_, _, _, _, _, _, _, _, call_p (enters_of Tryz.func100 (by kernel_rfl) rfl) (ex_shape2 m) rfl (br_i (fun hf => absurd (by simpa using hf) hd) (fun _ => ⟨rfl, rfl⟩))⟩
    by_cases hk3 : k = 3
    · subst hk3
      refine Or.inr (Or.inr (Or.inr (Or.inl ?_)))
      exact ⟨_, _, _, _, _, _, _, _, call_p (enters_of Tryz.func100 (by kernel_rfl) rfl) (ex_shape3 m) rfl (br_i (fun hf => absurd (by simpa using hf) hd) (fun _ => ⟨rfl, rfl⟩))⟩
    by_cases hk4 : k = 4
    · subst hk4
      refine Or.inr (Or.inl ?_)
      exact ⟨_, _, _, _, _, _, _, _, call_p (enters_of Tryz.func100 (by kernel_rfl) rfl) (ex_shape4 m) rfl (br_i (fun hf => absurd (by simpa using hf) hd) (fun _ => ⟨rfl, rfl⟩))⟩
    by_cases hk5 : k = 5
    · subst hk5
      refine Or.inr (Or.inr (Or.inr (Or.inr (Or.inl ?_))))
      exact ⟨_, _, _, _, _, _, _, _, call_p (enters_of Tryz.func100 (by kernel_rfl) rfl) (ex_shape5 m) rfl (br_i (fun hf => absurd (by simpa using hf) hd) (fun _ => ⟨rfl, rfl⟩))⟩
    by_cases hk6 : k = 6
    · subst hk6
      refine Or.inr (Or.inr (Or.inr (Or.inr (Or.inr (?_)))))
      exact ⟨_, _, _, _, _, _, _, _, call_p (enters_of Tryz.func100 (by kernel_rfl) rfl) (ex_shape6 m) rfl (br_i (fun hf => absurd (by simpa using hf) hd) (fun _ => ⟨rfl, rfl⟩))⟩
    by_cases hk7 : k = 7
    · subst hk7
      refine Or.inr (Or.inl ?_)
      exact ⟨_, _, _, _, _, _, _, _, call_p (enters_of Tryz.func100 (by kernel_rfl) rfl) (ex_shape7 m) rfl (br_i (fun hf => absurd (by simpa using hf) hd) (fun _ => ⟨rfl, rfl⟩))⟩
    by_cases hk8 : k = 8
    · subst hk8
      refine Or.inr (Or.inl ?_)
      exact ⟨_, _, _, _, _, _, _, _, call_p (enters_of Tryz.func100 (by kernel_rfl) rfl) (ex_shape8 m) rfl (br_i (fun hf => absurd (by simpa using hf) hd) (fun _ => ⟨rfl, rfl⟩))⟩
    by_cases hk9 : k = 9
    · subst hk9
      refine Or.inr (Or.inl ?_)
      exact ⟨_, _, _, _, _, _, _, _, call_p (enters_of Tryz.func100 (by kernel_rfl) rfl) (ex_shape9 m) rfl (br_i (fun hf => absurd (by simpa using hf) hd) (fun _ => ⟨rfl, rfl⟩))⟩
    by_cases hk10 : k = 10
    · subst hk10
      refine Or.inr (Or.inr (Or.inr (Or.inr (Or.inr (?_)))))
      exact ⟨_, _, _, _, _, _, _, _, call_p (enters_of Tryz.func100 (by kernel_rfl) rfl) (ex_shape10 m) rfl (br_i (fun hf => absurd (by simpa using hf) hd) (fun _ => ⟨rfl, rfl⟩))⟩
    refine Or.inl ?_
    exact ⟨_, _, _, _, _, _, _, _, call_p (enters_of Tryz.func100 (by kernel_rfl) rfl) (ex_shape_no k m hk0 hk1 hk2 hk3 hk4 hk5 hk6 hk7 hk8 hk9 hk10) rfl (br_i (fun hf => absurd (by simpa using hf) hd) (fun _ => ⟨rfl, rfl⟩))⟩
  rw [fitEx_pos' hd]
  have hA : PCalls Tryz.prog 101 [.sl (exPs ks), .fn 102 [.ept [.con (.int .i64 D)] 0]] (fun r => r = .con (.bool (ks.all (fitEx (D.toNat - 1))))) := by
    rw [← range_all ks Ex.zero (fitEx (D.toNat - 1))]
    refine all_d (exPs ks) ks.length (exPs_len ks) (by omega) D (fun j => fitEx (D.toNat - 1) (ks.getD j Ex.zero)) (fun j hj => ?_)
    have hx := exPs_get ks j hj
    have hi := ihk j hj (smallExs_get ks hsk j hj) (wfExs_at ks hwk j hj) (D - 1) (by omega) (by omega)
    rw [show (D - 1).toNat = D.toNat - 1 by omega] at hi
    rw [getD_at ks Ex.zero j hj]
    obtain ⟨k', li', co', m', b', n', ks', ps', bs', hp⟩ := ex_mk ks[j]
    rw [hp] at hx hi ⊢
    refine ⟨_, _, _, _, _, _, _, _, hx, a102d _ _ _ _ _ _ _ _ _ _ ?_⟩
    unfold p102d
    rw [wrap_id (n := D - 1) (by omega) (by omega)]
    exact ⟨_, call_p (enters_of Tryz.func45 (by kernel_rfl) rfl) hi rfl ⟨rfl, rfl⟩⟩
  have eA := enters_of Tryz.func101 (by kernel_rfl) rfl
  have hB : PCalls Tryz.prog 103 [.sl (arPs bs ps), .fn 104 [.ept [.con (.int .i64 D)] 0]] (fun r => r = .con (.bool (ps.all (fitPt (D.toNat - 1)) && bs.all (fitEx (D.toNat - 1))))) := by
    rw [← arms_all ps bs hpb Pt.zero Ex.zero]
    refine all_e (arPs bs ps) bs.length (arPs_len bs ps hpb) (by omega) D (fun j => fitPt (D.toNat - 1) (ps.getD j Pt.zero) && fitEx (D.toNat - 1) (bs.getD j Ex.zero)) (fun j hj => ?_)
    have hj2 : j < ps.length := by omega
    have hx := arPs_get bs ps j hj hj2
    have hi := ihb j hj (smallExs_get bs hsb j hj) (wfExs_at bs hwb j hj) (D - 1) (by omega) (by omega)
    have hi1 := fit_pt' ps[j] (smallPts_get ps hsp j hj2) (D - 1) (by omega) (by omega)
    rw [show (D - 1).toNat = D.toNat - 1 by omega] at hi hi1
    rw [getD_at bs Ex.zero j hj, getD_at ps Pt.zero j hj2]
    obtain ⟨k', li', co', m', b', n', ks', ps', bs', hp⟩ := ex_mk bs[j]
    obtain ⟨k2', li2', co2', n2', m2', ps2', hp2⟩ := pt_mk ps[j]
    rw [hp, hp2] at hx ⊢
    rw [hp] at hi
    rw [hp2] at hi1
    refine ⟨_, _, _, _, _, _, _, _, _, _, _, _, _, _, hx, a104e _ _ _ _ _ _ _ _ _ _ _ _ _ _ _ _ ?_⟩
    unfold p104e
    rw [wrap_id (n := D - 1) (by omega) (by omega)]
    refine ⟨_, call_p (enters_of Tryz.func47 (by kernel_rfl) rfl) hi1 rfl ?_⟩
    refine br_i (fun hx => ?_) (fun hx => ⟨by rw [hx]; rfl, rfl⟩)
    exact ⟨_, call_p (enters_of Tryz.func45 (by kernel_rfl) rfl) hi rfl ⟨by rw [hx]; rfl, rfl⟩⟩
  have eB := enters_of Tryz.func103 (by kernel_rfl) rfl
  obtain ⟨V, hV0⟩ : ∃ V, shapeEx k m b.length n ks.length bs.length = V := ⟨_, rfl⟩
  rw [hV0]
  by_cases hk0 : k = 0
  · subst hk0
    have hV : V = (noneB n && (inB (-4611686018427387903) 4611686018427387903 m && (inB 0 0 (b.length : Int) && (inB 0 0 (ks.length : Int) && inB 0 0 (bs.length : Int))))) := by rw [← hV0]; simp [shapeEx, in_0, in_1, in_2, in_3, in_z, numB]
    refine Or.inr (Or.inl ?_)
    refine ⟨_, _, _, _, _, _, _, _, call_p (enters_of Tryz.func100 (by kernel_rfl) rfl) (ex_shape0 m) rfl ?_⟩
    refine br_i (fun _ => ?_) (fun hf => absurd hd (by simpa using hf))
    refine ⟨_, call_p (enters_of Tryz.func164 (by kernel_rfl) rfl) (empty_p n) rfl ?_⟩
    refine br_i (fun hx => ?_) (fun hx => ⟨by rw [hV, hx]; simp, rfl⟩)
    rw [hx, Bool.true_and] at hV
    clear hx
    refine ⟨_, call_p (enters_of Tryz.func79 (by kernel_rfl) rfl) (has_p (-4611686018427387903) 4611686018427387903 m) rfl ?_⟩
    refine br_i (fun hx => ?_) (fun hx => ⟨by rw [hV, hx]; simp, rfl⟩)
    rw [hx, Bool.true_and] at hV
    clear hx
    refine ⟨_, call_p (enters_of Tryz.func34 (by kernel_rfl) rfl) (many_p 0 0 b.length) rfl ?_⟩
    refine br_i (fun hx => ?_) (fun hx => ⟨by rw [hV, hx]; simp, rfl⟩)
    rw [hx, Bool.true_and] at hV
    clear hx
    refine ⟨_, call_p (enters_of Tryz.func34 (by kernel_rfl) rfl) (many_p 0 0 ks.length) rfl ?_⟩
    refine br_i (fun hx => ?_) (fun hx => ⟨by rw [hV, hx]; simp, rfl⟩)
    rw [hx, Bool.true_and] at hV
    clear hx
    refine ⟨_, call_p (enters_of Tryz.func34 (by kernel_rfl) rfl) (many_p 0 0 bs.length) rfl ?_⟩
    refine br_i (fun hx => ?_) (fun hx => ⟨by rw [hV, hx]; simp, rfl⟩)
    rw [hx] at hV
    clear hx
    rw [hV, Bool.true_and]
    refine ⟨_, call_p eA hA rfl ?_⟩
    refine br_i (fun hx => ?_) (fun hx => ⟨by rw [hx]; rfl, rfl⟩)
    exact ⟨_, call_p eB hB rfl ⟨by rw [hx, Bool.true_and], rfl⟩⟩
  by_cases hk1 : k = 1
  · subst hk1
    have hV : V = (noneB n && (inB 0 0 m && (inB 0 64 (b.length : Int) && (inB 0 0 (ks.length : Int) && inB 0 0 (bs.length : Int))))) := by rw [← hV0]; simp [shapeEx, in_0, in_1, in_2, in_3, in_z, numB]
    refine Or.inr (Or.inl ?_)
    refine ⟨_, _, _, _, _, _, _, _, call_p (enters_of Tryz.func100 (by kernel_rfl) rfl) (ex_shape1 m) rfl ?_⟩
    refine br_i (fun _ => ?_) (fun hf => absurd hd (by simpa using hf))
    refine ⟨_, call_p (enters_of Tryz.func164 (by kernel_rfl) rfl) (empty_p n) rfl ?_⟩
    refine br_i (fun hx => ?_) (fun hx => ⟨by rw [hV, hx]; simp, rfl⟩)
    rw [hx, Bool.true_and] at hV
    clear hx
    refine ⟨_, call_p (enters_of Tryz.func79 (by kernel_rfl) rfl) (has_p 0 0 m) rfl ?_⟩
    refine br_i (fun hx => ?_) (fun hx => ⟨by rw [hV, hx]; simp, rfl⟩)
    rw [hx, Bool.true_and] at hV
    clear hx
    refine ⟨_, call_p (enters_of Tryz.func34 (by kernel_rfl) rfl) (many_p 0 64 b.length) rfl ?_⟩
    refine br_i (fun hx => ?_) (fun hx => ⟨by rw [hV, hx]; simp, rfl⟩)
    rw [hx, Bool.true_and] at hV
    clear hx
    refine ⟨_, call_p (enters_of Tryz.func34 (by kernel_rfl) rfl) (many_p 0 0 ks.length) rfl ?_⟩
    refine br_i (fun hx => ?_) (fun hx => ⟨by rw [hV, hx]; simp, rfl⟩)
    rw [hx, Bool.true_and] at hV
    clear hx
    refine ⟨_, call_p (enters_of Tryz.func34 (by kernel_rfl) rfl) (many_p 0 0 bs.length) rfl ?_⟩
    refine br_i (fun hx => ?_) (fun hx => ⟨by rw [hV, hx]; simp, rfl⟩)
    rw [hx] at hV
    clear hx
    rw [hV, Bool.true_and]
    refine ⟨_, call_p eA hA rfl ?_⟩
    refine br_i (fun hx => ?_) (fun hx => ⟨by rw [hx]; rfl, rfl⟩)
    exact ⟨_, call_p eB hB rfl ⟨by rw [hx, Bool.true_and], rfl⟩⟩
  by_cases hk2 : k = 2
  · subst hk2
    have hV : V = (varB n && (inB 0 0 m && (inB 0 0 (b.length : Int) && (inB 0 0 (ks.length : Int) && inB 0 0 (bs.length : Int))))) := by rw [← hV0]; simp [shapeEx, in_0, in_1, in_2, in_3, in_z, numB]
    refine Or.inr (Or.inr (Or.inl ?_))
    refine ⟨_, _, _, _, _, _, _, _, call_p (enters_of Tryz.func100 (by kernel_rfl) rfl) (ex_shape2 m) rfl ?_⟩
    refine br_i (fun _ => ?_) (fun hf => absurd hd (by simpa using hf))
    refine ⟨_, call_p (enters_of Tryz.func165 (by kernel_rfl) rfl) (var_p n hn) rfl ?_⟩
    refine br_i (fun hx => ?_) (fun hx => ⟨by rw [hV, hx]; simp, rfl⟩)
    rw [hx, Bool.true_and] at hV
    clear hx
    refine ⟨_, call_p (enters_of Tryz.func79 (by kernel_rfl) rfl) (has_p 0 0 m) rfl ?_⟩
    refine br_i (fun hx => ?_) (fun hx => ⟨by rw [hV, hx]; simp, rfl⟩)
    rw [hx, Bool.true_and] at hV
    clear hx
    refine ⟨_, call_p (enters_of Tryz.func34 (by kernel_rfl) rfl) (many_p 0 0 b.length) rfl ?_⟩
    refine br_i (fun hx => ?_) (fun hx => ⟨by rw [hV, hx]; simp, rfl⟩)
    rw [hx, Bool.true_and] at hV
    clear hx
    refine ⟨_, call_p (enters_of Tryz.func34 (by kernel_rfl) rfl) (many_p 0 0 ks.length) rfl ?_⟩
    refine br_i (fun hx => ?_) (fun hx => ⟨by rw [hV, hx]; simp, rfl⟩)
    rw [hx, Bool.true_and] at hV
    clear hx
    refine ⟨_, call_p (enters_of Tryz.func34 (by kernel_rfl) rfl) (many_p 0 0 bs.length) rfl ?_⟩
    refine br_i (fun hx => ?_) (fun hx => ⟨by rw [hV, hx]; simp, rfl⟩)
    rw [hx] at hV
    clear hx
    rw [hV, Bool.true_and]
    refine ⟨_, call_p eA hA rfl ?_⟩
    refine br_i (fun hx => ?_) (fun hx => ⟨by rw [hx]; rfl, rfl⟩)
    exact ⟨_, call_p eB hB rfl ⟨by rw [hx, Bool.true_and], rfl⟩⟩
  by_cases hk3 : k = 3
  · subst hk3
    have hV : V = (namedB n true && (inB 0 0 m && (inB 0 0 (b.length : Int) && (inB 0 6 (ks.length : Int) && inB 0 0 (bs.length : Int))))) := by rw [← hV0]; simp [shapeEx, in_0, in_1, in_2, in_3, in_z, numB]
    refine Or.inr (Or.inr (Or.inr (Or.inl ?_)))
    refine ⟨_, _, _, _, _, _, _, _, call_p (enters_of Tryz.func100 (by kernel_rfl) rfl) (ex_shape3 m) rfl ?_⟩
    refine br_i (fun _ => ?_) (fun hf => absurd hd (by simpa using hf))
    refine ⟨_, call_p (enters_of Tryz.func156 (by kernel_rfl) rfl) (great_p n hn) rfl ?_⟩
    refine br_i (fun hx => ?_) (fun hx => ⟨by rw [hV, hx]; simp, rfl⟩)
    rw [hx, Bool.true_and] at hV
    clear hx
    refine ⟨_, call_p (enters_of Tryz.func79 (by kernel_rfl) rfl) (has_p 0 0 m) rfl ?_⟩
    refine br_i (fun hx => ?_) (fun hx => ⟨by rw [hV, hx]; simp, rfl⟩)
    rw [hx, Bool.true_and] at hV
    clear hx
    refine ⟨_, call_p (enters_of Tryz.func34 (by kernel_rfl) rfl) (many_p 0 0 b.length) rfl ?_⟩
    refine br_i (fun hx => ?_) (fun hx => ⟨by rw [hV, hx]; simp, rfl⟩)
    rw [hx, Bool.true_and] at hV
    clear hx
    refine ⟨_, call_p (enters_of Tryz.func34 (by kernel_rfl) rfl) (many_p 0 6 ks.length) rfl ?_⟩
    refine br_i (fun hx => ?_) (fun hx => ⟨by rw [hV, hx]; simp, rfl⟩)
    rw [hx, Bool.true_and] at hV
    clear hx
    refine ⟨_, call_p (enters_of Tryz.func34 (by kernel_rfl) rfl) (many_p 0 0 bs.length) rfl ?_⟩
    refine br_i (fun hx => ?_) (fun hx => ⟨by rw [hV, hx]; simp, rfl⟩)
    rw [hx] at hV
    clear hx
    rw [hV, Bool.true_and]
    refine ⟨_, call_p eA hA rfl ?_⟩
    refine br_i (fun hx => ?_) (fun hx => ⟨by rw [hx]; rfl, rfl⟩)
    exact ⟨_, call_p eB hB rfl ⟨by rw [hx, Bool.true_and], rfl⟩⟩
  by_cases hk4 : k = 4
  · subst hk4
    have hV : V = (noneB n && (inB 0 0 m && (inB 0 0 (b.length : Int) && (inB 2 6 (ks.length : Int) && inB 0 0 (bs.length : Int))))) := by rw [← hV0]; simp [shapeEx, in_0, in_1, in_2, in_3, in_z, numB]
    refine Or.inr (Or.inl ?_)
    refine ⟨_, _, _, _, _, _, _, _, call_p (enters_of Tryz.func100 (by kernel_rfl) rfl) (ex_shape4 m) rfl ?_⟩
    refine br_i (fun _ => ?_) (fun hf => absurd hd (by simpa using hf))
    refine ⟨_, call_p (enters_of Tryz.func164 (by kernel_rfl) rfl) (empty_p n) rfl ?_⟩
    refine br_i (fun hx => ?_) (fun hx => ⟨by rw [hV, hx]; simp, rfl⟩)
    rw [hx, Bool.true_and] at hV
    clear hx
    refine ⟨_, call_p (enters_of Tryz.func79 (by kernel_rfl) rfl) (has_p 0 0 m) rfl ?_⟩
    refine br_i (fun hx => ?_) (fun hx => ⟨by rw [hV, hx]; simp, rfl⟩)
    rw [hx, Bool.true_and] at hV
    clear hx
    refine ⟨_, call_p (enters_of Tryz.func34 (by kernel_rfl) rfl) (many_p 0 0 b.length) rfl ?_⟩
    refine br_i (fun hx => ?_) (fun hx => ⟨by rw [hV, hx]; simp, rfl⟩)
    rw [hx, Bool.true_and] at hV
    clear hx
    refine ⟨_, call_p (enters_of Tryz.func34 (by kernel_rfl) rfl) (many_p 2 6 ks.length) rfl ?_⟩
    refine br_i (fun hx => ?_) (fun hx => ⟨by rw [hV, hx]; simp, rfl⟩)
    rw [hx, Bool.true_and] at hV
    clear hx
    refine ⟨_, call_p (enters_of Tryz.func34 (by kernel_rfl) rfl) (many_p 0 0 bs.length) rfl ?_⟩
    refine br_i (fun hx => ?_) (fun hx => ⟨by rw [hV, hx]; simp, rfl⟩)
    rw [hx] at hV
    clear hx
    rw [hV, Bool.true_and]
    refine ⟨_, call_p eA hA rfl ?_⟩
    refine br_i (fun hx => ?_) (fun hx => ⟨by rw [hx]; rfl, rfl⟩)
    exact ⟨_, call_p eB hB rfl ⟨by rw [hx, Bool.true_and], rfl⟩⟩
  by_cases hk5 : k = 5
  · subst hk5
    have hV : V = (funB n && (inB 0 0 m && (inB 0 0 (b.length : Int) && (inB 1 6 (ks.length : Int) && inB 0 0 (bs.length : Int))))) := by rw [← hV0]; simp [shapeEx, in_0, in_1, in_2, in_3, in_z, numB]
    refine Or.inr (Or.inr (Or.inr (Or.inr (Or.inl ?_))))
    refine ⟨_, _, _, _, _, _, _, _, call_p (enters_of Tryz.func100 (by kernel_rfl) rfl) (ex_shape5 m) rfl ?_⟩
    refine br_i (fun _ => ?_) (fun hf => absurd hd (by simpa using hf))
    refine ⟨_, call_p (enters_of Tryz.func87 (by kernel_rfl) rfl) (offun_p n hn) rfl ?_⟩
    refine br_i (fun hx => ?_) (fun hx => ⟨by rw [hV, hx]; simp, rfl⟩)
    rw [hx, Bool.true_and] at hV
    clear hx
    refine ⟨_, call_p (enters_of Tryz.func79 (by kernel_rfl) rfl) (has_p 0 0 m) rfl ?_⟩
    refine br_i (fun hx => ?_) (fun hx => ⟨by rw [hV, hx]; simp, rfl⟩)
    rw [hx, Bool.true_and] at hV
    clear hx
    refine ⟨_, call_p (enters_of Tryz.func34 (by kernel_rfl) rfl) (many_p 0 0 b.length) rfl ?_⟩
    refine br_i (fun hx => ?_) (fun hx => ⟨by rw [hV, hx]; simp, rfl⟩)
    rw [hx, Bool.true_and] at hV
    clear hx
    refine ⟨_, call_p (enters_of Tryz.func34 (by kernel_rfl) rfl) (many_p 1 6 ks.length) rfl ?_⟩
    refine br_i (fun hx => ?_) (fun hx => ⟨by rw [hV, hx]; simp, rfl⟩)
    rw [hx, Bool.true_and] at hV
    clear hx
    refine ⟨_, call_p (enters_of Tryz.func34 (by kernel_rfl) rfl) (many_p 0 0 bs.length) rfl ?_⟩
    refine br_i (fun hx => ?_) (fun hx => ⟨by rw [hV, hx]; simp, rfl⟩)
    rw [hx] at hV
    clear hx
    rw [hV, Bool.true_and]
    refine ⟨_, call_p eA hA rfl ?_⟩
    refine br_i (fun hx => ?_) (fun hx => ⟨by rw [hx]; rfl, rfl⟩)
    exact ⟨_, call_p eB hB rfl ⟨by rw [hx, Bool.true_and], rfl⟩⟩
  by_cases hk6 : k = 6
  · subst hk6
    have hV : V = (namedB n false && (inB 0 0 m && (inB 0 0 (b.length : Int) && (inB 2 2 (ks.length : Int) && inB 0 0 (bs.length : Int))))) := by rw [← hV0]; simp [shapeEx, in_0, in_1, in_2, in_3, in_z, numB]
    refine Or.inr (Or.inr (Or.inr (Or.inr (Or.inr (?_)))))
    refine ⟨_, _, _, _, _, _, _, _, call_p (enters_of Tryz.func100 (by kernel_rfl) rfl) (ex_shape6 m) rfl ?_⟩
    refine br_i (fun _ => ?_) (fun hf => absurd hd (by simpa using hf))
    refine ⟨_, call_p (enters_of Tryz.func92 (by kernel_rfl) rfl) (small_p n hn) rfl ?_⟩
    refine br_i (fun hx => ?_) (fun hx => ⟨by rw [hV, hx]; simp, rfl⟩)
    rw [hx, Bool.true_and] at hV
    clear hx
    refine ⟨_, call_p (enters_of Tryz.func79 (by kernel_rfl) rfl) (has_p 0 0 m) rfl ?_⟩
    refine br_i (fun hx => ?_) (fun hx => ⟨by rw [hV, hx]; simp, rfl⟩)
    rw [hx, Bool.true_and] at hV
    clear hx
    refine ⟨_, call_p (enters_of Tryz.func34 (by kernel_rfl) rfl) (many_p 0 0 b.length) rfl ?_⟩
    refine br_i (fun hx => ?_) (fun hx => ⟨by rw [hV, hx]; simp, rfl⟩)
    rw [hx, Bool.true_and] at hV
    clear hx
    refine ⟨_, call_p (enters_of Tryz.func34 (by kernel_rfl) rfl) (many_p 2 2 ks.length) rfl ?_⟩
    refine br_i (fun hx => ?_) (fun hx => ⟨by rw [hV, hx]; simp, rfl⟩)
    rw [hx, Bool.true_and] at hV
    clear hx
    refine ⟨_, call_p (enters_of Tryz.func34 (by kernel_rfl) rfl) (many_p 0 0 bs.length) rfl ?_⟩
    refine br_i (fun hx => ?_) (fun hx => ⟨by rw [hV, hx]; simp, rfl⟩)
    rw [hx] at hV
    clear hx
    rw [hV, Bool.true_and]
    refine ⟨_, call_p eA hA rfl ?_⟩
    refine br_i (fun hx => ?_) (fun hx => ⟨by rw [hx]; rfl, rfl⟩)
    exact ⟨_, call_p eB hB rfl ⟨by rw [hx, Bool.true_and], rfl⟩⟩
  by_cases hk7 : k = 7
  · subst hk7
    have hV : V = (noneB n && (inB 0 0 m && (inB 0 0 (b.length : Int) && (inB 3 3 (ks.length : Int) && inB 0 0 (bs.length : Int))))) := by rw [← hV0]; simp [shapeEx, in_0, in_1, in_2, in_3, in_z, numB]
    refine Or.inr (Or.inl ?_)
    refine ⟨_, _, _, _, _, _, _, _, call_p (enters_of Tryz.func100 (by kernel_rfl) rfl) (ex_shape7 m) rfl ?_⟩
    refine br_i (fun _ => ?_) (fun hf => absurd hd (by simpa using hf))
    refine ⟨_, call_p (enters_of Tryz.func164 (by kernel_rfl) rfl) (empty_p n) rfl ?_⟩
    refine br_i (fun hx => ?_) (fun hx => ⟨by rw [hV, hx]; simp, rfl⟩)
    rw [hx, Bool.true_and] at hV
    clear hx
    refine ⟨_, call_p (enters_of Tryz.func79 (by kernel_rfl) rfl) (has_p 0 0 m) rfl ?_⟩
    refine br_i (fun hx => ?_) (fun hx => ⟨by rw [hV, hx]; simp, rfl⟩)
    rw [hx, Bool.true_and] at hV
    clear hx
    refine ⟨_, call_p (enters_of Tryz.func34 (by kernel_rfl) rfl) (many_p 0 0 b.length) rfl ?_⟩
    refine br_i (fun hx => ?_) (fun hx => ⟨by rw [hV, hx]; simp, rfl⟩)
    rw [hx, Bool.true_and] at hV
    clear hx
    refine ⟨_, call_p (enters_of Tryz.func34 (by kernel_rfl) rfl) (many_p 3 3 ks.length) rfl ?_⟩
    refine br_i (fun hx => ?_) (fun hx => ⟨by rw [hV, hx]; simp, rfl⟩)
    rw [hx, Bool.true_and] at hV
    clear hx
    refine ⟨_, call_p (enters_of Tryz.func34 (by kernel_rfl) rfl) (many_p 0 0 bs.length) rfl ?_⟩
    refine br_i (fun hx => ?_) (fun hx => ⟨by rw [hV, hx]; simp, rfl⟩)
    rw [hx] at hV
    clear hx
    rw [hV, Bool.true_and]
    refine ⟨_, call_p eA hA rfl ?_⟩
    refine br_i (fun hx => ?_) (fun hx => ⟨by rw [hx]; rfl, rfl⟩)
    exact ⟨_, call_p eB hB rfl ⟨by rw [hx, Bool.true_and], rfl⟩⟩
  by_cases hk8 : k = 8
  · subst hk8
    have hV : V = (noneB n && (inB 0 0 m && (inB 0 0 (b.length : Int) && (inB 1 1 (ks.length : Int) && inB 1 32 (bs.length : Int))))) := by rw [← hV0]; simp [shapeEx, in_0, in_1, in_2, in_3, in_z, numB]
    refine Or.inr (Or.inl ?_)
    refine ⟨_, _, _, _, _, _, _, _, call_p (enters_of Tryz.func100 (by kernel_rfl) rfl) (ex_shape8 m) rfl ?_⟩
    refine br_i (fun _ => ?_) (fun hf => absurd hd (by simpa using hf))
    refine ⟨_, call_p (enters_of Tryz.func164 (by kernel_rfl) rfl) (empty_p n) rfl ?_⟩
    refine br_i (fun hx => ?_) (fun hx => ⟨by rw [hV, hx]; simp, rfl⟩)
    rw [hx, Bool.true_and] at hV
    clear hx
    refine ⟨_, call_p (enters_of Tryz.func79 (by kernel_rfl) rfl) (has_p 0 0 m) rfl ?_⟩
    refine br_i (fun hx => ?_) (fun hx => ⟨by rw [hV, hx]; simp, rfl⟩)
    rw [hx, Bool.true_and] at hV
    clear hx
    refine ⟨_, call_p (enters_of Tryz.func34 (by kernel_rfl) rfl) (many_p 0 0 b.length) rfl ?_⟩
    refine br_i (fun hx => ?_) (fun hx => ⟨by rw [hV, hx]; simp, rfl⟩)
    rw [hx, Bool.true_and] at hV
    clear hx
    refine ⟨_, call_p (enters_of Tryz.func34 (by kernel_rfl) rfl) (many_p 1 1 ks.length) rfl ?_⟩
    refine br_i (fun hx => ?_) (fun hx => ⟨by rw [hV, hx]; simp, rfl⟩)
    rw [hx, Bool.true_and] at hV
    clear hx
    refine ⟨_, call_p (enters_of Tryz.func34 (by kernel_rfl) rfl) (many_p 1 32 bs.length) rfl ?_⟩
    refine br_i (fun hx => ?_) (fun hx => ⟨by rw [hV, hx]; simp, rfl⟩)
    rw [hx] at hV
    clear hx
    rw [hV, Bool.true_and]
    refine ⟨_, call_p eA hA rfl ?_⟩
    refine br_i (fun hx => ?_) (fun hx => ⟨by rw [hx]; rfl, rfl⟩)
    exact ⟨_, call_p eB hB rfl ⟨by rw [hx, Bool.true_and], rfl⟩⟩
  by_cases hk9 : k = 9
  · subst hk9
    have hV : V = (noneB n && (inB 0 11 m && (inB 0 0 (b.length : Int) && (inB (argsOf m) (argsOf m) (ks.length : Int) && inB 0 0 (bs.length : Int))))) := by rw [← hV0]; simp [shapeEx, in_0, in_1, in_2, in_3, in_z, in_i, numB]
    refine Or.inr (Or.inl ?_)
    refine ⟨_, _, _, _, _, _, _, _, call_p (enters_of Tryz.func100 (by kernel_rfl) rfl) (ex_shape9 m) rfl ?_⟩
    refine br_i (fun _ => ?_) (fun hf => absurd hd (by simpa using hf))
    refine ⟨_, call_p (enters_of Tryz.func164 (by kernel_rfl) rfl) (empty_p n) rfl ?_⟩
    refine br_i (fun hx => ?_) (fun hx => ⟨by rw [hV, hx]; simp, rfl⟩)
    rw [hx, Bool.true_and] at hV
    clear hx
    refine ⟨_, call_p (enters_of Tryz.func79 (by kernel_rfl) rfl) (has_p 0 11 m) rfl ?_⟩
    refine br_i (fun hx => ?_) (fun hx => ⟨by rw [hV, hx]; simp, rfl⟩)
    rw [hx, Bool.true_and] at hV
    clear hx
    refine ⟨_, call_p (enters_of Tryz.func34 (by kernel_rfl) rfl) (many_p 0 0 b.length) rfl ?_⟩
    refine br_i (fun hx => ?_) (fun hx => ⟨by rw [hV, hx]; simp, rfl⟩)
    rw [hx, Bool.true_and] at hV
    clear hx
    refine ⟨_, call_p (enters_of Tryz.func34 (by kernel_rfl) rfl) (many_p (argsOf m) (argsOf m) ks.length) rfl ?_⟩
    refine br_i (fun hx => ?_) (fun hx => ⟨by rw [hV, hx]; simp, rfl⟩)
    rw [hx, Bool.true_and] at hV
    clear hx
    refine ⟨_, call_p (enters_of Tryz.func34 (by kernel_rfl) rfl) (many_p 0 0 bs.length) rfl ?_⟩
    refine br_i (fun hx => ?_) (fun hx => ⟨by rw [hV, hx]; simp, rfl⟩)
    rw [hx] at hV
    clear hx
    rw [hV, Bool.true_and]
    refine ⟨_, call_p eA hA rfl ?_⟩
    refine br_i (fun hx => ?_) (fun hx => ⟨by rw [hx]; rfl, rfl⟩)
    exact ⟨_, call_p eB hB rfl ⟨by rw [hx, Bool.true_and], rfl⟩⟩
  by_cases hk10 : k = 10
  · subst hk10
    have hV : V = (namedB n false && (inB 0 1000 m && (inB 0 0 (b.length : Int) && (inB 2 2 (ks.length : Int) && inB 0 0 (bs.length : Int))))) := by rw [← hV0]; simp [shapeEx, in_0, in_1, in_2, in_3, in_z, numB]
    refine Or.inr (Or.inr (Or.inr (Or.inr (Or.inr (?_)))))
    refine ⟨_, _, _, _, _, _, _, _, call_p (enters_of Tryz.func100 (by kernel_rfl) rfl) (ex_shape10 m) rfl ?_⟩
    refine br_i (fun _ => ?_) (fun hf => absurd hd (by simpa using hf))
    refine ⟨_, call_p (enters_of Tryz.func92 (by kernel_rfl) rfl) (small_p n hn) rfl ?_⟩
    refine br_i (fun hx => ?_) (fun hx => ⟨by rw [hV, hx]; simp, rfl⟩)
    rw [hx, Bool.true_and] at hV
    clear hx
    refine ⟨_, call_p (enters_of Tryz.func79 (by kernel_rfl) rfl) (has_p 0 1000 m) rfl ?_⟩
    refine br_i (fun hx => ?_) (fun hx => ⟨by rw [hV, hx]; simp, rfl⟩)
    rw [hx, Bool.true_and] at hV
    clear hx
    refine ⟨_, call_p (enters_of Tryz.func34 (by kernel_rfl) rfl) (many_p 0 0 b.length) rfl ?_⟩
    refine br_i (fun hx => ?_) (fun hx => ⟨by rw [hV, hx]; simp, rfl⟩)
    rw [hx, Bool.true_and] at hV
    clear hx
    refine ⟨_, call_p (enters_of Tryz.func34 (by kernel_rfl) rfl) (many_p 2 2 ks.length) rfl ?_⟩
    refine br_i (fun hx => ?_) (fun hx => ⟨by rw [hV, hx]; simp, rfl⟩)
    rw [hx, Bool.true_and] at hV
    clear hx
    refine ⟨_, call_p (enters_of Tryz.func34 (by kernel_rfl) rfl) (many_p 0 0 bs.length) rfl ?_⟩
    refine br_i (fun hx => ?_) (fun hx => ⟨by rw [hV, hx]; simp, rfl⟩)
    rw [hx] at hV
    clear hx
    rw [hV, Bool.true_and]
    refine ⟨_, call_p eA hA rfl ?_⟩
    refine br_i (fun hx => ?_) (fun hx => ⟨by rw [hx]; rfl, rfl⟩)
    exact ⟨_, call_p eB hB rfl ⟨by rw [hx, Bool.true_and], rfl⟩⟩
  have hV : V = false := by rw [← hV0]; simp [shapeEx, hk0, hk1, hk2, hk3, hk4, hk5, hk6, hk7, hk8, hk9, hk10]
  refine Or.inl ?_
  refine ⟨_, _, _, _, _, _, _, _, call_p (enters_of Tryz.func100 (by kernel_rfl) rfl) (ex_shape_no k m hk0 hk1 hk2 hk3 hk4 hk5 hk6 hk7 hk8 hk9 hk10) rfl ?_⟩
  refine br_i (fun _ => ?_) (fun hf => absurd hd (by simpa using hf))
  refine ⟨_, call_p (enters_of Tryz.func195 (by kernel_rfl) rfl) (nothing_p n) rfl ?_⟩
  exact br_i (fun hx => by cases hx) (fun hx => ⟨by rw [hV]; rfl, rfl⟩)
theorem fit_exF' (t : Ex) (hs : smallEx t) (hw : wfEx t) : PCalls Tryz.prog 14 [.agg (exP t)] (fun r => r = .con (.bool (fitEx 64 t))) := by
  have h := fit_ex' t hs hw 64 (by omega) (by omega)
  obtain ⟨k', li', co', m', b', n', ks', ps', bs', hp⟩ := ex_mk t
  subst hp
  refine a14 _ _ _ _ _ _ _ _ _ ?_
  unfold p14
  exact ⟨_, call_p (enters_of Tryz.func45 (by kernel_rfl) rfl) h rfl ⟨rfl, rfl⟩⟩
end Go.Proofs.YtcmnjodjebcapaaGreat.Deep

namespace Go.Proofs.YtcmnjodjebcapaaGreat.Deep
open Go.RowKit
set_option linter.unusedVariables false
set_option linter.unusedSimpArgs false
def amP (a : Pt × Ex) : List PV := ptP a.1 ++ exP a.2
theorem cells_Type (a : Ty) : ∃ x0 : Int, ∃ x1 : ByteArray, ∃ x2 : List (List PV), tyP a = [.con (.int .i64 x0), .con (.string x1), .sl x2] := by
  obtain ⟨k, n, ps⟩ := a
  exact ⟨_, _, _, rfl⟩
theorem cells_Pat (a : Pt) : ∃ x0 : Int, ∃ x1 : Int, ∃ x2 : Int, ∃ x3 : ByteArray, ∃ x4 : Int, ∃ x5 : List (List PV), ptP a = [.con (.int .i64 x0), .con (.int .i64 x1), .con (.int .i64 x2), .con (.string x3), .con (.int .i64 x4), .sl x5] := by
  obtain ⟨k, li, co, n, m, ks⟩ := a
  exact ⟨_, _, _, _, _, _, rfl⟩
theorem cells_Expr (a : Ex) : ∃ x0 : Int, ∃ x1 : Int, ∃ x2 : Int, ∃ x3 : Int, ∃ x4 : List (List PV), ∃ x5 : ByteArray, ∃ x6 : List (List PV), ∃ x7 : List (List PV), exP a = [.con (.int .i64 x0), .con (.int .i64 x1), .con (.int .i64 x2), .con (.int .i64 x3), .sl x4, .con (.string x5), .sl x6, .sl x7] := by
  obtain ⟨k, li, co, m, b, n, ks, ps, bs⟩ := a
  exact ⟨_, _, _, _, _, _, _, _, rfl⟩
theorem cells_Arm (a : Pt × Ex) : ∃ x0 : Int, ∃ x1 : Int, ∃ x2 : Int, ∃ x3 : ByteArray, ∃ x4 : Int, ∃ x5 : List (List PV), ∃ x6 : Int, ∃ x7 : Int, ∃ x8 : Int, ∃ x9 : Int, ∃ x10 : List (List PV), ∃ x11 : ByteArray, ∃ x12 : List (List PV), ∃ x13 : List (List PV), amP a = [.con (.int .i64 x0), .con (.int .i64 x1), .con (.int .i64 x2), .con (.string x3), .con (.int .i64 x4), .sl x5, .con (.int .i64 x6), .con (.int .i64 x7), .con (.int .i64 x8), .con (.int .i64 x9), .sl x10, .con (.string x11), .sl x12, .sl x13] := by
  obtain ⟨⟨k, li, co, n, m, ks⟩, ⟨k2, li2, co2, m2, b2, n2, ks2, ps2, bs2⟩⟩ := a
  exact ⟨_, _, _, _, _, _, _, _, _, _, _, _, _, _, rfl⟩
theorem cells_Con (a : Co) : ∃ x0 : ByteArray, ∃ x1 : List (List PV), coP a = [.con (.string x0), .sl x1] := by
  skip
  exact ⟨_, _, rfl⟩
theorem cells_Param (a : Pa) : ∃ x0 : ByteArray, ∃ x1 : Int, ∃ x2 : ByteArray, ∃ x3 : List (List PV), paP a = [.con (.string x0), .con (.int .i64 x1), .con (.string x2), .sl x3] := by
  obtain ⟨pn, ⟨k, n, ps⟩⟩ := a
  exact ⟨_, _, _, _, rfl⟩
theorem cells_Data (a : Da) : ∃ x0 : Int, ∃ x1 : Int, ∃ x2 : ByteArray, ∃ x3 : List (List PV), daP a = [.con (.int .i64 x0), .con (.int .i64 x1), .con (.string x2), .sl x3] := by
  skip
  exact ⟨_, _, _, _, rfl⟩
theorem cells_Fun (a : Fu) : ∃ x0 : Int, ∃ x1 : Int, ∃ x2 : ByteArray, ∃ x3 : List (List PV), ∃ x4 : Int, ∃ x5 : ByteArray, ∃ x6 : List (List PV), ∃ x7 : Int, ∃ x8 : Int, ∃ x9 : Int, ∃ x10 : Int, ∃ x11 : List (List PV), ∃ x12 : ByteArray, ∃ x13 : List (List PV), ∃ x14 : List (List PV), fuP a = [.con (.int .i64 x0), .con (.int .i64 x1), .con (.string x2), .sl x3, .con (.int .i64 x4), .con (.string x5), .sl x6, .con (.int .i64 x7), .con (.int .i64 x8), .con (.int .i64 x9), .con (.int .i64 x10), .sl x11, .con (.string x12), .sl x13, .sl x14] := by
  obtain ⟨fl, fc, fn, fp, ⟨k, n, ps⟩, ⟨k2, li2, co2, m2, b2, n2, ks2, ps2, bs2⟩⟩ := a
  exact ⟨_, _, _, _, _, _, _, _, _, _, _, _, _, _, _, rfl⟩
theorem cells_Hand (a : Ha) : ∃ x0 : Int, ∃ x1 : Int, ∃ x2 : ByteArray, ∃ x3 : ByteArray, ∃ x4 : Int, ∃ x5 : ByteArray, ∃ x6 : List (List PV), ∃ x7 : Int, ∃ x8 : Int, ∃ x9 : Int, ∃ x10 : Int, ∃ x11 : Int, ∃ x12 : List (List PV), ∃ x13 : ByteArray, ∃ x14 : List (List PV), ∃ x15 : List (List PV), haP a = [.con (.int .i64 x0), .con (.int .i64 x1), .con (.string x2), .con (.string x3), .con (.int .i64 x4), .con (.string x5), .sl x6, .con (.int .i64 x7), .con (.int .i64 x8), .con (.int .i64 x9), .con (.int .i64 x10), .con (.int .i64 x11), .sl x12, .con (.string x13), .sl x14, .sl x15] := by
  obtain ⟨hl, hc, hn, ⟨pn, ⟨k, n, ps⟩⟩, hcap, ⟨k2, li2, co2, m2, b2, n2, ks2, ps2, bs2⟩⟩ := a
  exact ⟨_, _, _, _, _, _, _, _, _, _, _, _, _, _, _, _, rfl⟩
theorem tyPs_mp : ∀ ts : List Ty, tyPs ts = ts.map tyP
  | [] => rfl
  | t :: ts => by rw [tyPs, tyPs_mp ts]; rfl
theorem ptPs_mp : ∀ ts : List Pt, ptPs ts = ts.map ptP
  | [] => rfl
  | t :: ts => by rw [ptPs, ptPs_mp ts]; rfl
theorem exPs_mp : ∀ ts : List Ex, exPs ts = ts.map exP
  | [] => rfl
  | t :: ts => by rw [exPs, exPs_mp ts]; rfl
theorem arPs_mp : ∀ (bs : List Ex) (ps : List Pt), arPs bs ps = (ps.zip bs).map amP
  | [], ps => by cases ps <;> rfl
  | b :: bs, [] => rfl
  | b :: bs, p :: ps => by rw [arPs, arPs_mp bs ps]; rfl
theorem len_eq (a b : Nat) : (((a : Int) : Int) == (b : Int)) = decide (a = b) := by
  rw [Bool.eq_iff_iff]; simp; omega
theorem len_ne (a b : Nat) : (((a : Int) : Int) != (b : Int)) = !decide (a = b) := by
  rw [Bool.eq_iff_iff]; simp; omega
theorem beq_str (s t : ByteArray) : (ByteArray.toList s == ByteArray.toList t) = decide (s = t) := by
  rw [Lib.toList_data, Lib.toList_data, Bool.eq_iff_iff]
  simp only [beq_iff_eq, decide_eq_true_eq]
  exact ⟨fun h => by cases s; cases t; simp at h; rw [h], fun h => by rw [h]⟩
theorem beq_by (a b : List UInt8) : (ByteArray.toList ⟨List.toArray a⟩ == ByteArray.toList ⟨List.toArray b⟩) = decide (a = b) := by
  rw [Lib.toList_data, Lib.toList_data, Bool.eq_iff_iff]
  simp
theorem beq_int (a b : Int) : (a == b) = decide (a = b) := by rw [Bool.eq_iff_iff]; simp
theorem bne_int (a b : Int) : (a != b) = !decide (a = b) := by rw [Bool.eq_iff_iff]; simp
theorem oneL_of {y : List PV} {n : Nat} (h : y.length = n) (h1 : y.all PV.one = true) : ∀ z ∈ [y], z.length = n ∧ ∀ p ∈ z, PV.one p = true := by
  intro z hz
  obtain rfl : z = y := by simpa using hz
  exact ⟨h, fun p hp => List.all_eq_true.1 h1 p hp⟩
theorem smallTys_mem {ps : List Ty} (h : smallTys ps) : ∀ t ∈ ps, smallTy t := fun t ht => by
  obtain ⟨i, hi, rfl⟩ := List.getElem_of_mem ht; exact smallTys_get ps h i hi
theorem smallPts_mem {ps : List Pt} (h : smallPts ps) : ∀ t ∈ ps, smallPt t := fun t ht => by
  obtain ⟨i, hi, rfl⟩ := List.getElem_of_mem ht; exact smallPts_get ps h i hi
theorem smallExs_mem {ps : List Ex} (h : smallExs ps) : ∀ t ∈ ps, smallEx t := fun t ht => by
  obtain ⟨i, hi, rfl⟩ := List.getElem_of_mem ht; exact smallExs_get ps h i hi
theorem wfExs_mem : ∀ {ps : List Ex}, wfExs ps → ∀ t ∈ ps, wfEx t
  | [], _, t, ht => by cases ht
  | x :: l, h, t, ht => by
    rcases List.mem_cons.1 ht with rfl | ht
    · exact h.1
    · exact wfExs_mem h.2 t ht
theorem Ty.indM {M : Ty → Prop} (h : ∀ k n ps, (∀ p ∈ ps, M p) → M (.mk k n ps)) (t : Ty) : M t :=
  Ty.ind (fun k n ps ih => h k n ps fun p hp => by obtain ⟨i, hi, rfl⟩ := List.getElem_of_mem hp; exact ih i hi) t
theorem Pt.indM {M : Pt → Prop} (h : ∀ k li co n m ps, (∀ p ∈ ps, M p) → M (.mk k li co n m ps)) (t : Pt) : M t :=
  Pt.ind (fun k li co n m ps ih => h k li co n m ps fun p hp => by obtain ⟨i, hi, rfl⟩ := List.getElem_of_mem hp; exact ih i hi) t
theorem Ex.indM {M : Ex → Prop} (h : ∀ k li co m b n ks ps bs, (∀ p ∈ ks, M p) → (∀ p ∈ bs, M p) → M (.mk k li co m b n ks ps bs)) (t : Ex) : M t :=
  Ex.ind (fun k li co m b n ks ps bs ih ihb => h k li co m b n ks ps bs (fun p hp => by obtain ⟨i, hi, rfl⟩ := List.getElem_of_mem hp; exact ih i hi) (fun p hp => by obtain ⟨i, hi, rfl⟩ := List.getElem_of_mem hp; exact ihb i hi)) t
theorem arms_same : ∀ (ps ps' : List Pt) (bs bs' : List Ex), ps.length = bs.length → ps'.length = bs'.length → alikeL (fun a b : Pt × Ex => sameP a.1 b.1 && sameE a.2 b.2) (ps.zip bs) (ps'.zip bs') = (samePs ps ps' && sameEs bs bs')
  | [], [], [], [], _, _ => rfl
  | [], p :: ps, [], b :: bs, _, _ => rfl
  | p :: ps, [], b :: bs, [], _, _ => rfl
  | p :: ps, p' :: ps', b :: bs, b' :: bs', h, h' => by
    have ih := arms_same ps ps' bs bs' (by simpa using h) (by simpa using h')
    rw [List.zip_cons_cons, List.zip_cons_cons, alikeL, ih, samePs, sameEs]
    cases sameP p p' <;> cases sameE b b' <;> simp
  | [], _, b :: bs, _, h, _ => by simp at h
  | p :: ps, _, [], _, h, _ => by simp at h
  | _, [], _, b :: bs, _, h => by simp at h
  | _, p :: ps, _, [], _, h => by simp at h
end Go.Proofs.YtcmnjodjebcapaaGreat.Deep

namespace Go.Proofs.YtcmnjodjebcapaaGreat.Deep
open Go.RowKit
set_option linter.unusedVariables false
set_option linter.unusedSimpArgs false
theorem clo_sT (b c : Bool) (i : Nat) (x0 : Int) (x1 : ByteArray) (x2 : List (List PV)) (m : List (List PV)) (h : b = true → ∃ y0 : Int, ∃ y1 : ByteArray, ∃ y2 : List (List PV), m[i]? = some [.con (.int .i64 y0), .con (.string y1), .sl y2] ∧ PCalls Tryz.prog 74 [.agg [.con (.int .i64 x0), .con (.string x1), .sl x2], .agg [.con (.int .i64 y0), .con (.string y1), .sl y2]] (fun r => r = .con (.bool c))) : PCalls Tryz.prog 192 [.con (.bool b), .con (.int .i64 (i : Int)), .agg [.con (.int .i64 x0), .con (.string x1), .sl x2], .ept [.fn 74 []] 0, .ept [.sl m] 0] (fun r => r = .con (.bool (b && c))) := by
  refine a192sT _ _ _ _ _ _ _ ?_
  unfold p192sT
  refine br_i (fun hb => ?_) (fun hb => ⟨by rw [hb]; rfl, rfl⟩)
  obtain ⟨y0, y1, y2, hx, hc⟩ := h hb
  refine ⟨_, _, _, ⟨by omega, by rw [Int.toNat_natCast]; exact hx, ?_⟩⟩
  exact ⟨_, call_p (enters_of Tryz.func74 (by kernel_rfl) rfl) hc rfl ⟨by rw [hb]; rfl, rfl⟩⟩
theorem alike_sT (l m : List (List PV)) (n : Nat) (hn : l.length = n) (hm : n ≤ 9223372036854775806) (q : Nat → Bool) (H : ∀ j, j < n → ∃ x0 : Int, ∃ x1 : ByteArray, ∃ x2 : List (List PV), l[j]? = some [.con (.int .i64 x0), .con (.string x1), .sl x2] ∧ (l.length = m.length → ∃ y0 : Int, ∃ y1 : ByteArray, ∃ y2 : List (List PV), m[j]? = some [.con (.int .i64 y0), .con (.string y1), .sl y2] ∧ PCalls Tryz.prog 74 [.agg [.con (.int .i64 x0), .con (.string x1), .sl x2], .agg [.con (.int .i64 y0), .con (.string y1), .sl y2]] (fun r => r = .con (.bool (q j))))) : PCalls Tryz.prog 148 [.sl l, .sl m, .fn 74 []] (fun r => r = .con (.bool (decide (l.length = m.length) && (List.range n).all q))) := by
  refine a148sT _ _ _ ?_
  unfold p148sT
  rw [len_eq]
  obtain ⟨b0, hb0⟩ : ∃ b0, decide (l.length = m.length) = b0 := ⟨_, rfl⟩
  rw [hb0]
  have hb1 : ∀ j, AllTo b0 q j = true → l.length = m.length := fun j h => by unfold AllTo at h; rw [Bool.and_eq_true] at h; rw [h.1] at hb0; simpa using hb0
  have hf : PCalls Tryz.prog 173 [.sl l, .con (.bool b0), .fn 192 [.ept [.fn 74 []] 0, .ept [.sl m] 0]] (fun r => r = .con (.bool (AllTo b0 q n))) := by
    refine a173sT _ _ _ _ ?_
    unfold p173sT
    rw [hn]
    refine ⟨fun c v => ∃ j : Nat, j ≤ n ∧ c = n - j ∧ v.2.1 = (j : Int) ∧ v.1 = AllTo b0 q j, ⟨_, 0, Nat.zero_le _, rfl, rfl, by simp [AllTo]⟩, ?_⟩
    rintro c ⟨b, i, u⟩ ⟨j, hj, rfl, hi, hb⟩
    dsimp only at hi hb ⊢
    subst hi hb
    refine br_i (fun hlt => ?_) (fun hge => ?_)
    · have hlt : j < n := by simpa using hlt
      obtain ⟨x0, x1, x2, hx, hc⟩ := H j hlt
      refine ⟨_, _, _, ⟨by omega, by rw [Int.toNat_natCast]; exact hx, ?_⟩⟩
      refine ⟨_, call_p (enters_of Tryz.func192 (by kernel_rfl) rfl) (clo_sT (AllTo b0 q j) (q j) j x0 x1 x2 m (fun h => hc (hb1 j h))) rfl ⟨⟨by trivial, by trivial, by trivial, trivial⟩, by trivial, n - (j + 1), by omega, j + 1, by omega, rfl, ?_, ?_⟩⟩
      · rw [wrap_id (by omega) (by omega)]; simp
      · rw [AllTo.succ]
    · have hge : ¬ j < n := by simpa using hge
      obtain rfl : j = n := by omega
      exact ⟨rfl, rfl⟩
  exact ⟨_, call_p (enters_of Tryz.func173 (by kernel_rfl) rfl) hf rfl ⟨rfl, rfl⟩⟩
theorem alikeV_sT (l m : List (Ty)) (hm : l.length ≤ 3000) (f : Ty → Ty → Bool) (H : ∀ a ∈ l, ∀ b ∈ m, PCalls Tryz.prog 74 [.agg (tyP a), .agg (tyP b)] (fun r => r = .con (.bool (f a b)))) : PCalls Tryz.prog 148 [.sl (l.map tyP), .sl (m.map tyP), .fn 74 []] (fun r => r = .con (.bool (alikeL f l m))) := by
  have hc := alike_sT (l.map tyP) (m.map tyP) l.length (by simp) (by omega) (fun j => f (l.getD j Ty.zero) (m.getD j Ty.zero)) (fun j hj => by
    obtain ⟨x0, x1, x2, hx⟩ := cells_Type l[j]
    refine ⟨x0, x1, x2, by rw [map_get tyP l j hj, hx], fun hl => ?_⟩
    have hj' : j < m.length := by rw [List.length_map, List.length_map] at hl; omega
    obtain ⟨y0, y1, y2, hy⟩ := cells_Type m[j]
    refine ⟨y0, y1, y2, by rw [map_get tyP m j hj', hy], ?_⟩
    rw [← hx, ← hy]
    rw [getD_at l _ j hj, getD_at m _ j hj']
    exact H _ (List.getElem_mem hj) _ (List.getElem_mem hj'))
  rw [List.length_map, List.length_map] at hc
  rw [alikeL_all f Ty.zero]
  exact hc
theorem clo_sP (b c : Bool) (i : Nat) (x0 : Int) (x1 : Int) (x2 : Int) (x3 : ByteArray) (x4 : Int) (x5 : List (List PV)) (m : List (List PV)) (h : b = true → ∃ y0 : Int, ∃ y1 : Int, ∃ y2 : Int, ∃ y3 : ByteArray, ∃ y4 : Int, ∃ y5 : List (List PV), m[i]? = some [.con (.int .i64 y0), .con (.int .i64 y1), .con (.int .i64 y2), .con (.string y3), .con (.int .i64 y4), .sl y5] ∧ PCalls Tryz.prog 153 [.agg [.con (.int .i64 x0), .con (.int .i64 x1), .con (.int .i64 x2), .con (.string x3), .con (.int .i64 x4), .sl x5], .agg [.con (.int .i64 y0), .con (.int .i64 y1), .con (.int .i64 y2), .con (.string y3), .con (.int .i64 y4), .sl y5]] (fun r => r = .con (.bool c))) : PCalls Tryz.prog 197 [.con (.bool b), .con (.int .i64 (i : Int)), .agg [.con (.int .i64 x0), .con (.int .i64 x1), .con (.int .i64 x2), .con (.string x3), .con (.int .i64 x4), .sl x5], .ept [.fn 153 []] 0, .ept [.sl m] 0] (fun r => r = .con (.bool (b && c))) := by
  refine a197sP _ _ _ _ _ _ _ _ _ _ ?_
  unfold p197sP
  refine br_i (fun hb => ?_) (fun hb => ⟨by rw [hb]; rfl, rfl⟩)
  obtain ⟨y0, y1, y2, y3, y4, y5, hx, hc⟩ := h hb
  refine ⟨_, _, _, _, _, _, ⟨by omega, by rw [Int.toNat_natCast]; exact hx, ?_⟩⟩
  exact ⟨_, call_p (enters_of Tryz.func153 (by kernel_rfl) rfl) hc rfl ⟨by rw [hb]; rfl, rfl⟩⟩
theorem alike_sP (l m : List (List PV)) (n : Nat) (hn : l.length = n) (hm : n ≤ 9223372036854775806) (q : Nat → Bool) (H : ∀ j, j < n → ∃ x0 : Int, ∃ x1 : Int, ∃ x2 : Int, ∃ x3 : ByteArray, ∃ x4 : Int, ∃ x5 : List (List PV), l[j]? = some [.con (.int .i64 x0), .con (.int .i64 x1), .con (.int .i64 x2), .con (.string x3), .con (.int .i64 x4), .sl x5] ∧ (l.length = m.length → ∃ y0 : Int, ∃ y1 : Int, ∃ y2 : Int, ∃ y3 : ByteArray, ∃ y4 : Int, ∃ y5 : List (List PV), m[j]? = some [.con (.int .i64 y0), .con (.int .i64 y1), .con (.int .i64 y2), .con (.string y3), .con (.int .i64 y4), .sl y5] ∧ PCalls Tryz.prog 153 [.agg [.con (.int .i64 x0), .con (.int .i64 x1), .con (.int .i64 x2), .con (.string x3), .con (.int .i64 x4), .sl x5], .agg [.con (.int .i64 y0), .con (.int .i64 y1), .con (.int .i64 y2), .con (.string y3), .con (.int .i64 y4), .sl y5]] (fun r => r = .con (.bool (q j))))) : PCalls Tryz.prog 193 [.sl l, .sl m, .fn 153 []] (fun r => r = .con (.bool (decide (l.length = m.length) && (List.range n).all q))) := by
  refine a193sP _ _ _ ?_
  unfold p193sP
  rw [len_eq]
  obtain ⟨b0, hb0⟩ : ∃ b0, decide (l.length = m.length) = b0 := ⟨_, rfl⟩
  rw [hb0]
  have hb1 : ∀ j, AllTo b0 q j = true → l.length = m.length := fun j h => by unfold AllTo at h; rw [Bool.and_eq_true] at h; rw [h.1] at hb0; simpa using hb0
  have hf : PCalls Tryz.prog 171 [.sl l, .con (.bool b0), .fn 197 [.ept [.fn 153 []] 0, .ept [.sl m] 0]] (fun r => r = .con (.bool (AllTo b0 q n))) := by
    refine a171sP _ _ _ _ ?_
    unfold p171sP
    rw [hn]
    refine ⟨fun c v => ∃ j : Nat, j ≤ n ∧ c = n - j ∧ v.2.1 = (j : Int) ∧ v.1 = AllTo b0 q j, ⟨_, 0, Nat.zero_le _, rfl, rfl, by simp [AllTo]⟩, ?_⟩
    rintro c ⟨b, i, u⟩ ⟨j, hj, rfl, hi, hb⟩
    dsimp only at hi hb ⊢
    subst hi hb
    refine br_i (fun hlt => ?_) (fun hge => ?_)
    · have hlt : j < n := by simpa using hlt
      obtain ⟨x0, x1, x2, x3, x4, x5, hx, hc⟩ := H j hlt
      refine ⟨_, _, _, _, _, _, ⟨by omega, by rw [Int.toNat_natCast]; exact hx, ?_⟩⟩
      refine ⟨_, call_p (enters_of Tryz.func197 (by kernel_rfl) rfl) (clo_sP (AllTo b0 q j) (q j) j x0 x1 x2 x3 x4 x5 m (fun h => hc (hb1 j h))) rfl ⟨⟨by trivial, by trivial, by trivial, trivial⟩, by trivial, n - (j + 1), by omega, j + 1, by omega, rfl, ?_, ?_⟩⟩
      · rw [wrap_id (by omega) (by omega)]; simp
      · rw [AllTo.succ]
    · have hge : ¬ j < n := by simpa using hge
      obtain rfl : j = n := by omega
      exact ⟨rfl, rfl⟩
  exact ⟨_, call_p (enters_of Tryz.func171 (by kernel_rfl) rfl) hf rfl ⟨rfl, rfl⟩⟩
theorem alikeV_sP (l m : List (Pt)) (hm : l.length ≤ 3000) (f : Pt → Pt → Bool) (H : ∀ a ∈ l, ∀ b ∈ m, PCalls Tryz.prog 153 [.agg (ptP a), .agg (ptP b)] (fun r => r = .con (.bool (f a b)))) : PCalls Tryz.prog 193 [.sl (l.map ptP), .sl (m.map ptP), .fn 153 []] (fun r => r = .con (.bool (alikeL f l m))) := by
  have hc := alike_sP (l.map ptP) (m.map ptP) l.length (by simp) (by omega) (fun j => f (l.getD j Pt.zero) (m.getD j Pt.zero)) (fun j hj => by
    obtain ⟨x0, x1, x2, x3, x4, x5, hx⟩ := cells_Pat l[j]
    refine ⟨x0, x1, x2, x3, x4, x5, by rw [map_get ptP l j hj, hx], fun hl => ?_⟩
    have hj' : j < m.length := by rw [List.length_map, List.length_map] at hl; omega
    obtain ⟨y0, y1, y2, y3, y4, y5, hy⟩ := cells_Pat m[j]
    refine ⟨y0, y1, y2, y3, y4, y5, by rw [map_get ptP m j hj', hy], ?_⟩
    rw [← hx, ← hy]
    rw [getD_at l _ j hj, getD_at m _ j hj']
    exact H _ (List.getElem_mem hj) _ (List.getElem_mem hj'))
  rw [List.length_map, List.length_map] at hc
  rw [alikeL_all f Pt.zero]
  exact hc
theorem clo_sE (b c : Bool) (i : Nat) (x0 : Int) (x1 : Int) (x2 : Int) (x3 : Int) (x4 : List (List PV)) (x5 : ByteArray) (x6 : List (List PV)) (x7 : List (List PV)) (m : List (List PV)) (h : b = true → ∃ y0 : Int, ∃ y1 : Int, ∃ y2 : Int, ∃ y3 : Int, ∃ y4 : List (List PV), ∃ y5 : ByteArray, ∃ y6 : List (List PV), ∃ y7 : List (List PV), m[i]? = some [.con (.int .i64 y0), .con (.int .i64 y1), .con (.int .i64 y2), .con (.int .i64 y3), .sl y4, .con (.string y5), .sl y6, .sl y7] ∧ PCalls Tryz.prog 28 [.agg [.con (.int .i64 x0), .con (.int .i64 x1), .con (.int .i64 x2), .con (.int .i64 x3), .sl x4, .con (.string x5), .sl x6, .sl x7], .agg [.con (.int .i64 y0), .con (.int .i64 y1), .con (.int .i64 y2), .con (.int .i64 y3), .sl y4, .con (.string y5), .sl y6, .sl y7]] (fun r => r = .con (.bool c))) : PCalls Tryz.prog 150 [.con (.bool b), .con (.int .i64 (i : Int)), .agg [.con (.int .i64 x0), .con (.int .i64 x1), .con (.int .i64 x2), .con (.int .i64 x3), .sl x4, .con (.string x5), .sl x6, .sl x7], .ept [.fn 28 []] 0, .ept [.sl m] 0] (fun r => r = .con (.bool (b && c))) := by
  refine a150sE _ _ _ _ _ _ _ _ _ _ _ _ ?_
  unfold p150sE
  refine br_i (fun hb => ?_) (fun hb => ⟨by rw [hb]; rfl, rfl⟩)
  obtain ⟨y0, y1, y2, y3, y4, y5, y6, y7, hx, hc⟩ := h hb
  refine ⟨_, _, _, _, _, _, _, _, ⟨by omega, by rw [Int.toNat_natCast]; exact hx, ?_⟩⟩
  exact ⟨_, call_p (enters_of Tryz.func28 (by kernel_rfl) rfl) hc rfl ⟨by rw [hb]; rfl, rfl⟩⟩
theorem alike_sE (l m : List (List PV)) (n : Nat) (hn : l.length = n) (hm : n ≤ 9223372036854775806) (q : Nat → Bool) (H : ∀ j, j < n → ∃ x0 : Int, ∃ x1 : Int, ∃ x2 : Int, ∃ x3 : Int, ∃ x4 : List (List PV), ∃ x5 : ByteArray, ∃ x6 : List (List PV), ∃ x7 : List (List PV), l[j]? = some [.con (.int .i64 x0), .con (.int .i64 x1), .con (.int .i64 x2), .con (.int .i64 x3), .sl x4, .con (.string x5), .sl x6, .sl x7] ∧ (l.length = m.length → ∃ y0 : Int, ∃ y1 : Int, ∃ y2 : Int, ∃ y3 : Int, ∃ y4 : List (List PV), ∃ y5 : ByteArray, ∃ y6 : List (List PV), ∃ y7 : List (List PV), m[j]? = some [.con (.int .i64 y0), .con (.int .i64 y1), .con (.int .i64 y2), .con (.int .i64 y3), .sl y4, .con (.string y5), .sl y6, .sl y7] ∧ PCalls Tryz.prog 28 [.agg [.con (.int .i64 x0), .con (.int .i64 x1), .con (.int .i64 x2), .con (.int .i64 x3), .sl x4, .con (.string x5), .sl x6, .sl x7], .agg [.con (.int .i64 y0), .con (.int .i64 y1), .con (.int .i64 y2), .con (.int .i64 y3), .sl y4, .con (.string y5), .sl y6, .sl y7]] (fun r => r = .con (.bool (q j))))) : PCalls Tryz.prog 75 [.sl l, .sl m, .fn 28 []] (fun r => r = .con (.bool (decide (l.length = m.length) && (List.range n).all q))) := by
  refine a75sE _ _ _ ?_
  unfold p75sE
  rw [len_eq]
  obtain ⟨b0, hb0⟩ : ∃ b0, decide (l.length = m.length) = b0 := ⟨_, rfl⟩
  rw [hb0]
  have hb1 : ∀ j, AllTo b0 q j = true → l.length = m.length := fun j h => by unfold AllTo at h; rw [Bool.and_eq_true] at h; rw [h.1] at hb0; simpa using hb0
  have hf : PCalls Tryz.prog 149 [.sl l, .con (.bool b0), .fn 150 [.ept [.fn 28 []] 0, .ept [.sl m] 0]] (fun r => r = .con (.bool (AllTo b0 q n))) := by
    refine a149sE _ _ _ _ ?_
    unfold p149sE
    rw [hn]
    refine ⟨fun c v => ∃ j : Nat, j ≤ n ∧ c = n - j ∧ v.2.1 = (j : Int) ∧ v.1 = AllTo b0 q j, ⟨_, 0, Nat.zero_le _, rfl, rfl, by simp [AllTo]⟩, ?_⟩
    rintro c ⟨b, i, u⟩ ⟨j, hj, rfl, hi, hb⟩
    dsimp only at hi hb ⊢
    subst hi hb
    refine br_i (fun hlt => ?_) (fun hge => ?_)
    · have hlt : j < n := by simpa using hlt
      obtain ⟨x0, x1, x2, x3, x4, x5, x6, x7, hx, hc⟩ := H j hlt
      refine ⟨_, _, _, _, _, _, _, _, ⟨by omega, by rw [Int.toNat_natCast]; exact hx, ?_⟩⟩
      refine ⟨_, call_p (enters_of Tryz.func150 (by kernel_rfl) rfl) (clo_sE (AllTo b0 q j) (q j) j x0 x1 x2 x3 x4 x5 x6 x7 m (fun h => hc (hb1 j h))) rfl ⟨⟨by trivial, by trivial, by trivial, trivial⟩, by trivial, n - (j + 1), by omega, j + 1, by omega, rfl, ?_, ?_⟩⟩
      · rw [wrap_id (by omega) (by omega)]; simp
      · rw [AllTo.succ]
    · have hge : ¬ j < n := by simpa using hge
      obtain rfl : j = n := by omega
      exact ⟨rfl, rfl⟩
  exact ⟨_, call_p (enters_of Tryz.func149 (by kernel_rfl) rfl) hf rfl ⟨rfl, rfl⟩⟩
theorem alikeV_sE (l m : List (Ex)) (hm : l.length ≤ 3000) (f : Ex → Ex → Bool) (H : ∀ a ∈ l, ∀ b ∈ m, PCalls Tryz.prog 28 [.agg (exP a), .agg (exP b)] (fun r => r = .con (.bool (f a b)))) : PCalls Tryz.prog 75 [.sl (l.map exP), .sl (m.map exP), .fn 28 []] (fun r => r = .con (.bool (alikeL f l m))) := by
  have hc := alike_sE (l.map exP) (m.map exP) l.length (by simp) (by omega) (fun j => f (l.getD j Ex.zero) (m.getD j Ex.zero)) (fun j hj => by
    obtain ⟨x0, x1, x2, x3, x4, x5, x6, x7, hx⟩ := cells_Expr l[j]
    refine ⟨x0, x1, x2, x3, x4, x5, x6, x7, by rw [map_get exP l j hj, hx], fun hl => ?_⟩
    have hj' : j < m.length := by rw [List.length_map, List.length_map] at hl; omega
    obtain ⟨y0, y1, y2, y3, y4, y5, y6, y7, hy⟩ := cells_Expr m[j]
    refine ⟨y0, y1, y2, y3, y4, y5, y6, y7, by rw [map_get exP m j hj', hy], ?_⟩
    rw [← hx, ← hy]
    rw [getD_at l _ j hj, getD_at m _ j hj']
    exact H _ (List.getElem_mem hj) _ (List.getElem_mem hj'))
  rw [List.length_map, List.length_map] at hc
  rw [alikeL_all f Ex.zero]
  exact hc
theorem clo_sA (b c : Bool) (i : Nat) (x0 : Int) (x1 : Int) (x2 : Int) (x3 : ByteArray) (x4 : Int) (x5 : List (List PV)) (x6 : Int) (x7 : Int) (x8 : Int) (x9 : Int) (x10 : List (List PV)) (x11 : ByteArray) (x12 : List (List PV)) (x13 : List (List PV)) (m : List (List PV)) (h : b = true → ∃ y0 : Int, ∃ y1 : Int, ∃ y2 : Int, ∃ y3 : ByteArray, ∃ y4 : Int, ∃ y5 : List (List PV), ∃ y6 : Int, ∃ y7 : Int, ∃ y8 : Int, ∃ y9 : Int, ∃ y10 : List (List PV), ∃ y11 : ByteArray, ∃ y12 : List (List PV), ∃ y13 : List (List PV), m[i]? = some [.con (.int .i64 y0), .con (.int .i64 y1), .con (.int .i64 y2), .con (.string y3), .con (.int .i64 y4), .sl y5, .con (.int .i64 y6), .con (.int .i64 y7), .con (.int .i64 y8), .con (.int .i64 y9), .sl y10, .con (.string y11), .sl y12, .sl y13] ∧ PCalls Tryz.prog 77 [.agg [.con (.int .i64 x0), .con (.int .i64 x1), .con (.int .i64 x2), .con (.string x3), .con (.int .i64 x4), .sl x5, .con (.int .i64 x6), .con (.int .i64 x7), .con (.int .i64 x8), .con (.int .i64 x9), .sl x10, .con (.string x11), .sl x12, .sl x13], .agg [.con (.int .i64 y0), .con (.int .i64 y1), .con (.int .i64 y2), .con (.string y3), .con (.int .i64 y4), .sl y5, .con (.int .i64 y6), .con (.int .i64 y7), .con (.int .i64 y8), .con (.int .i64 y9), .sl y10, .con (.string y11), .sl y12, .sl y13]] (fun r => r = .con (.bool c))) : PCalls Tryz.prog 152 [.con (.bool b), .con (.int .i64 (i : Int)), .agg [.con (.int .i64 x0), .con (.int .i64 x1), .con (.int .i64 x2), .con (.string x3), .con (.int .i64 x4), .sl x5, .con (.int .i64 x6), .con (.int .i64 x7), .con (.int .i64 x8), .con (.int .i64 x9), .sl x10, .con (.string x11), .sl x12, .sl x13], .ept [.fn 77 []] 0, .ept [.sl m] 0] (fun r => r = .con (.bool (b && c))) := by
  refine a152sA _ _ _ _ _ _ _ _ _ _ _ _ _ _ _ _ _ _ ?_
  unfold p152sA
  refine br_i (fun hb => ?_) (fun hb => ⟨by rw [hb]; rfl, rfl⟩)
  obtain ⟨y0, y1, y2, y3, y4, y5, y6, y7, y8, y9, y10, y11, y12, y13, hx, hc⟩ := h hb
  refine ⟨_, _, _, _, _, _, _, _, _, _, _, _, _, _, ⟨by omega, by rw [Int.toNat_natCast]; exact hx, ?_⟩⟩
  exact ⟨_, call_p (enters_of Tryz.func77 (by kernel_rfl) rfl) hc rfl ⟨by rw [hb]; rfl, rfl⟩⟩
theorem alike_sA (l m : List (List PV)) (n : Nat) (hn : l.length = n) (hm : n ≤ 9223372036854775806) (q : Nat → Bool) (H : ∀ j, j < n → ∃ x0 : Int, ∃ x1 : Int, ∃ x2 : Int, ∃ x3 : ByteArray, ∃ x4 : Int, ∃ x5 : List (List PV), ∃ x6 : Int, ∃ x7 : Int, ∃ x8 : Int, ∃ x9 : Int, ∃ x10 : List (List PV), ∃ x11 : ByteArray, ∃ x12 : List (List PV), ∃ x13 : List (List PV), l[j]? = some [.con (.int .i64 x0), .con (.int .i64 x1), .con (.int .i64 x2), .con (.string x3), .con (.int .i64 x4), .sl x5, .con (.int .i64 x6), .con (.int .i64 x7), .con (.int .i64 x8), .con (.int .i64 x9), .sl x10, .con (.string x11), .sl x12, .sl x13] ∧ (l.length = m.length → ∃ y0 : Int, ∃ y1 : Int, ∃ y2 : Int, ∃ y3 : ByteArray, ∃ y4 : Int, ∃ y5 : List (List PV), ∃ y6 : Int, ∃ y7 : Int, ∃ y8 : Int, ∃ y9 : Int, ∃ y10 : List (List PV), ∃ y11 : ByteArray, ∃ y12 : List (List PV), ∃ y13 : List (List PV), m[j]? = some [.con (.int .i64 y0), .con (.int .i64 y1), .con (.int .i64 y2), .con (.string y3), .con (.int .i64 y4), .sl y5, .con (.int .i64 y6), .con (.int .i64 y7), .con (.int .i64 y8), .con (.int .i64 y9), .sl y10, .con (.string y11), .sl y12, .sl y13] ∧ PCalls Tryz.prog 77 [.agg [.con (.int .i64 x0), .con (.int .i64 x1), .con (.int .i64 x2), .con (.string x3), .con (.int .i64 x4), .sl x5, .con (.int .i64 x6), .con (.int .i64 x7), .con (.int .i64 x8), .con (.int .i64 x9), .sl x10, .con (.string x11), .sl x12, .sl x13], .agg [.con (.int .i64 y0), .con (.int .i64 y1), .con (.int .i64 y2), .con (.string y3), .con (.int .i64 y4), .sl y5, .con (.int .i64 y6), .con (.int .i64 y7), .con (.int .i64 y8), .con (.int .i64 y9), .sl y10, .con (.string y11), .sl y12, .sl y13]] (fun r => r = .con (.bool (q j))))) : PCalls Tryz.prog 76 [.sl l, .sl m, .fn 77 []] (fun r => r = .con (.bool (decide (l.length = m.length) && (List.range n).all q))) := by
  refine a76sA _ _ _ ?_
  unfold p76sA
  rw [len_eq]
  obtain ⟨b0, hb0⟩ : ∃ b0, decide (l.length = m.length) = b0 := ⟨_, rfl⟩
  rw [hb0]
  have hb1 : ∀ j, AllTo b0 q j = true → l.length = m.length := fun j h => by unfold AllTo at h; rw [Bool.and_eq_true] at h; rw [h.1] at hb0; simpa using hb0
  have hf : PCalls Tryz.prog 151 [.sl l, .con (.bool b0), .fn 152 [.ept [.fn 77 []] 0, .ept [.sl m] 0]] (fun r => r = .con (.bool (AllTo b0 q n))) := by
    refine a151sA _ _ _ _ ?_
    unfold p151sA
    rw [hn]
    refine ⟨fun c v => ∃ j : Nat, j ≤ n ∧ c = n - j ∧ v.2.1 = (j : Int) ∧ v.1 = AllTo b0 q j, ⟨_, 0, Nat.zero_le _, rfl, rfl, by simp [AllTo]⟩, ?_⟩
    rintro c ⟨b, i, u⟩ ⟨j, hj, rfl, hi, hb⟩
    dsimp only at hi hb ⊢
    subst hi hb
    refine br_i (fun hlt => ?_) (fun hge => ?_)
    · have hlt : j < n := by simpa using hlt
      obtain ⟨x0, x1, x2, x3, x4, x5, x6, x7, x8, x9, x10, x11, x12, x13, hx, hc⟩ := H j hlt
      refine ⟨_, _, _, _, _, _, _, _, _, _, _, _, _, _, ⟨by omega, by rw [Int.toNat_natCast]; exact hx, ?_⟩⟩
      refine ⟨_, call_p (enters_of Tryz.func152 (by kernel_rfl) rfl) (clo_sA (AllTo b0 q j) (q j) j x0 x1 x2 x3 x4 x5 x6 x7 x8 x9 x10 x11 x12 x13 m (fun h => hc (hb1 j h))) rfl ⟨⟨by trivial, by trivial, by trivial, trivial⟩, by trivial, n - (j + 1), by omega, j + 1, by omega, rfl, ?_, ?_⟩⟩
      · rw [wrap_id (by omega) (by omega)]; simp
      · rw [AllTo.succ]
    · have hge : ¬ j < n := by simpa using hge
      obtain rfl : j = n := by omega
      exact ⟨rfl, rfl⟩
  exact ⟨_, call_p (enters_of Tryz.func151 (by kernel_rfl) rfl) hf rfl ⟨rfl, rfl⟩⟩
theorem alikeV_sA (l m : List (Pt × Ex)) (hm : l.length ≤ 3000) (f : Pt × Ex → Pt × Ex → Bool) (H : ∀ a ∈ l, ∀ b ∈ m, PCalls Tryz.prog 77 [.agg (amP a), .agg (amP b)] (fun r => r = .con (.bool (f a b)))) : PCalls Tryz.prog 76 [.sl (l.map amP), .sl (m.map amP), .fn 77 []] (fun r => r = .con (.bool (alikeL f l m))) := by
  have hc := alike_sA (l.map amP) (m.map amP) l.length (by simp) (by omega) (fun j => f (l.getD j (Pt.zero, Ex.zero)) (m.getD j (Pt.zero, Ex.zero))) (fun j hj => by
    obtain ⟨x0, x1, x2, x3, x4, x5, x6, x7, x8, x9, x10, x11, x12, x13, hx⟩ := cells_Arm l[j]
    refine ⟨x0, x1, x2, x3, x4, x5, x6, x7, x8, x9, x10, x11, x12, x13, by rw [map_get amP l j hj, hx], fun hl => ?_⟩
    have hj' : j < m.length := by rw [List.length_map, List.length_map] at hl; omega
    obtain ⟨y0, y1, y2, y3, y4, y5, y6, y7, y8, y9, y10, y11, y12, y13, hy⟩ := cells_Arm m[j]
    refine ⟨y0, y1, y2, y3, y4, y5, y6, y7, y8, y9, y10, y11, y12, y13, by rw [map_get amP m j hj', hy], ?_⟩
    rw [← hx, ← hy]
    rw [getD_at l _ j hj, getD_at m _ j hj']
    exact H _ (List.getElem_mem hj) _ (List.getElem_mem hj'))
  rw [List.length_map, List.length_map] at hc
  rw [alikeL_all f (Pt.zero, Ex.zero)]
  exact hc
theorem clo_sC (b c : Bool) (i : Nat) (x0 : ByteArray) (x1 : List (List PV)) (m : List (List PV)) (h : b = true → ∃ y0 : ByteArray, ∃ y1 : List (List PV), m[i]? = some [.con (.string y0), .sl y1] ∧ PCalls Tryz.prog 143 [.agg [.con (.string x0), .sl x1], .agg [.con (.string y0), .sl y1]] (fun r => r = .con (.bool c))) : PCalls Tryz.prog 190 [.con (.bool b), .con (.int .i64 (i : Int)), .agg [.con (.string x0), .sl x1], .ept [.fn 143 []] 0, .ept [.sl m] 0] (fun r => r = .con (.bool (b && c))) := by
  refine a190sC _ _ _ _ _ _ ?_
  unfold p190sC
  refine br_i (fun hb => ?_) (fun hb => ⟨by rw [hb]; rfl, rfl⟩)
  obtain ⟨y0, y1, hx, hc⟩ := h hb
  refine ⟨_, _, ⟨by omega, by rw [Int.toNat_natCast]; exact hx, ?_⟩⟩
  exact ⟨_, call_p (enters_of Tryz.func143 (by kernel_rfl) rfl) hc rfl ⟨by rw [hb]; rfl, rfl⟩⟩
theorem alike_sC (l m : List (List PV)) (n : Nat) (hn : l.length = n) (hm : n ≤ 9223372036854775806) (q : Nat → Bool) (H : ∀ j, j < n → ∃ x0 : ByteArray, ∃ x1 : List (List PV), l[j]? = some [.con (.string x0), .sl x1] ∧ (l.length = m.length → ∃ y0 : ByteArray, ∃ y1 : List (List PV), m[j]? = some [.con (.string y0), .sl y1] ∧ PCalls Tryz.prog 143 [.agg [.con (.string x0), .sl x1], .agg [.con (.string y0), .sl y1]] (fun r => r = .con (.bool (q j))))) : PCalls Tryz.prog 142 [.sl l, .sl m, .fn 143 []] (fun r => r = .con (.bool (decide (l.length = m.length) && (List.range n).all q))) := by
  refine a142sC _ _ _ ?_
  unfold p142sC
  rw [len_eq]
  obtain ⟨b0, hb0⟩ : ∃ b0, decide (l.length = m.length) = b0 := ⟨_, rfl⟩
  rw [hb0]
  have hb1 : ∀ j, AllTo b0 q j = true → l.length = m.length := fun j h => by unfold AllTo at h; rw [Bool.and_eq_true] at h; rw [h.1] at hb0; simpa using hb0
  have hf : PCalls Tryz.prog 154 [.sl l, .con (.bool b0), .fn 190 [.ept [.fn 143 []] 0, .ept [.sl m] 0]] (fun r => r = .con (.bool (AllTo b0 q n))) := by
    refine a154sC _ _ _ _ ?_
    unfold p154sC
    rw [hn]
    refine ⟨fun c v => ∃ j : Nat, j ≤ n ∧ c = n - j ∧ v.2.1 = (j : Int) ∧ v.1 = AllTo b0 q j, ⟨_, 0, Nat.zero_le _, rfl, rfl, by simp [AllTo]⟩, ?_⟩
    rintro c ⟨b, i, u⟩ ⟨j, hj, rfl, hi, hb⟩
    dsimp only at hi hb ⊢
    subst hi hb
    refine br_i (fun hlt => ?_) (fun hge => ?_)
    · have hlt : j < n := by simpa using hlt
      obtain ⟨x0, x1, hx, hc⟩ := H j hlt
      refine ⟨_, _, ⟨by omega, by rw [Int.toNat_natCast]; exact hx, ?_⟩⟩
      refine ⟨_, call_p (enters_of Tryz.func190 (by kernel_rfl) rfl) (clo_sC (AllTo b0 q j) (q j) j x0 x1 m (fun h => hc (hb1 j h))) rfl ⟨⟨by trivial, by trivial, by trivial, trivial⟩, by trivial, n - (j + 1), by omega, j + 1, by omega, rfl, ?_, ?_⟩⟩
      · rw [wrap_id (by omega) (by omega)]; simp
      · rw [AllTo.succ]
    · have hge : ¬ j < n := by simpa using hge
      obtain rfl : j = n := by omega
      exact ⟨rfl, rfl⟩
  exact ⟨_, call_p (enters_of Tryz.func154 (by kernel_rfl) rfl) hf rfl ⟨rfl, rfl⟩⟩
theorem alikeV_sC (l m : List (Co)) (hm : l.length ≤ 3000) (f : Co → Co → Bool) (H : ∀ a ∈ l, ∀ b ∈ m, PCalls Tryz.prog 143 [.agg (coP a), .agg (coP b)] (fun r => r = .con (.bool (f a b)))) : PCalls Tryz.prog 142 [.sl (l.map coP), .sl (m.map coP), .fn 143 []] (fun r => r = .con (.bool (alikeL f l m))) := by
  have hc := alike_sC (l.map coP) (m.map coP) l.length (by simp) (by omega) (fun j => f (l.getD j ⟨⟨#[]⟩, []⟩) (m.getD j ⟨⟨#[]⟩, []⟩)) (fun j hj => by
    obtain ⟨x0, x1, hx⟩ := cells_Con l[j]
    refine ⟨x0, x1, by rw [map_get coP l j hj, hx], fun hl => ?_⟩
    have hj' : j < m.length := by rw [List.length_map, List.length_map] at hl; omega
    obtain ⟨y0, y1, hy⟩ := cells_Con m[j]
    refine ⟨y0, y1, by rw [map_get coP m j hj', hy], ?_⟩
    rw [← hx, ← hy]
    rw [getD_at l _ j hj, getD_at m _ j hj']
    exact H _ (List.getElem_mem hj) _ (List.getElem_mem hj'))
  rw [List.length_map, List.length_map] at hc
  rw [alikeL_all f ⟨⟨#[]⟩, []⟩]
  exact hc
theorem clo_sQ (b c : Bool) (i : Nat) (x0 : ByteArray) (x1 : Int) (x2 : ByteArray) (x3 : List (List PV)) (m : List (List PV)) (h : b = true → ∃ y0 : ByteArray, ∃ y1 : Int, ∃ y2 : ByteArray, ∃ y3 : List (List PV), m[i]? = some [.con (.string y0), .con (.int .i64 y1), .con (.string y2), .sl y3] ∧ PCalls Tryz.prog 146 [.agg [.con (.string x0), .con (.int .i64 x1), .con (.string x2), .sl x3], .agg [.con (.string y0), .con (.int .i64 y1), .con (.string y2), .sl y3]] (fun r => r = .con (.bool c))) : PCalls Tryz.prog 191 [.con (.bool b), .con (.int .i64 (i : Int)), .agg [.con (.string x0), .con (.int .i64 x1), .con (.string x2), .sl x3], .ept [.fn 146 []] 0, .ept [.sl m] 0] (fun r => r = .con (.bool (b && c))) := by
  refine a191sQ _ _ _ _ _ _ _ _ ?_
  unfold p191sQ
  refine br_i (fun hb => ?_) (fun hb => ⟨by rw [hb]; rfl, rfl⟩)
  obtain ⟨y0, y1, y2, y3, hx, hc⟩ := h hb
  refine ⟨_, _, _, _, ⟨by omega, by rw [Int.toNat_natCast]; exact hx, ?_⟩⟩
  exact ⟨_, call_p (enters_of Tryz.func146 (by kernel_rfl) rfl) hc rfl ⟨by rw [hb]; rfl, rfl⟩⟩
theorem alike_sQ (l m : List (List PV)) (n : Nat) (hn : l.length = n) (hm : n ≤ 9223372036854775806) (q : Nat → Bool) (H : ∀ j, j < n → ∃ x0 : ByteArray, ∃ x1 : Int, ∃ x2 : ByteArray, ∃ x3 : List (List PV), l[j]? = some [.con (.string x0), .con (.int .i64 x1), .con (.string x2), .sl x3] ∧ (l.length = m.length → ∃ y0 : ByteArray, ∃ y1 : Int, ∃ y2 : ByteArray, ∃ y3 : List (List PV), m[j]? = some [.con (.string y0), .con (.int .i64 y1), .con (.string y2), .sl y3] ∧ PCalls Tryz.prog 146 [.agg [.con (.string x0), .con (.int .i64 x1), .con (.string x2), .sl x3], .agg [.con (.string y0), .con (.int .i64 y1), .con (.string y2), .sl y3]] (fun r => r = .con (.bool (q j))))) : PCalls Tryz.prog 145 [.sl l, .sl m, .fn 146 []] (fun r => r = .con (.bool (decide (l.length = m.length) && (List.range n).all q))) := by
  refine a145sQ _ _ _ ?_
  unfold p145sQ
  rw [len_eq]
  obtain ⟨b0, hb0⟩ : ∃ b0, decide (l.length = m.length) = b0 := ⟨_, rfl⟩
  rw [hb0]
  have hb1 : ∀ j, AllTo b0 q j = true → l.length = m.length := fun j h => by unfold AllTo at h; rw [Bool.and_eq_true] at h; rw [h.1] at hb0; simpa using hb0
  have hf : PCalls Tryz.prog 157 [.sl l, .con (.bool b0), .fn 191 [.ept [.fn 146 []] 0, .ept [.sl m] 0]] (fun r => r = .con (.bool (AllTo b0 q n))) := by
    refine a157sQ _ _ _ _ ?_
    unfold p157sQ
    rw [hn]
    refine ⟨fun c v => ∃ j : Nat, j ≤ n ∧ c = n - j ∧ v.2.1 = (j : Int) ∧ v.1 = AllTo b0 q j, ⟨_, 0, Nat.zero_le _, rfl, rfl, by simp [AllTo]⟩, ?_⟩
    rintro c ⟨b, i, u⟩ ⟨j, hj, rfl, hi, hb⟩
    dsimp only at hi hb ⊢
    subst hi hb
    refine br_i (fun hlt => ?_) (fun hge => ?_)
    · have hlt : j < n := by simpa using hlt
      obtain ⟨x0, x1, x2, x3, hx, hc⟩ := H j hlt
      refine ⟨_, _, _, _, ⟨by omega, by rw [Int.toNat_natCast]; exact hx, ?_⟩⟩
      refine ⟨_, call_p (enters_of Tryz.func191 (by kernel_rfl) rfl) (clo_sQ (AllTo b0 q j) (q j) j x0 x1 x2 x3 m (fun h => hc (hb1 j h))) rfl ⟨⟨by trivial, by trivial, by trivial, trivial⟩, by trivial, n - (j + 1), by omega, j + 1, by omega, rfl, ?_, ?_⟩⟩
      · rw [wrap_id (by omega) (by omega)]; simp
      · rw [AllTo.succ]
    · have hge : ¬ j < n := by simpa using hge
      obtain rfl : j = n := by omega
      exact ⟨rfl, rfl⟩
  exact ⟨_, call_p (enters_of Tryz.func157 (by kernel_rfl) rfl) hf rfl ⟨rfl, rfl⟩⟩
theorem alikeV_sQ (l m : List (Pa)) (hm : l.length ≤ 3000) (f : Pa → Pa → Bool) (H : ∀ a ∈ l, ∀ b ∈ m, PCalls Tryz.prog 146 [.agg (paP a), .agg (paP b)] (fun r => r = .con (.bool (f a b)))) : PCalls Tryz.prog 145 [.sl (l.map paP), .sl (m.map paP), .fn 146 []] (fun r => r = .con (.bool (alikeL f l m))) := by
  have hc := alike_sQ (l.map paP) (m.map paP) l.length (by simp) (by omega) (fun j => f (l.getD j ⟨⟨#[]⟩, Ty.zero⟩) (m.getD j ⟨⟨#[]⟩, Ty.zero⟩)) (fun j hj => by
    obtain ⟨x0, x1, x2, x3, hx⟩ := cells_Param l[j]
    refine ⟨x0, x1, x2, x3, by rw [map_get paP l j hj, hx], fun hl => ?_⟩
    have hj' : j < m.length := by rw [List.length_map, List.length_map] at hl; omega
    obtain ⟨y0, y1, y2, y3, hy⟩ := cells_Param m[j]
    refine ⟨y0, y1, y2, y3, by rw [map_get paP m j hj', hy], ?_⟩
    rw [← hx, ← hy]
    rw [getD_at l _ j hj, getD_at m _ j hj']
    exact H _ (List.getElem_mem hj) _ (List.getElem_mem hj'))
  rw [List.length_map, List.length_map] at hc
  rw [alikeL_all f ⟨⟨#[]⟩, Ty.zero⟩]
  exact hc
theorem clo_sD (b c : Bool) (i : Nat) (x0 : Int) (x1 : Int) (x2 : ByteArray) (x3 : List (List PV)) (m : List (List PV)) (h : b = true → ∃ y0 : Int, ∃ y1 : Int, ∃ y2 : ByteArray, ∃ y3 : List (List PV), m[i]? = some [.con (.int .i64 y0), .con (.int .i64 y1), .con (.string y2), .sl y3] ∧ PCalls Tryz.prog 69 [.agg [.con (.int .i64 x0), .con (.int .i64 x1), .con (.string x2), .sl x3], .agg [.con (.int .i64 y0), .con (.int .i64 y1), .con (.string y2), .sl y3]] (fun r => r = .con (.bool c))) : PCalls Tryz.prog 141 [.con (.bool b), .con (.int .i64 (i : Int)), .agg [.con (.int .i64 x0), .con (.int .i64 x1), .con (.string x2), .sl x3], .ept [.fn 69 []] 0, .ept [.sl m] 0] (fun r => r = .con (.bool (b && c))) := by
  refine a141sD _ _ _ _ _ _ _ _ ?_
  unfold p141sD
  refine br_i (fun hb => ?_) (fun hb => ⟨by rw [hb]; rfl, rfl⟩)
  obtain ⟨y0, y1, y2, y3, hx, hc⟩ := h hb
  refine ⟨_, _, _, _, ⟨by omega, by rw [Int.toNat_natCast]; exact hx, ?_⟩⟩
  exact ⟨_, call_p (enters_of Tryz.func69 (by kernel_rfl) rfl) hc rfl ⟨by rw [hb]; rfl, rfl⟩⟩
theorem alike_sD (l m : List (List PV)) (n : Nat) (hn : l.length = n) (hm : n ≤ 9223372036854775806) (q : Nat → Bool) (H : ∀ j, j < n → ∃ x0 : Int, ∃ x1 : Int, ∃ x2 : ByteArray, ∃ x3 : List (List PV), l[j]? = some [.con (.int .i64 x0), .con (.int .i64 x1), .con (.string x2), .sl x3] ∧ (l.length = m.length → ∃ y0 : Int, ∃ y1 : Int, ∃ y2 : ByteArray, ∃ y3 : List (List PV), m[j]? = some [.con (.int .i64 y0), .con (.int .i64 y1), .con (.string y2), .sl y3] ∧ PCalls Tryz.prog 69 [.agg [.con (.int .i64 x0), .con (.int .i64 x1), .con (.string x2), .sl x3], .agg [.con (.int .i64 y0), .con (.int .i64 y1), .con (.string y2), .sl y3]] (fun r => r = .con (.bool (q j))))) : PCalls Tryz.prog 68 [.sl l, .sl m, .fn 69 []] (fun r => r = .con (.bool (decide (l.length = m.length) && (List.range n).all q))) := by
  refine a68sD _ _ _ ?_
  unfold p68sD
  rw [len_eq]
  obtain ⟨b0, hb0⟩ : ∃ b0, decide (l.length = m.length) = b0 := ⟨_, rfl⟩
  rw [hb0]
  have hb1 : ∀ j, AllTo b0 q j = true → l.length = m.length := fun j h => by unfold AllTo at h; rw [Bool.and_eq_true] at h; rw [h.1] at hb0; simpa using hb0
  have hf : PCalls Tryz.prog 80 [.sl l, .con (.bool b0), .fn 141 [.ept [.fn 69 []] 0, .ept [.sl m] 0]] (fun r => r = .con (.bool (AllTo b0 q n))) := by
    refine a80sD _ _ _ _ ?_
    unfold p80sD
    rw [hn]
    refine ⟨fun c v => ∃ j : Nat, j ≤ n ∧ c = n - j ∧ v.2.1 = (j : Int) ∧ v.1 = AllTo b0 q j, ⟨_, 0, Nat.zero_le _, rfl, rfl, by simp [AllTo]⟩, ?_⟩
    rintro c ⟨b, i, u⟩ ⟨j, hj, rfl, hi, hb⟩
    dsimp only at hi hb ⊢
    subst hi hb
    refine br_i (fun hlt => ?_) (fun hge => ?_)
    · have hlt : j < n := by simpa using hlt
      obtain ⟨x0, x1, x2, x3, hx, hc⟩ := H j hlt
      refine ⟨_, _, _, _, ⟨by omega, by rw [Int.toNat_natCast]; exact hx, ?_⟩⟩
      refine ⟨_, call_p (enters_of Tryz.func141 (by kernel_rfl) rfl) (clo_sD (AllTo b0 q j) (q j) j x0 x1 x2 x3 m (fun h => hc (hb1 j h))) rfl ⟨⟨by trivial, by trivial, by trivial, trivial⟩, by trivial, n - (j + 1), by omega, j + 1, by omega, rfl, ?_, ?_⟩⟩
      · rw [wrap_id (by omega) (by omega)]; simp
      · rw [AllTo.succ]
    · have hge : ¬ j < n := by simpa using hge
      obtain rfl : j = n := by omega
      exact ⟨rfl, rfl⟩
  exact ⟨_, call_p (enters_of Tryz.func80 (by kernel_rfl) rfl) hf rfl ⟨rfl, rfl⟩⟩
theorem alikeV_sD (l m : List (Da)) (hm : l.length ≤ 3000) (f : Da → Da → Bool) (H : ∀ a ∈ l, ∀ b ∈ m, PCalls Tryz.prog 69 [.agg (daP a), .agg (daP b)] (fun r => r = .con (.bool (f a b)))) : PCalls Tryz.prog 68 [.sl (l.map daP), .sl (m.map daP), .fn 69 []] (fun r => r = .con (.bool (alikeL f l m))) := by
  have hc := alike_sD (l.map daP) (m.map daP) l.length (by simp) (by omega) (fun j => f (l.getD j ⟨0, 0, ⟨#[]⟩, []⟩) (m.getD j ⟨0, 0, ⟨#[]⟩, []⟩)) (fun j hj => by
    obtain ⟨x0, x1, x2, x3, hx⟩ := cells_Data l[j]
    refine ⟨x0, x1, x2, x3, by rw [map_get daP l j hj, hx], fun hl => ?_⟩
    have hj' : j < m.length := by rw [List.length_map, List.length_map] at hl; omega
    obtain ⟨y0, y1, y2, y3, hy⟩ := cells_Data m[j]
    refine ⟨y0, y1, y2, y3, by rw [map_get daP m j hj', hy], ?_⟩
    rw [← hx, ← hy]
    rw [getD_at l _ j hj, getD_at m _ j hj']
    exact H _ (List.getElem_mem hj) _ (List.getElem_mem hj'))
  rw [List.length_map, List.length_map] at hc
  rw [alikeL_all f ⟨0, 0, ⟨#[]⟩, []⟩]
  exact hc
theorem clo_sF (b c : Bool) (i : Nat) (x0 : Int) (x1 : Int) (x2 : ByteArray) (x3 : List (List PV)) (x4 : Int) (x5 : ByteArray) (x6 : List (List PV)) (x7 : Int) (x8 : Int) (x9 : Int) (x10 : Int) (x11 : List (List PV)) (x12 : ByteArray) (x13 : List (List PV)) (x14 : List (List PV)) (m : List (List PV)) (h : b = true → ∃ y0 : Int, ∃ y1 : Int, ∃ y2 : ByteArray, ∃ y3 : List (List PV), ∃ y4 : Int, ∃ y5 : ByteArray, ∃ y6 : List (List PV), ∃ y7 : Int, ∃ y8 : Int, ∃ y9 : Int, ∃ y10 : Int, ∃ y11 : List (List PV), ∃ y12 : ByteArray, ∃ y13 : List (List PV), ∃ y14 : List (List PV), m[i]? = some [.con (.int .i64 y0), .con (.int .i64 y1), .con (.string y2), .sl y3, .con (.int .i64 y4), .con (.string y5), .sl y6, .con (.int .i64 y7), .con (.int .i64 y8), .con (.int .i64 y9), .con (.int .i64 y10), .sl y11, .con (.string y12), .sl y13, .sl y14] ∧ PCalls Tryz.prog 71 [.agg [.con (.int .i64 x0), .con (.int .i64 x1), .con (.string x2), .sl x3, .con (.int .i64 x4), .con (.string x5), .sl x6, .con (.int .i64 x7), .con (.int .i64 x8), .con (.int .i64 x9), .con (.int .i64 x10), .sl x11, .con (.string x12), .sl x13, .sl x14], .agg [.con (.int .i64 y0), .con (.int .i64 y1), .con (.string y2), .sl y3, .con (.int .i64 y4), .con (.string y5), .sl y6, .con (.int .i64 y7), .con (.int .i64 y8), .con (.int .i64 y9), .con (.int .i64 y10), .sl y11, .con (.string y12), .sl y13, .sl y14]] (fun r => r = .con (.bool c))) : PCalls Tryz.prog 144 [.con (.bool b), .con (.int .i64 (i : Int)), .agg [.con (.int .i64 x0), .con (.int .i64 x1), .con (.string x2), .sl x3, .con (.int .i64 x4), .con (.string x5), .sl x6, .con (.int .i64 x7), .con (.int .i64 x8), .con (.int .i64 x9), .con (.int .i64 x10), .sl x11, .con (.string x12), .sl x13, .sl x14], .ept [.fn 71 []] 0, .ept [.sl m] 0] (fun r => r = .con (.bool (b && c))) := by
  refine a144sF _ _ _ _ _ _ _ _ _ _ _ _ _ _ _ _ _ _ _ ?_
  unfold p144sF
  refine br_i (fun hb => ?_) (fun hb => ⟨by rw [hb]; rfl, rfl⟩)
  obtain ⟨y0, y1, y2, y3, y4, y5, y6, y7, y8, y9, y10, y11, y12, y13, y14, hx, hc⟩ := h hb
  refine ⟨_, _, _, _, _, _, _, _, _, _, _, _, _, _, _, ⟨by omega, by rw [Int.toNat_natCast]; exact hx, ?_⟩⟩
  exact ⟨_, call_p (enters_of Tryz.func71 (by kernel_rfl) rfl) hc rfl ⟨by rw [hb]; rfl, rfl⟩⟩
theorem alike_sF (l m : List (List PV)) (n : Nat) (hn : l.length = n) (hm : n ≤ 9223372036854775806) (q : Nat → Bool) (H : ∀ j, j < n → ∃ x0 : Int, ∃ x1 : Int, ∃ x2 : ByteArray, ∃ x3 : List (List PV), ∃ x4 : Int, ∃ x5 : ByteArray, ∃ x6 : List (List PV), ∃ x7 : Int, ∃ x8 : Int, ∃ x9 : Int, ∃ x10 : Int, ∃ x11 : List (List PV), ∃ x12 : ByteArray, ∃ x13 : List (List PV), ∃ x14 : List (List PV), l[j]? = some [.con (.int .i64 x0), .con (.int .i64 x1), .con (.string x2), .sl x3, .con (.int .i64 x4), .con (.string x5), .sl x6, .con (.int .i64 x7), .con (.int .i64 x8), .con (.int .i64 x9), .con (.int .i64 x10), .sl x11, .con (.string x12), .sl x13, .sl x14] ∧ (l.length = m.length → ∃ y0 : Int, ∃ y1 : Int, ∃ y2 : ByteArray, ∃ y3 : List (List PV), ∃ y4 : Int, ∃ y5 : ByteArray, ∃ y6 : List (List PV), ∃ y7 : Int, ∃ y8 : Int, ∃ y9 : Int, ∃ y10 : Int, ∃ y11 : List (List PV), ∃ y12 : ByteArray, ∃ y13 : List (List PV), ∃ y14 : List (List PV), m[j]? = some [.con (.int .i64 y0), .con (.int .i64 y1), .con (.string y2), .sl y3, .con (.int .i64 y4), .con (.string y5), .sl y6, .con (.int .i64 y7), .con (.int .i64 y8), .con (.int .i64 y9), .con (.int .i64 y10), .sl y11, .con (.string y12), .sl y13, .sl y14] ∧ PCalls Tryz.prog 71 [.agg [.con (.int .i64 x0), .con (.int .i64 x1), .con (.string x2), .sl x3, .con (.int .i64 x4), .con (.string x5), .sl x6, .con (.int .i64 x7), .con (.int .i64 x8), .con (.int .i64 x9), .con (.int .i64 x10), .sl x11, .con (.string x12), .sl x13, .sl x14], .agg [.con (.int .i64 y0), .con (.int .i64 y1), .con (.string y2), .sl y3, .con (.int .i64 y4), .con (.string y5), .sl y6, .con (.int .i64 y7), .con (.int .i64 y8), .con (.int .i64 y9), .con (.int .i64 y10), .sl y11, .con (.string y12), .sl y13, .sl y14]] (fun r => r = .con (.bool (q j))))) : PCalls Tryz.prog 70 [.sl l, .sl m, .fn 71 []] (fun r => r = .con (.bool (decide (l.length = m.length) && (List.range n).all q))) := by
  refine a70sF _ _ _ ?_
  unfold p70sF
  rw [len_eq]
  obtain ⟨b0, hb0⟩ : ∃ b0, decide (l.length = m.length) = b0 := ⟨_, rfl⟩
  rw [hb0]
  have hb1 : ∀ j, AllTo b0 q j = true → l.length = m.length := fun j h => by unfold AllTo at h; rw [Bool.and_eq_true] at h; rw [h.1] at hb0; simpa using hb0
  have hf : PCalls Tryz.prog 85 [.sl l, .con (.bool b0), .fn 144 [.ept [.fn 71 []] 0, .ept [.sl m] 0]] (fun r => r = .con (.bool (AllTo b0 q n))) := by
    refine a85sF _ _ _ _ ?_
    unfold p85sF
    rw [hn]
    refine ⟨fun c v => ∃ j : Nat, j ≤ n ∧ c = n - j ∧ v.2.1 = (j : Int) ∧ v.1 = AllTo b0 q j, ⟨_, 0, Nat.zero_le _, rfl, rfl, by simp [AllTo]⟩, ?_⟩
    rintro c ⟨b, i, u⟩ ⟨j, hj, rfl, hi, hb⟩
    dsimp only at hi hb ⊢
    subst hi hb
    refine br_i (fun hlt => ?_) (fun hge => ?_)
    · have hlt : j < n := by simpa using hlt
      obtain ⟨x0, x1, x2, x3, x4, x5, x6, x7, x8, x9, x10, x11, x12, x13, x14, hx, hc⟩ := H j hlt
      refine ⟨_, _, _, _, _, _, _, _, _, _, _, _, _, _, _, ⟨by omega, by rw [Int.toNat_natCast]; exact hx, ?_⟩⟩
      refine ⟨_, call_p (enters_of Tryz.func144 (by kernel_rfl) rfl) (clo_sF (AllTo b0 q j) (q j) j x0 x1 x2 x3 x4 x5 x6 x7 x8 x9 x10 x11 x12 x13 x14 m (fun h => hc (hb1 j h))) rfl ⟨⟨by trivial, by trivial, by trivial, trivial⟩, by trivial, n - (j + 1), by omega, j + 1, by omega, rfl, ?_, ?_⟩⟩
      · rw [wrap_id (by omega) (by omega)]; simp
      · rw [AllTo.succ]
    · have hge : ¬ j < n := by simpa using hge
      obtain rfl : j = n := by omega
      exact ⟨rfl, rfl⟩
  exact ⟨_, call_p (enters_of Tryz.func85 (by kernel_rfl) rfl) hf rfl ⟨rfl, rfl⟩⟩
theorem alikeV_sF (l m : List (Fu)) (hm : l.length ≤ 3000) (f : Fu → Fu → Bool) (H : ∀ a ∈ l, ∀ b ∈ m, PCalls Tryz.prog 71 [.agg (fuP a), .agg (fuP b)] (fun r => r = .con (.bool (f a b)))) : PCalls Tryz.prog 70 [.sl (l.map fuP), .sl (m.map fuP), .fn 71 []] (fun r => r = .con (.bool (alikeL f l m))) := by
  have hc := alike_sF (l.map fuP) (m.map fuP) l.length (by simp) (by omega) (fun j => f (l.getD j ⟨0, 0, ⟨#[]⟩, [], Ty.zero, Ex.zero⟩) (m.getD j ⟨0, 0, ⟨#[]⟩, [], Ty.zero, Ex.zero⟩)) (fun j hj => by
    obtain ⟨x0, x1, x2, x3, x4, x5, x6, x7, x8, x9, x10, x11, x12, x13, x14, hx⟩ := cells_Fun l[j]
    refine ⟨x0, x1, x2, x3, x4, x5, x6, x7, x8, x9, x10, x11, x12, x13, x14, by rw [map_get fuP l j hj, hx], fun hl => ?_⟩
    have hj' : j < m.length := by rw [List.length_map, List.length_map] at hl; omega
    obtain ⟨y0, y1, y2, y3, y4, y5, y6, y7, y8, y9, y10, y11, y12, y13, y14, hy⟩ := cells_Fun m[j]
    refine ⟨y0, y1, y2, y3, y4, y5, y6, y7, y8, y9, y10, y11, y12, y13, y14, by rw [map_get fuP m j hj', hy], ?_⟩
    rw [← hx, ← hy]
    rw [getD_at l _ j hj, getD_at m _ j hj']
    exact H _ (List.getElem_mem hj) _ (List.getElem_mem hj'))
  rw [List.length_map, List.length_map] at hc
  rw [alikeL_all f ⟨0, 0, ⟨#[]⟩, [], Ty.zero, Ex.zero⟩]
  exact hc
theorem clo_sH (b c : Bool) (i : Nat) (x0 : Int) (x1 : Int) (x2 : ByteArray) (x3 : ByteArray) (x4 : Int) (x5 : ByteArray) (x6 : List (List PV)) (x7 : Int) (x8 : Int) (x9 : Int) (x10 : Int) (x11 : Int) (x12 : List (List PV)) (x13 : ByteArray) (x14 : List (List PV)) (x15 : List (List PV)) (m : List (List PV)) (h : b = true → ∃ y0 : Int, ∃ y1 : Int, ∃ y2 : ByteArray, ∃ y3 : ByteArray, ∃ y4 : Int, ∃ y5 : ByteArray, ∃ y6 : List (List PV), ∃ y7 : Int, ∃ y8 : Int, ∃ y9 : Int, ∃ y10 : Int, ∃ y11 : Int, ∃ y12 : List (List PV), ∃ y13 : ByteArray, ∃ y14 : List (List PV), ∃ y15 : List (List PV), m[i]? = some [.con (.int .i64 y0), .con (.int .i64 y1), .con (.string y2), .con (.string y3), .con (.int .i64 y4), .con (.string y5), .sl y6, .con (.int .i64 y7), .con (.int .i64 y8), .con (.int .i64 y9), .con (.int .i64 y10), .con (.int .i64 y11), .sl y12, .con (.string y13), .sl y14, .sl y15] ∧ PCalls Tryz.prog 73 [.agg [.con (.int .i64 x0), .con (.int .i64 x1), .con (.string x2), .con (.string x3), .con (.int .i64 x4), .con (.string x5), .sl x6, .con (.int .i64 x7), .con (.int .i64 x8), .con (.int .i64 x9), .con (.int .i64 x10), .con (.int .i64 x11), .sl x12, .con (.string x13), .sl x14, .sl x15], .agg [.con (.int .i64 y0), .con (.int .i64 y1), .con (.string y2), .con (.string y3), .con (.int .i64 y4), .con (.string y5), .sl y6, .con (.int .i64 y7), .con (.int .i64 y8), .con (.int .i64 y9), .con (.int .i64 y10), .con (.int .i64 y11), .sl y12, .con (.string y13), .sl y14, .sl y15]] (fun r => r = .con (.bool c))) : PCalls Tryz.prog 147 [.con (.bool b), .con (.int .i64 (i : Int)), .agg [.con (.int .i64 x0), .con (.int .i64 x1), .con (.string x2), .con (.string x3), .con (.int .i64 x4), .con (.string x5), .sl x6, .con (.int .i64 x7), .con (.int .i64 x8), .con (.int .i64 x9), .con (.int .i64 x10), .con (.int .i64 x11), .sl x12, .con (.string x13), .sl x14, .sl x15], .ept [.fn 73 []] 0, .ept [.sl m] 0] (fun r => r = .con (.bool (b && c))) := by
  refine a147sH _ _ _ _ _ _ _ _ _ _ _ _ _ _ _ _ _ _ _ _ ?_
  unfold p147sH
  refine br_i (fun hb => ?_) (fun hb => ⟨by rw [hb]; rfl, rfl⟩)
  obtain ⟨y0, y1, y2, y3, y4, y5, y6, y7, y8, y9, y10, y11, y12, y13, y14, y15, hx, hc⟩ := h hb
  refine ⟨_, _, _, _, _, _, _, _, _, _, _, _, _, _, _, _, ⟨by omega, by rw [Int.toNat_natCast]; exact hx, ?_⟩⟩
  exact ⟨_, call_p (enters_of Tryz.func73 (by kernel_rfl) rfl) hc rfl ⟨by rw [hb]; rfl, rfl⟩⟩
theorem alike_sH (l m : List (List PV)) (n : Nat) (hn : l.length = n) (hm : n ≤ 9223372036854775806) (q : Nat → Bool) (H : ∀ j, j < n → ∃ x0 : Int, ∃ x1 : Int, ∃ x2 : ByteArray, ∃ x3 : ByteArray, ∃ x4 : Int, ∃ x5 : ByteArray, ∃ x6 : List (List PV), ∃ x7 : Int, ∃ x8 : Int, ∃ x9 : Int, ∃ x10 : Int, ∃ x11 : Int, ∃ x12 : List (List PV), ∃ x13 : ByteArray, ∃ x14 : List (List PV), ∃ x15 : List (List PV), l[j]? = some [.con (.int .i64 x0), .con (.int .i64 x1), .con (.string x2), .con (.string x3), .con (.int .i64 x4), .con (.string x5), .sl x6, .con (.int .i64 x7), .con (.int .i64 x8), .con (.int .i64 x9), .con (.int .i64 x10), .con (.int .i64 x11), .sl x12, .con (.string x13), .sl x14, .sl x15] ∧ (l.length = m.length → ∃ y0 : Int, ∃ y1 : Int, ∃ y2 : ByteArray, ∃ y3 : ByteArray, ∃ y4 : Int, ∃ y5 : ByteArray, ∃ y6 : List (List PV), ∃ y7 : Int, ∃ y8 : Int, ∃ y9 : Int, ∃ y10 : Int, ∃ y11 : Int, ∃ y12 : List (List PV), ∃ y13 : ByteArray, ∃ y14 : List (List PV), ∃ y15 : List (List PV), m[j]? = some [.con (.int .i64 y0), .con (.int .i64 y1), .con (.string y2), .con (.string y3), .con (.int .i64 y4), .con (.string y5), .sl y6, .con (.int .i64 y7), .con (.int .i64 y8), .con (.int .i64 y9), .con (.int .i64 y10), .con (.int .i64 y11), .sl y12, .con (.string y13), .sl y14, .sl y15] ∧ PCalls Tryz.prog 73 [.agg [.con (.int .i64 x0), .con (.int .i64 x1), .con (.string x2), .con (.string x3), .con (.int .i64 x4), .con (.string x5), .sl x6, .con (.int .i64 x7), .con (.int .i64 x8), .con (.int .i64 x9), .con (.int .i64 x10), .con (.int .i64 x11), .sl x12, .con (.string x13), .sl x14, .sl x15], .agg [.con (.int .i64 y0), .con (.int .i64 y1), .con (.string y2), .con (.string y3), .con (.int .i64 y4), .con (.string y5), .sl y6, .con (.int .i64 y7), .con (.int .i64 y8), .con (.int .i64 y9), .con (.int .i64 y10), .con (.int .i64 y11), .sl y12, .con (.string y13), .sl y14, .sl y15]] (fun r => r = .con (.bool (q j))))) : PCalls Tryz.prog 72 [.sl l, .sl m, .fn 73 []] (fun r => r = .con (.bool (decide (l.length = m.length) && (List.range n).all q))) := by
  refine a72sH _ _ _ ?_
  unfold p72sH
  rw [len_eq]
  obtain ⟨b0, hb0⟩ : ∃ b0, decide (l.length = m.length) = b0 := ⟨_, rfl⟩
  rw [hb0]
  have hb1 : ∀ j, AllTo b0 q j = true → l.length = m.length := fun j h => by unfold AllTo at h; rw [Bool.and_eq_true] at h; rw [h.1] at hb0; simpa using hb0
  have hf : PCalls Tryz.prog 90 [.sl l, .con (.bool b0), .fn 147 [.ept [.fn 73 []] 0, .ept [.sl m] 0]] (fun r => r = .con (.bool (AllTo b0 q n))) := by
    refine a90sH _ _ _ _ ?_
    unfold p90sH
    rw [hn]
    refine ⟨fun c v => ∃ j : Nat, j ≤ n ∧ c = n - j ∧ v.2.1 = (j : Int) ∧ v.1 = AllTo b0 q j, ⟨_, 0, Nat.zero_le _, rfl, rfl, by simp [AllTo]⟩, ?_⟩
    rintro c ⟨b, i, u⟩ ⟨j, hj, rfl, hi, hb⟩
    dsimp only at hi hb ⊢
    subst hi hb
    refine br_i (fun hlt => ?_) (fun hge => ?_)
    · have hlt : j < n := by simpa using hlt
      obtain ⟨x0, x1, x2, x3, x4, x5, x6, x7, x8, x9, x10, x11, x12, x13, x14, x15, hx, hc⟩ := H j hlt
      refine ⟨_, _, _, _, _, _, _, _, _, _, _, _, _, _, _, _, ⟨by omega, by rw [Int.toNat_natCast]; exact hx, ?_⟩⟩
      refine ⟨_, call_p (enters_of Tryz.func147 (by kernel_rfl) rfl) (clo_sH (AllTo b0 q j) (q j) j x0 x1 x2 x3 x4 x5 x6 x7 x8 x9 x10 x11 x12 x13 x14 x15 m (fun h => hc (hb1 j h))) rfl ⟨⟨by trivial, by trivial, by trivial, trivial⟩, by trivial, n - (j + 1), by omega, j + 1, by omega, rfl, ?_, ?_⟩⟩
      · rw [wrap_id (by omega) (by omega)]; simp
      · rw [AllTo.succ]
    · have hge : ¬ j < n := by simpa using hge
      obtain rfl : j = n := by omega
      exact ⟨rfl, rfl⟩
  exact ⟨_, call_p (enters_of Tryz.func90 (by kernel_rfl) rfl) hf rfl ⟨rfl, rfl⟩⟩
theorem alikeV_sH (l m : List (Ha)) (hm : l.length ≤ 3000) (f : Ha → Ha → Bool) (H : ∀ a ∈ l, ∀ b ∈ m, PCalls Tryz.prog 73 [.agg (haP a), .agg (haP b)] (fun r => r = .con (.bool (f a b)))) : PCalls Tryz.prog 72 [.sl (l.map haP), .sl (m.map haP), .fn 73 []] (fun r => r = .con (.bool (alikeL f l m))) := by
  have hc := alike_sH (l.map haP) (m.map haP) l.length (by simp) (by omega) (fun j => f (l.getD j ⟨0, 0, ⟨#[]⟩, ⟨⟨#[]⟩, Ty.zero⟩, 0, Ex.zero⟩) (m.getD j ⟨0, 0, ⟨#[]⟩, ⟨⟨#[]⟩, Ty.zero⟩, 0, Ex.zero⟩)) (fun j hj => by
    obtain ⟨x0, x1, x2, x3, x4, x5, x6, x7, x8, x9, x10, x11, x12, x13, x14, x15, hx⟩ := cells_Hand l[j]
    refine ⟨x0, x1, x2, x3, x4, x5, x6, x7, x8, x9, x10, x11, x12, x13, x14, x15, by rw [map_get haP l j hj, hx], fun hl => ?_⟩
    have hj' : j < m.length := by rw [List.length_map, List.length_map] at hl; omega
    obtain ⟨y0, y1, y2, y3, y4, y5, y6, y7, y8, y9, y10, y11, y12, y13, y14, y15, hy⟩ := cells_Hand m[j]
    refine ⟨y0, y1, y2, y3, y4, y5, y6, y7, y8, y9, y10, y11, y12, y13, y14, y15, by rw [map_get haP m j hj', hy], ?_⟩
    rw [← hx, ← hy]
    rw [getD_at l _ j hj, getD_at m _ j hj']
    exact H _ (List.getElem_mem hj) _ (List.getElem_mem hj'))
  rw [List.length_map, List.length_map] at hc
  rw [alikeL_all f ⟨0, 0, ⟨#[]⟩, ⟨⟨#[]⟩, Ty.zero⟩, 0, Ex.zero⟩]
  exact hc
end Go.Proofs.YtcmnjodjebcapaaGreat.Deep

namespace Go.Proofs.YtcmnjodjebcapaaGreat.Deep
open Go.RowKit
set_option linter.unusedVariables false
set_option linter.unusedSimpArgs false
theorem same_ty (t : Ty) : smallTy t → ∀ u : Ty, PCalls Tryz.prog 74 [.agg (tyP t), .agg (tyP u)] (fun r => r = .con (.bool (sameT t u))) := by
  induction t using Ty.indM with
  | h k n ps ih =>
  intro hs u
  obtain ⟨k', n', ps', rfl⟩ := ty_mk u
  unfold smallTy at hs
  have hc := alikeV_sT ps ps' hs.2.1 sameT (fun a ha b _ => ih a ha (smallTys_mem hs.2.2 a ha) b)
  rw [← tyPs_mp, ← tyPs_mp, ← sameTs_l] at hc
  refine a74 _ _ _ _ _ _ _ ?_
  unfold p74 sameT
  rw [beq_int, beq_str]
  refine br_i (fun h1 => ?_) (fun h1 => ⟨by rw [h1]; rfl, rfl⟩)
  refine br_i (fun h2 => ?_) (fun h2 => ⟨by rw [h1, h2]; rfl, rfl⟩)
  exact ⟨_, call_p (enters_of Tryz.func148 (by kernel_rfl) rfl) hc rfl ⟨by rw [h1, h2]; rfl, rfl⟩⟩
theorem same_pt (t : Pt) : smallPt t → ∀ u : Pt, PCalls Tryz.prog 153 [.agg (ptP t), .agg (ptP u)] (fun r => r = .con (.bool (sameP t u))) := by
  induction t using Pt.indM with
  | h k li co n m ks ih =>
  intro hs u
  obtain ⟨k', li', co', n', m', ks', rfl⟩ := pt_mk u
  unfold smallPt at hs
  have hc := alikeV_sP ks ks' hs.2.1 sameP (fun a ha b _ => ih a ha (smallPts_mem hs.2.2 a ha) b)
  rw [← ptPs_mp, ← ptPs_mp, ← samePs_l] at hc
  refine a153 _ _ _ _ _ _ _ _ _ _ _ _ _ ?_
  unfold p153 sameP
  rw [beq_int, beq_str, beq_int]
  refine br_i (fun h1 => ?_) (fun h1 => ⟨by rw [h1]; rfl, rfl⟩)
  refine br_i (fun h2 => ?_) (fun h2 => ⟨by rw [h1, h2]; rfl, rfl⟩)
  refine br_i (fun h3 => ?_) (fun h3 => ⟨by rw [h1, h2, h3]; rfl, rfl⟩)
  exact ⟨_, call_p (enters_of Tryz.func193 (by kernel_rfl) rfl) hc rfl ⟨by rw [h1, h2, h3]; rfl, rfl⟩⟩
theorem same_arm (a c : Pt × Ex) (h1 : PCalls Tryz.prog 153 [.agg (ptP a.1), .agg (ptP c.1)] (fun r => r = .con (.bool (sameP a.1 c.1)))) (h2 : PCalls Tryz.prog 28 [.agg (exP a.2), .agg (exP c.2)] (fun r => r = .con (.bool (sameE a.2 c.2)))) : PCalls Tryz.prog 77 [.agg (amP a), .agg (amP c)] (fun r => r = .con (.bool (sameP a.1 c.1 && sameE a.2 c.2))) := by
  obtain ⟨B1, e1⟩ : ∃ x, sameP a.1 c.1 = x := ⟨_, rfl⟩
  obtain ⟨B2, e2⟩ : ∃ x, sameE a.2 c.2 = x := ⟨_, rfl⟩
  rw [e1] at h1
  rw [e2] at h2
  rw [e1, e2]
  clear e1 e2
  obtain ⟨⟨k, li, co, n, m, ks⟩, ⟨k2, li2, co2, m2, b2, n2, ks2, ps2, bs2⟩⟩ := a
  obtain ⟨⟨k', li', co', n', m', ks'⟩, ⟨k2', li2', co2', m2', b2', n2', ks2', ps2', bs2'⟩⟩ := c
  refine a77 _ _ _ _ _ _ _ _ _ _ _ _ _ _ _ _ _ _ _ _ _ _ _ _ _ _ _ _ _ ?_
  unfold p77
  refine ⟨_, call_p (enters_of Tryz.func153 (by kernel_rfl) rfl) h1 rfl ?_⟩
  refine br_i (fun h => ⟨_, call_p (enters_of Tryz.func28 (by kernel_rfl) rfl) h2 rfl ⟨by rw [h]; rfl, rfl⟩⟩) (fun h => ⟨by rw [h]; rfl, rfl⟩)
theorem same_ex (t : Ex) : smallEx t → wfEx t → ∀ u : Ex, wfEx u → PCalls Tryz.prog 28 [.agg (exP t), .agg (exP u)] (fun r => r = .con (.bool (sameE t u))) := by
  induction t using Ex.indM with
  | h k li co m b n ks ps bs ihk ihb =>
  intro hs hw u hwu
  obtain ⟨k', li', co', m', b', n', ks', ps', bs', rfl⟩ := ex_mk u
  unfold smallEx at hs
  unfold wfEx at hw hwu
  obtain ⟨hsb, hsn, hsk, hsp, hsbs, hsks, hsps, hsbb⟩ := hs
  obtain ⟨hpl, hwk, hwb⟩ := hw
  obtain ⟨hpl', hwk', hwb'⟩ := hwu
  have hk := alikeV_sE ks ks' hsk sameE (fun a ha c hc => ihk a ha (smallExs_mem hsks a ha) (wfExs_mem hwk a ha) c (wfExs_mem hwk' c hc))
  rw [← exPs_mp, ← exPs_mp, ← sameEs_l] at hk
  have ha := alikeV_sA (ps.zip bs) (ps'.zip bs') (by rw [List.length_zip]; omega) (fun a c => sameP a.1 c.1 && sameE a.2 c.2) (fun a ha c hc => by
    obtain ⟨p, e⟩ := a
    obtain ⟨p', e'⟩ := c
    obtain ⟨q1, q2⟩ := List.of_mem_zip ha
    obtain ⟨q3, q4⟩ := List.of_mem_zip hc
    exact same_arm (p, e) (p', e') (same_pt p (smallPts_mem hsps p q1) p') (ihb e q2 (smallExs_mem hsbb e q2) (wfExs_mem hwb e q2) e' (wfExs_mem hwb' e' q4)))
  rw [arms_same ps ps' bs bs' hpl hpl', ← arPs_mp, ← arPs_mp] at ha
  unfold sameE
  obtain ⟨B1, e1⟩ : ∃ x, sameEs ks ks' = x := ⟨_, rfl⟩
  obtain ⟨B2, e2⟩ : ∃ x, (samePs ps ps' && sameEs bs bs') = x := ⟨_, rfl⟩
  rw [e1] at hk
  rw [e2] at ha
  rw [e1, e2]
  clear e1 e2
  refine a28 _ _ _ _ _ _ _ _ _ _ _ _ _ _ _ _ _ ?_
  unfold p28
  rw [beq_int, beq_int, beq_str]
  refine br_i (fun h1 => ?_) (fun h1 => ⟨by rw [h1]; rfl, rfl⟩)
  refine br_i (fun h2 => ?_) (fun h2 => ⟨by rw [h1, h2]; rfl, rfl⟩)
  refine br_i (fun h3 => ?_) (fun h3 => ⟨by simp [h1, h2, h3], rfl⟩)
  refine ⟨b, ⟨⟨5, by kernel_rfl, by kernel_rfl⟩, by kernel_rfl, rfl, ?_⟩⟩
  refine ⟨b', ⟨⟨5, by kernel_rfl, by kernel_rfl⟩, by kernel_rfl, rfl, ?_⟩⟩
  rw [beq_by]
  refine br_i (fun h4 => ?_) (fun h4 => ⟨by simp [h1, h2, h3, h4], rfl⟩)
  refine ⟨_, call_p (enters_of Tryz.func75 (by kernel_rfl) rfl) hk rfl ?_⟩
  refine br_i (fun h5 => ?_) (fun h5 => ⟨by rw [h5]; simp, rfl⟩)
  exact ⟨_, call_p (enters_of Tryz.func76 (by kernel_rfl) rfl) ha rfl ⟨by rw [h1, h2, h3, h4, h5]; simp, rfl⟩⟩
theorem same_con (a b : Co) (hs : smallCo a) : PCalls Tryz.prog 143 [.agg (coP a), .agg (coP b)] (fun r => r = .con (.bool (sameCo a b))) := by
  have hc := alikeV_sT a.fields b.fields hs.2.1 sameT (fun x hx y _ => same_ty x (smallTys_mem hs.2.2 x hx) y)
  rw [← tyPs_mp, ← tyPs_mp] at hc
  refine a143 _ _ _ _ _ ?_
  unfold p143 sameCo
  rw [beq_str]
  refine br_i (fun h1 => ?_) (fun h1 => ⟨by rw [h1]; rfl, rfl⟩)
  exact ⟨_, call_p (enters_of Tryz.func148 (by kernel_rfl) rfl) hc rfl ⟨by rw [h1]; rfl, rfl⟩⟩
theorem same_data (a b : Da) (hs : smallDa a) : PCalls Tryz.prog 69 [.agg (daP a), .agg (daP b)] (fun r => r = .con (.bool (sameDa a b))) := by
  have hc := alikeV_sC a.cons b.cons hs.2.1 sameCo (fun x hx y _ => same_con x y (hs.2.2 x hx))
  refine a69 _ _ _ _ _ _ _ _ _ ?_
  unfold p69 sameDa
  rw [beq_str]
  refine br_i (fun h1 => ?_) (fun h1 => ⟨by rw [h1]; rfl, rfl⟩)
  exact ⟨_, call_p (enters_of Tryz.func142 (by kernel_rfl) rfl) hc rfl ⟨by rw [h1]; rfl, rfl⟩⟩
theorem same_param (a b : Pa) (hs : smallPa a) : PCalls Tryz.prog 146 [.agg (paP a), .agg (paP b)] (fun r => r = .con (.bool (samePa a b))) := by
  have hc := same_ty a.ty hs.2 b.ty
  unfold samePa
  obtain ⟨an, at'⟩ := a
  obtain ⟨bn, bt⟩ := b
  dsimp only at hc ⊢
  obtain ⟨B1, e1⟩ : ∃ x, sameT at' bt = x := ⟨_, rfl⟩
  rw [e1] at hc ⊢
  clear e1
  obtain ⟨k, n, ps⟩ := at'
  obtain ⟨k', n', ps'⟩ := bt
  refine a146 _ _ _ _ _ _ _ _ _ ?_
  unfold p146
  rw [beq_str]
  refine br_i (fun h1 => ?_) (fun h1 => ⟨by rw [h1]; rfl, rfl⟩)
  exact ⟨_, call_p (enters_of Tryz.func74 (by kernel_rfl) rfl) hc rfl ⟨by rw [h1]; rfl, rfl⟩⟩
theorem same_fun (a b : Fu) (hs : smallFu a) (hw : wfEx a.body) (hwb : wfEx b.body) : PCalls Tryz.prog 71 [.agg (fuP a), .agg (fuP b)] (fun r => r = .con (.bool (sameFu a b))) := by
  have hc := alikeV_sQ a.params b.params hs.2.1 samePa (fun x hx y _ => same_param x y (hs.2.2.1 x hx))
  have ht := same_ty a.result hs.2.2.2.1 b.result
  have he := same_ex a.body hs.2.2.2.2 hw b.body hwb
  unfold sameFu
  obtain ⟨al, ac, an, ap, ar, ab⟩ := a
  obtain ⟨bl, bc, bn, bp, br', bb⟩ := b
  dsimp only at hc ht he ⊢
  obtain ⟨B1, e1⟩ : ∃ x, sameT ar br' = x := ⟨_, rfl⟩
  obtain ⟨B2, e2⟩ : ∃ x, sameE ab bb = x := ⟨_, rfl⟩
  obtain ⟨B3, e3⟩ : ∃ x, alikeL samePa ap bp = x := ⟨_, rfl⟩
  rw [e1] at ht
  rw [e2] at he
  rw [e3] at hc
  rw [e1, e2, e3]
  clear e1 e2 e3
  obtain ⟨k, n, ps⟩ := ar
  obtain ⟨k', n', ps'⟩ := br'
  obtain ⟨k2, li2, co2, m2, b2, n2, ks2, ps2, bs2⟩ := ab
  obtain ⟨k2', li2', co2', m2', b2', n2', ks2', ps2', bs2'⟩ := bb
  refine a71 _ _ _ _ _ _ _ _ _ _ _ _ _ _ _ _ _ _ _ _ _ _ _ _ _ _ _ _ _ _ _ ?_
  unfold p71
  rw [beq_str]
  refine br_i (fun h1 => ?_) (fun h1 => ⟨by rw [h1]; rfl, rfl⟩)
  refine ⟨_, call_p (enters_of Tryz.func145 (by kernel_rfl) rfl) hc rfl ?_⟩
  refine br_i (fun h2 => ?_) (fun h2 => ⟨by rw [h1, h2]; rfl, rfl⟩)
  refine ⟨_, call_p (enters_of Tryz.func74 (by kernel_rfl) rfl) ht rfl ?_⟩
  refine br_i (fun h3 => ?_) (fun h3 => ⟨by rw [h1, h2, h3]; rfl, rfl⟩)
  exact ⟨_, call_p (enters_of Tryz.func28 (by kernel_rfl) rfl) he rfl ⟨by rw [h1, h2, h3]; rfl, rfl⟩⟩
theorem same_hand (a b : Ha) (hs : smallHa a) (hw : wfEx a.body) (hwb : wfEx b.body) : PCalls Tryz.prog 73 [.agg (haP a), .agg (haP b)] (fun r => r = .con (.bool (sameHa a b))) := by
  have ht := same_param a.param b.param hs.2.1
  have he := same_ex a.body hs.2.2 hw b.body hwb
  unfold sameHa
  obtain ⟨al, ac, an, ap, acap, ab⟩ := a
  obtain ⟨bl, bc, bn, bp, bcap, bb⟩ := b
  dsimp only at ht he ⊢
  obtain ⟨B1, e1⟩ : ∃ x, samePa ap bp = x := ⟨_, rfl⟩
  obtain ⟨B2, e2⟩ : ∃ x, sameE ab bb = x := ⟨_, rfl⟩
  rw [e1] at ht
  rw [e2] at he
  rw [e1, e2]
  clear e1 e2
  obtain ⟨pn, ⟨k, n, ps⟩⟩ := ap
  obtain ⟨pn', ⟨k', n', ps'⟩⟩ := bp
  obtain ⟨k2, li2, co2, m2, b2, n2, ks2, ps2, bs2⟩ := ab
  obtain ⟨k2', li2', co2', m2', b2', n2', ks2', ps2', bs2'⟩ := bb
  refine a73 _ _ _ _ _ _ _ _ _ _ _ _ _ _ _ _ _ _ _ _ _ _ _ _ _ _ _ _ _ _ _ _ _ ?_
  unfold p73
  rw [beq_str, beq_int]
  refine br_i (fun h1 => ?_) (fun h1 => ⟨by rw [h1]; rfl, rfl⟩)
  refine br_i (fun h2 => ?_) (fun h2 => ⟨by rw [h1, h2]; rfl, rfl⟩)
  refine ⟨_, call_p (enters_of Tryz.func146 (by kernel_rfl) rfl) ht rfl ?_⟩
  refine br_i (fun h3 => ?_) (fun h3 => ⟨by rw [h1, h2, h3]; rfl, rfl⟩)
  exact ⟨_, call_p (enters_of Tryz.func28 (by kernel_rfl) rfl) he rfl ⟨by rw [h1, h2, h3]; rfl, rfl⟩⟩
theorem same_prog (a b : Pr) (hs : smallPr a) (hw : wfPr a) (hwb : wfPr b) : PCalls Tryz.prog 27 [.agg (prP a), .agg (prP b)] (fun r => r = .con (.bool (samePr a b))) := by
  obtain ⟨s1, s2, s3, s4, s5, s6, s7, s8⟩ := hs
  have hD := alikeV_sD a.datas b.datas s1 sameDa (fun x hx y _ => same_data x y (s2 x hx))
  have hF := alikeV_sF a.funs b.funs s3 sameFu (fun x hx y hy => same_fun x y (s4 x hx) (hw.1 x hx) (hwb.1 y hy))
  have hH := alikeV_sH a.hands b.hands s5 sameHa (fun x hx y hy => same_hand x y (s6 x hx) (hw.2.1 x hx) (hwb.2.1 y hy))
  have ht := same_ty a.state s7 b.state
  have he := same_ex a.init s8 hw.2.2 b.init hwb.2.2
  unfold samePr
  obtain ⟨a1, a2, a3, a4, a5, a6, a7, a8⟩ := a
  obtain ⟨b1, b2, b3, b4, b5, b6, b7, b8⟩ := b
  dsimp only at hD hF hH ht he ⊢
  obtain ⟨B1, e1⟩ : ∃ x, sameT a5 b5 = x := ⟨_, rfl⟩
  obtain ⟨B2, e2⟩ : ∃ x, sameE a7 b7 = x := ⟨_, rfl⟩
  obtain ⟨B3, e3⟩ : ∃ x, alikeL sameDa a1 b1 = x := ⟨_, rfl⟩
  obtain ⟨B4, e4⟩ : ∃ x, alikeL sameFu a2 b2 = x := ⟨_, rfl⟩
  obtain ⟨B5, e5⟩ : ∃ x, alikeL sameHa a8 b8 = x := ⟨_, rfl⟩
  rw [e1] at ht
  rw [e2] at he
  rw [e3] at hD
  rw [e4] at hF
  rw [e5] at hH
  rw [e1, e2, e3, e4, e5]
  clear e1 e2 e3 e4 e5 s1 s2 s3 s4 s5 s6 s7 s8 hw hwb
  obtain ⟨k, n, ps⟩ := a5
  obtain ⟨k', n', ps'⟩ := b5
  obtain ⟨k2, li2, co2, m2, b2', n2, ks2, ps2, bs2⟩ := a7
  obtain ⟨k2', li2', co2', m2', b2'', n2', ks2', ps2', bs2'⟩ := b7
  refine a27 _ _ _ _ _ _ _ _ _ _ _ _ _ _ _ _ _ _ _ _ _ _ _ _ _ _ _ _ _ _ _ _ _ _ _ ?_
  unfold p27
  rw [beq_int, beq_int, beq_int]
  refine br_i (fun h1 => ?_) (fun h1 => ⟨by rw [h1]; rfl, rfl⟩)
  refine br_i (fun h2 => ?_) (fun h2 => ⟨by rw [h1, h2]; rfl, rfl⟩)
  refine br_i (fun h3 => ?_) (fun h3 => ⟨by rw [h1, h2, h3]; rfl, rfl⟩)
  rw [h1, h2, h3, Bool.true_and, Bool.true_and, Bool.true_and]
  refine ⟨_, call_p (enters_of Tryz.func68 (by kernel_rfl) rfl) hD rfl ?_⟩
  refine br_i (fun h4 => ?_) (fun h4 => ⟨by rw [h4]; rfl, rfl⟩)
  refine ⟨_, call_p (enters_of Tryz.func70 (by kernel_rfl) rfl) hF rfl ?_⟩
  refine br_i (fun h5 => ?_) (fun h5 => ⟨by rw [h4, h5]; rfl, rfl⟩)
  refine ⟨_, call_p (enters_of Tryz.func72 (by kernel_rfl) rfl) hH rfl ?_⟩
  refine br_i (fun h6 => ?_) (fun h6 => ⟨by rw [h4, h5, h6]; rfl, rfl⟩)
  refine ⟨_, call_p (enters_of Tryz.func74 (by kernel_rfl) rfl) ht rfl ?_⟩
  refine br_i (fun h7 => ?_) (fun h7 => ⟨by rw [h4, h5, h6, h7]; rfl, rfl⟩)
  exact ⟨_, call_p (enters_of Tryz.func28 (by kernel_rfl) rfl) he rfl ⟨by rw [h4, h5, h6, h7]; rfl, rfl⟩⟩
end Go.Proofs.YtcmnjodjebcapaaGreat.Deep

namespace Go.Proofs.YtcmnjodjebcapaaGreat.Deep
open Go.RowKit
set_option linter.unusedVariables false
def loops64 (id : Nat) : Option (List Nat × List (Nat × Sh)) := match Nat.beq id 4 with | true => some ([2, 3], [(5, .int .i64)]) | false => none
def p64 (i1 : Int) (s2 : ByteArray) (l3 : List (List PV)) (i4 : Int) (s5 : ByteArray) (l6 : List (List PV)) (Q : PV → Heap → Prop) : Prop :=
br (((i1 : Int) != i4))
  (Q (.con (.bool false)) [[i1, s2, l3], [i4, s5, l6]])
  (br ((!(ByteArray.toList s2 == ByteArray.toList s5)))
  (Q (.con (.bool false)) [[i1, s2, l3], [i4, s5, l6]])
  (br ((((List.length l3 : Int) : Int) != (List.length l6 : Int)))
  (Q (.con (.bool false)) [[i1, s2, l3], [i4, s5, l6]])
  (∃ I7 : Nat → ((Int) × Unit) → Prop, (∃ n, I7 n (0, ())) ∧ ∀ (n8 : Nat) (v9 : (Int) × Unit), I7 n8 v9 →
  (br ((decide ((v9.1 : Int) < (List.length l3 : Int))))
  (∃ i10 : Int, ∃ s11 : ByteArray, ∃ l12 : List (List PV), IdxN l3 v9.1 [i10, s11, l12]
  (∃ i13 : Int, ∃ s14 : ByteArray, ∃ l15 : List (List PV), IdxN l6 v9.1 [i13, s14, l15]
  (∃ b16 : Bool, CallN Tryz.prog 64 [(.agg [i10, s11, l12]), (.agg [i13, s14, l15])] [[i1, s2, l3], [i4, s5, l6]] b16
  (br ((!b16))
  (Q (.con (.bool false)) [[i1, s2, l3], [i4, s5, l6]])
  ((@Eq PV (.ptr 0 0) (.ptr 0 0) ∧ @Eq PV (.ptr 1 0) (.ptr 1 0) ∧ True) ∧ @Eq Heap [[i1, s2, l3], [i4, s5, l6]] [[i1, s2, l3], [i4, s5, l6]] ∧ ∃ k17, k17 < n8 ∧ I7 k17 ((IntKind.wrap .i64 (v9.1 + 1)), ()))))))
  (Q (.con (.bool true)) [[i1, s2, l3], [i4, s5, l6]])))))
theorem a64 (i1 : Int) (s2 : ByteArray) (l3 : List (List PV)) (i4 : Int) (s5 : ByteArray) (l6 : List (List PV)) (Q : PV → Heap → Prop) (h : p64 i1 s2 l3 i4 s5 l6 Q) : ACalls Tryz.prog 64 [(.agg [i1, s2, l3]), (.agg [i4, s5, l6])] [] Q := by
  have hb : Option.some (bodyOf Tryz.f64) = Tryz.f64.body := by kernel_rfl
  exact acalls_eq (S := S) (L := loops64) mixed tok Tryz.func64 hb.symm (by kernel_rfl) h
def loops78 (id : Nat) : Option (List Nat × List (Nat × Sh)) := match Nat.beq id 4 with | true => some ([2, 3], [(5, .int .i64)]) | false => none
def p78 (i1 i2 i3 : Int) (s4 : ByteArray) (i5 : Int) (l6 : List (List PV)) (i7 i8 i9 : Int) (s10 : ByteArray) (i11 : Int) (l12 : List (List PV)) (Q : PV → Heap → Prop) : Prop :=
br (((i1 : Int) != i7))
  (Q (.con (.bool false)) [[i1, i2, i3, s4, i5, l6], [i7, i8, i9, s10, i11, l12]])
  (br ((!(ByteArray.toList s4 == ByteArray.toList s10)))
  (Q (.con (.bool false)) [[i1, i2, i3, s4, i5, l6], [i7, i8, i9, s10, i11, l12]])
  (br (((i5 : Int) != i11))
  (Q (.con (.bool false)) [[i1, i2, i3, s4, i5, l6], [i7, i8, i9, s10, i11, l12]])
  (br ((((List.length l6 : Int) : Int) != (List.length l12 : Int)))
  (Q (.con (.bool false)) [[i1, i2, i3, s4, i5, l6], [i7, i8, i9, s10, i11, l12]])
  (∃ I13 : Nat → ((Int) × Unit) → Prop, (∃ n, I13 n (0, ())) ∧ ∀ (n14 : Nat) (v15 : (Int) × Unit), I13 n14 v15 →
  (br ((decide ((v15.1 : Int) < (List.length l6 : Int))))
  (∃ i16 : Int, ∃ i17 : Int, ∃ i18 : Int, ∃ s19 : ByteArray, ∃ i20 : Int, ∃ l21 : List (List PV), IdxN l6 v15.1 [i16, i17, i18, s19, i20, l21]
  (∃ i22 : Int, ∃ i23 : Int, ∃ i24 : Int, ∃ s25 : ByteArray, ∃ i26 : Int, ∃ l27 : List (List PV), IdxN l12 v15.1 [i22, i23, i24, s25, i26, l27]
  (∃ b28 : Bool, CallN Tryz.prog 78 [(.agg [i16, i17, i18, s19, i20, l21]), (.agg [i22, i23, i24, s25, i26, l27])] [[i1, i2, i3, s4, i5, l6], [i7, i8, i9, s10, i11, l12]] b28
  (br ((!b28))
  (Q (.con (.bool false)) [[i1, i2, i3, s4, i5, l6], [i7, i8, i9, s10, i11, l12]])
  ((@Eq PV (.ptr 0 0) (.ptr 0 0) ∧ @Eq PV (.ptr 1 0) (.ptr 1 0) ∧ True) ∧ @Eq Heap [[i1, i2, i3, s4, i5, l6], [i7, i8, i9, s10, i11, l12]] [[i1, i2, i3, s4, i5, l6], [i7, i8, i9, s10, i11, l12]] ∧ ∃ k29, k29 < n14 ∧ I13 k29 ((IntKind.wrap .i64 (v15.1 + 1)), ()))))))
  (Q (.con (.bool true)) [[i1, i2, i3, s4, i5, l6], [i7, i8, i9, s10, i11, l12]]))))))
theorem a78 (i1 i2 i3 : Int) (s4 : ByteArray) (i5 : Int) (l6 : List (List PV)) (i7 i8 i9 : Int) (s10 : ByteArray) (i11 : Int) (l12 : List (List PV)) (Q : PV → Heap → Prop) (h : p78 i1 i2 i3 s4 i5 l6 i7 i8 i9 s10 i11 l12 Q) : ACalls Tryz.prog 78 [(.agg [i1, i2, i3, s4, i5, l6]), (.agg [i7, i8, i9, s10, i11, l12])] [] Q := by
  have hb : Option.some (bodyOf Tryz.f78) = Tryz.f78.body := by kernel_rfl
  exact acalls_eq (S := S) (L := loops78) mixed tok Tryz.func78 hb.symm (by kernel_rfl) h
def loops29 (id : Nat) : Option (List Nat × List (Nat × Sh)) := match Nat.beq id 9 with | true => some ([2, 3], [(6, .int .i64)]) | false => match Nat.beq id 4 with | true => some ([2, 3], [(5, .int .i64)]) | false => none
def p29 (i1 i2 i3 i4 : Int) (l5 : List (List PV)) (s6 : ByteArray) (l7 l8 : List (List PV)) (i9 i10 i11 i12 : Int) (l13 : List (List PV)) (s14 : ByteArray) (l15 l16 : List (List PV)) (Q : PV → Heap → Prop) : Prop :=
br (((i1 : Int) != i9))
  (Q (.con (.bool false)) [[i1, i2, i3, i4, l5, s6, l7, l8], [i9, i10, i11, i12, l13, s14, l15, l16]])
  (br (((i4 : Int) != i12))
  (Q (.con (.bool false)) [[i1, i2, i3, i4, l5, s6, l7, l8], [i9, i10, i11, i12, l13, s14, l15, l16]])
  (∃ y17 : List UInt8, BytesN Tryz.prog 29 9 l5 y17
  (∃ y18 : List UInt8, BytesN Tryz.prog 29 9 l13 y18
  (br ((!(ByteArray.toList ⟨List.toArray y17⟩ == ByteArray.toList ⟨List.toArray y18⟩)))
  (Q (.con (.bool false)) [[i1, i2, i3, i4, l5, s6, l7, l8], [i9, i10, i11, i12, l13, s14, l15, l16]])
  (br ((!(ByteArray.toList s6 == ByteArray.toList s14)))
  (Q (.con (.bool false)) [[i1, i2, i3, i4, l5, s6, l7, l8], [i9, i10, i11, i12, l13, s14, l15, l16]])
  (br ((((List.length l7 : Int) : Int) != (List.length l15 : Int)))
  (Q (.con (.bool false)) [[i1, i2, i3, i4, l5, s6, l7, l8], [i9, i10, i11, i12, l13, s14, l15, l16]])
  (br ((((List.length l8 : Int) : Int) != (List.length l16 : Int)))
  (Q (.con (.bool false)) [[i1, i2, i3, i4, l5, s6, l7, l8], [i9, i10, i11, i12, l13, s14, l15, l16]])
  (∃ I19 : Nat → ((Int) × Unit) → Prop, (∃ n, I19 n (0, ())) ∧ ∀ (n20 : Nat) (v21 : (Int) × Unit), I19 n20 v21 →
  (br ((decide ((v21.1 : Int) < (List.length l7 : Int))))
  (∃ i22 : Int, ∃ i23 : Int, ∃ i24 : Int, ∃ i25 : Int, ∃ l26 : List (List PV), ∃ s27 : ByteArray, ∃ l28 : List (List PV), ∃ l29 : List (List PV), IdxN l7 v21.1 [i22, i23, i24, i25, l26, s27, l28, l29]
  (∃ i30 : Int, ∃ i31 : Int, ∃ i32 : Int, ∃ i33 : Int, ∃ l34 : List (List PV), ∃ s35 : ByteArray, ∃ l36 : List (List PV), ∃ l37 : List (List PV), IdxN l15 v21.1 [i30, i31, i32, i33, l34, s35, l36, l37]
  (∃ b38 : Bool, CallN Tryz.prog 29 [(.agg [i22, i23, i24, i25, l26, s27, l28, l29]), (.agg [i30, i31, i32, i33, l34, s35, l36, l37])] [[i1, i2, i3, i4, l5, s6, l7, l8], [i9, i10, i11, i12, l13, s14, l15, l16]] b38
  (br ((!b38))
  (Q (.con (.bool false)) [[i1, i2, i3, i4, l5, s6, l7, l8], [i9, i10, i11, i12, l13, s14, l15, l16]])
  ((@Eq PV (.ptr 0 0) (.ptr 0 0) ∧ @Eq PV (.ptr 1 0) (.ptr 1 0) ∧ True) ∧ @Eq Heap [[i1, i2, i3, i4, l5, s6, l7, l8], [i9, i10, i11, i12, l13, s14, l15, l16]] [[i1, i2, i3, i4, l5, s6, l7, l8], [i9, i10, i11, i12, l13, s14, l15, l16]] ∧ ∃ k39, k39 < n20 ∧ I19 k39 ((IntKind.wrap .i64 (v21.1 + 1)), ()))))))
  (∃ I40 : Nat → ((Int) × Unit) → Prop, (∃ n, I40 n (0, ())) ∧ ∀ (n41 : Nat) (v42 : (Int) × Unit), I40 n41 v42 →
  (br ((decide ((v42.1 : Int) < (List.length l8 : Int))))
  (∃ i43 : Int, ∃ i44 : Int, ∃ i45 : Int, ∃ s46 : ByteArray, ∃ i47 : Int, ∃ l48 : List (List PV), ∃ i49 : Int, ∃ i50 : Int, ∃ i51 : Int, ∃ i52 : Int, ∃ l53 : List (List PV), ∃ s54 : ByteArray, ∃ l55 : List (List PV), ∃ l56 : List (List PV), IdxN l8 v42.1 [i43, i44, i45, s46, i47, l48, i49, i50, i51, i52, l53, s54, l55, l56]
  (∃ i57 : Int, ∃ i58 : Int, ∃ i59 : Int, ∃ s60 : ByteArray, ∃ i61 : Int, ∃ l62 : List (List PV), ∃ i63 : Int, ∃ i64 : Int, ∃ i65 : Int, ∃ i66 : Int, ∃ l67 : List (List PV), ∃ s68 : ByteArray, ∃ l69 : List (List PV), ∃ l70 : List (List PV), IdxN l16 v42.1 [i57, i58, i59, s60, i61, l62, i63, i64, i65, i66, l67, s68, l69, l70]
  (∃ b71 : Bool, CallN Tryz.prog 78 [(.agg [i43, i44, i45, s46, i47, l48]), (.agg [i57, i58, i59, s60, i61, l62])] [] b71
  (br ((!b71))
  (Q (.con (.bool false)) [[i1, i2, i3, i4, l5, s6, l7, l8], [i9, i10, i11, i12, l13, s14, l15, l16]])
  (∃ i72 : Int, ∃ i73 : Int, ∃ i74 : Int, ∃ s75 : ByteArray, ∃ i76 : Int, ∃ l77 : List (List PV), ∃ i78 : Int, ∃ i79 : Int, ∃ i80 : Int, ∃ i81 : Int, ∃ l82 : List (List PV), ∃ s83 : ByteArray, ∃ l84 : List (List PV), ∃ l85 : List (List PV), IdxN l8 v42.1 [i72, i73, i74, s75, i76, l77, i78, i79, i80, i81, l82, s83, l84, l85]
  (∃ i86 : Int, ∃ i87 : Int, ∃ i88 : Int, ∃ s89 : ByteArray, ∃ i90 : Int, ∃ l91 : List (List PV), ∃ i92 : Int, ∃ i93 : Int, ∃ i94 : Int, ∃ i95 : Int, ∃ l96 : List (List PV), ∃ s97 : ByteArray, ∃ l98 : List (List PV), ∃ l99 : List (List PV), IdxN l16 v42.1 [i86, i87, i88, s89, i90, l91, i92, i93, i94, i95, l96, s97, l98, l99]
  (∃ b100 : Bool, CallN Tryz.prog 29 [(.agg [i78, i79, i80, i81, l82, s83, l84, l85]), (.agg [i92, i93, i94, i95, l96, s97, l98, l99])] [] b100
  (br ((!b100))
  (Q (.con (.bool false)) [[i1, i2, i3, i4, l5, s6, l7, l8], [i9, i10, i11, i12, l13, s14, l15, l16]])
  ((@Eq PV (.ptr 0 0) (.ptr 0 0) ∧ @Eq PV (.ptr 1 0) (.ptr 1 0) ∧ True) ∧ @Eq Heap [[i1, i2, i3, i4, l5, s6, l7, l8], [i9, i10, i11, i12, l13, s14, l15, l16]] [[i1, i2, i3, i4, l5, s6, l7, l8], [i9, i10, i11, i12, l13, s14, l15, l16]] ∧ ∃ k101, k101 < n41 ∧ I40 k101 ((IntKind.wrap .i64 (v42.1 + 1)), ()))))))))))
  (Q (.con (.bool true)) [[i1, i2, i3, i4, l5, s6, l7, l8], [i9, i10, i11, i12, l13, s14, l15, l16]]))))))))))))
theorem a29 (i1 i2 i3 i4 : Int) (l5 : List (List PV)) (s6 : ByteArray) (l7 l8 : List (List PV)) (i9 i10 i11 i12 : Int) (l13 : List (List PV)) (s14 : ByteArray) (l15 l16 : List (List PV)) (Q : PV → Heap → Prop) (h : p29 i1 i2 i3 i4 l5 s6 l7 l8 i9 i10 i11 i12 l13 s14 l15 l16 Q) : ACalls Tryz.prog 29 [(.agg [i1, i2, i3, i4, l5, s6, l7, l8]), (.agg [i9, i10, i11, i12, l13, s14, l15, l16])] [] Q := by
  have hb : Option.some (bodyOf Tryz.f29) = Tryz.f29.body := by kernel_rfl
  exact acalls_eq (S := S) (L := loops29) mixed tok Tryz.func29 hb.symm (by kernel_rfl) h
def loops65 (id : Nat) : Option (List Nat × List (Nat × Sh)) := match Nat.beq id 4 with | true => some ([2, 3], [(5, .int .i64)]) | false => none
def p65 (i1 i2 : Int) (s3 : ByteArray) (l4 : List (List PV)) (i5 i6 : Int) (s7 : ByteArray) (l8 : List (List PV)) (Q : PV → Heap → Prop) : Prop :=
br ((!(ByteArray.toList s3 == ByteArray.toList s7)))
  (Q (.con (.bool false)) [[i1, i2, s3, l4], [i5, i6, s7, l8]])
  (br ((((List.length l4 : Int) : Int) != (List.length l8 : Int)))
  (Q (.con (.bool false)) [[i1, i2, s3, l4], [i5, i6, s7, l8]])
  (∃ I9 : Nat → ((Int) × Unit) → Prop, (∃ n, I9 n (0, ())) ∧ ∀ (n10 : Nat) (v11 : (Int) × Unit), I9 n10 v11 →
  (br ((decide ((v11.1 : Int) < (List.length l4 : Int))))
  (∃ s12 : ByteArray, ∃ l13 : List (List PV), IdxN l4 v11.1 [s12, l13]
  (∃ s14 : ByteArray, ∃ l15 : List (List PV), IdxN l4 v11.1 [s14, l15]
  (∃ s16 : ByteArray, ∃ l17 : List (List PV), IdxN l8 v11.1 [s16, l17]
  (∃ s18 : ByteArray, ∃ l19 : List (List PV), IdxN l8 v11.1 [s18, l19]
  (∃ b20 : Bool, CallN Tryz.prog 64 [(.agg [(.con (.int .i64 0)), s12, l15]), (.agg [(.con (.int .i64 0)), s16, l19])] [[i1, i2, s3, l4], [i5, i6, s7, l8], [(.con (.int .i64 0)), s12, l15], [(.con (.int .i64 0)), s16, l19]] b20
  (br ((!b20))
  (Q (.con (.bool false)) [[i1, i2, s3, l4], [i5, i6, s7, l8], [(.con (.int .i64 0)), s12, l15], [(.con (.int .i64 0)), s16, l19]])
  ((@Eq PV (.ptr 0 0) (.ptr 0 0) ∧ @Eq PV (.ptr 1 0) (.ptr 1 0) ∧ True) ∧ @Eq Heap [[i1, i2, s3, l4], [i5, i6, s7, l8]] [[i1, i2, s3, l4], [i5, i6, s7, l8]] ∧ ∃ k21, k21 < n10 ∧ I9 k21 ((IntKind.wrap .i64 (v11.1 + 1)), ()))))))))
  (Q (.con (.bool true)) [[i1, i2, s3, l4], [i5, i6, s7, l8]]))))
theorem a65 (i1 i2 : Int) (s3 : ByteArray) (l4 : List (List PV)) (i5 i6 : Int) (s7 : ByteArray) (l8 : List (List PV)) (Q : PV → Heap → Prop) (h : p65 i1 i2 s3 l4 i5 i6 s7 l8 Q) : ACalls Tryz.prog 65 [(.agg [i1, i2, s3, l4]), (.agg [i5, i6, s7, l8])] [] Q := by
  have hb : Option.some (bodyOf Tryz.f65) = Tryz.f65.body := by kernel_rfl
  exact acalls_eq (S := S) (L := loops65) mixed tok Tryz.func65 hb.symm (by kernel_rfl) h
def loops66 (id : Nat) : Option (List Nat × List (Nat × Sh)) := match Nat.beq id 4 with | true => some ([2, 3], [(5, .int .i64)]) | false => none
def p66 (i1 i2 : Int) (s3 : ByteArray) (l4 : List (List PV)) (i5 : Int) (s6 : ByteArray) (l7 : List (List PV)) (i8 i9 i10 i11 : Int) (l12 : List (List PV)) (s13 : ByteArray) (l14 l15 : List (List PV)) (i16 i17 : Int) (s18 : ByteArray) (l19 : List (List PV)) (i20 : Int) (s21 : ByteArray) (l22 : List (List PV)) (i23 i24 i25 i26 : Int) (l27 : List (List PV)) (s28 : ByteArray) (l29 l30 : List (List PV)) (Q : PV → Heap → Prop) : Prop :=
br ((!(ByteArray.toList s3 == ByteArray.toList s18)))
  (Q (.con (.bool false)) [[i1, i2, s3, l4, i5, s6, l7, i8, i9, i10, i11, l12, s13, l14, l15], [i16, i17, s18, l19, i20, s21, l22, i23, i24, i25, i26, l27, s28, l29, l30]])
  (br ((((List.length l4 : Int) : Int) != (List.length l19 : Int)))
  (Q (.con (.bool false)) [[i1, i2, s3, l4, i5, s6, l7, i8, i9, i10, i11, l12, s13, l14, l15], [i16, i17, s18, l19, i20, s21, l22, i23, i24, i25, i26, l27, s28, l29, l30]])
  (∃ b31 : Bool, CallN Tryz.prog 64 [(.agg [i5, s6, l7]), (.agg [i20, s21, l22])] [[i1, i2, s3, l4, i5, s6, l7, i8, i9, i10, i11, l12, s13, l14, l15], [i16, i17, s18, l19, i20, s21, l22, i23, i24, i25, i26, l27, s28, l29, l30]] b31
  (br ((!b31))
  (Q (.con (.bool false)) [[i1, i2, s3, l4, i5, s6, l7, i8, i9, i10, i11, l12, s13, l14, l15], [i16, i17, s18, l19, i20, s21, l22, i23, i24, i25, i26, l27, s28, l29, l30]])
  (∃ b32 : Bool, CallN Tryz.prog 29 [(.agg [i8, i9, i10, i11, l12, s13, l14, l15]), (.agg [i23, i24, i25, i26, l27, s28, l29, l30])] [[i1, i2, s3, l4, i5, s6, l7, i8, i9, i10, i11, l12, s13, l14, l15], [i16, i17, s18, l19, i20, s21, l22, i23, i24, i25, i26, l27, s28, l29, l30]] b32
  (br ((!b32))
  (Q (.con (.bool false)) [[i1, i2, s3, l4, i5, s6, l7, i8, i9, i10, i11, l12, s13, l14, l15], [i16, i17, s18, l19, i20, s21, l22, i23, i24, i25, i26, l27, s28, l29, l30]])
  (∃ I33 : Nat → ((Int) × Unit) → Prop, (∃ n, I33 n (0, ())) ∧ ∀ (n34 : Nat) (v35 : (Int) × Unit), I33 n34 v35 →
  (br ((decide ((v35.1 : Int) < (List.length l4 : Int))))
  (∃ s36 : ByteArray, ∃ i37 : Int, ∃ s38 : ByteArray, ∃ l39 : List (List PV), IdxN l4 v35.1 [s36, i37, s38, l39]
  (∃ s40 : ByteArray, ∃ i41 : Int, ∃ s42 : ByteArray, ∃ l43 : List (List PV), IdxN l19 v35.1 [s40, i41, s42, l43]
  (∃ b44 : Bool, CallN Tryz.prog 67 [(.agg [s36, i37, s38, l39]), (.agg [s40, i41, s42, l43])] [[i1, i2, s3, l4, i5, s6, l7, i8, i9, i10, i11, l12, s13, l14, l15], [i16, i17, s18, l19, i20, s21, l22, i23, i24, i25, i26, l27, s28, l29, l30]] b44
  (br ((!b44))
  (Q (.con (.bool false)) [[i1, i2, s3, l4, i5, s6, l7, i8, i9, i10, i11, l12, s13, l14, l15], [i16, i17, s18, l19, i20, s21, l22, i23, i24, i25, i26, l27, s28, l29, l30]])
  ((@Eq PV (.ptr 0 0) (.ptr 0 0) ∧ @Eq PV (.ptr 1 0) (.ptr 1 0) ∧ True) ∧ @Eq Heap [[i1, i2, s3, l4, i5, s6, l7, i8, i9, i10, i11, l12, s13, l14, l15], [i16, i17, s18, l19, i20, s21, l22, i23, i24, i25, i26, l27, s28, l29, l30]] [[i1, i2, s3, l4, i5, s6, l7, i8, i9, i10, i11, l12, s13, l14, l15], [i16, i17, s18, l19, i20, s21, l22, i23, i24, i25, i26, l27, s28, l29, l30]] ∧ ∃ k45, k45 < n34 ∧ I33 k45 ((IntKind.wrap .i64 (v35.1 + 1)), ()))))))
  (Q (.con (.bool true)) [[i1, i2, s3, l4, i5, s6, l7, i8, i9, i10, i11, l12, s13, l14, l15], [i16, i17, s18, l19, i20, s21, l22, i23, i24, i25, i26, l27, s28, l29, l30]]))))))))
theorem a66 (i1 i2 : Int) (s3 : ByteArray) (l4 : List (List PV)) (i5 : Int) (s6 : ByteArray) (l7 : List (List PV)) (i8 i9 i10 i11 : Int) (l12 : List (List PV)) (s13 : ByteArray) (l14 l15 : List (List PV)) (i16 i17 : Int) (s18 : ByteArray) (l19 : List (List PV)) (i20 : Int) (s21 : ByteArray) (l22 : List (List PV)) (i23 i24 i25 i26 : Int) (l27 : List (List PV)) (s28 : ByteArray) (l29 l30 : List (List PV)) (Q : PV → Heap → Prop) (h : p66 i1 i2 s3 l4 i5 s6 l7 i8 i9 i10 i11 l12 s13 l14 l15 i16 i17 s18 l19 i20 s21 l22 i23 i24 i25 i26 l27 s28 l29 l30 Q) : ACalls Tryz.prog 66 [(.agg [i1, i2, s3, l4, i5, s6, l7, i8, i9, i10, i11, l12, s13, l14, l15]), (.agg [i16, i17, s18, l19, i20, s21, l22, i23, i24, i25, i26, l27, s28, l29, l30])] [] Q := by
  have hb : Option.some (bodyOf Tryz.f66) = Tryz.f66.body := by kernel_rfl
  exact acalls_eq (S := S) (L := loops66) mixed tok Tryz.func66 hb.symm (by kernel_rfl) h
def p67 (s1 : ByteArray) (i2 : Int) (s3 : ByteArray) (l4 : List (List PV)) (s5 : ByteArray) (i6 : Int) (s7 : ByteArray) (l8 : List (List PV)) (Q : PV → Heap → Prop) : Prop :=
br ((ByteArray.toList s1 == ByteArray.toList s5))
  (∃ b9 : Bool, CallN Tryz.prog 64 [(.agg [i2, s3, l4]), (.agg [i6, s7, l8])] [[s1, i2, s3, l4], [s5, i6, s7, l8]] b9
  (Q b9 [[s1, i2, s3, l4], [s5, i6, s7, l8]]))
  (Q (.con (.bool false)) [[s1, i2, s3, l4], [s5, i6, s7, l8]])
theorem a67 (s1 : ByteArray) (i2 : Int) (s3 : ByteArray) (l4 : List (List PV)) (s5 : ByteArray) (i6 : Int) (s7 : ByteArray) (l8 : List (List PV)) (Q : PV → Heap → Prop) (h : p67 s1 i2 s3 l4 s5 i6 s7 l8 Q) : ACalls Tryz.prog 67 [(.agg [s1, i2, s3, l4]), (.agg [s5, i6, s7, l8])] [] Q := by
  have hb : Option.some (bodyOf Tryz.f67) = Tryz.f67.body := by kernel_rfl
  exact acalls_eq (S := S) (L := loops7) mixed tok Tryz.func67 hb.symm (by kernel_rfl) h
def loops26 (id : Nat) : Option (List Nat × List (Nat × Sh)) := match Nat.beq id 14 with | true => some ([2, 3], [(7, .int .i64)]) | false => match Nat.beq id 9 with | true => some ([2, 3], [(6, .int .i64)]) | false => match Nat.beq id 4 with | true => some ([2, 3], [(5, .int .i64)]) | false => none
def p26 (l1 l2 : List (List PV)) (i3 i4 i5 : Int) (s6 : ByteArray) (l7 : List (List PV)) (i8 i9 i10 i11 i12 : Int) (l13 : List (List PV)) (s14 : ByteArray) (l15 l16 l17 l18 l19 : List (List PV)) (i20 i21 i22 : Int) (s23 : ByteArray) (l24 : List (List PV)) (i25 i26 i27 i28 i29 : Int) (l30 : List (List PV)) (s31 : ByteArray) (l32 l33 l34 : List (List PV)) (Q : PV → Heap → Prop) : Prop :=
br ((((List.length l1 : Int) : Int) != (List.length l18 : Int)))
  (Q (.con (.bool false)) [[l1, l2, i3, i4, i5, s6, l7, i8, i9, i10, i11, i12, l13, s14, l15, l16, l17], [l18, l19, i20, i21, i22, s23, l24, i25, i26, i27, i28, i29, l30, s31, l32, l33, l34]])
  (br ((((List.length l2 : Int) : Int) != (List.length l19 : Int)))
  (Q (.con (.bool false)) [[l1, l2, i3, i4, i5, s6, l7, i8, i9, i10, i11, i12, l13, s14, l15, l16, l17], [l18, l19, i20, i21, i22, s23, l24, i25, i26, i27, i28, i29, l30, s31, l32, l33, l34]])
  (br ((((List.length l17 : Int) : Int) != (List.length l34 : Int)))
  (Q (.con (.bool false)) [[l1, l2, i3, i4, i5, s6, l7, i8, i9, i10, i11, i12, l13, s14, l15, l16, l17], [l18, l19, i20, i21, i22, s23, l24, i25, i26, i27, i28, i29, l30, s31, l32, l33, l34]])
  (br (((i3 : Int) != i20))
  (Q (.con (.bool false)) [[l1, l2, i3, i4, i5, s6, l7, i8, i9, i10, i11, i12, l13, s14, l15, l16, l17], [l18, l19, i20, i21, i22, s23, l24, i25, i26, i27, i28, i29, l30, s31, l32, l33, l34]])
  (br (((i4 : Int) != i21))
  (Q (.con (.bool false)) [[l1, l2, i3, i4, i5, s6, l7, i8, i9, i10, i11, i12, l13, s14, l15, l16, l17], [l18, l19, i20, i21, i22, s23, l24, i25, i26, i27, i28, i29, l30, s31, l32, l33, l34]])
  (∃ b35 : Bool, CallN Tryz.prog 64 [(.agg [i5, s6, l7]), (.agg [i22, s23, l24])] [[l1, l2, i3, i4, i5, s6, l7, i8, i9, i10, i11, i12, l13, s14, l15, l16, l17], [l18, l19, i20, i21, i22, s23, l24, i25, i26, i27, i28, i29, l30, s31, l32, l33, l34]] b35
  (br ((!b35))
  (Q (.con (.bool false)) [[l1, l2, i3, i4, i5, s6, l7, i8, i9, i10, i11, i12, l13, s14, l15, l16, l17], [l18, l19, i20, i21, i22, s23, l24, i25, i26, i27, i28, i29, l30, s31, l32, l33, l34]])
  (br (((i8 : Int) != i25))
  (Q (.con (.bool false)) [[l1, l2, i3, i4, i5, s6, l7, i8, i9, i10, i11, i12, l13, s14, l15, l16, l17], [l18, l19, i20, i21, i22, s23, l24, i25, i26, i27, i28, i29, l30, s31, l32, l33, l34]])
  (∃ b36 : Bool, CallN Tryz.prog 29 [(.agg [i9, i10, i11, i12, l13, s14, l15, l16]), (.agg [i26, i27, i28, i29, l30, s31, l32, l33])] [[l1, l2, i3, i4, i5, s6, l7, i8, i9, i10, i11, i12, l13, s14, l15, l16, l17], [l18, l19, i20, i21, i22, s23, l24, i25, i26, i27, i28, i29, l30, s31, l32, l33, l34]] b36
  (br ((!b36))
  (Q (.con (.bool false)) [[l1, l2, i3, i4, i5, s6, l7, i8, i9, i10, i11, i12, l13, s14, l15, l16, l17], [l18, l19, i20, i21, i22, s23, l24, i25, i26, i27, i28, i29, l30, s31, l32, l33, l34]])
  (∃ I37 : Nat → ((Int) × Unit) → Prop, (∃ n, I37 n (0, ())) ∧ ∀ (n38 : Nat) (v39 : (Int) × Unit), I37 n38 v39 →
  (br ((decide ((v39.1 : Int) < (List.length l1 : Int))))
  (∃ i40 : Int, ∃ i41 : Int, ∃ s42 : ByteArray, ∃ l43 : List (List PV), IdxN l1 v39.1 [i40, i41, s42, l43]
  (∃ i44 : Int, ∃ i45 : Int, ∃ s46 : ByteArray, ∃ l47 : List (List PV), IdxN l18 v39.1 [i44, i45, s46, l47]
  (∃ b48 : Bool, CallN Tryz.prog 65 [(.agg [i40, i41, s42, l43]), (.agg [i44, i45, s46, l47])] [[l1, l2, i3, i4, i5, s6, l7, i8, i9, i10, i11, i12, l13, s14, l15, l16, l17], [l18, l19, i20, i21, i22, s23, l24, i25, i26, i27, i28, i29, l30, s31, l32, l33, l34]] b48
  (br ((!b48))
  (Q (.con (.bool false)) [[l1, l2, i3, i4, i5, s6, l7, i8, i9, i10, i11, i12, l13, s14, l15, l16, l17], [l18, l19, i20, i21, i22, s23, l24, i25, i26, i27, i28, i29, l30, s31, l32, l33, l34]])
  ((@Eq PV (.ptr 0 0) (.ptr 0 0) ∧ @Eq PV (.ptr 1 0) (.ptr 1 0) ∧ True) ∧ @Eq Heap [[l1, l2, i3, i4, i5, s6, l7, i8, i9, i10, i11, i12, l13, s14, l15, l16, l17], [l18, l19, i20, i21, i22, s23, l24, i25, i26, i27, i28, i29, l30, s31, l32, l33, l34]] [[l1, l2, i3, i4, i5, s6, l7, i8, i9, i10, i11, i12, l13, s14, l15, l16, l17], [l18, l19, i20, i21, i22, s23, l24, i25, i26, i27, i28, i29, l30, s31, l32, l33, l34]] ∧ ∃ k49, k49 < n38 ∧ I37 k49 ((IntKind.wrap .i64 (v39.1 + 1)), ()))))))
  (∃ I50 : Nat → ((Int) × Unit) → Prop, (∃ n, I50 n (0, ())) ∧ ∀ (n51 : Nat) (v52 : (Int) × Unit), I50 n51 v52 →
  (br ((decide ((v52.1 : Int) < (List.length l2 : Int))))
  (∃ i53 : Int, ∃ i54 : Int, ∃ s55 : ByteArray, ∃ l56 : List (List PV), ∃ i57 : Int, ∃ s58 : ByteArray, ∃ l59 : List (List PV), ∃ i60 : Int, ∃ i61 : Int, ∃ i62 : Int, ∃ i63 : Int, ∃ l64 : List (List PV), ∃ s65 : ByteArray, ∃ l66 : List (List PV), ∃ l67 : List (List PV), IdxN l2 v52.1 [i53, i54, s55, l56, i57, s58, l59, i60, i61, i62, i63, l64, s65, l66, l67]
  (∃ i68 : Int, ∃ i69 : Int, ∃ s70 : ByteArray, ∃ l71 : List (List PV), ∃ i72 : Int, ∃ s73 : ByteArray, ∃ l74 : List (List PV), ∃ i75 : Int, ∃ i76 : Int, ∃ i77 : Int, ∃ i78 : Int, ∃ l79 : List (List PV), ∃ s80 : ByteArray, ∃ l81 : List (List PV), ∃ l82 : List (List PV), IdxN l19 v52.1 [i68, i69, s70, l71, i72, s73, l74, i75, i76, i77, i78, l79, s80, l81, l82]
  (∃ b83 : Bool, CallN Tryz.prog 66 [(.agg [i53, i54, s55, l56, i57, s58, l59, i60, i61, i62, i63, l64, s65, l66, l67]), (.agg [i68, i69, s70, l71, i72, s73, l74, i75, i76, i77, i78, l79, s80, l81, l82])] [[l1, l2, i3, i4, i5, s6, l7, i8, i9, i10, i11, i12, l13, s14, l15, l16, l17], [l18, l19, i20, i21, i22, s23, l24, i25, i26, i27, i28, i29, l30, s31, l32, l33, l34]] b83
  (br ((!b83))
  (Q (.con (.bool false)) [[l1, l2, i3, i4, i5, s6, l7, i8, i9, i10, i11, i12, l13, s14, l15, l16, l17], [l18, l19, i20, i21, i22, s23, l24, i25, i26, i27, i28, i29, l30, s31, l32, l33, l34]])
  ((@Eq PV (.ptr 0 0) (.ptr 0 0) ∧ @Eq PV (.ptr 1 0) (.ptr 1 0) ∧ True) ∧ @Eq Heap [[l1, l2, i3, i4, i5, s6, l7, i8, i9, i10, i11, i12, l13, s14, l15, l16, l17], [l18, l19, i20, i21, i22, s23, l24, i25, i26, i27, i28, i29, l30, s31, l32, l33, l34]] [[l1, l2, i3, i4, i5, s6, l7, i8, i9, i10, i11, i12, l13, s14, l15, l16, l17], [l18, l19, i20, i21, i22, s23, l24, i25, i26, i27, i28, i29, l30, s31, l32, l33, l34]] ∧ ∃ k84, k84 < n51 ∧ I50 k84 ((IntKind.wrap .i64 (v52.1 + 1)), ()))))))
  (∃ I85 : Nat → ((Int) × Unit) → Prop, (∃ n, I85 n (0, ())) ∧ ∀ (n86 : Nat) (v87 : (Int) × Unit), I85 n86 v87 →
  (br ((decide ((v87.1 : Int) < (List.length l17 : Int))))
  (∃ i88 : Int, ∃ i89 : Int, ∃ s90 : ByteArray, ∃ s91 : ByteArray, ∃ i92 : Int, ∃ s93 : ByteArray, ∃ l94 : List (List PV), ∃ i95 : Int, ∃ i96 : Int, ∃ i97 : Int, ∃ i98 : Int, ∃ i99 : Int, ∃ l100 : List (List PV), ∃ s101 : ByteArray, ∃ l102 : List (List PV), ∃ l103 : List (List PV), IdxN l17 v87.1 [i88, i89, s90, s91, i92, s93, l94, i95, i96, i97, i98, i99, l100, s101, l102, l103]
  (∃ i104 : Int, ∃ i105 : Int, ∃ s106 : ByteArray, ∃ s107 : ByteArray, ∃ i108 : Int, ∃ s109 : ByteArray, ∃ l110 : List (List PV), ∃ i111 : Int, ∃ i112 : Int, ∃ i113 : Int, ∃ i114 : Int, ∃ i115 : Int, ∃ l116 : List (List PV), ∃ s117 : ByteArray, ∃ l118 : List (List PV), ∃ l119 : List (List PV), IdxN l34 v87.1 [i104, i105, s106, s107, i108, s109, l110, i111, i112, i113, i114, i115, l116, s117, l118, l119]
  (br ((!(ByteArray.toList s90 == ByteArray.toList s106)))
  (Q (.con (.bool false)) [[l1, l2, i3, i4, i5, s6, l7, i8, i9, i10, i11, i12, l13, s14, l15, l16, l17], [l18, l19, i20, i21, i22, s23, l24, i25, i26, i27, i28, i29, l30, s31, l32, l33, l34], [i88, i89, s90, s91, i92, s93, l94, i95, i96, i97, i98, i99, l100, s101, l102, l103], [i104, i105, s106, s107, i108, s109, l110, i111, i112, i113, i114, i115, l116, s117, l118, l119]])
  (∃ b120 : Bool, CallN Tryz.prog 67 [(.agg [s91, i92, s93, l94]), (.agg [s107, i108, s109, l110])] [[l1, l2, i3, i4, i5, s6, l7, i8, i9, i10, i11, i12, l13, s14, l15, l16, l17], [l18, l19, i20, i21, i22, s23, l24, i25, i26, i27, i28, i29, l30, s31, l32, l33, l34], [i88, i89, s90, s91, i92, s93, l94, i95, i96, i97, i98, i99, l100, s101, l102, l103], [i104, i105, s106, s107, i108, s109, l110, i111, i112, i113, i114, i115, l116, s117, l118, l119]] b120
  (br ((!b120))
  (Q (.con (.bool false)) [[l1, l2, i3, i4, i5, s6, l7, i8, i9, i10, i11, i12, l13, s14, l15, l16, l17], [l18, l19, i20, i21, i22, s23, l24, i25, i26, i27, i28, i29, l30, s31, l32, l33, l34], [i88, i89, s90, s91, i92, s93, l94, i95, i96, i97, i98, i99, l100, s101, l102, l103], [i104, i105, s106, s107, i108, s109, l110, i111, i112, i113, i114, i115, l116, s117, l118, l119]])
  (br (((i95 : Int) != i111))
  (Q (.con (.bool false)) [[l1, l2, i3, i4, i5, s6, l7, i8, i9, i10, i11, i12, l13, s14, l15, l16, l17], [l18, l19, i20, i21, i22, s23, l24, i25, i26, i27, i28, i29, l30, s31, l32, l33, l34], [i88, i89, s90, s91, i92, s93, l94, i95, i96, i97, i98, i99, l100, s101, l102, l103], [i104, i105, s106, s107, i108, s109, l110, i111, i112, i113, i114, i115, l116, s117, l118, l119]])
  (∃ b121 : Bool, CallN Tryz.prog 29 [(.agg [i96, i97, i98, i99, l100, s101, l102, l103]), (.agg [i112, i113, i114, i115, l116, s117, l118, l119])] [[l1, l2, i3, i4, i5, s6, l7, i8, i9, i10, i11, i12, l13, s14, l15, l16, l17], [l18, l19, i20, i21, i22, s23, l24, i25, i26, i27, i28, i29, l30, s31, l32, l33, l34], [i88, i89, s90, s91, i92, s93, l94, i95, i96, i97, i98, i99, l100, s101, l102, l103], [i104, i105, s106, s107, i108, s109, l110, i111, i112, i113, i114, i115, l116, s117, l118, l119]] b121
  (br ((!b121))
  (Q (.con (.bool false)) [[l1, l2, i3, i4, i5, s6, l7, i8, i9, i10, i11, i12, l13, s14, l15, l16, l17], [l18, l19, i20, i21, i22, s23, l24, i25, i26, i27, i28, i29, l30, s31, l32, l33, l34], [i88, i89, s90, s91, i92, s93, l94, i95, i96, i97, i98, i99, l100, s101, l102, l103], [i104, i105, s106, s107, i108, s109, l110, i111, i112, i113, i114, i115, l116, s117, l118, l119]])
  ((@Eq PV (.ptr 0 0) (.ptr 0 0) ∧ @Eq PV (.ptr 1 0) (.ptr 1 0) ∧ True) ∧ @Eq Heap [[l1, l2, i3, i4, i5, s6, l7, i8, i9, i10, i11, i12, l13, s14, l15, l16, l17], [l18, l19, i20, i21, i22, s23, l24, i25, i26, i27, i28, i29, l30, s31, l32, l33, l34]] [[l1, l2, i3, i4, i5, s6, l7, i8, i9, i10, i11, i12, l13, s14, l15, l16, l17], [l18, l19, i20, i21, i22, s23, l24, i25, i26, i27, i28, i29, l30, s31, l32, l33, l34]] ∧ ∃ k122, k122 < n86 ∧ I85 k122 ((IntKind.wrap .i64 (v87.1 + 1)), ()))))))))))
  (Q (.con (.bool true)) [[l1, l2, i3, i4, i5, s6, l7, i8, i9, i10, i11, i12, l13, s14, l15, l16, l17], [l18, l19, i20, i21, i22, s23, l24, i25, i26, i27, i28, i29, l30, s31, l32, l33, l34]]))))))))))))))))
theorem a26 (l1 l2 : List (List PV)) (i3 i4 i5 : Int) (s6 : ByteArray) (l7 : List (List PV)) (i8 i9 i10 i11 i12 : Int) (l13 : List (List PV)) (s14 : ByteArray) (l15 l16 l17 l18 l19 : List (List PV)) (i20 i21 i22 : Int) (s23 : ByteArray) (l24 : List (List PV)) (i25 i26 i27 i28 i29 : Int) (l30 : List (List PV)) (s31 : ByteArray) (l32 l33 l34 : List (List PV)) (Q : PV → Heap → Prop) (h : p26 l1 l2 i3 i4 i5 s6 l7 i8 i9 i10 i11 i12 l13 s14 l15 l16 l17 l18 l19 i20 i21 i22 s23 l24 i25 i26 i27 i28 i29 l30 s31 l32 l33 l34 Q) : ACalls Tryz.prog 26 [(.agg [l1, l2, i3, i4, i5, s6, l7, i8, i9, i10, i11, i12, l13, s14, l15, l16, l17]), (.agg [l18, l19, i20, i21, i22, s23, l24, i25, i26, i27, i28, i29, l30, s31, l32, l33, l34])] [] Q := by
  have hb : Option.some (bodyOf Tryz.f26) = Tryz.f26.body := by kernel_rfl
  exact acalls_eq (S := S) (L := loops26) mixed tok Tryz.func26 hb.symm (by kernel_rfl) h
def loops140 (id : Nat) : Option (List Nat × List (Nat × Sh)) := match Nat.beq id 3 with | true => some ([1], [(3, .bool), (4, .int .i64)]) | false => none
def p140 (i1 i2 i3 : Int) (s4 : ByteArray) (i5 : Int) (l6 : List (List PV)) (Q : PV → Heap → Prop) : Prop :=
EqN Tryz.prog 28
  (∃ I7 : Nat → ((Bool) × (Int) × Unit) → Prop, (∃ n, I7 n ((!(((i2 : Int) == 0) && (((i3 : Int) == 0) && true))), 0, ())) ∧ ∀ (n8 : Nat) (v9 : (Bool) × (Int) × Unit), I7 n8 v9 →
  (br ((decide ((v9.2.1 : Int) < (List.length l6 : Int))))
  (br (v9.1)
  ((@Eq PV (.ptr 0 0) (.ptr 0 0) ∧ True) ∧ @Eq Heap [[i1, i2, i3, s4, i5, l6]] [[i1, i2, i3, s4, i5, l6]] ∧ ∃ k10, k10 < n8 ∧ I7 k10 (true, (IntKind.wrap .i64 (v9.2.1 + 1)), ()))
  (∃ i11 : Int, ∃ i12 : Int, ∃ i13 : Int, ∃ s14 : ByteArray, ∃ i15 : Int, ∃ l16 : List (List PV), IdxN l6 v9.2.1 [i11, i12, i13, s14, i15, l16]
  (∃ b17 : Bool, CallN Tryz.prog 140 [(.agg [i11, i12, i13, s14, i15, l16])] [[i1, i2, i3, s4, i5, l6]] b17
  ((@Eq PV (.ptr 0 0) (.ptr 0 0) ∧ True) ∧ @Eq Heap [[i1, i2, i3, s4, i5, l6]] [[i1, i2, i3, s4, i5, l6]] ∧ ∃ k18, k18 < n8 ∧ I7 k18 (b17, (IntKind.wrap .i64 (v9.2.1 + 1)), ())))))
  (Q v9.1 [[i1, i2, i3, s4, i5, l6]])))
theorem a140 (i1 i2 i3 : Int) (s4 : ByteArray) (i5 : Int) (l6 : List (List PV)) (Q : PV → Heap → Prop) (h : p140 i1 i2 i3 s4 i5 l6 Q) : ACalls Tryz.prog 140 [(.agg [i1, i2, i3, s4, i5, l6])] [] Q := by
  have hb : Option.some (bodyOf Tryz.f140) = Tryz.f140.body := by kernel_rfl
  exact acalls_eq (S := S) (L := loops140) mixed tok Tryz.func140 hb.symm (by kernel_rfl) h
def loops63 (id : Nat) : Option (List Nat × List (Nat × Sh)) := match Nat.beq id 7 with | true => some ([1], [(3, .bool), (5, .int .i64)]) | false => match Nat.beq id 3 with | true => some ([1], [(3, .bool), (4, .int .i64)]) | false => none
def p63 (i1 i2 i3 i4 : Int) (l5 : List (List PV)) (s6 : ByteArray) (l7 l8 : List (List PV)) (Q : PV → Heap → Prop) : Prop :=
EqN Tryz.prog 28
  (∃ I9 : Nat → ((Bool) × (Int) × Unit) → Prop, (∃ n, I9 n ((!(((i2 : Int) == 0) && (((i3 : Int) == 0) && true))), 0, ())) ∧ ∀ (n10 : Nat) (v11 : (Bool) × (Int) × Unit), I9 n10 v11 →
  (br ((decide ((v11.2.1 : Int) < (List.length l7 : Int))))
  (br (v11.1)
  ((@Eq PV (.ptr 0 0) (.ptr 0 0) ∧ True) ∧ @Eq Heap [[i1, i2, i3, i4, l5, s6, l7, l8]] [[i1, i2, i3, i4, l5, s6, l7, l8]] ∧ ∃ k12, k12 < n10 ∧ I9 k12 (true, (IntKind.wrap .i64 (v11.2.1 + 1)), ()))
  (∃ i13 : Int, ∃ i14 : Int, ∃ i15 : Int, ∃ i16 : Int, ∃ l17 : List (List PV), ∃ s18 : ByteArray, ∃ l19 : List (List PV), ∃ l20 : List (List PV), IdxN l7 v11.2.1 [i13, i14, i15, i16, l17, s18, l19, l20]
  (∃ b21 : Bool, CallN Tryz.prog 63 [(.agg [i13, i14, i15, i16, l17, s18, l19, l20])] [[i1, i2, i3, i4, l5, s6, l7, l8]] b21
  ((@Eq PV (.ptr 0 0) (.ptr 0 0) ∧ True) ∧ @Eq Heap [[i1, i2, i3, i4, l5, s6, l7, l8]] [[i1, i2, i3, i4, l5, s6, l7, l8]] ∧ ∃ k22, k22 < n10 ∧ I9 k22 (b21, (IntKind.wrap .i64 (v11.2.1 + 1)), ())))))
  (∃ I23 : Nat → ((Bool) × (Int) × Unit) → Prop, (∃ n, I23 n (v11.1, 0, ())) ∧ ∀ (n24 : Nat) (v25 : (Bool) × (Int) × Unit), I23 n24 v25 →
  (br ((decide ((v25.2.1 : Int) < (List.length l8 : Int))))
  (br (v25.1)
  ((@Eq PV (.ptr 0 0) (.ptr 0 0) ∧ True) ∧ @Eq Heap [[i1, i2, i3, i4, l5, s6, l7, l8]] [[i1, i2, i3, i4, l5, s6, l7, l8]] ∧ ∃ k26, k26 < n24 ∧ I23 k26 (true, (IntKind.wrap .i64 (v25.2.1 + 1)), ()))
  (∃ i27 : Int, ∃ i28 : Int, ∃ i29 : Int, ∃ s30 : ByteArray, ∃ i31 : Int, ∃ l32 : List (List PV), ∃ i33 : Int, ∃ i34 : Int, ∃ i35 : Int, ∃ i36 : Int, ∃ l37 : List (List PV), ∃ s38 : ByteArray, ∃ l39 : List (List PV), ∃ l40 : List (List PV), IdxN l8 v25.2.1 [i27, i28, i29, s30, i31, l32, i33, i34, i35, i36, l37, s38, l39, l40]
  (∃ b41 : Bool, CallN Tryz.prog 63 [(.agg [i33, i34, i35, i36, l37, s38, l39, l40])] [[i1, i2, i3, i4, l5, s6, l7, l8]] b41
  (br (b41)
  ((@Eq PV (.ptr 0 0) (.ptr 0 0) ∧ True) ∧ @Eq Heap [[i1, i2, i3, i4, l5, s6, l7, l8]] [[i1, i2, i3, i4, l5, s6, l7, l8]] ∧ ∃ k42, k42 < n24 ∧ I23 k42 (true, (IntKind.wrap .i64 (v25.2.1 + 1)), ()))
  (∃ i43 : Int, ∃ i44 : Int, ∃ i45 : Int, ∃ s46 : ByteArray, ∃ i47 : Int, ∃ l48 : List (List PV), ∃ i49 : Int, ∃ i50 : Int, ∃ i51 : Int, ∃ i52 : Int, ∃ l53 : List (List PV), ∃ s54 : ByteArray, ∃ l55 : List (List PV), ∃ l56 : List (List PV), IdxN l8 v25.2.1 [i43, i44, i45, s46, i47, l48, i49, i50, i51, i52, l53, s54, l55, l56]
  (∃ b57 : Bool, CallN Tryz.prog 140 [(.agg [i43, i44, i45, s46, i47, l48])] [[i1, i2, i3, i4, l5, s6, l7, l8]] b57
  ((@Eq PV (.ptr 0 0) (.ptr 0 0) ∧ True) ∧ @Eq Heap [[i1, i2, i3, i4, l5, s6, l7, l8]] [[i1, i2, i3, i4, l5, s6, l7, l8]] ∧ ∃ k58, k58 < n24 ∧ I23 k58 (b57, (IntKind.wrap .i64 (v25.2.1 + 1)), ()))))))))
  (Q v25.1 [[i1, i2, i3, i4, l5, s6, l7, l8]])))))
theorem a63 (i1 i2 i3 i4 : Int) (l5 : List (List PV)) (s6 : ByteArray) (l7 l8 : List (List PV)) (Q : PV → Heap → Prop) (h : p63 i1 i2 i3 i4 l5 s6 l7 l8 Q) : ACalls Tryz.prog 63 [(.agg [i1, i2, i3, i4, l5, s6, l7, l8])] [] Q := by
  have hb : Option.some (bodyOf Tryz.f63) = Tryz.f63.body := by kernel_rfl
  exact acalls_eq (S := S) (L := loops63) mixed tok Tryz.func63 hb.symm (by kernel_rfl) h
def loops25 (id : Nat) : Option (List Nat × List (Nat × Sh)) := match Nat.beq id 11 with | true => some ([1], [(3, .bool), (6, .int .i64)]) | false => match Nat.beq id 7 with | true => some ([1], [(3, .bool), (5, .int .i64)]) | false => match Nat.beq id 3 with | true => some ([1], [(3, .bool), (4, .int .i64)]) | false => none
def p25 (l1 l2 : List (List PV)) (i3 i4 i5 : Int) (s6 : ByteArray) (l7 : List (List PV)) (i8 i9 i10 i11 i12 : Int) (l13 : List (List PV)) (s14 : ByteArray) (l15 l16 l17 : List (List PV)) (Q : PV → Heap → Prop) : Prop :=
∃ b18 : Bool, CallN Tryz.prog 63 [(.agg [i9, i10, i11, i12, l13, s14, l15, l16])] [[l1, l2, i3, i4, i5, s6, l7, i8, i9, i10, i11, i12, l13, s14, l15, l16, l17]] b18
  (∃ I19 : Nat → ((Bool) × (Int) × Unit) → Prop, (∃ n, I19 n (b18, 0, ())) ∧ ∀ (n20 : Nat) (v21 : (Bool) × (Int) × Unit), I19 n20 v21 →
  (br ((decide ((v21.2.1 : Int) < (List.length l1 : Int))))
  (br (v21.1)
  ((@Eq PV (.ptr 0 0) (.ptr 0 0) ∧ True) ∧ @Eq Heap [[l1, l2, i3, i4, i5, s6, l7, i8, i9, i10, i11, i12, l13, s14, l15, l16, l17]] [[l1, l2, i3, i4, i5, s6, l7, i8, i9, i10, i11, i12, l13, s14, l15, l16, l17]] ∧ ∃ k22, k22 < n20 ∧ I19 k22 (true, (IntKind.wrap .i64 (v21.2.1 + 1)), ()))
  (∃ i23 : Int, ∃ i24 : Int, ∃ s25 : ByteArray, ∃ l26 : List (List PV), IdxN l1 v21.2.1 [i23, i24, s25, l26]
  (EqN Tryz.prog 28
  ((@Eq PV (.ptr 0 0) (.ptr 0 0) ∧ True) ∧ @Eq Heap [[l1, l2, i3, i4, i5, s6, l7, i8, i9, i10, i11, i12, l13, s14, l15, l16, l17]] [[l1, l2, i3, i4, i5, s6, l7, i8, i9, i10, i11, i12, l13, s14, l15, l16, l17]] ∧ ∃ k27, k27 < n20 ∧ I19 k27 ((!(((i23 : Int) == 0) && (((i24 : Int) == 0) && true))), (IntKind.wrap .i64 (v21.2.1 + 1)), ())))))
  (∃ I28 : Nat → ((Bool) × (Int) × Unit) → Prop, (∃ n, I28 n (v21.1, 0, ())) ∧ ∀ (n29 : Nat) (v30 : (Bool) × (Int) × Unit), I28 n29 v30 →
  (br ((decide ((v30.2.1 : Int) < (List.length l2 : Int))))
  (br (v30.1)
  ((@Eq PV (.ptr 0 0) (.ptr 0 0) ∧ True) ∧ @Eq Heap [[l1, l2, i3, i4, i5, s6, l7, i8, i9, i10, i11, i12, l13, s14, l15, l16, l17]] [[l1, l2, i3, i4, i5, s6, l7, i8, i9, i10, i11, i12, l13, s14, l15, l16, l17]] ∧ ∃ k31, k31 < n29 ∧ I28 k31 (true, (IntKind.wrap .i64 (v30.2.1 + 1)), ()))
  (∃ i32 : Int, ∃ i33 : Int, ∃ s34 : ByteArray, ∃ l35 : List (List PV), ∃ i36 : Int, ∃ s37 : ByteArray, ∃ l38 : List (List PV), ∃ i39 : Int, ∃ i40 : Int, ∃ i41 : Int, ∃ i42 : Int, ∃ l43 : List (List PV), ∃ s44 : ByteArray, ∃ l45 : List (List PV), ∃ l46 : List (List PV), IdxN l2 v30.2.1 [i32, i33, s34, l35, i36, s37, l38, i39, i40, i41, i42, l43, s44, l45, l46]
  (EqN Tryz.prog 28
  (br ((!(((i32 : Int) == 0) && (((i33 : Int) == 0) && true))))
  ((@Eq PV (.ptr 0 0) (.ptr 0 0) ∧ True) ∧ @Eq Heap [[l1, l2, i3, i4, i5, s6, l7, i8, i9, i10, i11, i12, l13, s14, l15, l16, l17]] [[l1, l2, i3, i4, i5, s6, l7, i8, i9, i10, i11, i12, l13, s14, l15, l16, l17]] ∧ ∃ k47, k47 < n29 ∧ I28 k47 (true, (IntKind.wrap .i64 (v30.2.1 + 1)), ()))
  (∃ i48 : Int, ∃ i49 : Int, ∃ s50 : ByteArray, ∃ l51 : List (List PV), ∃ i52 : Int, ∃ s53 : ByteArray, ∃ l54 : List (List PV), ∃ i55 : Int, ∃ i56 : Int, ∃ i57 : Int, ∃ i58 : Int, ∃ l59 : List (List PV), ∃ s60 : ByteArray, ∃ l61 : List (List PV), ∃ l62 : List (List PV), IdxN l2 v30.2.1 [i48, i49, s50, l51, i52, s53, l54, i55, i56, i57, i58, l59, s60, l61, l62]
  (∃ b63 : Bool, CallN Tryz.prog 63 [(.agg [i55, i56, i57, i58, l59, s60, l61, l62])] [[l1, l2, i3, i4, i5, s6, l7, i8, i9, i10, i11, i12, l13, s14, l15, l16, l17]] b63
  ((@Eq PV (.ptr 0 0) (.ptr 0 0) ∧ True) ∧ @Eq Heap [[l1, l2, i3, i4, i5, s6, l7, i8, i9, i10, i11, i12, l13, s14, l15, l16, l17]] [[l1, l2, i3, i4, i5, s6, l7, i8, i9, i10, i11, i12, l13, s14, l15, l16, l17]] ∧ ∃ k64, k64 < n29 ∧ I28 k64 (b63, (IntKind.wrap .i64 (v30.2.1 + 1)), ()))))))))
  (∃ I65 : Nat → ((Bool) × (Int) × Unit) → Prop, (∃ n, I65 n (v30.1, 0, ())) ∧ ∀ (n66 : Nat) (v67 : (Bool) × (Int) × Unit), I65 n66 v67 →
  (br ((decide ((v67.2.1 : Int) < (List.length l17 : Int))))
  (br (v67.1)
  ((@Eq PV (.ptr 0 0) (.ptr 0 0) ∧ True) ∧ @Eq Heap [[l1, l2, i3, i4, i5, s6, l7, i8, i9, i10, i11, i12, l13, s14, l15, l16, l17]] [[l1, l2, i3, i4, i5, s6, l7, i8, i9, i10, i11, i12, l13, s14, l15, l16, l17]] ∧ ∃ k68, k68 < n66 ∧ I65 k68 (true, (IntKind.wrap .i64 (v67.2.1 + 1)), ()))
  (∃ i69 : Int, ∃ i70 : Int, ∃ s71 : ByteArray, ∃ s72 : ByteArray, ∃ i73 : Int, ∃ s74 : ByteArray, ∃ l75 : List (List PV), ∃ i76 : Int, ∃ i77 : Int, ∃ i78 : Int, ∃ i79 : Int, ∃ i80 : Int, ∃ l81 : List (List PV), ∃ s82 : ByteArray, ∃ l83 : List (List PV), ∃ l84 : List (List PV), IdxN l17 v67.2.1 [i69, i70, s71, s72, i73, s74, l75, i76, i77, i78, i79, i80, l81, s82, l83, l84]
  (EqN Tryz.prog 28
  (br ((!(((i69 : Int) == 0) && (((i70 : Int) == 0) && true))))
  ((@Eq PV (.ptr 0 0) (.ptr 0 0) ∧ True) ∧ @Eq Heap [[l1, l2, i3, i4, i5, s6, l7, i8, i9, i10, i11, i12, l13, s14, l15, l16, l17]] [[l1, l2, i3, i4, i5, s6, l7, i8, i9, i10, i11, i12, l13, s14, l15, l16, l17]] ∧ ∃ k85, k85 < n66 ∧ I65 k85 (true, (IntKind.wrap .i64 (v67.2.1 + 1)), ()))
  (∃ i86 : Int, ∃ i87 : Int, ∃ s88 : ByteArray, ∃ s89 : ByteArray, ∃ i90 : Int, ∃ s91 : ByteArray, ∃ l92 : List (List PV), ∃ i93 : Int, ∃ i94 : Int, ∃ i95 : Int, ∃ i96 : Int, ∃ i97 : Int, ∃ l98 : List (List PV), ∃ s99 : ByteArray, ∃ l100 : List (List PV), ∃ l101 : List (List PV), IdxN l17 v67.2.1 [i86, i87, s88, s89, i90, s91, l92, i93, i94, i95, i96, i97, l98, s99, l100, l101]
  (∃ b102 : Bool, CallN Tryz.prog 63 [(.agg [i94, i95, i96, i97, l98, s99, l100, l101])] [[l1, l2, i3, i4, i5, s6, l7, i8, i9, i10, i11, i12, l13, s14, l15, l16, l17]] b102
  ((@Eq PV (.ptr 0 0) (.ptr 0 0) ∧ True) ∧ @Eq Heap [[l1, l2, i3, i4, i5, s6, l7, i8, i9, i10, i11, i12, l13, s14, l15, l16, l17]] [[l1, l2, i3, i4, i5, s6, l7, i8, i9, i10, i11, i12, l13, s14, l15, l16, l17]] ∧ ∃ k103, k103 < n66 ∧ I65 k103 (b102, (IntKind.wrap .i64 (v67.2.1 + 1)), ()))))))))
  (Q v67.1 [[l1, l2, i3, i4, i5, s6, l7, i8, i9, i10, i11, i12, l13, s14, l15, l16, l17]])))))))
theorem a25 (l1 l2 : List (List PV)) (i3 i4 i5 : Int) (s6 : ByteArray) (l7 : List (List PV)) (i8 i9 i10 i11 i12 : Int) (l13 : List (List PV)) (s14 : ByteArray) (l15 l16 l17 : List (List PV)) (Q : PV → Heap → Prop) (h : p25 l1 l2 i3 i4 i5 s6 l7 i8 i9 i10 i11 i12 l13 s14 l15 l16 l17 Q) : ACalls Tryz.prog 25 [(.agg [l1, l2, i3, i4, i5, s6, l7, i8, i9, i10, i11, i12, l13, s14, l15, l16, l17])] [] Q := by
  have hb : Option.some (bodyOf Tryz.f25) = Tryz.f25.body := by kernel_rfl
  exact acalls_eq (S := S) (L := loops25) mixed tok Tryz.func25 hb.symm (by kernel_rfl) h
end Go.Proofs.YtcmnjodjebcapaaGreat.Deep

namespace Go.Proofs.YtcmnjodjebcapaaGreat.Deep
open Go.RowKit
set_option linter.unusedVariables false
set_option linter.unusedSimpArgs false
theorem rsame_ty (t : Ty) : smallTy t → ∀ u : Ty, PCalls Tryz.prog 64 [.agg (tyP t), .agg (tyP u)] (fun r => r = .con (.bool (sameT t u))) := by
  induction t using Ty.indM with
  | h k n ps ih =>
  intro hs u
  obtain ⟨k', n', ps', rfl⟩ := ty_mk u
  unfold smallTy at hs
  have H : ∀ a ∈ ps, ∀ b ∈ ps', PCalls Tryz.prog 64 [.agg (tyP a), .agg (tyP b)] (fun r => r = .con (.bool (sameT a b))) := fun a ha b _ => ih a ha (smallTys_mem hs.2.2 a ha) b
  have hsz := hs.2.1
  refine a64 _ _ _ _ _ _ _ ?_
  unfold p64 sameT
  rw [bne_int, beq_str, tyPs_mp, tyPs_mp, List.length_map, List.length_map, len_ne, sameTs_l]
  refine br_i (fun h1 => ⟨by rw [le_not h1]; rfl, rfl⟩) (fun h1 => ?_)
  refine br_i (fun h2 => ⟨by rw [le_not h2]; simp, rfl⟩) (fun h2 => ?_)
  refine br_i (fun h3 => ⟨by rw [alikeL_len sameT ps ps' (by simpa using h3)]; simp, rfl⟩) (fun h3 => ?_)
  have hl : ps.length = ps'.length := by simpa using h3
  refine ⟨fun c v => ∃ j : Nat, j ≤ (ps).length ∧ c = (ps).length - j ∧ v.1 = (j : Int) ∧ alikeL sameT ((ps).take j) ((ps').take j) = true, ⟨_, 0, Nat.zero_le _, rfl, rfl, by simp [alikeL]⟩, ?_⟩
  rintro c1 ⟨i1, u1⟩ ⟨j1, hj1, rfl, hi1, ha1⟩
  dsimp only at hi1 ha1 ⊢
  subst hi1
  refine br_i (fun hlt => ?_) (fun hge1 => ?_)
  · have hlt : j1 < (ps).length := by simpa using hlt
    have hlt' : j1 < (ps').length := by omega
    have hsn := alikeL_snoc sameT (ps) (ps') j1 hlt hlt'
    have hno := alikeL_no sameT (ps) (ps') j1 hlt hlt'
    have hc := H (ps)[j1] (List.getElem_mem hlt) (ps')[j1] (List.getElem_mem hlt')
    obtain ⟨x0, x1, x2, ex⟩ := cells_Type (ps)[j1]
    obtain ⟨y0, y1, y2, ey⟩ := cells_Type (ps')[j1]
    obtain ⟨B, e⟩ : ∃ x, sameT (ps)[j1] (ps')[j1] = x := ⟨_, rfl⟩
    rw [e] at hc hsn hno
    rw [ex, ey] at hc
    refine ⟨_, _, _, ⟨by omega, by rw [Int.toNat_natCast, map_get tyP (ps) j1 hlt, ex], ?_⟩⟩
    refine ⟨_, _, _, ⟨by omega, by rw [Int.toNat_natCast, map_get tyP (ps') j1 hlt', ey], ?_⟩⟩
    refine ⟨_, call_p (enters_of Tryz.func64 (by kernel_rfl) rfl) hc rfl ?_⟩
    refine br_i (fun h => ⟨by rw [hno (le_not h)]; simp, rfl⟩) (fun h => ?_)
    refine ⟨⟨rfl, rfl, trivial⟩, rfl, (ps).length - (j1 + 1), by omega, j1 + 1, by omega, rfl, by rw [wrap_id (by omega) (by omega)]; simp, ?_⟩
    rw [hsn, ha1, le_yes h]; rfl
  have hge1 : ¬ j1 < (ps).length := by simpa using hge1
  obtain rfl : j1 = (ps).length := by omega
  rw [List.take_length, hl, List.take_length] at ha1
  exact ⟨by rw [le_yes h1, le_yes h2, ha1]; rfl, rfl⟩
theorem rsame_pt (t : Pt) : smallPt t → ∀ u : Pt, PCalls Tryz.prog 78 [.agg (ptP t), .agg (ptP u)] (fun r => r = .con (.bool (sameP t u))) := by
  induction t using Pt.indM with
  | h k li co n m ks ih =>
  intro hs u
  obtain ⟨k', li', co', n', m', ks', rfl⟩ := pt_mk u
  unfold smallPt at hs
  have H : ∀ a ∈ ks, ∀ b ∈ ks', PCalls Tryz.prog 78 [.agg (ptP a), .agg (ptP b)] (fun r => r = .con (.bool (sameP a b))) := fun a ha b _ => ih a ha (smallPts_mem hs.2.2 a ha) b
  have hsz := hs.2.1
  refine a78 _ _ _ _ _ _ _ _ _ _ _ _ _ ?_
  unfold p78 sameP
  rw [bne_int, beq_str, bne_int, ptPs_mp, ptPs_mp, List.length_map, List.length_map, len_ne, samePs_l]
  refine br_i (fun h1 => ⟨by rw [le_not h1]; rfl, rfl⟩) (fun h1 => ?_)
  refine br_i (fun h2 => ⟨by rw [le_not h2]; simp, rfl⟩) (fun h2 => ?_)
  refine br_i (fun h4 => ⟨by rw [le_not h4]; simp, rfl⟩) (fun h4 => ?_)
  refine br_i (fun h3 => ⟨by rw [alikeL_len sameP ks ks' (by simpa using h3)]; simp, rfl⟩) (fun h3 => ?_)
  have hl : ks.length = ks'.length := by simpa using h3
  refine ⟨fun c v => ∃ j : Nat, j ≤ (ks).length ∧ c = (ks).length - j ∧ v.1 = (j : Int) ∧ alikeL sameP ((ks).take j) ((ks').take j) = true, ⟨_, 0, Nat.zero_le _, rfl, rfl, by simp [alikeL]⟩, ?_⟩
  rintro c1 ⟨i1, u1⟩ ⟨j1, hj1, rfl, hi1, ha1⟩
  dsimp only at hi1 ha1 ⊢
  subst hi1
  refine br_i (fun hlt => ?_) (fun hge1 => ?_)
  · have hlt : j1 < (ks).length := by simpa using hlt
    have hlt' : j1 < (ks').length := by omega
    have hsn := alikeL_snoc sameP (ks) (ks') j1 hlt hlt'
    have hno := alikeL_no sameP (ks) (ks') j1 hlt hlt'
    have hc := H (ks)[j1] (List.getElem_mem hlt) (ks')[j1] (List.getElem_mem hlt')
    obtain ⟨x0, x1, x2, x3, x4, x5, ex⟩ := cells_Pat (ks)[j1]
    obtain ⟨y0, y1, y2, y3, y4, y5, ey⟩ := cells_Pat (ks')[j1]
    obtain ⟨B, e⟩ : ∃ x, sameP (ks)[j1] (ks')[j1] = x := ⟨_, rfl⟩
    rw [e] at hc hsn hno
    rw [ex, ey] at hc
    refine ⟨_, _, _, _, _, _, ⟨by omega, by rw [Int.toNat_natCast, map_get ptP (ks) j1 hlt, ex], ?_⟩⟩
    refine ⟨_, _, _, _, _, _, ⟨by omega, by rw [Int.toNat_natCast, map_get ptP (ks') j1 hlt', ey], ?_⟩⟩
    refine ⟨_, call_p (enters_of Tryz.func78 (by kernel_rfl) rfl) hc rfl ?_⟩
    refine br_i (fun h => ⟨by rw [hno (le_not h)]; simp, rfl⟩) (fun h => ?_)
    refine ⟨⟨rfl, rfl, trivial⟩, rfl, (ks).length - (j1 + 1), by omega, j1 + 1, by omega, rfl, by rw [wrap_id (by omega) (by omega)]; simp, ?_⟩
    rw [hsn, ha1, le_yes h]; rfl
  have hge1 : ¬ j1 < (ks).length := by simpa using hge1
  obtain rfl : j1 = (ks).length := by omega
  rw [List.take_length, hl, List.take_length] at ha1
  exact ⟨by rw [le_yes h1, le_yes h2, le_yes h4, ha1]; rfl, rfl⟩
theorem rsame_ex (t : Ex) : smallEx t → wfEx t → ∀ u : Ex, wfEx u → PCalls Tryz.prog 29 [.agg (exP t), .agg (exP u)] (fun r => r = .con (.bool (sameE t u))) := by
  induction t using Ex.indM with
  | h k li co m b n ks ps bs ihk ihb =>
  intro hs hw u hwu
  obtain ⟨k', li', co', m', b', n', ks', ps', bs', rfl⟩ := ex_mk u
  unfold smallEx at hs
  unfold wfEx at hw hwu
  obtain ⟨hsb, hsn, hsk, hsp, hsbs, hsks, hsps, hsbb⟩ := hs
  obtain ⟨hpl, hwk, hwb⟩ := hw
  obtain ⟨hpl', hwk', hwb'⟩ := hwu
  have H : ∀ a ∈ ks, ∀ b ∈ ks', PCalls Tryz.prog 29 [.agg (exP a), .agg (exP b)] (fun r => r = .con (.bool (sameE a b))) := fun a ha c hc => ihk a ha (smallExs_mem hsks a ha) (wfExs_mem hwk a ha) c (wfExs_mem hwk' c hc)
  have HA : ∀ a ∈ ps.zip bs, ∀ c ∈ ps'.zip bs', PCalls Tryz.prog 78 [.agg (ptP a.1), .agg (ptP c.1)] (fun r => r = .con (.bool (sameP a.1 c.1))) ∧ PCalls Tryz.prog 29 [.agg (exP a.2), .agg (exP c.2)] (fun r => r = .con (.bool (sameE a.2 c.2))) := fun a ha c hc => by
    obtain ⟨p, e⟩ := a
    obtain ⟨p', e'⟩ := c
    obtain ⟨q1, q2⟩ := List.of_mem_zip ha
    obtain ⟨q3, q4⟩ := List.of_mem_zip hc
    exact ⟨rsame_pt p (smallPts_mem hsps p q1) p', ihb e q2 (smallExs_mem hsbb e q2) (wfExs_mem hwb e q2) e' (wfExs_mem hwb' e' q4)⟩
  have hz : (ps.zip bs).length = bs.length := by rw [List.length_zip]; omega
  have hz' : (ps'.zip bs').length = bs'.length := by rw [List.length_zip]; omega
  refine a29 _ _ _ _ _ _ _ _ _ _ _ _ _ _ _ _ _ ?_
  unfold p29 sameE
  rw [bne_int, bne_int, beq_str, exPs_mp, exPs_mp, arPs_mp, arPs_mp, List.length_map, List.length_map, List.length_map, List.length_map, len_ne, len_ne, sameEs_l, ← arms_same ps ps' bs bs' hpl hpl']
  refine br_i (fun h1 => ⟨by rw [le_not h1]; rfl, rfl⟩) (fun h1 => ?_)
  refine br_i (fun h2 => ⟨by rw [le_not h2]; simp, rfl⟩) (fun h2 => ?_)
  refine ⟨b, ⟨⟨5, by kernel_rfl, by kernel_rfl⟩, by kernel_rfl, rfl, ?_⟩⟩
  refine ⟨b', ⟨⟨5, by kernel_rfl, by kernel_rfl⟩, by kernel_rfl, rfl, ?_⟩⟩
  rw [beq_by]
  refine br_i (fun h3 => ⟨by rw [le_not h3]; simp, rfl⟩) (fun h3 => ?_)
  refine br_i (fun h4 => ⟨by rw [le_not h4]; simp, rfl⟩) (fun h4 => ?_)
  refine br_i (fun h5 => ⟨by rw [alikeL_len sameE ks ks' (by simpa using h5)]; simp, rfl⟩) (fun h5 => ?_)
  have hl : ks.length = ks'.length := by simpa using h5
  refine br_i (fun h6 => ⟨by rw [alikeL_len _ (ps.zip bs) (ps'.zip bs') (by simpa using h6)]; simp, rfl⟩) (fun h6 => ?_)
  have hl2 : (ps.zip bs).length = (ps'.zip bs').length := by simpa using h6
  refine ⟨fun c v => ∃ j : Nat, j ≤ (ks).length ∧ c = (ks).length - j ∧ v.1 = (j : Int) ∧ alikeL sameE ((ks).take j) ((ks').take j) = true, ⟨_, 0, Nat.zero_le _, rfl, rfl, by simp [alikeL]⟩, ?_⟩
  rintro c1 ⟨i1, u1⟩ ⟨j1, hj1, rfl, hi1, ha1⟩
  dsimp only at hi1 ha1 ⊢
  subst hi1
  refine br_i (fun hlt => ?_) (fun hge1 => ?_)
  · have hlt : j1 < (ks).length := by simpa using hlt
    have hlt' : j1 < (ks').length := by omega
    have hsn := alikeL_snoc sameE (ks) (ks') j1 hlt hlt'
    have hno := alikeL_no sameE (ks) (ks') j1 hlt hlt'
    have hc := H (ks)[j1] (List.getElem_mem hlt) (ks')[j1] (List.getElem_mem hlt')
    obtain ⟨x0, x1, x2, x3, x4, x5, x6, x7, ex⟩ := cells_Expr (ks)[j1]
    obtain ⟨y0, y1, y2, y3, y4, y5, y6, y7, ey⟩ := cells_Expr (ks')[j1]
    obtain ⟨B, e⟩ : ∃ x, sameE (ks)[j1] (ks')[j1] = x := ⟨_, rfl⟩
    rw [e] at hc hsn hno
    rw [ex, ey] at hc
    refine ⟨_, _, _, _, _, _, _, _, ⟨by omega, by rw [Int.toNat_natCast, map_get exP (ks) j1 hlt, ex], ?_⟩⟩
    refine ⟨_, _, _, _, _, _, _, _, ⟨by omega, by rw [Int.toNat_natCast, map_get exP (ks') j1 hlt', ey], ?_⟩⟩
    refine ⟨_, call_p (enters_of Tryz.func29 (by kernel_rfl) rfl) hc rfl ?_⟩
    refine br_i (fun h => ⟨by rw [hno (le_not h)]; simp, rfl⟩) (fun h => ?_)
    refine ⟨⟨rfl, rfl, trivial⟩, rfl, (ks).length - (j1 + 1), by omega, j1 + 1, by omega, rfl, by rw [wrap_id (by omega) (by omega)]; simp, ?_⟩
    rw [hsn, ha1, le_yes h]; rfl
  have hge1 : ¬ j1 < (ks).length := by simpa using hge1
  obtain rfl : j1 = (ks).length := by omega
  rw [List.take_length, hl, List.take_length] at ha1
  refine ⟨fun c v => ∃ j : Nat, j ≤ (ps.zip bs).length ∧ c = (ps.zip bs).length - j ∧ v.1 = (j : Int) ∧ alikeL (fun a c : Pt × Ex => sameP a.1 c.1 && sameE a.2 c.2) ((ps.zip bs).take j) ((ps'.zip bs').take j) = true, ⟨_, 0, Nat.zero_le _, rfl, rfl, by simp [alikeL]⟩, ?_⟩
  rintro c2 ⟨i2, u2⟩ ⟨j2, hj2, rfl, hi2, ha2⟩
  dsimp only at hi2 ha2 ⊢
  subst hi2
  refine br_i (fun hlt => ?_) (fun hge2 => ?_)
  · have hlt : j2 < (ps.zip bs).length := by simpa using hlt
    have hlt' : j2 < (ps'.zip bs').length := by omega
    have hsn := alikeL_snoc (fun a c : Pt × Ex => sameP a.1 c.1 && sameE a.2 c.2) (ps.zip bs) (ps'.zip bs') j2 hlt hlt'
    have hno := alikeL_no (fun a c : Pt × Ex => sameP a.1 c.1 && sameE a.2 c.2) (ps.zip bs) (ps'.zip bs') j2 hlt hlt'
    obtain ⟨hc1, hc2⟩ := HA (ps.zip bs)[j2] (List.getElem_mem hlt) (ps'.zip bs')[j2] (List.getElem_mem hlt')
    have hx : ((ps.zip bs).map amP)[j2]? = some (amP (ps.zip bs)[j2]) := map_get amP _ j2 hlt
    have hy : ((ps'.zip bs').map amP)[j2]? = some (amP (ps'.zip bs')[j2]) := map_get amP _ j2 hlt'
    obtain ⟨B1, e1⟩ : ∃ x, sameP (ps.zip bs)[j2].1 (ps'.zip bs')[j2].1 = x := ⟨_, rfl⟩
    obtain ⟨B2, e2⟩ : ∃ x, sameE (ps.zip bs)[j2].2 (ps'.zip bs')[j2].2 = x := ⟨_, rfl⟩
    rw [e1] at hc1 hsn hno
    rw [e2] at hc2 hsn hno
    clear e1 e2
    generalize (ps.zip bs)[j2] = A at hc1 hc2 hx
    generalize (ps'.zip bs')[j2] = C at hc1 hc2 hy
    obtain ⟨⟨xk, xl, xc, xn, xm, xks⟩, ⟨xk2, xl2, xc2, xm2, xb2, xn2, xks2, xps2, xbs2⟩⟩ := A
    obtain ⟨⟨yk, yl, yc, yn, ym, yks⟩, ⟨yk2, yl2, yc2, ym2, yb2, yn2, yks2, yps2, ybs2⟩⟩ := C
    refine ⟨_, _, _, _, _, _, _, _, _, _, _, _, _, _, ⟨by omega, by rw [Int.toNat_natCast]; exact hx, ?_⟩⟩
    refine ⟨_, _, _, _, _, _, _, _, _, _, _, _, _, _, ⟨by omega, by rw [Int.toNat_natCast]; exact hy, ?_⟩⟩
    refine ⟨_, call_p (enters_of Tryz.func78 (by kernel_rfl) rfl) hc1 rfl ?_⟩
    refine br_i (fun h => ⟨by rw [hno (by rw [le_not h]; rfl)]; simp, rfl⟩) (fun h => ?_)
    refine ⟨_, _, _, _, _, _, _, _, _, _, _, _, _, _, ⟨by omega, by rw [Int.toNat_natCast]; exact hx, ?_⟩⟩
    refine ⟨_, _, _, _, _, _, _, _, _, _, _, _, _, _, ⟨by omega, by rw [Int.toNat_natCast]; exact hy, ?_⟩⟩
    refine ⟨_, call_p (enters_of Tryz.func29 (by kernel_rfl) rfl) hc2 rfl ?_⟩
    refine br_i (fun h7 => ⟨by rw [hno (by rw [le_not h7]; simp)]; simp, rfl⟩) (fun h7 => ?_)
    refine ⟨⟨rfl, rfl, trivial⟩, rfl, (ps.zip bs).length - (j2 + 1), by omega, j2 + 1, by omega, rfl, by rw [wrap_id (by omega) (by omega)]; simp, ?_⟩
    rw [hsn, ha2, le_yes h, le_yes h7]; rfl
  have hge2 : ¬ j2 < (ps.zip bs).length := by simpa using hge2
  obtain rfl : j2 = (ps.zip bs).length := by omega
  rw [List.take_length, hl2, List.take_length] at ha2
  exact ⟨by rw [le_yes h1, le_yes h2, le_yes h3, le_yes h4, ha1, ha2]; rfl, rfl⟩
theorem co_same (a b : Co) : sameT (coT a) (coT b) = sameCo a b := by
  unfold coT sameT sameCo
  rw [sameTs_l]; simp
theorem rsame_data (a b : Da) (hs : smallDa a) : PCalls Tryz.prog 65 [.agg (daP a), .agg (daP b)] (fun r => r = .con (.bool (sameDa a b))) := by
  have H : ∀ x ∈ a.cons, ∀ y ∈ b.cons, PCalls Tryz.prog 64 [.agg (tyP (coT x)), .agg (tyP (coT y))] (fun r => r = .con (.bool (sameCo x y))) := fun x hx y _ => by
    rw [← co_same]
    exact rsame_ty (coT x) (hs.2.2 x hx) (coT y)
  have hsz := hs.2.1
  refine a65 _ _ _ _ _ _ _ _ _ ?_
  unfold p65 sameDa
  rw [beq_str, List.length_map, List.length_map, len_ne]
  refine br_i (fun h1 => ⟨by rw [le_not h1]; rfl, rfl⟩) (fun h1 => ?_)
  refine br_i (fun h2 => ⟨by rw [alikeL_len sameCo a.cons b.cons (by simpa using h2)]; simp, rfl⟩) (fun h2 => ?_)
  have hl : a.cons.length = b.cons.length := by simpa using h2
  refine ⟨fun c v => ∃ j : Nat, j ≤ (a.cons).length ∧ c = (a.cons).length - j ∧ v.1 = (j : Int) ∧ alikeL sameCo ((a.cons).take j) ((b.cons).take j) = true, ⟨_, 0, Nat.zero_le _, rfl, rfl, by simp [alikeL]⟩, ?_⟩
  rintro c1 ⟨i1, u1⟩ ⟨j1, hj1, rfl, hi1, ha1⟩
  dsimp only at hi1 ha1 ⊢
  subst hi1
  refine br_i (fun hlt => ?_) (fun hge1 => ?_)
  · have hlt : j1 < (a.cons).length := by simpa using hlt
    have hlt' : j1 < (b.cons).length := by omega
    have hsn := alikeL_snoc sameCo (a.cons) (b.cons) j1 hlt hlt'
    have hno := alikeL_no sameCo (a.cons) (b.cons) j1 hlt hlt'
    have hc := H (a.cons)[j1] (List.getElem_mem hlt) (b.cons)[j1] (List.getElem_mem hlt')
    obtain ⟨x0, x1, ex⟩ := cells_Con (a.cons)[j1]
    obtain ⟨y0, y1, ey⟩ := cells_Con (b.cons)[j1]
    obtain ⟨B, e⟩ : ∃ x, sameCo (a.cons)[j1] (b.cons)[j1] = x := ⟨_, rfl⟩
    rw [e] at hc hsn hno
    have hc' : PCalls Tryz.prog 64 [.agg [.con (.int .i64 0), .con (.string x0), .sl x1], .agg [.con (.int .i64 0), .con (.string y0), .sl y1]] (fun r => r = .con (.bool B)) := by
      unfold coP at ex ey
      simp only [List.cons.injEq, PV.con.injEq, Value.string.injEq, PV.sl.injEq, and_true] at ex ey
      rw [← ex.1, ← ex.2, ← ey.1, ← ey.2]
      exact hc
    replace hc := hc'
    refine ⟨_, _, ⟨by omega, by rw [Int.toNat_natCast, map_get coP (a.cons) j1 hlt, ex], ?_⟩⟩
    refine ⟨_, _, ⟨by omega, by rw [Int.toNat_natCast, map_get coP (a.cons) j1 hlt, ex], ?_⟩⟩
    refine ⟨_, _, ⟨by omega, by rw [Int.toNat_natCast, map_get coP (b.cons) j1 hlt', ey], ?_⟩⟩
    refine ⟨_, _, ⟨by omega, by rw [Int.toNat_natCast, map_get coP (b.cons) j1 hlt', ey], ?_⟩⟩
    refine ⟨_, call_p (enters_of Tryz.func64 (by kernel_rfl) rfl) hc rfl ?_⟩
    refine br_i (fun h => ⟨by rw [hno (le_not h)]; simp, rfl⟩) (fun h => ?_)
    refine ⟨⟨rfl, rfl, trivial⟩, rfl, (a.cons).length - (j1 + 1), by omega, j1 + 1, by omega, rfl, by rw [wrap_id (by omega) (by omega)]; simp, ?_⟩
    rw [hsn, ha1, le_yes h]; rfl
  have hge1 : ¬ j1 < (a.cons).length := by simpa using hge1
  obtain rfl : j1 = (a.cons).length := by omega
  rw [List.take_length, hl, List.take_length] at ha1
  exact ⟨by rw [le_yes h1, ha1]; rfl, rfl⟩
theorem rsame_param (a b : Pa) (hs : smallPa a) : PCalls Tryz.prog 67 [.agg (paP a), .agg (paP b)] (fun r => r = .con (.bool (samePa a b))) := by
  have hc := rsame_ty a.ty hs.2 b.ty
  unfold samePa
  obtain ⟨an, at'⟩ := a
  obtain ⟨bn, bt⟩ := b
  dsimp only at hc ⊢
  obtain ⟨B1, e1⟩ : ∃ x, sameT at' bt = x := ⟨_, rfl⟩
  rw [e1] at hc ⊢
  clear e1
  obtain ⟨k, n, ps⟩ := at'
  obtain ⟨k', n', ps'⟩ := bt
  refine a67 _ _ _ _ _ _ _ _ _ ?_
  unfold p67
  rw [beq_str]
  refine br_i (fun h1 => ?_) (fun h1 => ⟨by rw [h1]; rfl, rfl⟩)
  exact ⟨_, call_p (enters_of Tryz.func64 (by kernel_rfl) rfl) hc rfl ⟨by rw [h1]; rfl, rfl⟩⟩
theorem rsame_fun (a b : Fu) (hs : smallFu a) (hw : wfEx a.body) (hwb : wfEx b.body) : PCalls Tryz.prog 66 [.agg (fuP a), .agg (fuP b)] (fun r => r = .con (.bool (sameFu a b))) := by
  have H : ∀ x ∈ a.params, ∀ y ∈ b.params, PCalls Tryz.prog 67 [.agg (paP x), .agg (paP y)] (fun r => r = .con (.bool (samePa x y))) := fun x hx y _ => rsame_param x y (hs.2.2.1 x hx)
  have ht := rsame_ty a.result hs.2.2.2.1 b.result
  have he := rsame_ex a.body hs.2.2.2.2 hw b.body hwb
  have hsz := hs.2.1
  unfold sameFu
  obtain ⟨al, ac, an, ap, ar, ab⟩ := a
  obtain ⟨bl, bc, bn, bp, br', bb⟩ := b
  dsimp only at H ht he hsz ⊢
  obtain ⟨B1, e1⟩ : ∃ x, sameT ar br' = x := ⟨_, rfl⟩
  obtain ⟨B2, e2⟩ : ∃ x, sameE ab bb = x := ⟨_, rfl⟩
  rw [e1] at ht
  rw [e2] at he
  rw [e1, e2]
  clear e1 e2 hs hw hwb
  obtain ⟨k, n, ps⟩ := ar
  obtain ⟨k', n', ps'⟩ := br'
  obtain ⟨k2, li2, co2, m2, b2, n2, ks2, ps2, bs2⟩ := ab
  obtain ⟨k2', li2', co2', m2', b2', n2', ks2', ps2', bs2'⟩ := bb
  refine a66 _ _ _ _ _ _ _ _ _ _ _ _ _ _ _ _ _ _ _ _ _ _ _ _ _ _ _ _ _ _ _ ?_
  unfold p66
  rw [beq_str, List.length_map, List.length_map, len_ne]
  refine br_i (fun h1 => ⟨by rw [le_not h1]; rfl, rfl⟩) (fun h1 => ?_)
  refine br_i (fun h2 => ⟨by rw [alikeL_len samePa ap bp (by simpa using h2)]; simp, rfl⟩) (fun h2 => ?_)
  have hl : ap.length = bp.length := by simpa using h2
  refine ⟨_, call_p (enters_of Tryz.func64 (by kernel_rfl) rfl) ht rfl ?_⟩
  refine br_i (fun h3 => ⟨by rw [le_not h3]; simp, rfl⟩) (fun h3 => ?_)
  refine ⟨_, call_p (enters_of Tryz.func29 (by kernel_rfl) rfl) he rfl ?_⟩
  refine br_i (fun h4 => ⟨by rw [le_not h4]; simp, rfl⟩) (fun h4 => ?_)
  refine ⟨fun c v => ∃ j : Nat, j ≤ (ap).length ∧ c = (ap).length - j ∧ v.1 = (j : Int) ∧ alikeL samePa ((ap).take j) ((bp).take j) = true, ⟨_, 0, Nat.zero_le _, rfl, rfl, by simp [alikeL]⟩, ?_⟩
  rintro c1 ⟨i1, u1⟩ ⟨j1, hj1, rfl, hi1, ha1⟩
  dsimp only at hi1 ha1 ⊢
  subst hi1
  refine br_i (fun hlt => ?_) (fun hge1 => ?_)
  · have hlt : j1 < (ap).length := by simpa using hlt
    have hlt' : j1 < (bp).length := by omega
    have hsn := alikeL_snoc samePa (ap) (bp) j1 hlt hlt'
    have hno := alikeL_no samePa (ap) (bp) j1 hlt hlt'
    have hc := H (ap)[j1] (List.getElem_mem hlt) (bp)[j1] (List.getElem_mem hlt')
    obtain ⟨x0, x1, x2, x3, ex⟩ := cells_Param (ap)[j1]
    obtain ⟨y0, y1, y2, y3, ey⟩ := cells_Param (bp)[j1]
    obtain ⟨B, e⟩ : ∃ x, samePa (ap)[j1] (bp)[j1] = x := ⟨_, rfl⟩
    rw [e] at hc hsn hno
    rw [ex, ey] at hc
    refine ⟨_, _, _, _, ⟨by omega, by rw [Int.toNat_natCast, map_get paP (ap) j1 hlt, ex], ?_⟩⟩
    refine ⟨_, _, _, _, ⟨by omega, by rw [Int.toNat_natCast, map_get paP (bp) j1 hlt', ey], ?_⟩⟩
    refine ⟨_, call_p (enters_of Tryz.func67 (by kernel_rfl) rfl) hc rfl ?_⟩
    refine br_i (fun h => ⟨by rw [hno (le_not h)]; simp, rfl⟩) (fun h => ?_)
    refine ⟨⟨rfl, rfl, trivial⟩, rfl, (ap).length - (j1 + 1), by omega, j1 + 1, by omega, rfl, by rw [wrap_id (by omega) (by omega)]; simp, ?_⟩
    rw [hsn, ha1, le_yes h]; rfl
  have hge1 : ¬ j1 < (ap).length := by simpa using hge1
  obtain rfl : j1 = (ap).length := by omega
  rw [List.take_length, hl, List.take_length] at ha1
  exact ⟨by rw [le_yes h1, le_yes h3, le_yes h4, ha1]; rfl, rfl⟩
theorem rsame_prog (a b : Pr) (hs : smallPr a) (hw : wfPr a) (hwb : wfPr b) : PCalls Tryz.prog 26 [.agg (prP a), .agg (prP b)] (fun r => r = .con (.bool (samePr a b))) := by
  obtain ⟨s1, s2, s3, s4, s5, s6, s7, s8⟩ := hs
  have HD : ∀ x ∈ a.datas, ∀ y ∈ b.datas, PCalls Tryz.prog 65 [.agg (daP x), .agg (daP y)] (fun r => r = .con (.bool (sameDa x y))) := fun x hx y _ => rsame_data x y (s2 x hx)
  have HF : ∀ x ∈ a.funs, ∀ y ∈ b.funs, PCalls Tryz.prog 66 [.agg (fuP x), .agg (fuP y)] (fun r => r = .con (.bool (sameFu x y))) := fun x hx y hy => rsame_fun x y (s4 x hx) (hw.1 x hx) (hwb.1 y hy)
  have HH : ∀ x ∈ a.hands, ∀ y ∈ b.hands, PCalls Tryz.prog 67 [.agg (paP x.param), .agg (paP y.param)] (fun r => r = .con (.bool (samePa x.param y.param))) ∧ PCalls Tryz.prog 29 [.agg (exP x.body), .agg (exP y.body)] (fun r => r = .con (.bool (sameE x.body y.body))) := fun x hx y hy => ⟨rsame_param x.param y.param (s6 x hx).2.1, rsame_ex x.body (s6 x hx).2.2 (hw.2.1 x hx) y.body (hwb.2.1 y hy)⟩
  have ht := rsame_ty a.state s7 b.state
  have he := rsame_ex a.init s8 hw.2.2 b.init hwb.2.2
  unfold samePr
  obtain ⟨a1, a2, a3, a4, a5, a6, a7, a8⟩ := a
  obtain ⟨b1, b2, b3, b4, b5, b6, b7, b8⟩ := b
  dsimp only at HD HF HH ht he s1 s3 s5 ⊢
  obtain ⟨B1, e1⟩ : ∃ x, sameT a5 b5 = x := ⟨_, rfl⟩
  obtain ⟨B2, e2⟩ : ∃ x, sameE a7 b7 = x := ⟨_, rfl⟩
  rw [e1] at ht
  rw [e2] at he
  rw [e1, e2]
  clear e1 e2 s2 s4 s6 s7 s8 hw hwb
  obtain ⟨k, n, ps⟩ := a5
  obtain ⟨k', n', ps'⟩ := b5
  obtain ⟨k2, li2, co2, m2, b2', n2, ks2, ps2, bs2⟩ := a7
  obtain ⟨k2', li2', co2', m2', b2'', n2', ks2', ps2', bs2'⟩ := b7
  refine a26 _ _ _ _ _ _ _ _ _ _ _ _ _ _ _ _ _ _ _ _ _ _ _ _ _ _ _ _ _ _ _ _ _ _ _ ?_
  unfold p26
  rw [show (List.map daP a1).length = a1.length by simp, show (List.map fuP a2).length = a2.length by simp, show (List.map haP a8).length = a8.length by simp, show (List.map daP b1).length = b1.length by simp, show (List.map fuP b2).length = b2.length by simp, show (List.map haP b8).length = b8.length by simp, len_ne, len_ne, len_ne, bne_int, bne_int, bne_int]
  refine br_i (fun h => ⟨by rw [alikeL_len sameDa a1 b1 (by simpa using h)]; simp, rfl⟩) (fun h => ?_)
  have l1 : a1.length = b1.length := by simpa using h
  refine br_i (fun h => ⟨by rw [alikeL_len sameFu a2 b2 (by simpa using h)]; simp, rfl⟩) (fun h => ?_)
  have l2 : a2.length = b2.length := by simpa using h
  refine br_i (fun h => ⟨by rw [alikeL_len sameHa a8 b8 (by simpa using h)]; simp, rfl⟩) (fun h => ?_)
  have l3 : a8.length = b8.length := by simpa using h
  refine br_i (fun h1 => ⟨by rw [le_not h1]; simp, rfl⟩) (fun h1 => ?_)
  refine br_i (fun h2 => ⟨by rw [le_not h2]; simp, rfl⟩) (fun h2 => ?_)
  refine ⟨_, call_p (enters_of Tryz.func64 (by kernel_rfl) rfl) ht rfl ?_⟩
  refine br_i (fun h3 => ⟨by rw [le_not h3]; simp, rfl⟩) (fun h3 => ?_)
  refine br_i (fun h4 => ⟨by rw [le_not h4]; simp, rfl⟩) (fun h4 => ?_)
  refine ⟨_, call_p (enters_of Tryz.func29 (by kernel_rfl) rfl) he rfl ?_⟩
  refine br_i (fun h5 => ⟨by rw [le_not h5]; simp, rfl⟩) (fun h5 => ?_)
  refine ⟨fun c v => ∃ j : Nat, j ≤ (a1).length ∧ c = (a1).length - j ∧ v.1 = (j : Int) ∧ alikeL sameDa ((a1).take j) ((b1).take j) = true, ⟨_, 0, Nat.zero_le _, rfl, rfl, by simp [alikeL]⟩, ?_⟩
  rintro c1 ⟨i1, u1⟩ ⟨j1, hj1, rfl, hi1, ha1⟩
  dsimp only at hi1 ha1 ⊢
  subst hi1
  refine br_i (fun hlt => ?_) (fun hge1 => ?_)
  · have hlt : j1 < (a1).length := by simpa using hlt
    have hlt' : j1 < (b1).length := by omega
    have hsn := alikeL_snoc sameDa (a1) (b1) j1 hlt hlt'
    have hno := alikeL_no sameDa (a1) (b1) j1 hlt hlt'
    have hc := HD (a1)[j1] (List.getElem_mem hlt) (b1)[j1] (List.getElem_mem hlt')
    obtain ⟨x0, x1, x2, x3, ex⟩ := cells_Data (a1)[j1]
    obtain ⟨y0, y1, y2, y3, ey⟩ := cells_Data (b1)[j1]
    obtain ⟨B, e⟩ : ∃ x, sameDa (a1)[j1] (b1)[j1] = x := ⟨_, rfl⟩
    rw [e] at hc hsn hno
    rw [ex, ey] at hc
    refine ⟨_, _, _, _, ⟨by omega, by rw [Int.toNat_natCast, map_get daP (a1) j1 hlt, ex], ?_⟩⟩
    refine ⟨_, _, _, _, ⟨by omega, by rw [Int.toNat_natCast, map_get daP (b1) j1 hlt', ey], ?_⟩⟩
    refine ⟨_, call_p (enters_of Tryz.func65 (by kernel_rfl) rfl) hc rfl ?_⟩
    refine br_i (fun h => ⟨by rw [hno (le_not h)]; simp, rfl⟩) (fun h => ?_)
    refine ⟨⟨rfl, rfl, trivial⟩, rfl, (a1).length - (j1 + 1), by omega, j1 + 1, by omega, rfl, by rw [wrap_id (by omega) (by omega)]; simp, ?_⟩
    rw [hsn, ha1, le_yes h]; rfl
  have hge1 : ¬ j1 < (a1).length := by simpa using hge1
  obtain rfl : j1 = (a1).length := by omega
  rw [List.take_length, l1, List.take_length] at ha1
  refine ⟨fun c v => ∃ j : Nat, j ≤ (a2).length ∧ c = (a2).length - j ∧ v.1 = (j : Int) ∧ alikeL sameFu ((a2).take j) ((b2).take j) = true, ⟨_, 0, Nat.zero_le _, rfl, rfl, by simp [alikeL]⟩, ?_⟩
  rintro c2 ⟨i2, u2⟩ ⟨j2, hj2, rfl, hi2, ha2⟩
  dsimp only at hi2 ha2 ⊢
  subst hi2
  refine br_i (fun hlt => ?_) (fun hge2 => ?_)
  · have hlt : j2 < (a2).length := by simpa using hlt
    have hlt' : j2 < (b2).length := by omega
    have hsn := alikeL_snoc sameFu (a2) (b2) j2 hlt hlt'
    have hno := alikeL_no sameFu (a2) (b2) j2 hlt hlt'
    have hc := HF (a2)[j2] (List.getElem_mem hlt) (b2)[j2] (List.getElem_mem hlt')
    obtain ⟨x0, x1, x2, x3, x4, x5, x6, x7, x8, x9, x10, x11, x12, x13, x14, ex⟩ := cells_Fun (a2)[j2]
    obtain ⟨y0, y1, y2, y3, y4, y5, y6, y7, y8, y9, y10, y11, y12, y13, y14, ey⟩ := cells_Fun (b2)[j2]
    obtain ⟨B, e⟩ : ∃ x, sameFu (a2)[j2] (b2)[j2] = x := ⟨_, rfl⟩
    rw [e] at hc hsn hno
    rw [ex, ey] at hc
    refine ⟨_, _, _, _, _, _, _, _, _, _, _, _, _, _, _, ⟨by omega, by rw [Int.toNat_natCast, map_get fuP (a2) j2 hlt, ex], ?_⟩⟩
    refine ⟨_, _, _, _, _, _, _, _, _, _, _, _, _, _, _, ⟨by omega, by rw [Int.toNat_natCast, map_get fuP (b2) j2 hlt', ey], ?_⟩⟩
    refine ⟨_, call_p (enters_of Tryz.func66 (by kernel_rfl) rfl) hc rfl ?_⟩
    refine br_i (fun h => ⟨by rw [hno (le_not h)]; simp, rfl⟩) (fun h => ?_)
    refine ⟨⟨rfl, rfl, trivial⟩, rfl, (a2).length - (j2 + 1), by omega, j2 + 1, by omega, rfl, by rw [wrap_id (by omega) (by omega)]; simp, ?_⟩
    rw [hsn, ha2, le_yes h]; rfl
  have hge2 : ¬ j2 < (a2).length := by simpa using hge2
  obtain rfl : j2 = (a2).length := by omega
  rw [List.take_length, l2, List.take_length] at ha2
  refine ⟨fun c v => ∃ j : Nat, j ≤ (a8).length ∧ c = (a8).length - j ∧ v.1 = (j : Int) ∧ alikeL sameHa ((a8).take j) ((b8).take j) = true, ⟨_, 0, Nat.zero_le _, rfl, rfl, by simp [alikeL]⟩, ?_⟩
  rintro c3 ⟨i3, u3⟩ ⟨j3, hj3, rfl, hi3, ha3⟩
  dsimp only at hi3 ha3 ⊢
  subst hi3
  refine br_i (fun hlt => ?_) (fun hge3 => ?_)
  · have hlt : j3 < (a8).length := by simpa using hlt
    have hlt' : j3 < (b8).length := by omega
    have hsn := alikeL_snoc sameHa (a8) (b8) j3 hlt hlt'
    have hno := alikeL_no sameHa (a8) (b8) j3 hlt hlt'
    obtain ⟨hc1, hc2⟩ := HH a8[j3] (List.getElem_mem hlt) b8[j3] (List.getElem_mem hlt')
    have hx : (a8.map haP)[j3]? = some (haP a8[j3]) := map_get haP _ j3 hlt
    have hy : (b8.map haP)[j3]? = some (haP b8[j3]) := map_get haP _ j3 hlt'
    rw [show sameHa a8[j3] b8[j3] = (decide (a8[j3].name = b8[j3].name) && (decide (a8[j3].cap = b8[j3].cap) && (samePa a8[j3].param b8[j3].param && sameE a8[j3].body b8[j3].body))) from rfl] at hsn hno
    obtain ⟨C1, e1⟩ : ∃ x, samePa a8[j3].param b8[j3].param = x := ⟨_, rfl⟩
    obtain ⟨C2, e2⟩ : ∃ x, sameE a8[j3].body b8[j3].body = x := ⟨_, rfl⟩
    rw [e1] at hc1 hsn hno
    rw [e2] at hc2 hsn hno
    clear e1 e2
    generalize a8[j3] = A at hc1 hc2 hx hsn hno
    generalize b8[j3] = C at hc1 hc2 hy hsn hno
    obtain ⟨xl, xc, xn, ⟨xpn, ⟨xk, xtn, xps⟩⟩, xcap, ⟨xk2, xl2, xc2, xm2, xb2, xn2, xks2, xps2, xbs2⟩⟩ := A
    obtain ⟨yl, yc, yn, ⟨ypn, ⟨yk, ytn, yps⟩⟩, ycap, ⟨yk2, yl2, yc2, ym2, yb2, yn2, yks2, yps2, ybs2⟩⟩ := C
    dsimp only at hc1 hc2 hsn hno
    refine ⟨_, _, _, _, _, _, _, _, _, _, _, _, _, _, _, _, ⟨by omega, by rw [Int.toNat_natCast]; exact hx, ?_⟩⟩
    refine ⟨_, _, _, _, _, _, _, _, _, _, _, _, _, _, _, _, ⟨by omega, by rw [Int.toNat_natCast]; exact hy, ?_⟩⟩
    rw [beq_str]
    refine br_i (fun g1 => ⟨by rw [hno (by rw [le_not g1]; rfl)]; simp, rfl⟩) (fun g1 => ?_)
    refine ⟨_, call_p (enters_of Tryz.func67 (by kernel_rfl) rfl) hc1 rfl ?_⟩
    refine br_i (fun g2 => ⟨by rw [hno (by rw [le_not g2]; simp)]; simp, rfl⟩) (fun g2 => ?_)
    rw [bne_int]
    refine br_i (fun g3 => ⟨by rw [hno (by rw [le_not g3]; simp)]; simp, rfl⟩) (fun g3 => ?_)
    refine ⟨_, call_p (enters_of Tryz.func29 (by kernel_rfl) rfl) hc2 rfl ?_⟩
    refine br_i (fun g4 => ⟨by rw [hno (by rw [le_not g4]; simp)]; simp, rfl⟩) (fun g4 => ?_)
    refine ⟨⟨rfl, rfl, trivial⟩, rfl, (a8).length - (j3 + 1), by omega, j3 + 1, by omega, rfl, by rw [wrap_id (by omega) (by omega)]; simp, ?_⟩
    rw [hsn, ha3, le_yes g1, le_yes g2, le_yes g3, le_yes g4]; rfl
  have hge3 : ¬ j3 < (a8).length := by simpa using hge3
  obtain rfl : j3 = (a8).length := by omega
  rw [List.take_length, l3, List.take_length] at ha3
  exact ⟨by rw [le_yes h1, le_yes h2, le_yes h3, le_yes h4, le_yes h5, ha1, ha2, ha3]; rfl, rfl⟩
end Go.Proofs.YtcmnjodjebcapaaGreat.Deep

namespace Go.Proofs.YtcmnjodjebcapaaGreat.Deep
open Go.RowKit
set_option linter.unusedVariables false
def loops113k (id : Nat) : Option (List Nat × List (Nat × Sh)) := match Nat.beq id 2 with | true => some ([2, 9, 10], [(1, .own 0 70 4), (11, .int .i64)]) | false => none
def p113k (l1 l2 : List (List PV)) (Q : PV → Heap → Prop) : Prop :=
∃ I3 : Nat → ((List (List PV)) × (Int) × Unit) → Prop, (∃ n, I3 n (l2, 0, ())) ∧ ∀ (n4 : Nat) (v5 : (List (List PV)) × (Int) × Unit), I3 n4 v5 →
  (br ((decide ((v5.2.1 : Int) < (List.length l1 : Int))))
  (∃ i6 : Int, ∃ i7 : Int, ∃ s8 : ByteArray, ∃ l9 : List (List PV), IdxN l1 v5.2.1 [i6, i7, s8, l9]
  (∃ l10 : List (List PV), CallF Tryz.prog 114 [(.own 0 70 4 v5.1), v5.2.1, (.agg [i6, i7, s8, l9]), (.ept [(.fn 52 [])] 0)] [[.tip]] (.own 1 70 4 l10) [[], [.tip]]
  ((@Eq PV (.fn 114 [(.ept [(.fn 52 [])] 0)]) (.fn 114 [(.ept [(.fn 52 [])] 0)]) ∧ @Eq PV l1 l1 ∧ @Eq PV (.con (.int .i64 (List.length l1 : Int))) (.con (.int .i64 (List.length l1 : Int))) ∧ True) ∧ @Eq Heap [[]] [[]] ∧ ∃ k11, k11 < n4 ∧ I3 k11 (l10, (IntKind.wrap .i64 (v5.2.1 + 1)), ()))))
  (Q (.own 1 70 4 v5.1) [[], [.tip]]))
theorem a113k (l1 l2 : List (List PV)) (Q : PV → Heap → Prop) (h : p113k l1 l2 Q) : ACalls Tryz.prog 113 [l1, (.own 0 70 4 l2), (.fn 114 [(.ept [(.fn 52 [])] 0)])] [[.tip]] Q := by
  have hb : Option.some (bodyOf Tryz.f113) = Tryz.f113.body := by kernel_rfl
  exact acalls_canon (res := [.cell (.own 1 70 4)]) (post := [.dead, .tip]) (acalls_eq (S := S) (L := loops113k) mixed tok Tryz.func113 hb.symm (by kernel_rfl) h)
def p114k (l1 : List (List PV)) (i2 i3 i4 : Int) (s5 : ByteArray) (l6 : List (List PV)) (Q : PV → Heap → Prop) : Prop :=
∃ i7 : Int, ∃ i8 : Int, ∃ s9 : ByteArray, ∃ l10 : List (List PV), CallN Tryz.prog 52 [(.agg [i3, i4, s5, l6])] [[.tip], [i3, i4, s5, l6]] (.agg [i7, i8, s9, l10])
  (AppN l1 [[i7, i8, s9, l10]] 4 56 PV.one
  (Q (.own 1 70 4 (l1 ++ ([[i7, i8, s9, l10]] : List (List PV)))) [[], [.tip]]))
theorem a114k (l1 : List (List PV)) (i2 i3 i4 : Int) (s5 : ByteArray) (l6 : List (List PV)) (Q : PV → Heap → Prop) (h : p114k l1 i2 i3 i4 s5 l6 Q) : ACalls Tryz.prog 114 [(.own 0 70 4 l1), i2, (.agg [i3, i4, s5, l6]), (.ept [(.fn 52 [])] 0)] [[.tip]] Q := by
  have hb : Option.some (bodyOf Tryz.f114) = Tryz.f114.body := by kernel_rfl
  exact acalls_canon (res := [.cell (.own 1 70 4)]) (post := [.dead, .tip]) (acalls_eq (S := S) (L := loops7) mixed tok Tryz.func114 hb.symm (by kernel_rfl) h)
def p51k (l1 : List (List PV)) (Q : PV → Heap → Prop) : Prop :=
∃ l2 : List (List PV), CallF Tryz.prog 113 [l1, (.own 0 70 4 []), (.fn 114 [(.ept [(.fn 52 [])] 0)])] [[.tip]] (.own 1 70 4 l2) [[], [.tip]]
  (Q (.own 2 70 4 l2) [[], [], [.tip]])
theorem a51k (l1 : List (List PV)) (Q : PV → Heap → Prop) (h : p51k l1 Q) : ACalls Tryz.prog 51 [l1, (.fn 52 [])] [] Q := by
  have hb : Option.some (bodyOf Tryz.f51) = Tryz.f51.body := by kernel_rfl
  exact acalls_eq (S := S) (L := loops7) mixed tok Tryz.func51 hb.symm (by kernel_rfl) h
def loops117k (id : Nat) : Option (List Nat × List (Nat × Sh)) := match Nat.beq id 2 with | true => some ([2, 9, 10], [(1, .own 0 75 15), (11, .int .i64)]) | false => none
def p117k (l1 l2 : List (List PV)) (Q : PV → Heap → Prop) : Prop :=
∃ I3 : Nat → ((List (List PV)) × (Int) × Unit) → Prop, (∃ n, I3 n (l2, 0, ())) ∧ ∀ (n4 : Nat) (v5 : (List (List PV)) × (Int) × Unit), I3 n4 v5 →
  (br ((decide ((v5.2.1 : Int) < (List.length l1 : Int))))
  (∃ i6 : Int, ∃ i7 : Int, ∃ s8 : ByteArray, ∃ l9 : List (List PV), ∃ i10 : Int, ∃ s11 : ByteArray, ∃ l12 : List (List PV), ∃ i13 : Int, ∃ i14 : Int, ∃ i15 : Int, ∃ i16 : Int, ∃ l17 : List (List PV), ∃ s18 : ByteArray, ∃ l19 : List (List PV), ∃ l20 : List (List PV), IdxN l1 v5.2.1 [i6, i7, s8, l9, i10, s11, l12, i13, i14, i15, i16, l17, s18, l19, l20]
  (∃ l21 : List (List PV), CallF Tryz.prog 118 [(.own 0 75 15 v5.1), v5.2.1, (.agg [i6, i7, s8, l9, i10, s11, l12, i13, i14, i15, i16, l17, s18, l19, l20]), (.ept [(.fn 54 [])] 0)] [[.tip]] (.own 1 75 15 l21) [[], [.tip]]
  ((@Eq PV (.fn 118 [(.ept [(.fn 54 [])] 0)]) (.fn 118 [(.ept [(.fn 54 [])] 0)]) ∧ @Eq PV l1 l1 ∧ @Eq PV (.con (.int .i64 (List.length l1 : Int))) (.con (.int .i64 (List.length l1 : Int))) ∧ True) ∧ @Eq Heap [[]] [[]] ∧ ∃ k22, k22 < n4 ∧ I3 k22 (l21, (IntKind.wrap .i64 (v5.2.1 + 1)), ()))))
  (Q (.own 1 75 15 v5.1) [[], [.tip]]))
theorem a117k (l1 l2 : List (List PV)) (Q : PV → Heap → Prop) (h : p117k l1 l2 Q) : ACalls Tryz.prog 117 [l1, (.own 0 75 15 l2), (.fn 118 [(.ept [(.fn 54 [])] 0)])] [[.tip]] Q := by
  have hb : Option.some (bodyOf Tryz.f117) = Tryz.f117.body := by kernel_rfl
  exact acalls_canon (res := [.cell (.own 1 75 15)]) (post := [.dead, .tip]) (acalls_eq (S := S) (L := loops117k) mixed tok Tryz.func117 hb.symm (by kernel_rfl) h)
def p118k (l1 : List (List PV)) (i2 i3 i4 : Int) (s5 : ByteArray) (l6 : List (List PV)) (i7 : Int) (s8 : ByteArray) (l9 : List (List PV)) (i10 i11 i12 i13 : Int) (l14 : List (List PV)) (s15 : ByteArray) (l16 l17 : List (List PV)) (Q : PV → Heap → Prop) : Prop :=
∃ i18 : Int, ∃ i19 : Int, ∃ s20 : ByteArray, ∃ l21 : List (List PV), ∃ i22 : Int, ∃ s23 : ByteArray, ∃ l24 : List (List PV), ∃ i25 : Int, ∃ i26 : Int, ∃ i27 : Int, ∃ i28 : Int, ∃ l29 : List (List PV), ∃ s30 : ByteArray, ∃ l31 : List (List PV), ∃ l32 : List (List PV), CallN Tryz.prog 54 [(.agg [i3, i4, s5, l6, i7, s8, l9, i10, i11, i12, i13, l14, s15, l16, l17])] [[.tip], [i3, i4, s5, l6, i7, s8, l9, i10, i11, i12, i13, l14, s15, l16, l17]] (.agg [i18, i19, s20, l21, i22, s23, l24, i25, i26, i27, i28, l29, s30, l31, l32])
  (AppN l1 [[i18, i19, s20, l21, i22, s23, l24, i25, i26, i27, i28, l29, s30, l31, l32]] 15 224 PV.one
  (Q (.own 1 75 15 (l1 ++ ([[i18, i19, s20, l21, i22, s23, l24, i25, i26, i27, i28, l29, s30, l31, l32]] : List (List PV)))) [[], [.tip]]))
theorem a118k (l1 : List (List PV)) (i2 i3 i4 : Int) (s5 : ByteArray) (l6 : List (List PV)) (i7 : Int) (s8 : ByteArray) (l9 : List (List PV)) (i10 i11 i12 i13 : Int) (l14 : List (List PV)) (s15 : ByteArray) (l16 l17 : List (List PV)) (Q : PV → Heap → Prop) (h : p118k l1 i2 i3 i4 s5 l6 i7 s8 l9 i10 i11 i12 i13 l14 s15 l16 l17 Q) : ACalls Tryz.prog 118 [(.own 0 75 15 l1), i2, (.agg [i3, i4, s5, l6, i7, s8, l9, i10, i11, i12, i13, l14, s15, l16, l17]), (.ept [(.fn 54 [])] 0)] [[.tip]] Q := by
  have hb : Option.some (bodyOf Tryz.f118) = Tryz.f118.body := by kernel_rfl
  exact acalls_canon (res := [.cell (.own 1 75 15)]) (post := [.dead, .tip]) (acalls_eq (S := S) (L := loops7) mixed tok Tryz.func118 hb.symm (by kernel_rfl) h)
def p53k (l1 : List (List PV)) (Q : PV → Heap → Prop) : Prop :=
∃ l2 : List (List PV), CallF Tryz.prog 117 [l1, (.own 0 75 15 []), (.fn 118 [(.ept [(.fn 54 [])] 0)])] [[.tip]] (.own 1 75 15 l2) [[], [.tip]]
  (Q (.own 2 75 15 l2) [[], [], [.tip]])
theorem a53k (l1 : List (List PV)) (Q : PV → Heap → Prop) (h : p53k l1 Q) : ACalls Tryz.prog 53 [l1, (.fn 54 [])] [] Q := by
  have hb : Option.some (bodyOf Tryz.f53) = Tryz.f53.body := by kernel_rfl
  exact acalls_eq (S := S) (L := loops7) mixed tok Tryz.func53 hb.symm (by kernel_rfl) h
def loops125k (id : Nat) : Option (List Nat × List (Nat × Sh)) := match Nat.beq id 2 with | true => some ([2, 9, 10], [(1, .own 0 81 16), (11, .int .i64)]) | false => none
def p125k (l1 l2 : List (List PV)) (Q : PV → Heap → Prop) : Prop :=
∃ I3 : Nat → ((List (List PV)) × (Int) × Unit) → Prop, (∃ n, I3 n (l2, 0, ())) ∧ ∀ (n4 : Nat) (v5 : (List (List PV)) × (Int) × Unit), I3 n4 v5 →
  (br ((decide ((v5.2.1 : Int) < (List.length l1 : Int))))
  (∃ i6 : Int, ∃ i7 : Int, ∃ s8 : ByteArray, ∃ s9 : ByteArray, ∃ i10 : Int, ∃ s11 : ByteArray, ∃ l12 : List (List PV), ∃ i13 : Int, ∃ i14 : Int, ∃ i15 : Int, ∃ i16 : Int, ∃ i17 : Int, ∃ l18 : List (List PV), ∃ s19 : ByteArray, ∃ l20 : List (List PV), ∃ l21 : List (List PV), IdxN l1 v5.2.1 [i6, i7, s8, s9, i10, s11, l12, i13, i14, i15, i16, i17, l18, s19, l20, l21]
  (∃ l22 : List (List PV), CallF Tryz.prog 126 [(.own 0 81 16 v5.1), v5.2.1, (.agg [i6, i7, s8, s9, i10, s11, l12, i13, i14, i15, i16, i17, l18, s19, l20, l21]), (.ept [(.fn 58 [])] 0)] [[.tip]] (.own 1 81 16 l22) [[], [.tip]]
  ((@Eq PV (.fn 126 [(.ept [(.fn 58 [])] 0)]) (.fn 126 [(.ept [(.fn 58 [])] 0)]) ∧ @Eq PV l1 l1 ∧ @Eq PV (.con (.int .i64 (List.length l1 : Int))) (.con (.int .i64 (List.length l1 : Int))) ∧ True) ∧ @Eq Heap [[]] [[]] ∧ ∃ k23, k23 < n4 ∧ I3 k23 (l22, (IntKind.wrap .i64 (v5.2.1 + 1)), ()))))
  (Q (.own 1 81 16 v5.1) [[], [.tip]]))
theorem a125k (l1 l2 : List (List PV)) (Q : PV → Heap → Prop) (h : p125k l1 l2 Q) : ACalls Tryz.prog 125 [l1, (.own 0 81 16 l2), (.fn 126 [(.ept [(.fn 58 [])] 0)])] [[.tip]] Q := by
  have hb : Option.some (bodyOf Tryz.f125) = Tryz.f125.body := by kernel_rfl
  exact acalls_canon (res := [.cell (.own 1 81 16)]) (post := [.dead, .tip]) (acalls_eq (S := S) (L := loops125k) mixed tok Tryz.func125 hb.symm (by kernel_rfl) h)
def p126k (l1 : List (List PV)) (i2 i3 i4 : Int) (s5 s6 : ByteArray) (i7 : Int) (s8 : ByteArray) (l9 : List (List PV)) (i10 i11 i12 i13 i14 : Int) (l15 : List (List PV)) (s16 : ByteArray) (l17 l18 : List (List PV)) (Q : PV → Heap → Prop) : Prop :=
∃ i19 : Int, ∃ i20 : Int, ∃ s21 : ByteArray, ∃ s22 : ByteArray, ∃ i23 : Int, ∃ s24 : ByteArray, ∃ l25 : List (List PV), ∃ i26 : Int, ∃ i27 : Int, ∃ i28 : Int, ∃ i29 : Int, ∃ i30 : Int, ∃ l31 : List (List PV), ∃ s32 : ByteArray, ∃ l33 : List (List PV), ∃ l34 : List (List PV), CallN Tryz.prog 58 [(.agg [i3, i4, s5, s6, i7, s8, l9, i10, i11, i12, i13, i14, l15, s16, l17, l18])] [[.tip], [i3, i4, s5, s6, i7, s8, l9, i10, i11, i12, i13, i14, l15, s16, l17, l18]] (.agg [i19, i20, s21, s22, i23, s24, l25, i26, i27, i28, i29, i30, l31, s32, l33, l34])
  (AppN l1 [[i19, i20, s21, s22, i23, s24, l25, i26, i27, i28, i29, i30, l31, s32, l33, l34]] 16 224 PV.one
  (Q (.own 1 81 16 (l1 ++ ([[i19, i20, s21, s22, i23, s24, l25, i26, i27, i28, i29, i30, l31, s32, l33, l34]] : List (List PV)))) [[], [.tip]]))
theorem a126k (l1 : List (List PV)) (i2 i3 i4 : Int) (s5 s6 : ByteArray) (i7 : Int) (s8 : ByteArray) (l9 : List (List PV)) (i10 i11 i12 i13 i14 : Int) (l15 : List (List PV)) (s16 : ByteArray) (l17 l18 : List (List PV)) (Q : PV → Heap → Prop) (h : p126k l1 i2 i3 i4 s5 s6 i7 s8 l9 i10 i11 i12 i13 i14 l15 s16 l17 l18 Q) : ACalls Tryz.prog 126 [(.own 0 81 16 l1), i2, (.agg [i3, i4, s5, s6, i7, s8, l9, i10, i11, i12, i13, i14, l15, s16, l17, l18]), (.ept [(.fn 58 [])] 0)] [[.tip]] Q := by
  have hb : Option.some (bodyOf Tryz.f126) = Tryz.f126.body := by kernel_rfl
  exact acalls_canon (res := [.cell (.own 1 81 16)]) (post := [.dead, .tip]) (acalls_eq (S := S) (L := loops7) mixed tok Tryz.func126 hb.symm (by kernel_rfl) h)
def p57k (l1 : List (List PV)) (Q : PV → Heap → Prop) : Prop :=
∃ l2 : List (List PV), CallF Tryz.prog 125 [l1, (.own 0 81 16 []), (.fn 126 [(.ept [(.fn 58 [])] 0)])] [[.tip]] (.own 1 81 16 l2) [[], [.tip]]
  (Q (.own 2 81 16 l2) [[], [], [.tip]])
theorem a57k (l1 : List (List PV)) (Q : PV → Heap → Prop) (h : p57k l1 Q) : ACalls Tryz.prog 57 [l1, (.fn 58 [])] [] Q := by
  have hb : Option.some (bodyOf Tryz.f57) = Tryz.f57.body := by kernel_rfl
  exact acalls_eq (S := S) (L := loops7) mixed tok Tryz.func57 hb.symm (by kernel_rfl) h
def loops175k (id : Nat) : Option (List Nat × List (Nat × Sh)) := match Nat.beq id 2 with | true => some ([2, 9, 10], [(1, .own 0 119 2), (11, .int .i64)]) | false => none
def p175k (l1 l2 : List (List PV)) (Q : PV → Heap → Prop) : Prop :=
∃ I3 : Nat → ((List (List PV)) × (Int) × Unit) → Prop, (∃ n, I3 n (l2, 0, ())) ∧ ∀ (n4 : Nat) (v5 : (List (List PV)) × (Int) × Unit), I3 n4 v5 →
  (br ((decide ((v5.2.1 : Int) < (List.length l1 : Int))))
  (∃ s6 : ByteArray, ∃ l7 : List (List PV), IdxN l1 v5.2.1 [s6, l7]
  (∃ l8 : List (List PV), CallF Tryz.prog 176 [(.own 0 119 2 v5.1), v5.2.1, (.agg [s6, l7]), (.ept [(.fn 116 [])] 0)] [[.tip]] (.own 1 119 2 l8) [[], [.tip]]
  ((@Eq PV (.fn 176 [(.ept [(.fn 116 [])] 0)]) (.fn 176 [(.ept [(.fn 116 [])] 0)]) ∧ @Eq PV l1 l1 ∧ @Eq PV (.con (.int .i64 (List.length l1 : Int))) (.con (.int .i64 (List.length l1 : Int))) ∧ True) ∧ @Eq Heap [[]] [[]] ∧ ∃ k9, k9 < n4 ∧ I3 k9 (l8, (IntKind.wrap .i64 (v5.2.1 + 1)), ()))))
  (Q (.own 1 119 2 v5.1) [[], [.tip]]))
theorem a175k (l1 l2 : List (List PV)) (Q : PV → Heap → Prop) (h : p175k l1 l2 Q) : ACalls Tryz.prog 175 [l1, (.own 0 119 2 l2), (.fn 176 [(.ept [(.fn 116 [])] 0)])] [[.tip]] Q := by
  have hb : Option.some (bodyOf Tryz.f175) = Tryz.f175.body := by kernel_rfl
  exact acalls_canon (res := [.cell (.own 1 119 2)]) (post := [.dead, .tip]) (acalls_eq (S := S) (L := loops175k) mixed tok Tryz.func175 hb.symm (by kernel_rfl) h)
def p176k (l1 : List (List PV)) (i2 : Int) (s3 : ByteArray) (l4 : List (List PV)) (Q : PV → Heap → Prop) : Prop :=
∃ s5 : ByteArray, ∃ l6 : List (List PV), CallN Tryz.prog 116 [(.agg [s3, l4])] [[.tip], [s3, l4]] (.agg [s5, l6])
  (AppN l1 [[s5, l6]] 2 40 PV.one
  (Q (.own 1 119 2 (l1 ++ ([[s5, l6]] : List (List PV)))) [[], [.tip]]))
theorem a176k (l1 : List (List PV)) (i2 : Int) (s3 : ByteArray) (l4 : List (List PV)) (Q : PV → Heap → Prop) (h : p176k l1 i2 s3 l4 Q) : ACalls Tryz.prog 176 [(.own 0 119 2 l1), i2, (.agg [s3, l4]), (.ept [(.fn 116 [])] 0)] [[.tip]] Q := by
  have hb : Option.some (bodyOf Tryz.f176) = Tryz.f176.body := by kernel_rfl
  exact acalls_canon (res := [.cell (.own 1 119 2)]) (post := [.dead, .tip]) (acalls_eq (S := S) (L := loops7) mixed tok Tryz.func176 hb.symm (by kernel_rfl) h)
def p115k (l1 : List (List PV)) (Q : PV → Heap → Prop) : Prop :=
∃ l2 : List (List PV), CallF Tryz.prog 175 [l1, (.own 0 119 2 []), (.fn 176 [(.ept [(.fn 116 [])] 0)])] [[.tip]] (.own 1 119 2 l2) [[], [.tip]]
  (Q (.own 2 119 2 l2) [[], [], [.tip]])
theorem a115k (l1 : List (List PV)) (Q : PV → Heap → Prop) (h : p115k l1 Q) : ACalls Tryz.prog 115 [l1, (.fn 116 [])] [] Q := by
  have hb : Option.some (bodyOf Tryz.f115) = Tryz.f115.body := by kernel_rfl
  exact acalls_eq (S := S) (L := loops7) mixed tok Tryz.func115 hb.symm (by kernel_rfl) h
def loops177k (id : Nat) : Option (List Nat × List (Nat × Sh)) := match Nat.beq id 2 with | true => some ([2, 9, 10], [(1, .own 0 79 4), (11, .int .i64)]) | false => none
def p177k (l1 l2 : List (List PV)) (Q : PV → Heap → Prop) : Prop :=
∃ I3 : Nat → ((List (List PV)) × (Int) × Unit) → Prop, (∃ n, I3 n (l2, 0, ())) ∧ ∀ (n4 : Nat) (v5 : (List (List PV)) × (Int) × Unit), I3 n4 v5 →
  (br ((decide ((v5.2.1 : Int) < (List.length l1 : Int))))
  (∃ s6 : ByteArray, ∃ i7 : Int, ∃ s8 : ByteArray, ∃ l9 : List (List PV), IdxN l1 v5.2.1 [s6, i7, s8, l9]
  (∃ l10 : List (List PV), CallF Tryz.prog 178 [(.own 0 79 4 v5.1), v5.2.1, (.agg [s6, i7, s8, l9]), (.ept [(.fn 120 [])] 0)] [[.tip]] (.own 1 79 4 l10) [[], [.tip]]
  ((@Eq PV (.fn 178 [(.ept [(.fn 120 [])] 0)]) (.fn 178 [(.ept [(.fn 120 [])] 0)]) ∧ @Eq PV l1 l1 ∧ @Eq PV (.con (.int .i64 (List.length l1 : Int))) (.con (.int .i64 (List.length l1 : Int))) ∧ True) ∧ @Eq Heap [[]] [[]] ∧ ∃ k11, k11 < n4 ∧ I3 k11 (l10, (IntKind.wrap .i64 (v5.2.1 + 1)), ()))))
  (Q (.own 1 79 4 v5.1) [[], [.tip]]))
theorem a177k (l1 l2 : List (List PV)) (Q : PV → Heap → Prop) (h : p177k l1 l2 Q) : ACalls Tryz.prog 177 [l1, (.own 0 79 4 l2), (.fn 178 [(.ept [(.fn 120 [])] 0)])] [[.tip]] Q := by
  have hb : Option.some (bodyOf Tryz.f177) = Tryz.f177.body := by kernel_rfl
  exact acalls_canon (res := [.cell (.own 1 79 4)]) (post := [.dead, .tip]) (acalls_eq (S := S) (L := loops177k) mixed tok Tryz.func177 hb.symm (by kernel_rfl) h)
def p178k (l1 : List (List PV)) (i2 : Int) (s3 : ByteArray) (i4 : Int) (s5 : ByteArray) (l6 : List (List PV)) (Q : PV → Heap → Prop) : Prop :=
∃ s7 : ByteArray, ∃ i8 : Int, ∃ s9 : ByteArray, ∃ l10 : List (List PV), CallN Tryz.prog 120 [(.agg [s3, i4, s5, l6])] [[.tip], [s3, i4, s5, l6]] (.agg [s7, i8, s9, l10])
  (AppN l1 [[s7, i8, s9, l10]] 4 64 PV.one
  (Q (.own 1 79 4 (l1 ++ ([[s7, i8, s9, l10]] : List (List PV)))) [[], [.tip]]))
theorem a178k (l1 : List (List PV)) (i2 : Int) (s3 : ByteArray) (i4 : Int) (s5 : ByteArray) (l6 : List (List PV)) (Q : PV → Heap → Prop) (h : p178k l1 i2 s3 i4 s5 l6 Q) : ACalls Tryz.prog 178 [(.own 0 79 4 l1), i2, (.agg [s3, i4, s5, l6]), (.ept [(.fn 120 [])] 0)] [[.tip]] Q := by
  have hb : Option.some (bodyOf Tryz.f178) = Tryz.f178.body := by kernel_rfl
  exact acalls_canon (res := [.cell (.own 1 79 4)]) (post := [.dead, .tip]) (acalls_eq (S := S) (L := loops7) mixed tok Tryz.func178 hb.symm (by kernel_rfl) h)
def p119k (l1 : List (List PV)) (Q : PV → Heap → Prop) : Prop :=
∃ l2 : List (List PV), CallF Tryz.prog 177 [l1, (.own 0 79 4 []), (.fn 178 [(.ept [(.fn 120 [])] 0)])] [[.tip]] (.own 1 79 4 l2) [[], [.tip]]
  (Q (.own 2 79 4 l2) [[], [], [.tip]])
theorem a119k (l1 : List (List PV)) (Q : PV → Heap → Prop) (h : p119k l1 Q) : ACalls Tryz.prog 119 [l1, (.fn 120 [])] [] Q := by
  have hb : Option.some (bodyOf Tryz.f119) = Tryz.f119.body := by kernel_rfl
  exact acalls_eq (S := S) (L := loops7) mixed tok Tryz.func119 hb.symm (by kernel_rfl) h
def loops179k (id : Nat) : Option (List Nat × List (Nat × Sh)) := match Nat.beq id 2 with | true => some ([2, 9, 10], [(1, .own 0 26 3), (11, .int .i64)]) | false => none
def p179k (l1 l2 : List (List PV)) (Q : PV → Heap → Prop) : Prop :=
∃ I3 : Nat → ((List (List PV)) × (Int) × Unit) → Prop, (∃ n, I3 n (l2, 0, ())) ∧ ∀ (n4 : Nat) (v5 : (List (List PV)) × (Int) × Unit), I3 n4 v5 →
  (br ((decide ((v5.2.1 : Int) < (List.length l1 : Int))))
  (∃ i6 : Int, ∃ s7 : ByteArray, ∃ l8 : List (List PV), IdxN l1 v5.2.1 [i6, s7, l8]
  (∃ l9 : List (List PV), CallF Tryz.prog 180 [(.own 0 26 3 v5.1), v5.2.1, (.agg [i6, s7, l8]), (.ept [(.fn 55 [])] 0)] [[.tip]] (.own 1 26 3 l9) [[], [.tip]]
  ((@Eq PV (.fn 180 [(.ept [(.fn 55 [])] 0)]) (.fn 180 [(.ept [(.fn 55 [])] 0)]) ∧ @Eq PV l1 l1 ∧ @Eq PV (.con (.int .i64 (List.length l1 : Int))) (.con (.int .i64 (List.length l1 : Int))) ∧ True) ∧ @Eq Heap [[]] [[]] ∧ ∃ k10, k10 < n4 ∧ I3 k10 (l9, (IntKind.wrap .i64 (v5.2.1 + 1)), ()))))
  (Q (.own 1 26 3 v5.1) [[], [.tip]]))
theorem a179k (l1 l2 : List (List PV)) (Q : PV → Heap → Prop) (h : p179k l1 l2 Q) : ACalls Tryz.prog 179 [l1, (.own 0 26 3 l2), (.fn 180 [(.ept [(.fn 55 [])] 0)])] [[.tip]] Q := by
  have hb : Option.some (bodyOf Tryz.f179) = Tryz.f179.body := by kernel_rfl
  exact acalls_canon (res := [.cell (.own 1 26 3)]) (post := [.dead, .tip]) (acalls_eq (S := S) (L := loops179k) mixed tok Tryz.func179 hb.symm (by kernel_rfl) h)
def p180k (l1 : List (List PV)) (i2 i3 : Int) (s4 : ByteArray) (l5 : List (List PV)) (Q : PV → Heap → Prop) : Prop :=
∃ i6 : Int, ∃ s7 : ByteArray, ∃ l8 : List (List PV), CallN Tryz.prog 55 [(.agg [i3, s4, l5])] [[.tip], [i3, s4, l5]] (.agg [i6, s7, l8])
  (AppN l1 [[i6, s7, l8]] 3 48 PV.one
  (Q (.own 1 26 3 (l1 ++ ([[i6, s7, l8]] : List (List PV)))) [[], [.tip]]))
theorem a180k (l1 : List (List PV)) (i2 i3 : Int) (s4 : ByteArray) (l5 : List (List PV)) (Q : PV → Heap → Prop) (h : p180k l1 i2 i3 s4 l5 Q) : ACalls Tryz.prog 180 [(.own 0 26 3 l1), i2, (.agg [i3, s4, l5]), (.ept [(.fn 55 [])] 0)] [[.tip]] Q := by
  have hb : Option.some (bodyOf Tryz.f180) = Tryz.f180.body := by kernel_rfl
  exact acalls_canon (res := [.cell (.own 1 26 3)]) (post := [.dead, .tip]) (acalls_eq (S := S) (L := loops7) mixed tok Tryz.func180 hb.symm (by kernel_rfl) h)
def p121k (l1 : List (List PV)) (Q : PV → Heap → Prop) : Prop :=
∃ l2 : List (List PV), CallF Tryz.prog 179 [l1, (.own 0 26 3 []), (.fn 180 [(.ept [(.fn 55 [])] 0)])] [[.tip]] (.own 1 26 3 l2) [[], [.tip]]
  (Q (.own 2 26 3 l2) [[], [], [.tip]])
theorem a121k (l1 : List (List PV)) (Q : PV → Heap → Prop) (h : p121k l1 Q) : ACalls Tryz.prog 121 [l1, (.fn 55 [])] [] Q := by
  have hb : Option.some (bodyOf Tryz.f121) = Tryz.f121.body := by kernel_rfl
  exact acalls_eq (S := S) (L := loops7) mixed tok Tryz.func121 hb.symm (by kernel_rfl) h
def loops181k (id : Nat) : Option (List Nat × List (Nat × Sh)) := match Nat.beq id 2 with | true => some ([2, 9, 10], [(1, .own 0 33 8), (11, .int .i64)]) | false => none
def p181k (l1 l2 : List (List PV)) (Q : PV → Heap → Prop) : Prop :=
∃ I3 : Nat → ((List (List PV)) × (Int) × Unit) → Prop, (∃ n, I3 n (l2, 0, ())) ∧ ∀ (n4 : Nat) (v5 : (List (List PV)) × (Int) × Unit), I3 n4 v5 →
  (br ((decide ((v5.2.1 : Int) < (List.length l1 : Int))))
  (∃ i6 : Int, ∃ i7 : Int, ∃ i8 : Int, ∃ i9 : Int, ∃ l10 : List (List PV), ∃ s11 : ByteArray, ∃ l12 : List (List PV), ∃ l13 : List (List PV), IdxN l1 v5.2.1 [i6, i7, i8, i9, l10, s11, l12, l13]
  (∃ l14 : List (List PV), CallF Tryz.prog 182 [(.own 0 33 8 v5.1), v5.2.1, (.agg [i6, i7, i8, i9, l10, s11, l12, l13]), (.ept [(.fn 56 [])] 0)] [[.tip]] (.own 1 33 8 l14) [[], [.tip]]
  ((@Eq PV (.fn 182 [(.ept [(.fn 56 [])] 0)]) (.fn 182 [(.ept [(.fn 56 [])] 0)]) ∧ @Eq PV l1 l1 ∧ @Eq PV (.con (.int .i64 (List.length l1 : Int))) (.con (.int .i64 (List.length l1 : Int))) ∧ True) ∧ @Eq Heap [[]] [[]] ∧ ∃ k15, k15 < n4 ∧ I3 k15 (l14, (IntKind.wrap .i64 (v5.2.1 + 1)), ()))))
  (Q (.own 1 33 8 v5.1) [[], [.tip]]))
theorem a181k (l1 l2 : List (List PV)) (Q : PV → Heap → Prop) (h : p181k l1 l2 Q) : ACalls Tryz.prog 181 [l1, (.own 0 33 8 l2), (.fn 182 [(.ept [(.fn 56 [])] 0)])] [[.tip]] Q := by
  have hb : Option.some (bodyOf Tryz.f181) = Tryz.f181.body := by kernel_rfl
  exact acalls_canon (res := [.cell (.own 1 33 8)]) (post := [.dead, .tip]) (acalls_eq (S := S) (L := loops181k) mixed tok Tryz.func181 hb.symm (by kernel_rfl) h)
def p182k (l1 : List (List PV)) (i2 i3 i4 i5 i6 : Int) (l7 : List (List PV)) (s8 : ByteArray) (l9 l10 : List (List PV)) (Q : PV → Heap → Prop) : Prop :=
∃ i11 : Int, ∃ i12 : Int, ∃ i13 : Int, ∃ i14 : Int, ∃ l15 : List (List PV), ∃ s16 : ByteArray, ∃ l17 : List (List PV), ∃ l18 : List (List PV), CallN Tryz.prog 56 [(.agg [i3, i4, i5, i6, l7, s8, l9, l10])] [[.tip], [i3, i4, i5, i6, l7, s8, l9, l10]] (.agg [i11, i12, i13, i14, l15, s16, l17, l18])
  (AppN l1 [[i11, i12, i13, i14, l15, s16, l17, l18]] 8 120 PV.one
  (Q (.own 1 33 8 (l1 ++ ([[i11, i12, i13, i14, l15, s16, l17, l18]] : List (List PV)))) [[], [.tip]]))
theorem a182k (l1 : List (List PV)) (i2 i3 i4 i5 i6 : Int) (l7 : List (List PV)) (s8 : ByteArray) (l9 l10 : List (List PV)) (Q : PV → Heap → Prop) (h : p182k l1 i2 i3 i4 i5 i6 l7 s8 l9 l10 Q) : ACalls Tryz.prog 182 [(.own 0 33 8 l1), i2, (.agg [i3, i4, i5, i6, l7, s8, l9, l10]), (.ept [(.fn 56 [])] 0)] [[.tip]] Q := by
  have hb : Option.some (bodyOf Tryz.f182) = Tryz.f182.body := by kernel_rfl
  exact acalls_canon (res := [.cell (.own 1 33 8)]) (post := [.dead, .tip]) (acalls_eq (S := S) (L := loops7) mixed tok Tryz.func182 hb.symm (by kernel_rfl) h)
def p122k (l1 : List (List PV)) (Q : PV → Heap → Prop) : Prop :=
∃ l2 : List (List PV), CallF Tryz.prog 181 [l1, (.own 0 33 8 []), (.fn 182 [(.ept [(.fn 56 [])] 0)])] [[.tip]] (.own 1 33 8 l2) [[], [.tip]]
  (Q (.own 2 33 8 l2) [[], [], [.tip]])
theorem a122k (l1 : List (List PV)) (Q : PV → Heap → Prop) (h : p122k l1 Q) : ACalls Tryz.prog 122 [l1, (.fn 56 [])] [] Q := by
  have hb : Option.some (bodyOf Tryz.f122) = Tryz.f122.body := by kernel_rfl
  exact acalls_eq (S := S) (L := loops7) mixed tok Tryz.func122 hb.symm (by kernel_rfl) h
def loops183k (id : Nat) : Option (List Nat × List (Nat × Sh)) := match Nat.beq id 2 with | true => some ([2, 9, 10], [(1, .own 0 59 14), (11, .int .i64)]) | false => none
def p183k (l1 l2 : List (List PV)) (Q : PV → Heap → Prop) : Prop :=
∃ I3 : Nat → ((List (List PV)) × (Int) × Unit) → Prop, (∃ n, I3 n (l2, 0, ())) ∧ ∀ (n4 : Nat) (v5 : (List (List PV)) × (Int) × Unit), I3 n4 v5 →
  (br ((decide ((v5.2.1 : Int) < (List.length l1 : Int))))
  (∃ i6 : Int, ∃ i7 : Int, ∃ i8 : Int, ∃ s9 : ByteArray, ∃ i10 : Int, ∃ l11 : List (List PV), ∃ i12 : Int, ∃ i13 : Int, ∃ i14 : Int, ∃ i15 : Int, ∃ l16 : List (List PV), ∃ s17 : ByteArray, ∃ l18 : List (List PV), ∃ l19 : List (List PV), IdxN l1 v5.2.1 [i6, i7, i8, s9, i10, l11, i12, i13, i14, i15, l16, s17, l18, l19]
  (∃ l20 : List (List PV), CallF Tryz.prog 184 [(.own 0 59 14 v5.1), v5.2.1, (.agg [i6, i7, i8, s9, i10, l11, i12, i13, i14, i15, l16, s17, l18, l19]), (.ept [(.fn 124 [])] 0)] [[.tip]] (.own 1 59 14 l20) [[], [.tip]]
  ((@Eq PV (.fn 184 [(.ept [(.fn 124 [])] 0)]) (.fn 184 [(.ept [(.fn 124 [])] 0)]) ∧ @Eq PV l1 l1 ∧ @Eq PV (.con (.int .i64 (List.length l1 : Int))) (.con (.int .i64 (List.length l1 : Int))) ∧ True) ∧ @Eq Heap [[]] [[]] ∧ ∃ k21, k21 < n4 ∧ I3 k21 (l20, (IntKind.wrap .i64 (v5.2.1 + 1)), ()))))
  (Q (.own 1 59 14 v5.1) [[], [.tip]]))
theorem a183k (l1 l2 : List (List PV)) (Q : PV → Heap → Prop) (h : p183k l1 l2 Q) : ACalls Tryz.prog 183 [l1, (.own 0 59 14 l2), (.fn 184 [(.ept [(.fn 124 [])] 0)])] [[.tip]] Q := by
  have hb : Option.some (bodyOf Tryz.f183) = Tryz.f183.body := by kernel_rfl
  exact acalls_canon (res := [.cell (.own 1 59 14)]) (post := [.dead, .tip]) (acalls_eq (S := S) (L := loops183k) mixed tok Tryz.func183 hb.symm (by kernel_rfl) h)
def p184k (l1 : List (List PV)) (i2 i3 i4 i5 : Int) (s6 : ByteArray) (i7 : Int) (l8 : List (List PV)) (i9 i10 i11 i12 : Int) (l13 : List (List PV)) (s14 : ByteArray) (l15 l16 : List (List PV)) (Q : PV → Heap → Prop) : Prop :=
∃ i17 : Int, ∃ i18 : Int, ∃ i19 : Int, ∃ s20 : ByteArray, ∃ i21 : Int, ∃ l22 : List (List PV), ∃ i23 : Int, ∃ i24 : Int, ∃ i25 : Int, ∃ i26 : Int, ∃ l27 : List (List PV), ∃ s28 : ByteArray, ∃ l29 : List (List PV), ∃ l30 : List (List PV), CallN Tryz.prog 124 [(.agg [i3, i4, i5, s6, i7, l8, i9, i10, i11, i12, l13, s14, l15, l16])] [[.tip], [i3, i4, i5, s6, i7, l8, i9, i10, i11, i12, l13, s14, l15, l16]] (.agg [i17, i18, i19, s20, i21, l22, i23, i24, i25, i26, l27, s28, l29, l30])
  (AppN l1 [[i17, i18, i19, s20, i21, l22, i23, i24, i25, i26, l27, s28, l29, l30]] 14 192 PV.one
  (Q (.own 1 59 14 (l1 ++ ([[i17, i18, i19, s20, i21, l22, i23, i24, i25, i26, l27, s28, l29, l30]] : List (List PV)))) [[], [.tip]]))
theorem a184k (l1 : List (List PV)) (i2 i3 i4 i5 : Int) (s6 : ByteArray) (i7 : Int) (l8 : List (List PV)) (i9 i10 i11 i12 : Int) (l13 : List (List PV)) (s14 : ByteArray) (l15 l16 : List (List PV)) (Q : PV → Heap → Prop) (h : p184k l1 i2 i3 i4 i5 s6 i7 l8 i9 i10 i11 i12 l13 s14 l15 l16 Q) : ACalls Tryz.prog 184 [(.own 0 59 14 l1), i2, (.agg [i3, i4, i5, s6, i7, l8, i9, i10, i11, i12, l13, s14, l15, l16]), (.ept [(.fn 124 [])] 0)] [[.tip]] Q := by
  have hb : Option.some (bodyOf Tryz.f184) = Tryz.f184.body := by kernel_rfl
  exact acalls_canon (res := [.cell (.own 1 59 14)]) (post := [.dead, .tip]) (acalls_eq (S := S) (L := loops7) mixed tok Tryz.func184 hb.symm (by kernel_rfl) h)
def p123k (l1 : List (List PV)) (Q : PV → Heap → Prop) : Prop :=
∃ l2 : List (List PV), CallF Tryz.prog 183 [l1, (.own 0 59 14 []), (.fn 184 [(.ept [(.fn 124 [])] 0)])] [[.tip]] (.own 1 59 14 l2) [[], [.tip]]
  (Q (.own 2 59 14 l2) [[], [], [.tip]])
theorem a123k (l1 : List (List PV)) (Q : PV → Heap → Prop) (h : p123k l1 Q) : ACalls Tryz.prog 123 [l1, (.fn 124 [])] [] Q := by
  have hb : Option.some (bodyOf Tryz.f123) = Tryz.f123.body := by kernel_rfl
  exact acalls_eq (S := S) (L := loops7) mixed tok Tryz.func123 hb.symm (by kernel_rfl) h
def loops201k (id : Nat) : Option (List Nat × List (Nat × Sh)) := match Nat.beq id 2 with | true => some ([2, 9, 10], [(1, .own 0 39 6), (11, .int .i64)]) | false => none
def p201k (l1 l2 : List (List PV)) (Q : PV → Heap → Prop) : Prop :=
∃ I3 : Nat → ((List (List PV)) × (Int) × Unit) → Prop, (∃ n, I3 n (l2, 0, ())) ∧ ∀ (n4 : Nat) (v5 : (List (List PV)) × (Int) × Unit), I3 n4 v5 →
  (br ((decide ((v5.2.1 : Int) < (List.length l1 : Int))))
  (∃ i6 : Int, ∃ i7 : Int, ∃ i8 : Int, ∃ s9 : ByteArray, ∃ i10 : Int, ∃ l11 : List (List PV), IdxN l1 v5.2.1 [i6, i7, i8, s9, i10, l11]
  (∃ l12 : List (List PV), CallF Tryz.prog 202 [(.own 0 39 6 v5.1), v5.2.1, (.agg [i6, i7, i8, s9, i10, l11]), (.ept [(.fn 185 [])] 0)] [[.tip]] (.own 1 39 6 l12) [[], [.tip]]
  ((@Eq PV (.fn 202 [(.ept [(.fn 185 [])] 0)]) (.fn 202 [(.ept [(.fn 185 [])] 0)]) ∧ @Eq PV l1 l1 ∧ @Eq PV (.con (.int .i64 (List.length l1 : Int))) (.con (.int .i64 (List.length l1 : Int))) ∧ True) ∧ @Eq Heap [[]] [[]] ∧ ∃ k13, k13 < n4 ∧ I3 k13 (l12, (IntKind.wrap .i64 (v5.2.1 + 1)), ()))))
  (Q (.own 1 39 6 v5.1) [[], [.tip]]))
theorem a201k (l1 l2 : List (List PV)) (Q : PV → Heap → Prop) (h : p201k l1 l2 Q) : ACalls Tryz.prog 201 [l1, (.own 0 39 6 l2), (.fn 202 [(.ept [(.fn 185 [])] 0)])] [[.tip]] Q := by
  have hb : Option.some (bodyOf Tryz.f201) = Tryz.f201.body := by kernel_rfl
  exact acalls_canon (res := [.cell (.own 1 39 6)]) (post := [.dead, .tip]) (acalls_eq (S := S) (L := loops201k) mixed tok Tryz.func201 hb.symm (by kernel_rfl) h)
def p202k (l1 : List (List PV)) (i2 i3 i4 i5 : Int) (s6 : ByteArray) (i7 : Int) (l8 : List (List PV)) (Q : PV → Heap → Prop) : Prop :=
∃ i9 : Int, ∃ i10 : Int, ∃ i11 : Int, ∃ s12 : ByteArray, ∃ i13 : Int, ∃ l14 : List (List PV), CallN Tryz.prog 185 [(.agg [i3, i4, i5, s6, i7, l8])] [[.tip], [i3, i4, i5, s6, i7, l8]] (.agg [i9, i10, i11, s12, i13, l14])
  (AppN l1 [[i9, i10, i11, s12, i13, l14]] 6 72 PV.one
  (Q (.own 1 39 6 (l1 ++ ([[i9, i10, i11, s12, i13, l14]] : List (List PV)))) [[], [.tip]]))
theorem a202k (l1 : List (List PV)) (i2 i3 i4 i5 : Int) (s6 : ByteArray) (i7 : Int) (l8 : List (List PV)) (Q : PV → Heap → Prop) (h : p202k l1 i2 i3 i4 i5 s6 i7 l8 Q) : ACalls Tryz.prog 202 [(.own 0 39 6 l1), i2, (.agg [i3, i4, i5, s6, i7, l8]), (.ept [(.fn 185 [])] 0)] [[.tip]] Q := by
  have hb : Option.some (bodyOf Tryz.f202) = Tryz.f202.body := by kernel_rfl
  exact acalls_canon (res := [.cell (.own 1 39 6)]) (post := [.dead, .tip]) (acalls_eq (S := S) (L := loops7) mixed tok Tryz.func202 hb.symm (by kernel_rfl) h)
def p196k (l1 : List (List PV)) (Q : PV → Heap → Prop) : Prop :=
∃ l2 : List (List PV), CallF Tryz.prog 201 [l1, (.own 0 39 6 []), (.fn 202 [(.ept [(.fn 185 [])] 0)])] [[.tip]] (.own 1 39 6 l2) [[], [.tip]]
  (Q (.own 2 39 6 l2) [[], [], [.tip]])
theorem a196k (l1 : List (List PV)) (Q : PV → Heap → Prop) (h : p196k l1 Q) : ACalls Tryz.prog 196 [l1, (.fn 185 [])] [] Q := by
  have hb : Option.some (bodyOf Tryz.f196) = Tryz.f196.body := by kernel_rfl
  exact acalls_eq (S := S) (L := loops7) mixed tok Tryz.func196 hb.symm (by kernel_rfl) h
def p55 (i1 : Int) (s2 : ByteArray) (l3 : List (List PV)) (Q : PV → Heap → Prop) : Prop :=
∃ l4 : List (List PV), CallN Tryz.prog 121 [l3, (.fn 55 [])] [[i1, s2, l3], [(.con (.int .i64 0)), (.con (.string ⟨#[]⟩)), (.con (.slice none 0 0))]] l4
  (Q (.agg [i1, s2, l4]) [[i1, s2, l4], [i1, s2, l4]])
theorem a55 (i1 : Int) (s2 : ByteArray) (l3 : List (List PV)) (Q : PV → Heap → Prop) (h : p55 i1 s2 l3 Q) : ACalls Tryz.prog 55 [(.agg [i1, s2, l3])] [] Q := by
  have hb : Option.some (bodyOf Tryz.f55) = Tryz.f55.body := by kernel_rfl
  exact acalls_eq (S := S) (L := loops7) mixed tok Tryz.func55 hb.symm (by kernel_rfl) h
def p185 (i1 i2 i3 : Int) (s4 : ByteArray) (i5 : Int) (l6 : List (List PV)) (Q : PV → Heap → Prop) : Prop :=
∃ l7 : List (List PV), CallN Tryz.prog 196 [l6, (.fn 185 [])] [[i1, (.con (.int .i64 0)), (.con (.int .i64 0)), s4, i5, l6], [(.con (.int .i64 0)), (.con (.int .i64 0)), (.con (.int .i64 0)), (.con (.string ⟨#[]⟩)), (.con (.int .i64 0)), (.con (.slice none 0 0))]] l7
  (Q (.agg [i1, (.con (.int .i64 0)), (.con (.int .i64 0)), s4, i5, l7]) [[i1, (.con (.int .i64 0)), (.con (.int .i64 0)), s4, i5, l7], [i1, (.con (.int .i64 0)), (.con (.int .i64 0)), s4, i5, l7]])
theorem a185 (i1 i2 i3 : Int) (s4 : ByteArray) (i5 : Int) (l6 : List (List PV)) (Q : PV → Heap → Prop) (h : p185 i1 i2 i3 s4 i5 l6 Q) : ACalls Tryz.prog 185 [(.agg [i1, i2, i3, s4, i5, l6])] [] Q := by
  have hb : Option.some (bodyOf Tryz.f185) = Tryz.f185.body := by kernel_rfl
  exact acalls_eq (S := S) (L := loops7) mixed tok Tryz.func185 hb.symm (by kernel_rfl) h
def p56 (i1 i2 i3 i4 : Int) (l5 : List (List PV)) (s6 : ByteArray) (l7 l8 : List (List PV)) (Q : PV → Heap → Prop) : Prop :=
AppN [] l5 1 1 PV.one
  (∃ l9 : List (List PV), CallN Tryz.prog 122 [l7, (.fn 56 [])] [[i1, (.con (.int .i64 0)), (.con (.int .i64 0)), i4, (.own 3 5 1 l5), s6, l7, l8], [(.con (.int .i64 0)), (.con (.int .i64 0)), (.con (.int .i64 0)), (.con (.int .i64 0)), (.con (.slice none 0 0)), (.con (.string ⟨#[]⟩)), (.con (.slice none 0 0)), (.con (.slice none 0 0))], [], [.tip]] l9
  (∃ l10 : List (List PV), CallN Tryz.prog 123 [l8, (.fn 124 [])] [[i1, (.con (.int .i64 0)), (.con (.int .i64 0)), i4, (.own 3 5 1 l5), s6, l9, l8], [(.con (.int .i64 0)), (.con (.int .i64 0)), (.con (.int .i64 0)), (.con (.int .i64 0)), (.con (.slice none 0 0)), (.con (.string ⟨#[]⟩)), (.con (.slice none 0 0)), (.con (.slice none 0 0))], [], [.tip]] l10
  (Q (.agg [i1, (.con (.int .i64 0)), (.con (.int .i64 0)), i4, (.own 3 5 1 l5), s6, l9, l10]) [[i1, (.con (.int .i64 0)), (.con (.int .i64 0)), i4, (.own 3 5 1 l5), s6, l9, l10], [i1, (.con (.int .i64 0)), (.con (.int .i64 0)), i4, (.own 3 5 1 l5), s6, l9, l10], [], [.tip]])))
theorem a56 (i1 i2 i3 i4 : Int) (l5 : List (List PV)) (s6 : ByteArray) (l7 l8 : List (List PV)) (Q : PV → Heap → Prop) (h : p56 i1 i2 i3 i4 l5 s6 l7 l8 Q) : ACalls Tryz.prog 56 [(.agg [i1, i2, i3, i4, l5, s6, l7, l8])] [] Q := by
  have hb : Option.some (bodyOf Tryz.f56) = Tryz.f56.body := by kernel_rfl
  exact acalls_eq (S := S) (L := loops7) mixed tok Tryz.func56 hb.symm (by kernel_rfl) h
def p124 (i1 i2 i3 : Int) (s4 : ByteArray) (i5 : Int) (l6 : List (List PV)) (i7 i8 i9 i10 : Int) (l11 : List (List PV)) (s12 : ByteArray) (l13 l14 : List (List PV)) (Q : PV → Heap → Prop) : Prop :=
∃ i15 : Int, ∃ i16 : Int, ∃ i17 : Int, ∃ s18 : ByteArray, ∃ i19 : Int, ∃ l20 : List (List PV), CallN Tryz.prog 185 [(.agg [i1, i2, i3, s4, i5, l6])] [[i1, i2, i3, s4, i5, l6, i7, i8, i9, i10, l11, s12, l13, l14], [(.con (.int .i64 0)), (.con (.int .i64 0)), (.con (.int .i64 0)), (.con (.string ⟨#[]⟩)), (.con (.int .i64 0)), (.con (.slice none 0 0)), (.con (.int .i64 0)), (.con (.int .i64 0)), (.con (.int .i64 0)), (.con (.int .i64 0)), (.con (.slice none 0 0)), (.con (.string ⟨#[]⟩)), (.con (.slice none 0 0)), (.con (.slice none 0 0))]] (.agg [i15, i16, i17, s18, i19, l20])
  (∃ i21 : Int, ∃ i22 : Int, ∃ i23 : Int, ∃ i24 : Int, ∃ l25 : List (List PV), ∃ s26 : ByteArray, ∃ l27 : List (List PV), ∃ l28 : List (List PV), CallN Tryz.prog 56 [(.agg [i7, i8, i9, i10, l11, s12, l13, l14])] [[i1, i2, i3, s4, i5, l6, i7, i8, i9, i10, l11, s12, l13, l14], [(.con (.int .i64 0)), (.con (.int .i64 0)), (.con (.int .i64 0)), (.con (.string ⟨#[]⟩)), (.con (.int .i64 0)), (.con (.slice none 0 0)), (.con (.int .i64 0)), (.con (.int .i64 0)), (.con (.int .i64 0)), (.con (.int .i64 0)), (.con (.slice none 0 0)), (.con (.string ⟨#[]⟩)), (.con (.slice none 0 0)), (.con (.slice none 0 0))]] (.agg [i21, i22, i23, i24, l25, s26, l27, l28])
  (Q (.agg [i15, i16, i17, s18, i19, l20, i21, i22, i23, i24, l25, s26, l27, l28]) [[i1, i2, i3, s4, i5, l6, i7, i8, i9, i10, l11, s12, l13, l14], [i15, i16, i17, s18, i19, l20, i21, i22, i23, i24, l25, s26, l27, l28]]))
theorem a124 (i1 i2 i3 : Int) (s4 : ByteArray) (i5 : Int) (l6 : List (List PV)) (i7 i8 i9 i10 : Int) (l11 : List (List PV)) (s12 : ByteArray) (l13 l14 : List (List PV)) (Q : PV → Heap → Prop) (h : p124 i1 i2 i3 s4 i5 l6 i7 i8 i9 i10 l11 s12 l13 l14 Q) : ACalls Tryz.prog 124 [(.agg [i1, i2, i3, s4, i5, l6, i7, i8, i9, i10, l11, s12, l13, l14])] [] Q := by
  have hb : Option.some (bodyOf Tryz.f124) = Tryz.f124.body := by kernel_rfl
  exact acalls_eq (S := S) (L := loops7) mixed tok Tryz.func124 hb.symm (by kernel_rfl) h
def p116 (s1 : ByteArray) (l2 : List (List PV)) (Q : PV → Heap → Prop) : Prop :=
∃ l3 : List (List PV), CallN Tryz.prog 121 [l2, (.fn 55 [])] [[s1, l2], [(.con (.string ⟨#[]⟩)), (.con (.slice none 0 0))]] l3
  (Q (.agg [s1, l3]) [[s1, l3], [s1, l3]])
theorem a116 (s1 : ByteArray) (l2 : List (List PV)) (Q : PV → Heap → Prop) (h : p116 s1 l2 Q) : ACalls Tryz.prog 116 [(.agg [s1, l2])] [] Q := by
  have hb : Option.some (bodyOf Tryz.f116) = Tryz.f116.body := by kernel_rfl
  exact acalls_eq (S := S) (L := loops7) mixed tok Tryz.func116 hb.symm (by kernel_rfl) h
def p52 (i1 i2 : Int) (s3 : ByteArray) (l4 : List (List PV)) (Q : PV → Heap → Prop) : Prop :=
∃ l5 : List (List PV), CallN Tryz.prog 115 [l4, (.fn 116 [])] [[(.con (.int .i64 0)), (.con (.int .i64 0)), s3, l4], [(.con (.int .i64 0)), (.con (.int .i64 0)), (.con (.string ⟨#[]⟩)), (.con (.slice none 0 0))]] l5
  (Q (.agg [(.con (.int .i64 0)), (.con (.int .i64 0)), s3, l5]) [[(.con (.int .i64 0)), (.con (.int .i64 0)), s3, l5], [(.con (.int .i64 0)), (.con (.int .i64 0)), s3, l5]])
theorem a52 (i1 i2 : Int) (s3 : ByteArray) (l4 : List (List PV)) (Q : PV → Heap → Prop) (h : p52 i1 i2 s3 l4 Q) : ACalls Tryz.prog 52 [(.agg [i1, i2, s3, l4])] [] Q := by
  have hb : Option.some (bodyOf Tryz.f52) = Tryz.f52.body := by kernel_rfl
  exact acalls_eq (S := S) (L := loops7) mixed tok Tryz.func52 hb.symm (by kernel_rfl) h
def p120 (s1 : ByteArray) (i2 : Int) (s3 : ByteArray) (l4 : List (List PV)) (Q : PV → Heap → Prop) : Prop :=
∃ i5 : Int, ∃ s6 : ByteArray, ∃ l7 : List (List PV), CallN Tryz.prog 55 [(.agg [i2, s3, l4])] [[s1, i2, s3, l4], [(.con (.string ⟨#[]⟩)), (.con (.int .i64 0)), (.con (.string ⟨#[]⟩)), (.con (.slice none 0 0))]] (.agg [i5, s6, l7])
  (Q (.agg [s1, i5, s6, l7]) [[s1, i5, s6, l7], [s1, i5, s6, l7]])
theorem a120 (s1 : ByteArray) (i2 : Int) (s3 : ByteArray) (l4 : List (List PV)) (Q : PV → Heap → Prop) (h : p120 s1 i2 s3 l4 Q) : ACalls Tryz.prog 120 [(.agg [s1, i2, s3, l4])] [] Q := by
  have hb : Option.some (bodyOf Tryz.f120) = Tryz.f120.body := by kernel_rfl
  exact acalls_eq (S := S) (L := loops7) mixed tok Tryz.func120 hb.symm (by kernel_rfl) h
def p54 (i1 i2 : Int) (s3 : ByteArray) (l4 : List (List PV)) (i5 : Int) (s6 : ByteArray) (l7 : List (List PV)) (i8 i9 i10 i11 : Int) (l12 : List (List PV)) (s13 : ByteArray) (l14 l15 : List (List PV)) (Q : PV → Heap → Prop) : Prop :=
∃ l16 : List (List PV), CallN Tryz.prog 119 [l4, (.fn 120 [])] [[(.con (.int .i64 0)), (.con (.int .i64 0)), s3, l4, i5, s6, l7, i8, i9, i10, i11, l12, s13, l14, l15], [(.con (.int .i64 0)), (.con (.int .i64 0)), (.con (.string ⟨#[]⟩)), (.con (.slice none 0 0)), (.con (.int .i64 0)), (.con (.string ⟨#[]⟩)), (.con (.slice none 0 0)), (.con (.int .i64 0)), (.con (.int .i64 0)), (.con (.int .i64 0)), (.con (.int .i64 0)), (.con (.slice none 0 0)), (.con (.string ⟨#[]⟩)), (.con (.slice none 0 0)), (.con (.slice none 0 0))]] l16
  (∃ i17 : Int, ∃ s18 : ByteArray, ∃ l19 : List (List PV), CallN Tryz.prog 55 [(.agg [i5, s6, l7])] [[(.con (.int .i64 0)), (.con (.int .i64 0)), s3, l16, i5, s6, l7, i8, i9, i10, i11, l12, s13, l14, l15], [(.con (.int .i64 0)), (.con (.int .i64 0)), (.con (.string ⟨#[]⟩)), (.con (.slice none 0 0)), (.con (.int .i64 0)), (.con (.string ⟨#[]⟩)), (.con (.slice none 0 0)), (.con (.int .i64 0)), (.con (.int .i64 0)), (.con (.int .i64 0)), (.con (.int .i64 0)), (.con (.slice none 0 0)), (.con (.string ⟨#[]⟩)), (.con (.slice none 0 0)), (.con (.slice none 0 0))]] (.agg [i17, s18, l19])
  (∃ i20 : Int, ∃ i21 : Int, ∃ i22 : Int, ∃ i23 : Int, ∃ l24 : List (List PV), ∃ s25 : ByteArray, ∃ l26 : List (List PV), ∃ l27 : List (List PV), CallN Tryz.prog 56 [(.agg [i8, i9, i10, i11, l12, s13, l14, l15])] [[(.con (.int .i64 0)), (.con (.int .i64 0)), s3, l16, i17, s18, l19, i8, i9, i10, i11, l12, s13, l14, l15], [(.con (.int .i64 0)), (.con (.int .i64 0)), (.con (.string ⟨#[]⟩)), (.con (.slice none 0 0)), (.con (.int .i64 0)), (.con (.string ⟨#[]⟩)), (.con (.slice none 0 0)), (.con (.int .i64 0)), (.con (.int .i64 0)), (.con (.int .i64 0)), (.con (.int .i64 0)), (.con (.slice none 0 0)), (.con (.string ⟨#[]⟩)), (.con (.slice none 0 0)), (.con (.slice none 0 0))]] (.agg [i20, i21, i22, i23, l24, s25, l26, l27])
  (Q (.agg [(.con (.int .i64 0)), (.con (.int .i64 0)), s3, l16, i17, s18, l19, i20, i21, i22, i23, l24, s25, l26, l27]) [[(.con (.int .i64 0)), (.con (.int .i64 0)), s3, l16, i17, s18, l19, i20, i21, i22, i23, l24, s25, l26, l27], [(.con (.int .i64 0)), (.con (.int .i64 0)), s3, l16, i17, s18, l19, i20, i21, i22, i23, l24, s25, l26, l27]])))
theorem a54 (i1 i2 : Int) (s3 : ByteArray) (l4 : List (List PV)) (i5 : Int) (s6 : ByteArray) (l7 : List (List PV)) (i8 i9 i10 i11 : Int) (l12 : List (List PV)) (s13 : ByteArray) (l14 l15 : List (List PV)) (Q : PV → Heap → Prop) (h : p54 i1 i2 s3 l4 i5 s6 l7 i8 i9 i10 i11 l12 s13 l14 l15 Q) : ACalls Tryz.prog 54 [(.agg [i1, i2, s3, l4, i5, s6, l7, i8, i9, i10, i11, l12, s13, l14, l15])] [] Q := by
  have hb : Option.some (bodyOf Tryz.f54) = Tryz.f54.body := by kernel_rfl
  exact acalls_eq (S := S) (L := loops7) mixed tok Tryz.func54 hb.symm (by kernel_rfl) h
def p58 (i1 i2 : Int) (s3 s4 : ByteArray) (i5 : Int) (s6 : ByteArray) (l7 : List (List PV)) (i8 i9 i10 i11 i12 : Int) (l13 : List (List PV)) (s14 : ByteArray) (l15 l16 : List (List PV)) (Q : PV → Heap → Prop) : Prop :=
∃ s17 : ByteArray, ∃ i18 : Int, ∃ s19 : ByteArray, ∃ l20 : List (List PV), CallN Tryz.prog 120 [(.agg [s4, i5, s6, l7])] [[(.con (.int .i64 0)), (.con (.int .i64 0)), s3, s4, i5, s6, l7, i8, i9, i10, i11, i12, l13, s14, l15, l16], [(.con (.int .i64 0)), (.con (.int .i64 0)), (.con (.string ⟨#[]⟩)), (.con (.string ⟨#[]⟩)), (.con (.int .i64 0)), (.con (.string ⟨#[]⟩)), (.con (.slice none 0 0)), (.con (.int .i64 0)), (.con (.int .i64 0)), (.con (.int .i64 0)), (.con (.int .i64 0)), (.con (.int .i64 0)), (.con (.slice none 0 0)), (.con (.string ⟨#[]⟩)), (.con (.slice none 0 0)), (.con (.slice none 0 0))]] (.agg [s17, i18, s19, l20])
  (∃ i21 : Int, ∃ i22 : Int, ∃ i23 : Int, ∃ i24 : Int, ∃ l25 : List (List PV), ∃ s26 : ByteArray, ∃ l27 : List (List PV), ∃ l28 : List (List PV), CallN Tryz.prog 56 [(.agg [i9, i10, i11, i12, l13, s14, l15, l16])] [[(.con (.int .i64 0)), (.con (.int .i64 0)), s3, s17, i18, s19, l20, i8, i9, i10, i11, i12, l13, s14, l15, l16], [(.con (.int .i64 0)), (.con (.int .i64 0)), (.con (.string ⟨#[]⟩)), (.con (.string ⟨#[]⟩)), (.con (.int .i64 0)), (.con (.string ⟨#[]⟩)), (.con (.slice none 0 0)), (.con (.int .i64 0)), (.con (.int .i64 0)), (.con (.int .i64 0)), (.con (.int .i64 0)), (.con (.int .i64 0)), (.con (.slice none 0 0)), (.con (.string ⟨#[]⟩)), (.con (.slice none 0 0)), (.con (.slice none 0 0))]] (.agg [i21, i22, i23, i24, l25, s26, l27, l28])
  (Q (.agg [(.con (.int .i64 0)), (.con (.int .i64 0)), s3, s17, i18, s19, l20, i8, i21, i22, i23, i24, l25, s26, l27, l28]) [[(.con (.int .i64 0)), (.con (.int .i64 0)), s3, s17, i18, s19, l20, i8, i21, i22, i23, i24, l25, s26, l27, l28], [(.con (.int .i64 0)), (.con (.int .i64 0)), s3, s17, i18, s19, l20, i8, i21, i22, i23, i24, l25, s26, l27, l28]]))
theorem a58 (i1 i2 : Int) (s3 s4 : ByteArray) (i5 : Int) (s6 : ByteArray) (l7 : List (List PV)) (i8 i9 i10 i11 i12 : Int) (l13 : List (List PV)) (s14 : ByteArray) (l15 l16 : List (List PV)) (Q : PV → Heap → Prop) (h : p58 i1 i2 s3 s4 i5 s6 l7 i8 i9 i10 i11 i12 l13 s14 l15 l16 Q) : ACalls Tryz.prog 58 [(.agg [i1, i2, s3, s4, i5, s6, l7, i8, i9, i10, i11, i12, l13, s14, l15, l16])] [] Q := by
  have hb : Option.some (bodyOf Tryz.f58) = Tryz.f58.body := by kernel_rfl
  exact acalls_eq (S := S) (L := loops7) mixed tok Tryz.func58 hb.symm (by kernel_rfl) h
def p20 (l1 l2 : List (List PV)) (i3 i4 i5 : Int) (s6 : ByteArray) (l7 : List (List PV)) (i8 i9 i10 i11 i12 : Int) (l13 : List (List PV)) (s14 : ByteArray) (l15 l16 l17 : List (List PV)) (Q : PV → Heap → Prop) : Prop :=
∃ l18 : List (List PV), CallN Tryz.prog 51 [l1, (.fn 52 [])] [[l1, l2, i3, i4, i5, s6, l7, i8, i9, i10, i11, i12, l13, s14, l15, l16, l17], [(.con (.slice none 0 0)), (.con (.slice none 0 0)), (.con (.int .i64 0)), (.con (.int .i64 0)), (.con (.int .i64 0)), (.con (.string ⟨#[]⟩)), (.con (.slice none 0 0)), (.con (.int .i64 0)), (.con (.int .i64 0)), (.con (.int .i64 0)), (.con (.int .i64 0)), (.con (.int .i64 0)), (.con (.slice none 0 0)), (.con (.string ⟨#[]⟩)), (.con (.slice none 0 0)), (.con (.slice none 0 0)), (.con (.slice none 0 0))]] l18
  (∃ l19 : List (List PV), CallN Tryz.prog 53 [l2, (.fn 54 [])] [[l18, l2, i3, i4, i5, s6, l7, i8, i9, i10, i11, i12, l13, s14, l15, l16, l17], [(.con (.slice none 0 0)), (.con (.slice none 0 0)), (.con (.int .i64 0)), (.con (.int .i64 0)), (.con (.int .i64 0)), (.con (.string ⟨#[]⟩)), (.con (.slice none 0 0)), (.con (.int .i64 0)), (.con (.int .i64 0)), (.con (.int .i64 0)), (.con (.int .i64 0)), (.con (.int .i64 0)), (.con (.slice none 0 0)), (.con (.string ⟨#[]⟩)), (.con (.slice none 0 0)), (.con (.slice none 0 0)), (.con (.slice none 0 0))]] l19
  (∃ i20 : Int, ∃ s21 : ByteArray, ∃ l22 : List (List PV), CallN Tryz.prog 55 [(.agg [i5, s6, l7])] [[l18, l19, i3, i4, i5, s6, l7, i8, i9, i10, i11, i12, l13, s14, l15, l16, l17], [(.con (.slice none 0 0)), (.con (.slice none 0 0)), (.con (.int .i64 0)), (.con (.int .i64 0)), (.con (.int .i64 0)), (.con (.string ⟨#[]⟩)), (.con (.slice none 0 0)), (.con (.int .i64 0)), (.con (.int .i64 0)), (.con (.int .i64 0)), (.con (.int .i64 0)), (.con (.int .i64 0)), (.con (.slice none 0 0)), (.con (.string ⟨#[]⟩)), (.con (.slice none 0 0)), (.con (.slice none 0 0)), (.con (.slice none 0 0))]] (.agg [i20, s21, l22])
  (∃ i23 : Int, ∃ i24 : Int, ∃ i25 : Int, ∃ i26 : Int, ∃ l27 : List (List PV), ∃ s28 : ByteArray, ∃ l29 : List (List PV), ∃ l30 : List (List PV), CallN Tryz.prog 56 [(.agg [i9, i10, i11, i12, l13, s14, l15, l16])] [[l18, l19, i3, i4, i20, s21, l22, i8, i9, i10, i11, i12, l13, s14, l15, l16, l17], [(.con (.slice none 0 0)), (.con (.slice none 0 0)), (.con (.int .i64 0)), (.con (.int .i64 0)), (.con (.int .i64 0)), (.con (.string ⟨#[]⟩)), (.con (.slice none 0 0)), (.con (.int .i64 0)), (.con (.int .i64 0)), (.con (.int .i64 0)), (.con (.int .i64 0)), (.con (.int .i64 0)), (.con (.slice none 0 0)), (.con (.string ⟨#[]⟩)), (.con (.slice none 0 0)), (.con (.slice none 0 0)), (.con (.slice none 0 0))]] (.agg [i23, i24, i25, i26, l27, s28, l29, l30])
  (∃ l31 : List (List PV), CallN Tryz.prog 57 [l17, (.fn 58 [])] [[l18, l19, i3, i4, i20, s21, l22, i8, i23, i24, i25, i26, l27, s28, l29, l30, l17], [(.con (.slice none 0 0)), (.con (.slice none 0 0)), (.con (.int .i64 0)), (.con (.int .i64 0)), (.con (.int .i64 0)), (.con (.string ⟨#[]⟩)), (.con (.slice none 0 0)), (.con (.int .i64 0)), (.con (.int .i64 0)), (.con (.int .i64 0)), (.con (.int .i64 0)), (.con (.int .i64 0)), (.con (.slice none 0 0)), (.con (.string ⟨#[]⟩)), (.con (.slice none 0 0)), (.con (.slice none 0 0)), (.con (.slice none 0 0))]] l31
  (Q (.agg [l18, l19, i3, i4, i20, s21, l22, i8, i23, i24, i25, i26, l27, s28, l29, l30, l31]) [[l18, l19, i3, i4, i20, s21, l22, i8, i23, i24, i25, i26, l27, s28, l29, l30, l31], [l18, l19, i3, i4, i20, s21, l22, i8, i23, i24, i25, i26, l27, s28, l29, l30, l31]])))))
theorem a20 (l1 l2 : List (List PV)) (i3 i4 i5 : Int) (s6 : ByteArray) (l7 : List (List PV)) (i8 i9 i10 i11 i12 : Int) (l13 : List (List PV)) (s14 : ByteArray) (l15 l16 l17 : List (List PV)) (Q : PV → Heap → Prop) (h : p20 l1 l2 i3 i4 i5 s6 l7 i8 i9 i10 i11 i12 l13 s14 l15 l16 l17 Q) : ACalls Tryz.prog 20 [(.agg [l1, l2, i3, i4, i5, s6, l7, i8, i9, i10, i11, i12, l13, s14, l15, l16, l17])] [] Q := by
  have hb : Option.some (bodyOf Tryz.f20) = Tryz.f20.body := by kernel_rfl
  exact acalls_eq (S := S) (L := loops7) mixed tok Tryz.func20 hb.symm (by kernel_rfl) h
end Go.Proofs.YtcmnjodjebcapaaGreat.Deep
