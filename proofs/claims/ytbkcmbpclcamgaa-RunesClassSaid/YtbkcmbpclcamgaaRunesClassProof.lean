/-
  For every rune the Go function RunesClass of the statements on package runes returns true: no rune is of two classes, and what is of one is a rune. No condition.
-/
import Derived.Test.YtbkcmbpclcamgaaRows
import Derived.Test.YtbkcmbpclcamgaaAwake
import Derived.Test.YtbkcmbpclcamgaaPost
import Derived.WalkKit
import Derived.ProofKit
import Derived.OpenShut
namespace Go.Proofs.Ytbkcmbpclcamgaa.runesClass
open Go.ChangeShapes Go.WideShapes Go.ChangeAt Go.RowKit
set_option linter.unusedVariables false      -- a walk need not use every 'w<i>' (that an integer argument fits its kind)

theorem own : ownKnob Try.prog.godebug = none := by kernel_rfl

theorem vint {a b : Int} (h : a = b) : Value.int .i64 a = .int .i64 b := by rw [h]
def one (b : Bool) : Int := if b = true then 1 else 0
def cnt (b0 b1 b2 b3 : Bool) (k : Nat) : Int := (if 0 < k then one b0 else 0) + (if 1 < k then one b1 else 0) + (if 2 < k then one b2 else 0) + (if 3 < k then one b3 else 0)
theorem one_le (b : Bool) : 0 ≤ one b ∧ one b ≤ 1 := by cases b <;> decide
theorem cnt_le (b0 b1 b2 b3 : Bool) (k : Nat) : 0 ≤ cnt b0 b1 b2 b3 k ∧ cnt b0 b1 b2 b3 k ≤ 4 := by
  have h0 := one_le b0; have h1 := one_le b1; have h2 := one_le b2; have h3 := one_le b3
  unfold cnt; repeat' split
  all_goals omega
theorem total_is (c : Int) : cnt (lowB c) (upB c) (digB c) (blankB c) 4 = 0 ∨ (cnt (lowB c) (upB c) (digB c) (blankB c) 4 = 1 ∧ validB c = true) := by
  rw [validB_iff]
  simp only [cnt, one, lowB, upB, digB, blankB, decide_eq_true_eq]
  repeat' split
  all_goals omega

set_option maxRecDepth 100000 in
set_option maxHeartbeats 1000000 in
theorem class_walk (c : Int) (w : World) : Calls Try.prog 5 #[.int .i32 c] w fun e w' => e = .returned (.bool true) ∧ Below w.heap.size w w' := by
  obtain ⟨b0, hb0⟩ : ∃ b, lowB c = b := ⟨_, rfl⟩
  obtain ⟨b1, hb1⟩ : ∃ b, upB c = b := ⟨_, rfl⟩
  obtain ⟨b2, hb2⟩ : ∃ b, digB c = b := ⟨_, rfl⟩
  obtain ⟨b3, hb3⟩ : ∃ b, blankB c = b := ⟨_, rfl⟩
  have ht := total_is c
  rw [hb0, hb1, hb2, hb3] at ht
  have H0 := Lib.hid (hb0 ▸ low_any c w)
  have H1 := Lib.hid (hb1 ▸ up_any c w)
  have H2 := Lib.hid (hb2 ▸ dig_any c w)
  have H3 := Lib.hid (hb3 ▸ blank_any c w)
  have Ht := Lib.hid ht
  clear hb0 hb1 hb2 hb3 ht
  go_enter Try.func5, Try.ntmps5
  go_wp2_with (first | (go_at_call 13; ((with_reducible refine (H0.out).mono ?_); rintro e w' ⟨rfl, rfl⟩)) | (go_at_call 15; ((with_reducible refine (H1.out).mono ?_); rintro e w' ⟨rfl, rfl⟩)) | (go_at_call 17; ((with_reducible refine (H2.out).mono ?_); rintro e w' ⟨rfl, rfl⟩)) | (go_at_call 19; ((with_reducible refine (H3.out).mono ?_); rintro e w' ⟨rfl, rfl⟩)))
  go_loop [3, 16] (fun n i => ∃ k : Nat, k ≤ 4 ∧ i = .int .i64 k ∧ n = .int .i64 (cnt b0 b1 b2 b3 k)) (fun _ i => 4 - (intOf i).toNat)
  case atStart => exact ⟨0, by omega, rfl, rfl⟩
  case round =>
    obtain ⟨k, hk, rfl, rfl⟩ := hrel
    have hcl := cnt_le b0 b1 b2 b3 k
    by_cases hlt : k < 4
    · obtain rfl | rfl | rfl | rfl : k = 0 ∨ k = 1 ∨ k = 2 ∨ k = 3 := by omega
      · cases b0
        all_goals
          go_wp2
          go_round
          case rel => exact ⟨1, by omega, rfl, vint (by simp [cnt, one])⟩
          case measure => simp [intOf]
      · cases b1
        all_goals
          go_wp2
          go_round
          case rel => exact ⟨2, by omega, rfl, vint (by simp [cnt, one])⟩
          case measure => simp [intOf]
      · cases b2
        all_goals
          go_wp2
          go_round
          case rel => exact ⟨3, by omega, rfl, vint (by simp [cnt, one])⟩
          case measure => simp [intOf]
      · cases b3
        all_goals
          go_wp2
          go_round
          case rel => exact ⟨4, by omega, rfl, vint (by simp [cnt, one])⟩
          case measure => simp [intOf]
    · obtain rfl : k = 4 := by omega
      clear hcl hk hlt
      rcases Ht.out with h | ⟨h, hv⟩
      · rw [h]
        clear h
        go_wp2_with (go_at_call 7; ((with_reducible refine (awake_any _).mono ?_); rintro e w2 ⟨rfl, hb⟩))
        go_ret
        exact ⟨rfl, ((Below.refl _ _).alloc (Nat.le_refl _) _).trans (hb.mono (by simp))⟩
      · rw [h]
        have Hv := Lib.hid hv
        clear h hv
        go_wp2_with (first | (go_at_call 22; ((with_reducible refine (put_pos _ Hv.out _).mono ?_); rintro e w2 ⟨A, n, cc, rfl, hrow, hn0, hn4, hb⟩)) | (go_at_call 7; ((with_reducible refine (awake_any _).mono ?_); rintro e w3 ⟨rfl, hb3⟩)))
        go_ret
        refine ⟨rfl, (((Below.refl _ _).alloc (Nat.le_refl _) _).trans (hb.mono (by simp))).trans (hb3.mono ?_)⟩
        have := hb.size
        simp at this
        omega

theorem walk (a0 : Int) (w : World) :
    Calls Try.prog 5 #[.int .i32 a0] w fun e w' => e = .returned (.bool true) ∧ Below w.heap.size w w' := class_walk a0 w

/-! ### THE ROW's STEP: WRITTEN OUT: LEAVE IT -/
set_option maxRecDepth 100000 in
theorem lifted (os : Os) (started : os.Started) (H : Type) (enc : TypeId × Value → H) :
    ReturnsInHanded {} Try.checked os 5 .any (Rows.runesClassSpec.pre6 enc Try.prog Try.f5 Rows.runesClassRow.domain false) (Rows.runesClassSpec.post enc Try.prog Try.f5 false true false false) := by
  refine returnsInHanded_of_change (C := Try.checked) own started (by kernel_rfl) Try.func5
    (ChangeSpec.witness6 (enc := enc) (C := Try.checked) false ⟨#[], #[.int .i32 0], []⟩ 8 (by kernel_rfl) (by kernel_rfl) (by kernel_rfl) (by kernel_rfl)) ?_
  intro W base args ds gs before hval0 hW hcnd _
  have hval : ∀ (j : Nat) t v, Try.f5.params[j]? = some t → args[j]? = some v → Value.okWide Try.prog W .any base t v := hval0
  have hW' := hW
  obtain ⟨p, q, hA0, hV, rfl, hfz, hnd⟩ := hW
  have hA : DataW.TrodAll enc Try.prog W 0 (fun _ => true) true Try.f5.params.toList args.toList ds p := hA0
  rw [Try.params5] at hA hval
  obtain ⟨v0, vs0, d0, ds0, p0, q0, hargs, rfl, rfl, h0, r0⟩ := trodAll_cons hA
  obtain ⟨rfl, rfl, rfl⟩ := trodAll_nil r0
  obtain rfl : args = #[v0] := by cases args; simp_all
  obtain ⟨rfl, rfl⟩ := trodVars_none hV
  obtain ⟨a0, rfl, rfl, rfl, w0⟩ := open_int Try.underlying21 (hval 0 21 v0 rfl rfl) h0
  clear hA0 hval0
  simp only [List.append_nil] at hW'
  refine (walk a0 W).mono fun e W' ⟨he, hg⟩ => ?_
  subst he
  exact ⟨_, rfl, post_law (pa := []) (pv := []) hW' (fun _ _ _ => (trodAll_cons_mk (shut_bool Try.underlying4 _) trodAll_mk0)) (fun sp _ => (trodAll_cons_mk (shut_int Try.underlying21 w0) trodAll_mk0)) (fun _ _ => rfl) rfl hg⟩

theorem over : Rows.runesClassRow.holds Try.pinned (OpenSpec.ofChange Rows.runesClassSpec) :=
  OpenClaim.holds_of_wide 5 Try.f5 rfl rfl rfl rfl rfl rfl rfl ⟨rfl, rfl, rfl, rfl, rfl⟩ rfl rfl rfl rfl rfl (by kernel_rfl) Try.func5 (by kernel_rfl)
    (of_decide_eq_true (by kernel_rfl)) (by unfold Func.isWrapper; first | (rw [if_pos (by decide +kernel)]; kernel_rfl) | (rw [if_neg (by decide +kernel)]; exact ⟨rfl, rfl⟩))
    (fun os started H enc _ => lifted os started H enc)

/-- ████ THE STATEMENT ████ -/
theorem proved : Rows.RunesClassSaid :=
  over
#print axioms proved
end Go.Proofs.Ytbkcmbpclcamgaa.runesClass
