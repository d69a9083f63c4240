/-
  For all numbers the Go function WordDivides of the statements on package word returns true: quotient and rest make up the number. No condition.
-/
import Derived.Test.YtkdpbdedadejlaaRows
import Derived.Test.YtkdpbdedadejlaaAwake
import Derived.WalkKit
import Derived.ProofKit
import Derived.OpenShut
namespace Go.Proofs.Ytkdpbdedadejlaa.wordDivides
open Go.ChangeShapes Go.WideShapes Go.ChangeAt Go.RowKit
set_option linter.unusedVariables false      -- a walk need not use every 'w<i>' (that an integer argument fits its kind)

set_option maxRecDepth 100000 in
set_option maxHeartbeats 1000000 in
theorem divides_walk (a b : Int) (w : World) : Calls Try.prog 6 #[.int .i64 a, .int .i64 b] w fun e w' => e = .returned (.bool true) ∧ w = w' := by
  have q1 : (doN 3 a 1 != nm a) = false := bne_no (div_one a)
  have q2 : (doN 4 a 1 != 0) = false := bne_no (mod_one a)
  have q3 : (doN 0 (doN 2 (doN 3 a b) b) (doN 4 a b) == nm a) = true := beq_yes (div_mod a b)
  have r0 : -4611686018427387904 ≤ doN 4 a b := mod_lo a b
  have r1 : doN 4 a b ≤ 4611686018427387903 := mod_hi a b
  have r2 : doN 4 a b ≠ 0 → (doN 4 a b < 0 ↔ nm a < 0) := mod_sign a b
  have r3 : nm b ≠ 0 → (doN 4 a b).natAbs < (nm b).natAbs := mod_less a b
  have b0 := nm_lo b
  have b1 := nm_hi b
  have a0 := nm_lo a
  have a1 := nm_hi a
  by_cases hr : doN 4 a b < 0
  · have ha : nm a < 0 := (r2 (by omega)).1 hr
    have hz : (doN 4 a b != 0) = true := by simp; omega
    by_cases hb : nm b < 0
    · have hu : -doN 4 a b < -nm b := by have := r3 (by omega); omega
      have hw : (-nm b == 0) = false := by simp; omega
      clear r2 r3
      go_enter Try.func6, Try.ntmps6
      go_wp2_with (first | (go_at_call 14; ((with_reducible refine (do_any _ _ _ _).mono ?_); rintro e w' ⟨rfl, rfl⟩)) | (go_at_call 12; ((with_reducible refine (Wrap_any _ _).mono ?_); rintro e w' ⟨rfl, rfl⟩)) | (go_at_call 22; ((with_reducible refine (awake_any _).mono ?_); rintro e w' ⟨rfl, rfl⟩)))
      go_ret
      exact ⟨rfl, rfl⟩
    by_cases hb2 : nm b = 0
    · clear r2 r3
      go_enter Try.func6, Try.ntmps6
      go_wp2_with (first | (go_at_call 14; ((with_reducible refine (do_any _ _ _ _).mono ?_); rintro e w' ⟨rfl, rfl⟩)) | (go_at_call 12; ((with_reducible refine (Wrap_any _ _).mono ?_); rintro e w' ⟨rfl, rfl⟩)) | (go_at_call 22; ((with_reducible refine (awake_any _).mono ?_); rintro e w' ⟨rfl, rfl⟩)))
      go_ret
      exact ⟨rfl, rfl⟩
    · have hb3 : 0 < nm b := by omega
      have hu : -doN 4 a b < nm b := by have := r3 hb2; omega
      have hw : (nm b == 0) = false := by simp; omega
      clear r2 r3
      go_enter Try.func6, Try.ntmps6
      go_wp2_with (first | (go_at_call 14; ((with_reducible refine (do_any _ _ _ _).mono ?_); rintro e w' ⟨rfl, rfl⟩)) | (go_at_call 12; ((with_reducible refine (Wrap_any _ _).mono ?_); rintro e w' ⟨rfl, rfl⟩)) | (go_at_call 22; ((with_reducible refine (awake_any _).mono ?_); rintro e w' ⟨rfl, rfl⟩)))
      go_ret
      exact ⟨rfl, rfl⟩
  · have hr0 : 0 ≤ doN 4 a b := by omega
    by_cases hr2 : doN 4 a b = 0
    · have hz : (doN 4 a b != 0) = false := by rw [hr2]; rfl
      by_cases hb : nm b < 0
      · have hw : (-nm b == 0) = false := by simp; omega
        have hu : doN 4 a b < -nm b := by omega
        clear r2 r3 hr2
        go_enter Try.func6, Try.ntmps6
        go_wp2_with (first | (go_at_call 14; ((with_reducible refine (do_any _ _ _ _).mono ?_); rintro e w' ⟨rfl, rfl⟩)) | (go_at_call 12; ((with_reducible refine (Wrap_any _ _).mono ?_); rintro e w' ⟨rfl, rfl⟩)) | (go_at_call 22; ((with_reducible refine (awake_any _).mono ?_); rintro e w' ⟨rfl, rfl⟩)))
        go_ret
        exact ⟨rfl, rfl⟩
      by_cases hb2 : nm b = 0
      · clear r2 r3 hr2
        go_enter Try.func6, Try.ntmps6
        go_wp2_with (first | (go_at_call 14; ((with_reducible refine (do_any _ _ _ _).mono ?_); rintro e w' ⟨rfl, rfl⟩)) | (go_at_call 12; ((with_reducible refine (Wrap_any _ _).mono ?_); rintro e w' ⟨rfl, rfl⟩)) | (go_at_call 22; ((with_reducible refine (awake_any _).mono ?_); rintro e w' ⟨rfl, rfl⟩)))
        go_ret
        exact ⟨rfl, rfl⟩
      · have hb3 : 0 < nm b := by omega
        have hw : (nm b == 0) = false := by simp; omega
        have hu : doN 4 a b < nm b := by omega
        clear r2 r3 hr2
        go_enter Try.func6, Try.ntmps6
        go_wp2_with (first | (go_at_call 14; ((with_reducible refine (do_any _ _ _ _).mono ?_); rintro e w' ⟨rfl, rfl⟩)) | (go_at_call 12; ((with_reducible refine (Wrap_any _ _).mono ?_); rintro e w' ⟨rfl, rfl⟩)) | (go_at_call 22; ((with_reducible refine (awake_any _).mono ?_); rintro e w' ⟨rfl, rfl⟩)))
        go_ret
        exact ⟨rfl, rfl⟩
    · have ha : 0 ≤ nm a := by have := r2 hr2; omega
      have hz : (doN 4 a b != 0) = true := by simp; omega
      by_cases hb : nm b < 0
      · have hu : doN 4 a b < -nm b := by have := r3 (by omega); omega
        have hw : (-nm b == 0) = false := by simp; omega
        clear r2 r3
        go_enter Try.func6, Try.ntmps6
        go_wp2_with (first | (go_at_call 14; ((with_reducible refine (do_any _ _ _ _).mono ?_); rintro e w' ⟨rfl, rfl⟩)) | (go_at_call 12; ((with_reducible refine (Wrap_any _ _).mono ?_); rintro e w' ⟨rfl, rfl⟩)) | (go_at_call 22; ((with_reducible refine (awake_any _).mono ?_); rintro e w' ⟨rfl, rfl⟩)))
        go_ret
        exact ⟨rfl, rfl⟩
      by_cases hb2 : nm b = 0
      · clear r2 r3
        go_enter Try.func6, Try.ntmps6
        go_wp2_with (first | (go_at_call 14; ((with_reducible refine (do_any _ _ _ _).mono ?_); rintro e w' ⟨rfl, rfl⟩)) | (go_at_call 12; ((with_reducible refine (Wrap_any _ _).mono ?_); rintro e w' ⟨rfl, rfl⟩)) | (go_at_call 22; ((with_reducible refine (awake_any _).mono ?_); rintro e w' ⟨rfl, rfl⟩)))
        go_ret
        exact ⟨rfl, rfl⟩
      · have hb3 : 0 < nm b := by omega
        have hu : doN 4 a b < nm b := by have := r3 hb2; omega
        have hw : (nm b == 0) = false := by simp; omega
        clear r2 r3
        go_enter Try.func6, Try.ntmps6
        go_wp2_with (first | (go_at_call 14; ((with_reducible refine (do_any _ _ _ _).mono ?_); rintro e w' ⟨rfl, rfl⟩)) | (go_at_call 12; ((with_reducible refine (Wrap_any _ _).mono ?_); rintro e w' ⟨rfl, rfl⟩)) | (go_at_call 22; ((with_reducible refine (awake_any _).mono ?_); rintro e w' ⟨rfl, rfl⟩)))
        go_ret
        exact ⟨rfl, rfl⟩

theorem own : ownKnob Try.prog.godebug = none := by kernel_rfl

/-! ### The walk -/
theorem walk (a0 : Int) (a1 : Int) (w0 : (Lit.int .i64 a0).wf = true) (w1 : (Lit.int .i64 a1).wf = true) (w : World) :
    Calls Try.prog 6 #[.int .i64 a0, .int .i64 a1] w fun e w' => e = .returned (.bool true) ∧ Grown w w' := by
  exact (divides_walk a0 a1 w).mono fun e w' ⟨he, hw⟩ => ⟨he, hw ▸ Grown.refl _⟩

/-! ### THE ROW's STEP: WRITTEN OUT: LEAVE IT -/
set_option maxRecDepth 100000 in
theorem lifted (os : Os) (started : os.Started) (H : Type) (enc : TypeId × Value → H) :
    ReturnsInHanded {} Try.checked os 6 .any (Rows.wordDividesSpec.pre6 enc Try.prog Try.f6 Rows.wordDividesRow.domain false) (Rows.wordDividesSpec.post enc Try.prog Try.f6 false true false false) := by
  refine returnsInHanded_of_change (C := Try.checked) own started (by kernel_rfl) Try.func6
    (ChangeSpec.witness6 (enc := enc) (C := Try.checked) false ⟨#[], #[.int .i64 0, .int .i64 0], []⟩ 8 (by kernel_rfl) (by kernel_rfl) (by kernel_rfl) (by kernel_rfl)) ?_
  intro W base args ds gs before hval0 hW hcnd _
  have hval : ∀ (j : Nat) t v, Try.f6.params[j]? = some t → args[j]? = some v → Value.okWide Try.prog W .any base t v := hval0
  have hW' := hW
  obtain ⟨p, q, hA0, hV, rfl, hfz, hnd⟩ := hW
  have hA : DataW.TrodAll enc Try.prog W 0 (fun _ => true) true Try.f6.params.toList args.toList ds p := hA0
  rw [Try.params6] at hA hval
  obtain ⟨v0, vs0, d0, ds0, p0, q0, hargs, rfl, rfl, h0, r0⟩ := trodAll_cons hA
  obtain ⟨v1, vs1, d1, ds1, p1, q1, rfl, rfl, rfl, h1, r1⟩ := trodAll_cons r0
  obtain ⟨rfl, rfl, rfl⟩ := trodAll_nil r1
  obtain rfl : args = #[v0, v1] := by cases args; simp_all
  obtain ⟨rfl, rfl⟩ := trodVars_none hV
  obtain ⟨a0, rfl, rfl, rfl, w0⟩ := open_int Try.underlying2 (hval 0 2 v0 rfl rfl) h0
  obtain ⟨a1, rfl, rfl, rfl, w1⟩ := open_int Try.underlying2 (hval 1 2 v1 rfl rfl) h1
  clear hA0 hval0
  simp only [List.append_nil] at hW'
  refine (walk a0 a1 w0 w1 W).mono fun e W' ⟨he, hg⟩ => ?_
  subst he
  exact ⟨_, rfl, post_of_same (pa := []) (pv := []) hW' (fun _ _ _ => (trodAll_cons_mk (shut_bool Try.underlying4 _) trodAll_mk0)) (fun sp _ => (trodAll_cons_mk (shut_int Try.underlying2 w0) (trodAll_cons_mk (shut_int Try.underlying2 w1) trodAll_mk0))) (fun _ _ => rfl) rfl
    (hg.frame _) hg.2.1 (ok_one (by kernel_rfl) rfl (okWide_bool_mk Try.underlying4 _))⟩

theorem over : Rows.wordDividesRow.holds Try.pinned (OpenSpec.ofChange Rows.wordDividesSpec) :=
  OpenClaim.holds_of_wide 6 Try.f6 rfl rfl rfl rfl rfl rfl rfl ⟨rfl, rfl, rfl, rfl, rfl⟩ rfl rfl rfl rfl rfl (by kernel_rfl) Try.func6 (by kernel_rfl)
    (of_decide_eq_true (by kernel_rfl)) (by unfold Func.isWrapper; first | (rw [if_pos (by decide +kernel)]; kernel_rfl) | (rw [if_neg (by decide +kernel)]; exact ⟨rfl, rfl⟩))
    (fun os started H enc _ => lifted os started H enc)

/-- ████ THE STATEMENT ████ -/
theorem proved : Rows.WordDividesSaid :=
  over
#print axioms proved
end Go.Proofs.Ytkdpbdedadejlaa.wordDivides
