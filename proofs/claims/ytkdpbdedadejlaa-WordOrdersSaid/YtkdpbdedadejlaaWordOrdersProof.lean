/-
  For all numbers the Go function WordOrders of the statements on package word returns true: the comparisons are an order of the numbers of 63 bits. No condition.
-/
import Derived.Test.YtkdpbdedadejlaaRows
import Derived.Test.YtkdpbdedadejlaaAwake
import Derived.WalkKit
import Derived.ProofKit
import Derived.OpenShut
namespace Go.Proofs.Ytkdpbdedadejlaa.wordOrders
open Go.ChangeShapes Go.WideShapes Go.ChangeAt Go.RowKit
set_option linter.unusedVariables false      -- a walk need not use every 'w<i>' (that an integer argument fits its kind)

set_option maxRecDepth 100000 in
set_option maxHeartbeats 1000000 in
theorem orders_walk (a b c : Int) (w : World) : Calls Try.prog 7 #[.int .i64 a, .int .i64 b, .int .i64 c] w fun e w' => e = .returned (.bool true) ∧ w = w' := by
  have l5 (x y : Int) : askN 5 x y = decide (nm x < nm y) := rfl
  have l6 : askN 6 a b = decide (nm a ≤ nm b) := rfl
  have l7 : askN 7 a b = (nm a == nm b) := rfl
  have k1 : askN 5 a (addN a 1) = (nm a != 4611686018427387903) := by rw [l5, up_max]; rfl
  obtain ⟨t, k2⟩ : ∃ t, (nm a != 4611686018427387903) = t := ⟨_, rfl⟩
  rw [k2] at k1
  cases t
  · rcases Int.lt_trichotomy (nm a) (nm b) with h | h | h
    · have h5 : askN 5 a b = true := by rw [l5]; simpa using h
      have h6 : askN 6 a b = true := by rw [l6]; simp; omega
      have h7 : askN 7 a b = false := by rw [l7]; simp; omega
      have h8 : askN 5 b a = false := by rw [l5]; simp; omega
      have h9 : (nm a == nm b) = false := by simp; omega
      by_cases g : nm b < nm c
      · have g5 : askN 5 b c = true := by rw [l5]; simpa using g
        have g6 : askN 5 a c = true := by rw [l5]; simp; omega
        clear h g l5 l6 l7
        go_enter Try.func7, Try.ntmps7
        go_wp2_with (first | (go_at_call 14; ((with_reducible refine (do_add _ _ _).mono ?_); rintro e w' ⟨rfl, rfl⟩)) | (go_at_call 16; ((with_reducible refine (ask_any _ _ _ _).mono ?_); rintro e w' ⟨rfl, rfl⟩)) | (go_at_call 12; ((with_reducible refine (Wrap_any _ _).mono ?_); rintro e w' ⟨rfl, rfl⟩)) | (go_at_call 22; ((with_reducible refine (awake_any _).mono ?_); rintro e w' ⟨rfl, rfl⟩)))
        go_ret
        exact ⟨rfl, rfl⟩
      · have g5 : askN 5 b c = false := by rw [l5]; simp; omega
        clear h g l5 l6 l7
        go_enter Try.func7, Try.ntmps7
        go_wp2_with (first | (go_at_call 14; ((with_reducible refine (do_add _ _ _).mono ?_); rintro e w' ⟨rfl, rfl⟩)) | (go_at_call 16; ((with_reducible refine (ask_any _ _ _ _).mono ?_); rintro e w' ⟨rfl, rfl⟩)) | (go_at_call 12; ((with_reducible refine (Wrap_any _ _).mono ?_); rintro e w' ⟨rfl, rfl⟩)) | (go_at_call 22; ((with_reducible refine (awake_any _).mono ?_); rintro e w' ⟨rfl, rfl⟩)))
        go_ret
        exact ⟨rfl, rfl⟩
    · have h5 : askN 5 a b = false := by rw [l5]; simp; omega
      have h6 : askN 6 a b = true := by rw [l6]; simp; omega
      have h7 : askN 7 a b = true := by rw [l7]; simp; omega
      have h8 : askN 5 b a = false := by rw [l5]; simp; omega
      have h9 : (nm a == nm b) = true := by simp; omega
      clear h l5 l6 l7
      go_enter Try.func7, Try.ntmps7
      go_wp2_with (first | (go_at_call 14; ((with_reducible refine (do_add _ _ _).mono ?_); rintro e w' ⟨rfl, rfl⟩)) | (go_at_call 16; ((with_reducible refine (ask_any _ _ _ _).mono ?_); rintro e w' ⟨rfl, rfl⟩)) | (go_at_call 12; ((with_reducible refine (Wrap_any _ _).mono ?_); rintro e w' ⟨rfl, rfl⟩)) | (go_at_call 22; ((with_reducible refine (awake_any _).mono ?_); rintro e w' ⟨rfl, rfl⟩)))
      go_ret
      exact ⟨rfl, rfl⟩
    · have h5 : askN 5 a b = false := by rw [l5]; simp; omega
      have h6 : askN 6 a b = false := by rw [l6]; simp; omega
      have h7 : askN 7 a b = false := by rw [l7]; simp; omega
      have h8 : askN 5 b a = true := by rw [l5]; simpa using h
      have h9 : (nm a == nm b) = false := by simp; omega
      clear h l5 l6 l7
      go_enter Try.func7, Try.ntmps7
      go_wp2_with (first | (go_at_call 14; ((with_reducible refine (do_add _ _ _).mono ?_); rintro e w' ⟨rfl, rfl⟩)) | (go_at_call 16; ((with_reducible refine (ask_any _ _ _ _).mono ?_); rintro e w' ⟨rfl, rfl⟩)) | (go_at_call 12; ((with_reducible refine (Wrap_any _ _).mono ?_); rintro e w' ⟨rfl, rfl⟩)) | (go_at_call 22; ((with_reducible refine (awake_any _).mono ?_); rintro e w' ⟨rfl, rfl⟩)))
      go_ret
      exact ⟨rfl, rfl⟩
  · rcases Int.lt_trichotomy (nm a) (nm b) with h | h | h
    · have h5 : askN 5 a b = true := by rw [l5]; simpa using h
      have h6 : askN 6 a b = true := by rw [l6]; simp; omega
      have h7 : askN 7 a b = false := by rw [l7]; simp; omega
      have h8 : askN 5 b a = false := by rw [l5]; simp; omega
      have h9 : (nm a == nm b) = false := by simp; omega
      by_cases g : nm b < nm c
      · have g5 : askN 5 b c = true := by rw [l5]; simpa using g
        have g6 : askN 5 a c = true := by rw [l5]; simp; omega
        clear h g l5 l6 l7
        go_enter Try.func7, Try.ntmps7
        go_wp2_with (first | (go_at_call 14; ((with_reducible refine (do_add _ _ _).mono ?_); rintro e w' ⟨rfl, rfl⟩)) | (go_at_call 16; ((with_reducible refine (ask_any _ _ _ _).mono ?_); rintro e w' ⟨rfl, rfl⟩)) | (go_at_call 12; ((with_reducible refine (Wrap_any _ _).mono ?_); rintro e w' ⟨rfl, rfl⟩)) | (go_at_call 22; ((with_reducible refine (awake_any _).mono ?_); rintro e w' ⟨rfl, rfl⟩)))
        go_ret
        exact ⟨rfl, rfl⟩
      · have g5 : askN 5 b c = false := by rw [l5]; simp; omega
        clear h g l5 l6 l7
        go_enter Try.func7, Try.ntmps7
        go_wp2_with (first | (go_at_call 14; ((with_reducible refine (do_add _ _ _).mono ?_); rintro e w' ⟨rfl, rfl⟩)) | (go_at_call 16; ((with_reducible refine (ask_any _ _ _ _).mono ?_); rintro e w' ⟨rfl, rfl⟩)) | (go_at_call 12; ((with_reducible refine (Wrap_any _ _).mono ?_); rintro e w' ⟨rfl, rfl⟩)) | (go_at_call 22; ((with_reducible refine (awake_any _).mono ?_); rintro e w' ⟨rfl, rfl⟩)))
        go_ret
        exact ⟨rfl, rfl⟩
    · have h5 : askN 5 a b = false := by rw [l5]; simp; omega
      have h6 : askN 6 a b = true := by rw [l6]; simp; omega
      have h7 : askN 7 a b = true := by rw [l7]; simp; omega
      have h8 : askN 5 b a = false := by rw [l5]; simp; omega
      have h9 : (nm a == nm b) = true := by simp; omega
      clear h l5 l6 l7
      go_enter Try.func7, Try.ntmps7
      go_wp2_with (first | (go_at_call 14; ((with_reducible refine (do_add _ _ _).mono ?_); rintro e w' ⟨rfl, rfl⟩)) | (go_at_call 16; ((with_reducible refine (ask_any _ _ _ _).mono ?_); rintro e w' ⟨rfl, rfl⟩)) | (go_at_call 12; ((with_reducible refine (Wrap_any _ _).mono ?_); rintro e w' ⟨rfl, rfl⟩)) | (go_at_call 22; ((with_reducible refine (awake_any _).mono ?_); rintro e w' ⟨rfl, rfl⟩)))
      go_ret
      exact ⟨rfl, rfl⟩
    · have h5 : askN 5 a b = false := by rw [l5]; simp; omega
      have h6 : askN 6 a b = false := by rw [l6]; simp; omega
      have h7 : askN 7 a b = false := by rw [l7]; simp; omega
      have h8 : askN 5 b a = true := by rw [l5]; simpa using h
      have h9 : (nm a == nm b) = false := by simp; omega
      clear h l5 l6 l7
      go_enter Try.func7, Try.ntmps7
      go_wp2_with (first | (go_at_call 14; ((with_reducible refine (do_add _ _ _).mono ?_); rintro e w' ⟨rfl, rfl⟩)) | (go_at_call 16; ((with_reducible refine (ask_any _ _ _ _).mono ?_); rintro e w' ⟨rfl, rfl⟩)) | (go_at_call 12; ((with_reducible refine (Wrap_any _ _).mono ?_); rintro e w' ⟨rfl, rfl⟩)) | (go_at_call 22; ((with_reducible refine (awake_any _).mono ?_); rintro e w' ⟨rfl, rfl⟩)))
      go_ret
      exact ⟨rfl, rfl⟩

theorem own : ownKnob Try.prog.godebug = none := by kernel_rfl

/-! ### The walk -/
theorem walk (a0 : Int) (a1 : Int) (a2 : Int) (w0 : (Lit.int .i64 a0).wf = true) (w1 : (Lit.int .i64 a1).wf = true) (w2 : (Lit.int .i64 a2).wf = true) (w : World) :
    Calls Try.prog 7 #[.int .i64 a0, .int .i64 a1, .int .i64 a2] w fun e w' => e = .returned (.bool true) ∧ Grown w w' := by
  exact (orders_walk a0 a1 a2 w).mono fun e w' ⟨he, hw⟩ => ⟨he, hw ▸ Grown.refl _⟩

/-! ### THE ROW's STEP: WRITTEN OUT: LEAVE IT -/
set_option maxRecDepth 100000 in
theorem lifted (os : Os) (started : os.Started) (H : Type) (enc : TypeId × Value → H) :
    ReturnsInHanded {} Try.checked os 7 .any (Rows.wordOrdersSpec.pre6 enc Try.prog Try.f7 Rows.wordOrdersRow.domain false) (Rows.wordOrdersSpec.post enc Try.prog Try.f7 false true false false) := by
  refine returnsInHanded_of_change (C := Try.checked) own started (by kernel_rfl) Try.func7
    (ChangeSpec.witness6 (enc := enc) (C := Try.checked) false ⟨#[], #[.int .i64 0, .int .i64 0, .int .i64 0], []⟩ 8 (by kernel_rfl) (by kernel_rfl) (by kernel_rfl) (by kernel_rfl)) ?_
  intro W base args ds gs before hval0 hW hcnd _
  have hval : ∀ (j : Nat) t v, Try.f7.params[j]? = some t → args[j]? = some v → Value.okWide Try.prog W .any base t v := hval0
  have hW' := hW
  obtain ⟨p, q, hA0, hV, rfl, hfz, hnd⟩ := hW
  have hA : DataW.TrodAll enc Try.prog W 0 (fun _ => true) true Try.f7.params.toList args.toList ds p := hA0
  rw [Try.params7] at hA hval
  obtain ⟨v0, vs0, d0, ds0, p0, q0, hargs, rfl, rfl, h0, r0⟩ := trodAll_cons hA
  obtain ⟨v1, vs1, d1, ds1, p1, q1, rfl, rfl, rfl, h1, r1⟩ := trodAll_cons r0
  obtain ⟨v2, vs2, d2, ds2, p2, q2, rfl, rfl, rfl, h2, r2⟩ := trodAll_cons r1
  obtain ⟨rfl, rfl, rfl⟩ := trodAll_nil r2
  obtain rfl : args = #[v0, v1, v2] := by cases args; simp_all
  obtain ⟨rfl, rfl⟩ := trodVars_none hV
  obtain ⟨a0, rfl, rfl, rfl, w0⟩ := open_int Try.underlying2 (hval 0 2 v0 rfl rfl) h0
  obtain ⟨a1, rfl, rfl, rfl, w1⟩ := open_int Try.underlying2 (hval 1 2 v1 rfl rfl) h1
  obtain ⟨a2, rfl, rfl, rfl, w2⟩ := open_int Try.underlying2 (hval 2 2 v2 rfl rfl) h2
  clear hA0 hval0
  simp only [List.append_nil] at hW'
  refine (walk a0 a1 a2 w0 w1 w2 W).mono fun e W' ⟨he, hg⟩ => ?_
  subst he
  exact ⟨_, rfl, post_of_same (pa := []) (pv := []) hW' (fun _ _ _ => (trodAll_cons_mk (shut_bool Try.underlying4 _) trodAll_mk0)) (fun sp _ => (trodAll_cons_mk (shut_int Try.underlying2 w0) (trodAll_cons_mk (shut_int Try.underlying2 w1) (trodAll_cons_mk (shut_int Try.underlying2 w2) trodAll_mk0)))) (fun _ _ => rfl) rfl
    (hg.frame _) hg.2.1 (ok_one (by kernel_rfl) rfl (okWide_bool_mk Try.underlying4 _))⟩

theorem over : Rows.wordOrdersRow.holds Try.pinned (OpenSpec.ofChange Rows.wordOrdersSpec) :=
  OpenClaim.holds_of_wide 7 Try.f7 rfl rfl rfl rfl rfl rfl rfl ⟨rfl, rfl, rfl, rfl, rfl⟩ rfl rfl rfl rfl rfl (by kernel_rfl) Try.func7 (by kernel_rfl)
    (of_decide_eq_true (by kernel_rfl)) (by unfold Func.isWrapper; first | (rw [if_pos (by decide +kernel)]; kernel_rfl) | (rw [if_neg (by decide +kernel)]; exact ⟨rfl, rfl⟩))
    (fun os started H enc _ => lifted os started H enc)

/-- ████ THE STATEMENT ████ -/
theorem proved : Rows.WordOrdersSaid :=
  over
#print axioms proved
end Go.Proofs.Ytkdpbdedadejlaa.wordOrders
