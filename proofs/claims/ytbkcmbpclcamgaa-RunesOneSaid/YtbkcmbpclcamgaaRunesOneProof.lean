/-
  For every two runes the Go function RunesOne of the statements on package runes returns true: a rune's bytes are a text of just it, and unlike runes have unlike bytes. No condition.
-/
import Derived.Test.YtbkcmbpclcamgaaRows
import Derived.Test.YtbkcmbpclcamgaaAwake
import Derived.Test.YtbkcmbpclcamgaaPost
import Derived.WalkKit
import Derived.ProofKit
import Derived.OpenShut
namespace Go.Proofs.Ytbkcmbpclcamgaa.runesOne
open Go.ChangeShapes Go.WideShapes Go.ChangeAt Go.RowKit
set_option linter.unusedVariables false      -- a walk need not use every 'w<i>' (that an integer argument fits its kind)

theorem own : ownKnob Try.prog.godebug = none := by kernel_rfl

theorem one_runes (c : Int) (hv : validB c = true) : badOf ⟨(enc c).toArray⟩ = none ∧ runesOf ⟨(enc c).toArray⟩ = [(c, 0, 1, 1)] := by
  have hl := enc_len c hv
  obtain ⟨s, hs⟩ : ∃ s : ByteArray, s = ⟨(enc c).toArray⟩ := ⟨_, rfl⟩
  have hd : s.data.toList.drop 0 = enc c ++ [] := by rw [hs]; simp
  have hz : s.size = (enc c).length := by rw [hs]; rfl
  have hg := good_put s 0 c hv [] hd
  have hdec : Utf8.decode s 0 = (c.toNat, (enc c).length) := by rw [dec_list, hd, decL_put c hv]
  have hv' := (validB_iff c).1 hv
  rw [← hs]
  unfold badOf runesOf
  rw [hz]
  obtain ⟨f, hf⟩ : ∃ f, (enc c).length = f + 1 := ⟨(enc c).length - 1, by omega⟩
  rw [hf, badF_good s f 0 1 1 (by omega) hg, runesF_good s f 0 1 1 (by omega) hg, badF_end _ _ _ _ _ (by rw [hdec]; simp only; omega), runesF_end _ _ _ _ _ (by rw [hdec]; simp only; omega), hdec]
  refine ⟨rfl, ?_⟩
  have e : ((c.toNat : Nat) : Int) = c := by omega
  rw [e]
theorem split_one (c : Int) (hv : validB c = true) (w : World) : Calls Try.prog 8 #[.string ⟨(enc c).toArray⟩] w fun e w' => ∃ g cc, e = .returned (.tuple #[.slice (some ⟨g, 0, none⟩) 1 cc, .agg #[.int .i64 0, .int .i64 0, .int .i64 0]]) ∧ g < w'.heap.size ∧ 1 ≤ cc ∧ w'.cell? ⟨g, 0, none⟩ = some (.int .i32 c) ∧ w'.cell? ⟨g, 1, none⟩ = some (.int .i64 0) ∧ Below w.heap.size w w' := by
  have hl := enc_len c hv
  refine (split_any _ (by show (enc c).length ≤ 16384; omega) w).mono fun e w' h => ?_
  rcases h with ⟨L, C, hb, _⟩ | ⟨_, A, n, cc, rfl, hn, ho, hb⟩
  · rw [(one_runes c hv).1] at hb; cases hb
  · rw [(one_runes c hv).2] at hn ho
    subst hn
    obtain ⟨g, rfl, _, hg, hc, hx⟩ := owns_cell ho (by simp)
    exact ⟨g, cc, rfl, hg, hc, hx 0 _ rfl, hx 1 _ rfl, hb⟩
theorem split_none (w : World) : Calls Try.prog 8 #[.string ⟨#[]⟩] w fun e w' => ∃ A cc, e = .returned (.tuple #[.slice A 0 cc, .agg #[.int .i64 0, .int .i64 0, .int .i64 0]]) ∧ Below w.heap.size w w' := by
  refine (split_any _ (by decide) w).mono fun e w' h => ?_
  rcases h with ⟨L, C, hb, _⟩ | ⟨_, A, n, cc, rfl, hn, ho, hb⟩
  · rw [show badOf ⟨#[]⟩ = none from rfl] at hb; cases hb
  · rw [show runesOf ⟨#[]⟩ = [] from rfl] at hn ho
    subst hn
    exact ⟨A, cc, rfl, hb⟩
theorem enc_same (c d : Int) (hv : validB c = true) : (enc c == enc d) = (c == d) := by
  have hl := enc_len c hv
  rw [Bool.eq_iff_iff, beq_iff_eq, beq_iff_eq]
  refine ⟨fun h => ?_, fun h => by rw [h]⟩
  cases hd : validB d
  · rw [enc_no hd] at h; rw [h] at hl; simp at hl
  · have h1 := decL_put c hv []
    have h2 := decL_put d hd []
    rw [h, h2] at h1
    have h3 := congrArg Prod.fst h1
    simp only at h3
    have := (validB_iff c).1 hv
    have := (validB_iff d).1 hd
    omega
theorem bytes_enc (A B : Option Addr) (n m c d : Nat) (x y : Int) (hv : validB x = true) (w : World) (hx : Row w A n (enc x)) (hy : Row w B m (enc y)) :
    Calls Try.prog 21 #[.slice A n c, .slice B m d] w fun e w' => e = .returned (.bool (x == y)) ∧ w = w' :=
  (bytes_any A B n m c d _ _ w hx hy).mono fun e w' ⟨he, hw⟩ => ⟨by rw [he, enc_same x y hv], hw⟩

set_option maxRecDepth 100000 in
set_option maxHeartbeats 1000000 in
theorem one_yes (c d : Int) (hv : validB c = true) (w : World) : Calls Try.prog 6 #[.int .i32 c, .int .i32 d] w fun e w' => e = .returned (.bool true) ∧ Below w.heap.size w w' := by
  have Hv := Lib.hid hv
  clear hv
  go_enter Try.func6, Try.ntmps6
  go_wp2_with fail
  refine (put_pos _ Hv.out _).mono ?_
  rintro e w1 ⟨A, n, cc, rfl, hrow, hn0, hn4, hb1⟩
  have hcv := hrow.conv cc
  go_wp2_with fail
  refine (split_one c Hv.out _).mono ?_
  rintro e w2 ⟨g, c2, rfl, hg, hc2, hx0, hx1, hb2⟩
  clear hcv
  have hrow2 := hrow.below hb2
  have hB2 : Below w.heap.size w w2 := hb1.trans (hb2.mono hb1.size)
  go_wp2_with fail
  refine (put_any _ _).mono ?_
  rintro e w3 ⟨A', n', cc', rfl, hrow', hb3⟩
  have hrow3 := (hrow2.below ((Below.refl _ _).alloc (Nat.le_refl _) _)).below hb3
  have hB3 : Below w.heap.size w w3 := (hB2.alloc hB2.size _).trans (hb3.mono (by have := hB2.size; simp; omega))
  clear hrow hrow2 hb1 hb2 hb3 hB2 hx0 hx1
  go_wp2_with fail
  refine (bytes_enc _ _ _ _ _ _ c d Hv.out _ hrow3 hrow').mono ?_
  rintro e w4 ⟨rfl, rfl⟩
  go_wp2_with (go_at_call 7; ((with_reducible refine (awake_any _).mono ?_); rintro e w5 ⟨rfl, hb5⟩))
  go_ret
  exact ⟨rfl, hB3.trans (hb5.mono hB3.size)⟩
set_option maxRecDepth 100000 in
set_option maxHeartbeats 1000000 in
theorem one_no (c d : Int) (hv : validB c = false) (w : World) : Calls Try.prog 6 #[.int .i32 c, .int .i32 d] w fun e w' => e = .returned (.bool true) ∧ Below w.heap.size w w' := by
  have Hv := Lib.hid hv
  clear hv
  go_enter Try.func6, Try.ntmps6
  go_wp2_with fail
  refine (put_no _ Hv.out _).mono ?_
  rintro e w1 ⟨rfl, rfl⟩
  have hcv := Lib.run_convert_nil_bytes (P := Try.prog) w 35 9 5 0 Try.underlying35 Try.underlying5 Try.underlying9
  go_wp2_with fail
  refine (split_none _).mono ?_
  rintro e w2 ⟨A, cc, rfl, hb2⟩
  clear hcv
  go_wp2_with fail
  refine (put_any _ _).mono ?_
  rintro e w3 ⟨A', n', cc', rfl, hrow', hb3⟩
  have hB3 : Below w.heap.size w w3 := (hb2.alloc hb2.size _).trans (hb3.mono (by have := hb2.size; simp; omega))
  clear hb2 hb3
  go_wp2_with (go_at_call 7; ((with_reducible refine (awake_any _).mono ?_); rintro e w5 ⟨rfl, hb5⟩))
  go_ret
  exact ⟨rfl, hB3.trans (hb5.mono hB3.size)⟩

theorem walk (a0 a1 : Int) (w : World) :
    Calls Try.prog 6 #[.int .i32 a0, .int .i32 a1] w fun e w' => e = .returned (.bool true) ∧ Below w.heap.size w w' := by
  cases hv : validB a0
  · exact one_no a0 a1 hv w
  · exact one_yes a0 a1 hv w

/-! ### THE ROW's STEP: WRITTEN OUT: LEAVE IT -/
set_option maxRecDepth 100000 in
theorem lifted (os : Os) (started : os.Started) (H : Type) (enc : TypeId × Value → H) :
    ReturnsInHanded {} Try.checked os 6 .any (Rows.runesOneSpec.pre6 enc Try.prog Try.f6 Rows.runesOneRow.domain false) (Rows.runesOneSpec.post enc Try.prog Try.f6 false true false false) := by
  refine returnsInHanded_of_change (C := Try.checked) own started (by kernel_rfl) Try.func6
    (ChangeSpec.witness6 (enc := enc) (C := Try.checked) false ⟨#[], #[.int .i32 0, .int .i32 0], []⟩ 8 (by kernel_rfl) (by kernel_rfl) (by kernel_rfl) (by kernel_rfl)) ?_
  intro W base args ds gs before hval0 hW hcnd _
  have hval : ∀ (j : Nat) t v, Try.f6.params[j]? = some t → args[j]? = some v → Value.okWide Try.prog W .any base t v := hval0
  have hW' := hW
  obtain ⟨p, q, hA0, hV, rfl, hfz, hnd⟩ := hW
  have hA : DataW.TrodAll enc Try.prog W 0 (fun _ => true) true Try.f6.params.toList args.toList ds p := hA0
  rw [Try.params6] at hA hval
  obtain ⟨v0, vs0, d0, ds0, p0, q0, hargs, rfl, rfl, h0, r0⟩ := trodAll_cons hA
  obtain ⟨v1, vs1, d1, ds1, p1, q1, rfl, rfl, rfl, h1, r1⟩ := trodAll_cons r0
  obtain ⟨rfl, rfl, rfl⟩ := trodAll_nil r1
  obtain rfl : args = #[v0, v1] := by cases args; simp_all
  obtain ⟨rfl, rfl⟩ := trodVars_none hV
  obtain ⟨a0, rfl, rfl, rfl, w0⟩ := open_int Try.underlying21 (hval 0 21 v0 rfl rfl) h0
  obtain ⟨a1, rfl, rfl, rfl, w1⟩ := open_int Try.underlying21 (hval 1 21 v1 rfl rfl) h1
  clear hA0 hval0
  simp only [List.append_nil] at hW'
  refine (walk a0 a1 W).mono fun e W' ⟨he, hg⟩ => ?_
  subst he
  exact ⟨_, rfl, post_law (pa := []) (pv := []) hW' (fun _ _ _ => (trodAll_cons_mk (shut_bool Try.underlying4 _) trodAll_mk0)) (fun sp _ => (trodAll_cons_mk (shut_int Try.underlying21 w0) (trodAll_cons_mk (shut_int Try.underlying21 w1) trodAll_mk0))) (fun _ _ => rfl) rfl hg⟩

theorem over : Rows.runesOneRow.holds Try.pinned (OpenSpec.ofChange Rows.runesOneSpec) :=
  OpenClaim.holds_of_wide 6 Try.f6 rfl rfl rfl rfl rfl rfl rfl ⟨rfl, rfl, rfl, rfl, rfl⟩ rfl rfl rfl rfl rfl (by kernel_rfl) Try.func6 (by kernel_rfl)
    (of_decide_eq_true (by kernel_rfl)) (by unfold Func.isWrapper; first | (rw [if_pos (by decide +kernel)]; kernel_rfl) | (rw [if_neg (by decide +kernel)]; exact ⟨rfl, rfl⟩))
    (fun os started H enc _ => lifted os started H enc)

/-- ████ THE STATEMENT ████ -/
theorem proved : Rows.RunesOneSaid :=
  over
#print axioms proved
end Go.Proofs.Ytbkcmbpclcamgaa.runesOne
