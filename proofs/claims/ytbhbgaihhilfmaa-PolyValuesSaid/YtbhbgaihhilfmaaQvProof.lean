/-
  The number of a sum is the sum of the numbers, of a product their product; what is at least each of two is no less; what is split, put together, is as it was; and the examples of chapter 13 hold. Conditions: none but those of the statement itself.
-/
import Derived.Test.YtbhbgaihhilfmaaRows
import Derived.Test.YtbhbgaihhilfmaaQvPke
namespace Go.Proofs.Ytbhbgaihhilfmaa.polyValues
open Go.ChangeShapes Go.WideShapes Go.ChangeAt Go.RowKit Go.Proofs.Ytbhbgaihhilfmaa.Deep Go.Proofs.Ytbhbgaihhilfmaa.Poly
set_option linter.unusedVariables false
theorem own : ownKnob Try.prog.godebug = none := by kernel_rfl
theorem under4 : Try.prog.underlying 4 = some .bool := by kernel_rfl
set_option maxRecDepth 100000 in
theorem walk {H : Type} {enc : TypeId × Value → H} {W : World} {r : Reach} {b0 : Nat} {v0 v1 v2 v3 : Value} {d0 d1 d2 d3 : DataW H} {p0 p1 p2 p3 : List MemPlace}
    (k0 : Value.okWide Try.prog W r b0 23 v0) (k1 : Value.okWide Try.prog W r b0 23 v1) (k2 : Value.okWide Try.prog W r b0 24 v2) (k3 : Value.okWide Try.prog W r b0 3 v3)
    (h0 : DataW.Trod enc Try.prog W 0 (fun _ => true) true 23 v0 d0 p0) (h1 : DataW.Trod enc Try.prog W 0 (fun _ => true) true 23 v1 d1 p1) (h2 : DataW.Trod enc Try.prog W 0 (fun _ => true) true 24 v2 d2 p2) (h3 : DataW.Trod enc Try.prog W 0 (fun _ => true) true 3 v3 d3 p3) :
    Calls Try.prog 6 #[v0, v1, v2, v3] W fun e W' => e = .returned (.bool true) ∧ Below W.heap.size W W' := by
  obtain ⟨a0, w0, r0⟩ := open_list tmP (fun _ => True) u23 z59 k0 h0 (fun n us y _ hu => by obtain ⟨t, ht⟩ := op_tm hu; exact ⟨t, trivial, ht⟩)
  obtain ⟨a1, w1, r1⟩ := open_list tmP (fun _ => True) u23 z59 k1 h1 (fun n us y _ hu => by obtain ⟨t, ht⟩ := op_tm hu; exact ⟨t, trivial, ht⟩)
  obtain ⟨a2, w2, r2⟩ := open_list (fun x : Int => [PV.con (.int .i64 x)]) (fun _ => True) u24 z2 k2 h2 (fun n us y _ hu => by obtain ⟨t, _, ht⟩ := op_i u2 hu; exact ⟨t, trivial, ht⟩)
  obtain ⟨a3, w3, r3⟩ := open_num u3 k3 h3
  refine law_calls (values_law poly_is (awake_is poly_is) a0 a1 a2 a3) (args_list [v0, v1, v2, v3] _ rfl (fun i h h' => ?_))
  match i, h with
  | 0, _ => exact r0
  | 1, _ => exact r1
  | 2, _ => exact r2
  | 3, _ => exact r3
set_option maxRecDepth 100000 in
theorem lifted (os : Os) (started : os.Started) (H : Type) (enc : TypeId × Value → H) :
    ReturnsInHanded {} Try.checked os 6 .any (Rows.polyValuesSpec.pre6 enc Try.prog Try.f6 Rows.polyValuesRow.domain false) (Rows.polyValuesSpec.post enc Try.prog Try.f6 false true false false) := by
  refine returnsInHanded_of_change (C := Try.checked) own started (by kernel_rfl) Try.func6
    (ChangeSpec.witness6 (enc := enc) (C := Try.checked) false ⟨#[], #[
      .slice none 0 0,
      .slice none 0 0,
      .slice none 0 0,
      .int .i64 0], []⟩ 8 (by kernel_rfl) (by kernel_rfl) (by kernel_rfl) (by kernel_rfl)) ?_
  intro W base args ds gs before hval0 hW hcnd _
  have hval : ∀ (j : Nat) t v, Try.f6.params[j]? = some t → args[j]? = some v → Value.okWide Try.prog W .any base t v := hval0
  have hW' := hW
  obtain ⟨p, q, hA0, hV, rfl, hfz, hnd⟩ := hW
  have hA' : DataW.TrodAll enc Try.prog W 0 (fun _ => true) true Try.f6.params.toList args.toList ds p := hA0
  have hA1 := hA'
  rw [Try.params6] at hA' hval
  obtain ⟨v0, vs0, d0, ds0, p0, q0, hargs, rfl, rfl, h0, r0⟩ := trodAll_cons hA'
  obtain ⟨v1, vs1, d1, ds1, p1, q1, rfl, rfl, rfl, h1, r1⟩ := trodAll_cons r0
  obtain ⟨v2, vs2, d2, ds2, p2, q2, rfl, rfl, rfl, h2, r2⟩ := trodAll_cons r1
  obtain ⟨v3, vs3, d3, ds3, p3, q3, rfl, rfl, rfl, h3, r3⟩ := trodAll_cons r2
  obtain ⟨rfl, rfl, rfl⟩ := trodAll_nil r3
  obtain rfl : args = #[v0, v1, v2, v3] := by cases args; simp_all
  obtain ⟨rfl, rfl⟩ := trodVars_none hV
  have hlt := hW'.lt
  refine (walk (hval 0 23 v0 rfl rfl) (hval 1 23 v1 rfl rfl) (hval 2 24 v2 rfl rfl) (hval 3 3 v3 rfl rfl) h0 h1 h2 h3).mono fun e W' ⟨he, hg⟩ => ?_
  subst he
  refine ⟨_, rfl, post_law (pv := []) hW' (fun _ _ _ => (trodAll_cons_mk (shut_bool under4 _) trodAll_mk0)) (fun sp hsp => ?_) (fun _ _ => rfl) rfl hg⟩
  refine args_again (P := Try.prog) (by kernel_rfl) hg Try.f6.params.toList ?_ _ _ _ hA1 (fun x hx => hlt x (List.mem_append_left _ hx)) sp (fun x hx => hsp x (List.mem_append_left _ hx))
  rw [Try.params6]
  intro t ht
  have hm : t ∈ [23, 23, 24, 3] := by simpa using ht
  have hall : ([23, 23, 24, 3].all fun u => Try.prog.readableRec u && decide (u < Try.prog.types.size)) = true := by kernel_rfl
  have := List.all_eq_true.1 hall t hm
  simpa using this
theorem proved : Rows.PolyValuesSaid :=
  OpenClaim.holds_of_wide 6 Try.f6 rfl rfl rfl rfl rfl rfl rfl ⟨rfl, rfl, rfl, rfl, rfl⟩ rfl rfl rfl rfl rfl (by kernel_rfl) Try.func6 (by kernel_rfl)
    (of_decide_eq_true (by kernel_rfl)) (by unfold Func.isWrapper; first | (rw [if_pos (by decide +kernel)]; kernel_rfl) | (rw [if_neg (by decide +kernel)]; exact ⟨rfl, rfl⟩))
    (fun os started H enc _ => lifted os started H enc)
end Go.Proofs.Ytbhbgaihhilfmaa.polyValues
