/-
  The row ParseParens holds, for every two texts and every number: what an expression in parentheses is read as is what it is read as by itself, and two in parentheses with a sign between are that sign's parts. No condition.
-/
import Derived.Test.YtjhnmikciejekaaGreatRows
import Derived.Test.YtjhnmikciejekaaGreatPqPkn
namespace Go.Proofs.YtjhnmikciejekaaGreat.parseParens
open Go.ChangeShapes Go.WideShapes Go.ChangeAt Go.RowKit Go.Proofs.YtjhnmikciejekaaGreat.Deep
set_option linter.unusedVariables false
theorem u9 : Tryz.prog.underlying 9 = some .string := by kernel_rfl
theorem u5 : Tryz.prog.underlying 5 = some (.int .u8) := by kernel_rfl
theorem open_u8 {P : Program} {H : Type} {enc : TypeId × Value → H} {ty : TypeId} {W : World} {r : Reach} {b0 : Nat} {v : Value} {d : DataW H} {p : List MemPlace} (hu : P.underlying ty = some (.int .u8)) (hv : Value.okWide P W r b0 ty v) (h : DataW.Trod enc P W 0 (fun _ => true) true ty v d p) :
    ∃ a : Int, (0 ≤ a ∧ a ≤ 255) ∧ Rep (blockCells W) (fun _ => ⟨0, 0⟩) W 0 v (.con (.int .u8 a)) := by
  obtain ⟨a, rfl, rfl, rfl, w⟩ := open_int hu hv h
  have hw : (decide (IntKind.u8.min ≤ a) && decide (a ≤ IntKind.u8.max)) = true := w
  rw [Bool.and_eq_true, decide_eq_true_eq, decide_eq_true_eq] at hw
  have m0 : IntKind.u8.min = 0 := by decide
  have m1 : IntKind.u8.max = 255 := by decide
  rw [m0, m1] at hw
  exact ⟨a, hw, .con _ _⟩
theorem own : ownKnob Tryz.prog.godebug = none := by kernel_rfl
theorem under4 : Tryz.prog.underlying 4 = some .bool := by kernel_rfl
set_option maxRecDepth 100000 in
theorem walk {H : Type} {enc : TypeId × Value → H} {W : World} {r : Reach} {b0 : Nat} {v0 v1 v2 : Value} {d0 d1 d2 : DataW H} {p0 p1 p2 : List MemPlace}
    (k0 : Value.okWide Tryz.prog W r b0 9 v0) (k1 : Value.okWide Tryz.prog W r b0 9 v1) (k2 : Value.okWide Tryz.prog W r b0 5 v2)
    (h0 : DataW.Trod enc Tryz.prog W 0 (fun _ => true) true 9 v0 d0 p0) (h1 : DataW.Trod enc Tryz.prog W 0 (fun _ => true) true 9 v1 d1 p1) (h2 : DataW.Trod enc Tryz.prog W 0 (fun _ => true) true 5 v2 d2 p2) :
    Calls Tryz.prog 6 #[v0, v1, v2] W fun e W' => e = .returned (.bool true) ∧ Below W.heap.size W W' := by
  obtain ⟨a0, w0, r0⟩ := open_str u9 k0 h0
  obtain ⟨a1, w1, r1⟩ := open_str u9 k1 h1
  obtain ⟨a2, w2, r2⟩ := open_u8 u5 k2 h2
  refine law_calls (parens_p a0 a1 a2 w2.1 w2.2) (args_list [v0, v1, v2] _ rfl (fun i h h' => ?_))
  match i, h with
  | 0, _ => exact r0
  | 1, _ => exact r1
  | 2, _ => exact r2
set_option maxRecDepth 100000 in
theorem lifted (os : Os) (started : os.Started) (H : Type) (enc : TypeId × Value → H) :
    ReturnsInHanded {} Tryz.checked os 6 .any (Rows.parseParensSpec.pre6 enc Tryz.prog Tryz.f6 Rows.parseParensRow.domain false) (Rows.parseParensSpec.post enc Tryz.prog Tryz.f6 false true false false) := by
  refine returnsInHanded_of_change (C := Tryz.checked) own started (by kernel_rfl) Tryz.func6
    (ChangeSpec.witness6 (enc := enc) (C := Tryz.checked) false ⟨#[], #[
      .string ⟨#[]⟩,
      .string ⟨#[]⟩,
      .int .u8 0], []⟩ 8 (by kernel_rfl) (by kernel_rfl) (by kernel_rfl) (by kernel_rfl)) ?_
  intro W base args ds gs before hval0 hW hcnd _
  have hval : ∀ (j : Nat) t v, Tryz.f6.params[j]? = some t → args[j]? = some v → Value.okWide Tryz.prog W .any base t v := hval0
  have hW' := hW
  obtain ⟨p, q, hA0, hV, rfl, hfz, hnd⟩ := hW
  have hA' : DataW.TrodAll enc Tryz.prog W 0 (fun _ => true) true Tryz.f6.params.toList args.toList ds p := hA0
  have hA1 := hA'
  rw [Tryz.params6] at hA' hval
  obtain ⟨v0, vs0, d0, ds0, p0, q0, hargs, rfl, rfl, h0, r0⟩ := trodAll_cons hA'
  obtain ⟨v1, vs1, d1, ds1, p1, q1, rfl, rfl, rfl, h1, r1⟩ := trodAll_cons r0
  obtain ⟨v2, vs2, d2, ds2, p2, q2, rfl, rfl, rfl, h2, r2⟩ := trodAll_cons r1
  obtain ⟨rfl, rfl, rfl⟩ := trodAll_nil r2
  obtain rfl : args = #[v0, v1, v2] := by cases args; simp_all
  obtain ⟨rfl, rfl⟩ := trodVars_none hV
  have hlt := hW'.lt
  refine (walk (hval 0 9 v0 rfl rfl) (hval 1 9 v1 rfl rfl) (hval 2 5 v2 rfl rfl) h0 h1 h2).mono fun e W' ⟨he, hg⟩ => ?_
  subst he
  refine ⟨_, rfl, post_law (pv := []) hW' (fun _ _ _ => (trodAll_cons_mk (shut_bool under4 _) trodAll_mk0)) (fun sp hsp => ?_) (fun _ _ => rfl) rfl hg⟩
  refine args_again (P := Tryz.prog) (by kernel_rfl) hg Tryz.f6.params.toList ?_ _ _ _ hA1 (fun x hx => hlt x (List.mem_append_left _ hx)) sp (fun x hx => hsp x (List.mem_append_left _ hx))
  rw [Tryz.params6]
  intro t ht
  have hm : t ∈ [9, 9, 5] := by simpa using ht
  have hall : ([9, 9, 5].all fun u => Tryz.prog.readableRec u && decide (u < Tryz.prog.types.size)) = true := by kernel_rfl
  have := List.all_eq_true.1 hall t hm
  simpa using this
theorem proved : Rows.ParseParensSaid :=
  OpenClaim.holds_of_wide 6 Tryz.f6 rfl rfl rfl rfl rfl rfl rfl ⟨rfl, rfl, rfl, rfl, rfl⟩ rfl rfl rfl rfl rfl (by kernel_rfl) Tryz.func6 (by kernel_rfl)
    (of_decide_eq_true (by kernel_rfl)) (by unfold Func.isWrapper; first | (rw [if_pos (by decide +kernel)]; kernel_rfl) | (rw [if_neg (by decide +kernel)]; exact ⟨rfl, rfl⟩))
    (fun os started H enc _ => lifted os started H enc)
end Go.Proofs.YtjhnmikciejekaaGreat.parseParens
