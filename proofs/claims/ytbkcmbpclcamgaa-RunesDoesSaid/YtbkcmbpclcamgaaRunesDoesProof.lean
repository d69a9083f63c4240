/-
  For every text, byte and rune the Go function RunesDoes of the statements on package runes returns true: what package runes tells is what the document says. No condition.
-/
import Derived.Test.YtbkcmbpclcamgaaRows
import Derived.Test.YtbkcmbpclcamgaaSame
import Derived.Test.YtbkcmbpclcamgaaRefs
import Derived.Test.YtbkcmbpclcamgaaPost
import Derived.WalkKit
import Derived.ProofKit
import Derived.OpenShut
namespace Go.Proofs.Ytbkcmbpclcamgaa.runesDoes
open Go.ChangeShapes Go.WideShapes Go.ChangeAt Go.RowKit
set_option linter.unusedVariables false

theorem rsplit_all (s : ByteArray) (h : s.size ≤ 9223372036854775807) (w : World) : Calls Try.prog 9 #[.string s] w (AllTells s w) := by
  by_cases hl : 16384 < s.size
  · exact (rsplit_long s hl h w).mono fun e w' ⟨he, hb⟩ => all_long hl he hb
  · exact (rsplit_any s (by omega) w).mono fun e w' ht => all_short (by omega) ht
def plL (s : ByteArray) (off : Int) : Int := if 16384 < s.size then 0 else (placeOf s off).1
def plC (s : ByteArray) (off : Int) : Int := if 16384 < s.size then 0 else (placeOf s off).2
theorem place_all (s : ByteArray) (off : Int) (h : s.size ≤ 9223372036854775807) (w : World) : Calls Try.prog 11 #[.string s, .int .i64 off] w fun e w' => e = .returned (.agg #[.int .i64 (plL s off), .int .i64 (plC s off)]) ∧ Below w.heap.size w w' := by
  by_cases hl : 16384 < s.size
  · rw [plL, plC, if_pos hl, if_pos hl]; exact place_long s off hl h w
  · rw [plL, plC, if_neg hl, if_neg hl]; exact place_any s off (by omega) w
theorem rplace_all (s : ByteArray) (off : Int) (h : s.size ≤ 9223372036854775807) (w : World) : Calls Try.prog 12 #[.string s, .int .i64 off] w fun e w' => e = .returned (.agg #[.int .i64 (plL s off), .int .i64 (plC s off)]) ∧ Below w.heap.size w w' := by
  by_cases hl : 16384 < s.size
  · rw [plL, plC, if_pos hl, if_pos hl]; exact rplace_long s off hl h w
  · rw [plL, plC, if_neg hl, if_neg hl]; exact rplace_any s off (by omega) w
theorem cells_three (w : World) (a b c : Value) : (w.alloc (.cells #[a, b, c] 28)).cell? ⟨w.heap.size, 0, none⟩ = some a ∧ (w.alloc (.cells #[a, b, c] 28)).cell? ⟨w.heap.size, 1, none⟩ = some b ∧ (w.alloc (.cells #[a, b, c] 28)).cell? ⟨w.heap.size, 2, none⟩ = some c :=
  ⟨cell_of_row _ _ 0 _ 28 (0, 0) (heap_alloc_new w _), cell_of_row _ _ 1 _ 28 (0, 0) (heap_alloc_new w _), cell_of_row _ _ 2 _ 28 (0, 0) (heap_alloc_new w _)⟩

set_option maxRecDepth 100000 in
set_option maxHeartbeats 2000000 in
theorem does_mid (s : ByteArray) (off c : Int) (hs : s.size ≤ 9223372036854775807) (hg : ¬ (3000 < s.size ∧ s.size ≤ 16384)) (w : World) : Calls Try.prog 3 #[.string s, .int .i64 off, .int .i32 c] w fun e w' => e = .returned (.bool true) ∧ Below w.heap.size w w' := by
  have hl := spList_len s
  have Hl := Lib.hid hl
  clear hl
  go_enter Try.func3, Try.ntmps3
  by_cases h3 : 3000 < s.size
  all_goals go_wp2_with fail
  all_goals
    refine (split_all s hs _).mono ?_
    rintro e w1 ⟨A, n, cc, rfl, rfl, ra, hb1⟩
    go_wp2_with fail
    refine (rsplit_all s hs _).mono ?_
    rintro e w2 ⟨A2, n2, cc2, rfl, rfl, rb, hb2⟩
    have hal : Below w1.heap.size w1 (w1.alloc (.cells #[.int .i64 (spE s), .int .i64 (spL s), .int .i64 (spC s)] 28)) := (Below.refl _ _).alloc (Nat.le_refl _) _
    have hal2 : Below w2.heap.size w2 (w2.alloc (.cells #[.int .i64 (spE s), .int .i64 (spL s), .int .i64 (spC s)] 28)) := (Below.refl _ _).alloc (Nat.le_refl _) _
    have ra2 := ((ra.below hal).below hb2).below hal2
    have rb2 := rb.below hal2
    have hz1 := hb1.size
    have hz2 := hb2.size
    rw [World.size_alloc] at hz2
    go_wp2_with fail
    refine (same_any _ _ _ _ _ _ Hl.out _ ra2 rb2).mono ?_
    rintro e w3 ⟨rfl, hb3⟩
    have hz3 := hb3.size
    rw [World.size_alloc] at hz3
    obtain ⟨p0, p1, p2⟩ := cells_three w1 (.int .i64 (spE s)) (.int .i64 (spL s)) (.int .i64 (spC s))
    obtain ⟨q0, q1, q2⟩ := cells_three w2 (.int .i64 (spE s)) (.int .i64 (spL s)) (.int .i64 (spC s))
    rw [← hb2.cell (p := ⟨w1.heap.size, _, none⟩) (by rw [World.size_alloc]; simp), ← World.cell?_alloc_lt w2 (.cells #[.int .i64 (spE s), .int .i64 (spL s), .int .i64 (spC s)] 28) ⟨w1.heap.size, _, none⟩ (by simp only; omega), ← hb3.cell (p := ⟨w1.heap.size, _, none⟩) (by rw [World.size_alloc]; simp only; omega)] at p0 p1 p2
    rw [← hb3.cell (p := ⟨w2.heap.size, _, none⟩) (by rw [World.size_alloc]; simp)] at q0 q1 q2
    have hB3 : Below w.heap.size w w3 := (((hb1.alloc hz1 _).trans (hb2.mono (by rw [World.size_alloc]; omega))).alloc (by omega) _).trans (hb3.mono (by rw [World.size_alloc]; omega))
    clear ra rb ra2 rb2 hal hal2 hb1 hb2 hb3
    go_wp2_with fail
    refine (place_all s off hs _).mono ?_
    rintro e w4 ⟨rfl, hb4⟩
    have hB4 := hB3.trans (hb4.mono hB3.size)
    clear p0 p1 p2 q0 q1 q2 hb4 hB3
    go_wp2_with fail
    refine (rplace_all s off hs _).mono ?_
    rintro e w5 ⟨rfl, hb5⟩
    have hB5 := hB4.trans (hb5.mono hB4.size)
    clear hb5 hB4
    go_wp2_with (first | (go_at_call 13; ((with_reducible refine (low_any _ _).mono ?_); rintro e w' ⟨rfl, rfl⟩)) | (go_at_call 14; ((with_reducible refine (rlow_any _ _).mono ?_); rintro e w' ⟨rfl, rfl⟩)) | (go_at_call 15; ((with_reducible refine (up_any _ _).mono ?_); rintro e w' ⟨rfl, rfl⟩)) | (go_at_call 16; ((with_reducible refine (rup_any _ _).mono ?_); rintro e w' ⟨rfl, rfl⟩)) | (go_at_call 17; ((with_reducible refine (dig_any _ _).mono ?_); rintro e w' ⟨rfl, rfl⟩)) | (go_at_call 18; ((with_reducible refine (rdig_any _ _).mono ?_); rintro e w' ⟨rfl, rfl⟩)) | (go_at_call 19; ((with_reducible refine (blank_any _ _).mono ?_); rintro e w' ⟨rfl, rfl⟩)) | (go_at_call 20; ((with_reducible refine (rblank_any _ _).mono ?_); rintro e w' ⟨rfl, rfl⟩)))
    refine (put_any _ _).mono ?_
    rintro e w6 ⟨A6, n6, c6, rfl, r6, hb6⟩
    have hB6 := hB5.trans (hb6.mono hB5.size)
    clear hb6 hB5
    go_wp2_with fail
    refine (rput_any _ _).mono ?_
    rintro e w7 ⟨A7, n7, c7, rfl, r7, hb7⟩
    have hB7 := hB6.trans (hb7.mono hB6.size)
    have r6' := r6.below hb7
    clear hb7 hB6 r6
    go_wp2_with fail
    refine (bytes_same _ _ _ _ _ _ _ _ r6' r7).mono ?_
    rintro e w8 ⟨rfl, rfl⟩
    go_wp2_with (go_at_call 7; ((with_reducible refine (awake_any _).mono ?_); rintro e w9 ⟨rfl, hb9⟩))
    go_ret
    exact ⟨rfl, hB7.trans (hb9.mono hB7.size)⟩
set_option maxRecDepth 100000 in
theorem does_walk (s : ByteArray) (off c : Int) (hs : s.size ≤ 9223372036854775807) (w : World) : Calls Try.prog 3 #[.string s, .int .i64 off, .int .i32 c] w fun e w' => e = .returned (.bool true) ∧ Below w.heap.size w w' := by
  by_cases hg : 3000 < s.size ∧ s.size ≤ 16384
  · obtain ⟨h1, h2⟩ := hg
    go_enter Try.func3, Try.ntmps3
    go_wp2_with (go_at_call 7; ((with_reducible refine (awake_any _).mono ?_); rintro e w9 ⟨rfl, hb9⟩))
    go_ret
    exact ⟨rfl, hb9⟩
  · exact does_mid s off c hs hg w

theorem own : ownKnob Try.prog.godebug = none := by kernel_rfl
set_option maxRecDepth 100000 in
theorem lifted (os : Os) (started : os.Started) (H : Type) (enc : TypeId × Value → H) :
    ReturnsInHanded {} Try.checked os 3 .any (Rows.runesDoesSpec.pre6 enc Try.prog Try.f3 Rows.runesDoesRow.domain false) (Rows.runesDoesSpec.post enc Try.prog Try.f3 false true false false) := by
  refine returnsInHanded_of_change (C := Try.checked) own started (by kernel_rfl) Try.func3
    (ChangeSpec.witness6 (enc := enc) (C := Try.checked) false ⟨#[], #[.string ⟨#[]⟩, .int .i64 0, .int .i32 0], []⟩ 8 (by kernel_rfl) (by kernel_rfl) (by kernel_rfl) (by kernel_rfl)) ?_
  intro W base args ds gs before hval0 hW hcnd _
  have hval : ∀ (j : Nat) t v, Try.f3.params[j]? = some t → args[j]? = some v → Value.okWide Try.prog W .any base t v := hval0
  have hW' := hW
  obtain ⟨p, q, hA0, hV, rfl, hfz, hnd⟩ := hW
  have hA : DataW.TrodAll enc Try.prog W 0 (fun _ => true) true Try.f3.params.toList args.toList ds p := hA0
  rw [Try.params3] at hA hval
  obtain ⟨v0, vs0, d0, ds0, p0, q0, hargs, rfl, rfl, h0, r0⟩ := trodAll_cons hA
  obtain ⟨v1, vs1, d1, ds1, p1, q1, rfl, rfl, rfl, h1, r1⟩ := trodAll_cons r0
  obtain ⟨v2, vs2, d2, ds2, p2, q2, rfl, rfl, rfl, h2, r2⟩ := trodAll_cons r1
  obtain ⟨rfl, rfl, rfl⟩ := trodAll_nil r2
  obtain rfl : args = #[v0, v1, v2] := by cases args; simp_all
  obtain ⟨rfl, rfl⟩ := trodVars_none hV
  obtain ⟨s, rfl, rfl, rfl, w0⟩ := Go.ChangeMaps.open_string Try.underlying9 (hval 0 9 v0 rfl rfl) h0
  obtain ⟨a1, rfl, rfl, rfl, w1⟩ := open_int Try.underlying3 (hval 1 3 v1 rfl rfl) h1
  obtain ⟨a2, rfl, rfl, rfl, w2⟩ := open_int Try.underlying21 (hval 2 21 v2 rfl rfl) h2
  clear hA0 hval0
  simp only [List.append_nil] at hW'
  refine (does_walk s a1 a2 w0 W).mono fun e W' ⟨he, hg⟩ => ?_
  subst he
  exact ⟨_, rfl, post_law (pa := []) (pv := []) hW' (fun _ _ _ => (trodAll_cons_mk (shut_bool Try.underlying4 _) trodAll_mk0)) (fun sp _ => (trodAll_cons_mk (Go.ChangeMaps.shut_string Try.underlying9 w0) (trodAll_cons_mk (shut_int Try.underlying3 w1) (trodAll_cons_mk (shut_int Try.underlying21 w2) trodAll_mk0)))) (fun _ _ => rfl) rfl hg⟩

theorem over : Rows.runesDoesRow.holds Try.pinned (OpenSpec.ofChange Rows.runesDoesSpec) :=
  OpenClaim.holds_of_wide 3 Try.f3 rfl rfl rfl rfl rfl rfl rfl ⟨rfl, rfl, rfl, rfl, rfl⟩ rfl rfl rfl rfl rfl (by kernel_rfl) Try.func3 (by kernel_rfl)
    (of_decide_eq_true (by kernel_rfl)) (by unfold Func.isWrapper; first | (rw [if_pos (by decide +kernel)]; kernel_rfl) | (rw [if_neg (by decide +kernel)]; exact ⟨rfl, rfl⟩))
    (fun os started H enc _ => lifted os started H enc)

theorem proved : Rows.RunesDoesSaid :=
  over
#print axioms proved
end Go.Proofs.Ytbkcmbpclcamgaa.runesDoes
