/-
  The document's own examples of chapter 3 hold of the calls of package lex. No condition.
-/
import Derived.Test.YtdmgpeflanjngaaDoorNamed
import Derived.Lib.SmallJoins
namespace Go.Proofs.YtdmgpeflanjngaaDoor
open Go.ChangeShapes Go.WideShapes Go.ChangeAt Go.RowKit
set_option linter.unusedVariables false

theorem ex_let : lexOf ⟨#[108, 101, 116, 32, 120, 32, 61, 32, 49, 50]⟩ = .inr [⟨5, [108, 101, 116], 0, [], 1, 1⟩, ⟨1, [120], 0, [], 1, 5⟩, ⟨6, [61], 0, [], 1, 7⟩, ⟨3, [], 12, [], 1, 9⟩, ⟨0, [], 0, [], 1, 11⟩] := by kernel_rfl
theorem ex_at : lexOf ⟨#[97, 64]⟩ = .inl (2, 1, 2) := by kernel_rfl
theorem ex_x : lexOf ⟨#[120]⟩ = .inr [⟨1, [120], 0, [], 1, 1⟩, ⟨0, [], 0, [], 1, 2⟩] := by kernel_rfl
theorem ex_quote : quoteF [97, 10] = [34, 97, 92, 120, 48, 97, 34] := by decide +kernel
theorem ex_named : namedB ⟨#[120]⟩ false = true := by
  rw [namedB, if_neg (by decide), oneB_two ex_x]; decide
theorem lex_let (w : World) : Calls Tryd.prog 8 #[.string ⟨#[108, 101, 116, 32, 120, 32, 61, 32, 49, 50]⟩] w fun e w' => ∃ g c, e = .returned (.tuple #[.slice (some ⟨g, 0, none⟩) 5 c, .agg #[.int .i64 0, .int .i64 0, .int .i64 0]]) ∧ g < w'.heap.size ∧ 5 ≤ c ∧ w'.cell? ⟨g, 20, none⟩ = some (.int .i64 12) ∧ w'.cell? ⟨g, 28, none⟩ = some (.int .i64 1) ∧ w'.cell? ⟨g, 29, none⟩ = some (.int .i64 11) ∧ Below w.heap.size w w' := by
  refine (lex_any _ (by decide) w).mono ?_
  rintro e w' (⟨er, L, C, h1, _⟩ | ⟨A, n, c, ps, h1, rfl, rfl, ht, hb⟩)
  · rw [ex_let] at h1; cases h1
  · rw [ex_let] at h1
    injection h1 with h1
    have hl : ps.length = 5 := by have := congrArg List.length h1; simpa using this.symm
    obtain ⟨g, rfl, hg1, hg2, hc, hx⟩ := ht.cell rfl (by omega)
    have h3 : ps[3]? = some (ps[3]'(by omega)) := List.getElem?_eq_getElem _
    have h4 : ps[4]? = some (ps[4]'(by omega)) := List.getElem?_eq_getElem _
    have e3 : (ps[3]'(by omega)).1.num = 12 := by
      have := congrArg (fun l : List Tok => (l[3]?).map (·.num)) h1
      simpa [h3] using this.symm
    have e4 : (ps[4]'(by omega)).1.line = 1 ∧ (ps[4]'(by omega)).1.col = 11 := by
      have a := congrArg (fun l : List Tok => (l[4]?).map (·.line)) h1
      have b := congrArg (fun l : List Tok => (l[4]?).map (·.col)) h1
      exact ⟨by simpa [h4] using a.symm, by simpa [h4] using b.symm⟩
    obtain ⟨-, -, x3, -⟩ := hx 3 _ h3
    obtain ⟨-, -, -, -, x4, x5⟩ := hx 4 _ h4
    rw [e3] at x3
    rw [e4.1] at x4
    rw [e4.2] at x5
    rw [hl] at hc
    exact ⟨g, c, by rw [hl], hg2, hc, x3, x4, x5, hb⟩
theorem lex_at (w : World) : Calls Tryd.prog 8 #[.string ⟨#[97, 64]⟩] w fun e w' => e = .returned (.tuple #[.slice none 0 0, .agg #[.int .i64 2, .int .i64 1, .int .i64 2]]) ∧ Below w.heap.size w w' := by
  refine (lex_any _ (by decide) w).mono ?_
  rintro e w' (⟨er, L, C, h1, _, rfl, hb⟩ | ⟨A, n, c, ps, h1, _⟩)
  · rw [ex_at] at h1; cases h1; exact ⟨rfl, hb⟩
  · rw [ex_at] at h1; cases h1
theorem row_two (w : World) : Row (w.alloc (.cells #[.int .u8 97, .int .u8 10] 5 (2, 3))) (some ⟨w.heap.size, 0, none⟩) 2 [97, 10] := by
  refine .inr ⟨_, rfl, rfl, by simp, fun j hj => ?_⟩
  have hj' : j = 0 ∨ j = 1 := by simp at hj; omega
  rcases hj' with rfl | rfl
  · exact cell_of_row _ w.heap.size 0 _ 5 (2, 3) (heap_alloc_new w _)
  · exact cell_of_row _ w.heap.size 1 _ 5 (2, 3) (heap_alloc_new w _)
theorem word_let (w : World) : Calls Tryd.prog 13 #[.string ⟨#[108, 101, 116]⟩] w fun e w' => e = .returned (.bool true) ∧ w = w' := word_yes [108, 101, 116] (by decide) w
theorem named_x (w : World) : Calls Tryd.prog 15 #[.string ⟨#[120]⟩, .bool false] w fun e w' => e = .returned (.bool true) ∧ Below w.heap.size w w' := by
  have := named_any ⟨#[120]⟩ false (by decide) w
  rw [ex_named] at this
  exact this
set_option maxRecDepth 100000 in
set_option maxHeartbeats 2000000 in
theorem awake_any (w : World) : Calls Tryd.prog 7 #[] w fun e w' => e = .returned (.bool true) ∧ Below w.heap.size w w' := by
  go_enter Tryd.func7, Tryd.ntmps7
  go_wp2_with fail
  refine (lex_let _).mono ?_
  rintro e w1 ⟨g, c, rfl, hg, hc, x0, x1, x2, hb1⟩
  have hz1 := hb1.size
  go_wp2_with fail
  refine (lex_at _).mono ?_
  rintro e w2 ⟨rfl, hb2⟩
  have hz2 := hb2.size
  rw [World.size_alloc] at hz2
  have y0 : w2.cell? ⟨g, 20, none⟩ = some (.int .i64 12) := by rw [hb2.cell (p := ⟨g, 20, none⟩) (by simp; omega), World.cell?_alloc_lt _ _ _ hg]; exact x0
  have y1 : w2.cell? ⟨g, 28, none⟩ = some (.int .i64 1) := by rw [hb2.cell (p := ⟨g, 28, none⟩) (by simp; omega), World.cell?_alloc_lt _ _ _ hg]; exact x1
  have y2 : w2.cell? ⟨g, 29, none⟩ = some (.int .i64 11) := by rw [hb2.cell (p := ⟨g, 29, none⟩) (by simp; omega), World.cell?_alloc_lt _ _ _ hg]; exact x2
  have yE : w2.cell? ⟨w1.heap.size, 0, none⟩ = some (.int .i64 0) := by rw [hb2.cell (p := ⟨w1.heap.size, 0, none⟩) (by simp)]; simp
  have hg2 : g < w2.heap.size := by omega
  have hw12 : w1.heap.size < w2.heap.size := by omega
  have hB2 : Below w.heap.size w w2 := (hb1.alloc (by omega) _).trans (hb2.mono (by simp; omega))
  have kc := Go.Joins.run_convert_bytes_const_at (P := Tryd.prog) (w2.alloc (.cells #[.int .i64 2, .int .i64 1, .int .i64 2] 31)) 22 5 #[.int .u8 97, .int .u8 10] 2 2 (w2.heap.size + 1) (by simp) Tryd.underlying22 Tryd.underlying5
  clear x0 x1 x2 hb1 hb2
  go_wp2_with fail
  have hr2 := row_two (w2.alloc (.cells #[.int .i64 2, .int .i64 1, .int .i64 2] 31))
  rw [World.size_alloc] at hr2
  refine (show_text _ _ _ _ _ 2 2 [97, 10] _ hr2 (Nat.le_refl _) (by decide)).mono ?_
  rintro e w3 ⟨rfl, hb3⟩
  rw [ex_quote]
  have hz3 := hb3.size
  simp only [World.size_alloc] at hz3
  have hB3 : Below w.heap.size w w3 := ((hB2.alloc (by omega) _).alloc (by simp; omega) _).trans (hb3.mono (by simp; omega))
  clear hb3 hr2
  go_wp2_with (first | (go_at_call 13; ((with_reducible refine (word_let _).mono ?_); rintro e w' ⟨rfl, rfl⟩)) | (go_at_call 15; ((with_reducible refine (named_x _).mono ?_); rintro e w4 ⟨rfl, hb4⟩)))
  go_ret
  exact ⟨rfl, hB3.trans (hb4.mono (by omega))⟩
end Go.Proofs.YtdmgpeflanjngaaDoor
