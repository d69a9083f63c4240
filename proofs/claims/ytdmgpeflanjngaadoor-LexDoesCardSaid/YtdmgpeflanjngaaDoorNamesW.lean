/-
  For every text and both kinds of names the Go function LexNames of the statements on package lex returns true, and turns nothing that lay. No condition.
-/
import Derived.Test.YtdmgpeflanjngaaDoorOne1
namespace Go.Proofs.YtdmgpeflanjngaaDoor
open Go.ChangeShapes Go.WideShapes Go.ChangeAt Go.RowKit
set_option linter.unusedVariables false

theorem cells_below {w w' : World} {g : Nat} (hb : Below w.heap.size w w') (hg : g < w.heap.size) {o : Nat} {v : Value} (h : w.cell? ⟨g, o, none⟩ = some v) : w'.cell? ⟨g, o, none⟩ = some v := (hb.cell (p := ⟨g, o, none⟩) hg).trans h

set_option maxRecDepth 100000 in
set_option maxHeartbeats 2000000 in
/-- The text is no one token. -/
theorem names_none (s : ByteArray) (up : Bool) (hs : s.size ≤ 300) (w : World) (h : ∀ k, oneB s k = false) : Calls Tryd.prog 6 #[.string s, .bool up] w fun e w' => e = .returned (.bool true) ∧ Below w.heap.size w w' := by
  have hn : namedB s up = false := by rw [named_one]; exact h _
  have hw : wordB s.data.toList = false := by rw [word_one]; exact h _
  have HN := Lib.hid (fun w => hn ▸ named_any s up (by omega) w)
  have HW := Lib.hid (fun w => hw ▸ word_any s w)
  have HL := Lib.hid (fun w => lex_any s (by omega) w)
  have HH := Lib.hid h
  clear hn hw h
  go_enter Tryd.func6, Tryd.ntmps6
  go_wp2_with fail
  refine (HL.out _).mono ?_
  rintro e w1 (⟨er, L, C, h1, her, rfl, hb⟩ | ⟨A, n, c, ps, h1, rfl, rfl, ht, hb⟩)
  · have q : (er == 0) = false := by simpa using her
    have hB := hb.alloc (o := .cells #[.int .i64 er, .int .i64 L, .int .i64 C] 31) hb.size
    clear h1 hb
    cases up
    all_goals
      go_wp2_with fail
      refine (HN.out _).mono ?_
      rintro e w2 ⟨rfl, hb2⟩
      have hB2 := hB.trans (hb2.mono hB.size)
      clear hb2
      go_wp2_with (go_at_call 13; ((with_reducible refine (HW.out _).mono ?_); rintro e w' ⟨rfl, rfl⟩))
      refine (HN.out _).mono ?_
      rintro e w3 ⟨rfl, hb3⟩
      have hB3 := hB2.trans (hb3.mono hB2.size)
      clear hb3
      go_wp2_with (go_at_call 7; ((with_reducible refine (awake_any _).mono ?_); rintro e w4 ⟨rfl, hb4⟩))
      go_ret
      exact ⟨rfl, hB3.trans (hb4.mono hB3.size)⟩
  · have hB := hb.alloc (o := .cells #[.int .i64 0, .int .i64 0, .int .i64 0] 31) hb.size
    by_cases h2 : ps.length = 2
    · obtain ⟨p, q, rfl⟩ := two_of h2
      have e1 := HH.out p.1.kind
      rw [oneB_two h1] at e1
      have htx : (p.1.text == s.data.toList) = false := by simpa using e1
      obtain ⟨g, rfl, hg1, hg2, hc, hx⟩ := ht.cell rfl (by simp)
      obtain ⟨-, x1, -⟩ := hx 0 p rfl
      rw [← World.cell?_alloc_lt w1 (.cells #[.int .i64 0, .int .i64 0, .int .i64 0] 31) ⟨g, _, none⟩ hg2] at x1
      have z1 : (w1.alloc (.cells #[.int .i64 0, .int .i64 0, .int .i64 0] 31)).cell? ⟨g, 1, none⟩ = some (.string ⟨p.1.text.toArray⟩) := x1
      have ht2 := text_eq (s := s) (l := p.1.text)
      rw [htx] at ht2
      obtain ⟨tx, htx⟩ : ∃ tx : ByteArray, ⟨p.1.text.toArray⟩ = tx := ⟨_, rfl⟩
      rw [htx] at z1 ht2
      clear h1 hb ht hx x1 e1 h2 htx
      cases up
      all_goals
        go_wp2_with fail
        refine (HN.out _).mono ?_
        rintro e w2 ⟨rfl, hb2⟩
        have hB2 := hB.trans (hb2.mono hB.size)
        clear hb2
        go_wp2_with (go_at_call 13; ((with_reducible refine (HW.out _).mono ?_); rintro e w' ⟨rfl, rfl⟩))
        refine (HN.out _).mono ?_
        rintro e w3 ⟨rfl, hb3⟩
        have hB3 := hB2.trans (hb3.mono hB2.size)
        clear hb3
        go_wp2_with (go_at_call 7; ((with_reducible refine (awake_any _).mono ?_); rintro e w4 ⟨rfl, hb4⟩))
        go_ret
        exact ⟨rfl, hB3.trans (hb4.mono hB3.size)⟩
    · have q1 : ((ps.length : Int) == 2) = false := by simp; omega
      have q2 : (ps.length == 2) = false := by simpa using h2
      clear h1 hb ht h2
      cases up
      all_goals
        go_wp2_with fail
        refine (HN.out _).mono ?_
        rintro e w2 ⟨rfl, hb2⟩
        have hB2 := hB.trans (hb2.mono hB.size)
        clear hb2
        go_wp2_with (go_at_call 13; ((with_reducible refine (HW.out _).mono ?_); rintro e w' ⟨rfl, rfl⟩))
        refine (HN.out _).mono ?_
        rintro e w3 ⟨rfl, hb3⟩
        have hB3 := hB2.trans (hb3.mono hB2.size)
        clear hb3
        go_wp2_with (go_at_call 7; ((with_reducible refine (awake_any _).mono ?_); rintro e w4 ⟨rfl, hb4⟩))
        go_ret
        exact ⟨rfl, hB3.trans (hb4.mono hB3.size)⟩
end Go.Proofs.YtdmgpeflanjngaaDoor
