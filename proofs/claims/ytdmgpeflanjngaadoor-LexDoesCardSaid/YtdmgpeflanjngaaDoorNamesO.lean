/-
  For a text that is one token the Go function LexNames of the statements on package lex returns true. No condition.
-/
import Derived.Test.YtdmgpeflanjngaaDoorNamesW
namespace Go.Proofs.YtdmgpeflanjngaaDoor
open Go.ChangeShapes Go.WideShapes Go.ChangeAt Go.RowKit
set_option linter.unusedVariables false

/-- Six cells from place o on. -/
structure Six (W : World) (g o : Nat) (a b n s l c : Value) : Prop where
  lt : g < W.heap.size
  c0 : W.cell? ⟨g, o, none⟩ = some a
  c1 : W.cell? ⟨g, o + 1, none⟩ = some b
  c2 : W.cell? ⟨g, o + 2, none⟩ = some n
  c3 : W.cell? ⟨g, o + 3, none⟩ = some s
  c4 : W.cell? ⟨g, o + 4, none⟩ = some l
  c5 : W.cell? ⟨g, o + 5, none⟩ = some c
theorem Six.below {W W' : World} {g o : Nat} {a b n s l c : Value} (h : Six W g o a b n s l c) (hb : Below W.heap.size W W') : Six W' g o a b n s l c :=
  ⟨Nat.lt_of_lt_of_le h.lt hb.size, cells_below hb h.lt h.c0, cells_below hb h.lt h.c1, cells_below hb h.lt h.c2, cells_below hb h.lt h.c3, cells_below hb h.lt h.c4, cells_below hb h.lt h.c5⟩
theorem Six.alloc {W : World} {g o : Nat} {a b n s l c : Value} (h : Six W g o a b n s l c) (x : Obj) : Six (W.alloc x) g o a b n s l c := h.below ((Below.refl _ _).alloc (Nat.le_refl _) _)

set_option maxRecDepth 100000 in
set_option maxHeartbeats 4000000 in
/-- The text is one token. -/
theorem names_one (s : ByteArray) (up : Bool) (hs : s.size ≤ 300) (w : World) (K : Int) (h : oneB s K = true) : Calls Tryd.prog 6 #[.string s, .bool up] w fun e w' => e = .returned (.bool true) ∧ Below w.heap.size w w' := by
  have HN0 : ∀ up, namedB s up = (K == if up then 2 else 1) := by
    intro up
    rw [named_one]
    obtain ⟨t, e, hl, htx, hk⟩ := oneB_some h
    rw [oneB_two hl, htx, hk]; simp
  have HW0 : wordB s.data.toList = (K == 5) := by
    rw [word_one]
    obtain ⟨t, e, hl, htx, hk⟩ := oneB_some h
    rw [oneB_two hl, htx, hk]; simp
  obtain ⟨t, e, hl, htx, hk⟩ := oneB_some h
  have HN := Lib.hid (fun up w => HN0 up ▸ named_any s up (by omega) w)
  have HW := Lib.hid (fun w => HW0 ▸ word_any s w)
  have HL := Lib.hid (fun w => lex_any s (by omega) w)
  have Hl := Lib.hid hl
  have Htx := Lib.hid htx
  have Hk := Lib.hid hk
  clear HN0 HW0 hl h
  go_enter Tryd.func6, Tryd.ntmps6
  go_wp2_with fail
  refine (HL.out _).mono ?_
  rintro e w1 (⟨er, L, C, h1, her, rfl, hb⟩ | ⟨A, n, c, ps, h1, rfl, rfl, ht, hb⟩)
  · rw [Hl.out] at h1; cases h1
  · rw [Hl.out] at h1
    injection h1 with h1
    have h2 : ps.length = 2 := by have := congrArg List.length h1; simpa using this.symm
    obtain ⟨p, q, rfl⟩ := two_of h2
    have hp : p.1 = t := by simp at h1; exact h1.1.symm
    have hB := hb.alloc (o := .cells #[.int .i64 0, .int .i64 0, .int .i64 0] 31) hb.size
    obtain ⟨g, rfl, hg1, hg2, hc, hx⟩ := ht.cell rfl (by simp)
    obtain ⟨x0, x1, x2, x3, x4, x5⟩ := hx 0 p rfl
    obtain ⟨A', n', c', hv3, -⟩ := ht.bytes p (by simp)
    rw [hv3] at x3
    rw [hp] at x0 x1 x2 x4 x5
    rw [Hk.out] at x0
    have htt : ((⟨s.data.toList.toArray⟩ : ByteArray).toList == s.toList) = true := by rw [text_eq]; simp
    rw [Htx.out] at x1
    obtain ⟨tx, htxe⟩ : ∃ tx : ByteArray, ⟨s.data.toList.toArray⟩ = tx := ⟨_, rfl⟩
    rw [htxe] at x1 htt
    obtain ⟨tn, htn⟩ : ∃ tn, t.num = tn := ⟨_, rfl⟩
    obtain ⟨tl, htl⟩ : ∃ tn, t.line = tn := ⟨_, rfl⟩
    obtain ⟨tc, htc⟩ : ∃ tn, t.col = tn := ⟨_, rfl⟩
    rw [htn] at x2
    rw [htl] at x4
    rw [htc] at x5
    have h6 : Six (w1.alloc (.cells #[.int .i64 0, .int .i64 0, .int .i64 0] 31)) g 0 (.int .i64 K) (.string tx) (.int .i64 tn) (.slice A' n' c') (.int .i64 tl) (.int .i64 tc) := Six.alloc ⟨hg2, x0, x1, x2, x3, x4, x5⟩ _
    clear h1 hp htn htl htc hv3 hx ht h2 htxe hb x0 x1 x2 x3 x4 x5
    have hz1 := hB.size
    have y0 := h6.c0
    have y1 := h6.c1
    simp only [Nat.zero_add] at y1
    by_cases hK : K = if up then 2 else 1
    · cases up
      · obtain rfl : K = 1 := hK
        have HA : Hid (∀ w, Calls Tryd.prog 15 #[.string s, .bool false] w fun e w' => e = .returned (.bool true) ∧ Below w.heap.size w w') := Lib.hid (fun w => HN.out false w)
        have HB : Hid (∀ w, Calls Tryd.prog 15 #[.string s, .bool true] w fun e w' => e = .returned (.bool false) ∧ Below w.heap.size w w') := Lib.hid (fun w => HN.out true w)
        have HC : Hid (∀ w, Calls Tryd.prog 13 #[.string s] w fun e w' => e = .returned (.bool false) ∧ w = w') := Lib.hid (fun w => HW.out w)
        clear HN HW HL
        go_wp2_with fail
        refine (HA.out _).mono ?_
        rintro e w2 ⟨rfl, hb2⟩
        have hB2 := hB.trans (hb2.mono hB.size)
        have g6 := h6.below hb2
        have u0 := g6.c0
        clear hb2 y0 y1 h6
        go_wp2_with (go_at_call 13; ((with_reducible refine (HC.out _).mono ?_); rintro e w' ⟨rfl, rfl⟩))
        refine (HA.out _).mono ?_
        rintro e w3 ⟨rfl, hb3⟩
        have hB3 := hB2.trans (hb3.mono hB2.size)
        obtain ⟨-, v0, v1, v2, v3, v4, v5⟩ := g6.below hb3
        simp only [Nat.zero_add] at v1 v2 v3 v4 v5
        clear hb3 g6 u0
        go_wp2_with fail
        refine (show_word 1 (by decide) tx tn tl tc A' n' c' _).mono ?_
        rintro e w4 ⟨rfl, hb4⟩
        have hB4 := hB3.trans (hb4.mono hB3.size)
        clear hb4 v0 v1 v2 v3 v4 v5
        go_wp2_with (go_at_call 13; ((with_reducible refine (HC.out _).mono ?_); rintro e w' ⟨rfl, rfl⟩))
        refine (HB.out _).mono ?_
        rintro e w5 ⟨rfl, hb5⟩
        have hB5 := hB4.trans (hb5.mono hB4.size)
        clear hb5
        go_wp2_with (go_at_call 7; ((with_reducible refine (awake_any _).mono ?_); rintro e w6 ⟨rfl, hb6⟩))
        go_ret
        exact ⟨rfl, hB5.trans (hb6.mono hB5.size)⟩
      · obtain rfl : K = 2 := hK
        have HA : Hid (∀ w, Calls Tryd.prog 15 #[.string s, .bool true] w fun e w' => e = .returned (.bool true) ∧ Below w.heap.size w w') := Lib.hid (fun w => HN.out true w)
        have HB : Hid (∀ w, Calls Tryd.prog 15 #[.string s, .bool false] w fun e w' => e = .returned (.bool false) ∧ Below w.heap.size w w') := Lib.hid (fun w => HN.out false w)
        have HC : Hid (∀ w, Calls Tryd.prog 13 #[.string s] w fun e w' => e = .returned (.bool false) ∧ w = w') := Lib.hid (fun w => HW.out w)
        clear HN HW HL
        go_wp2_with fail
        refine (HA.out _).mono ?_
        rintro e w2 ⟨rfl, hb2⟩
        have hB2 := hB.trans (hb2.mono hB.size)
        have g6 := h6.below hb2
        have u0 := g6.c0
        clear hb2 y0 y1 h6
        go_wp2_with (go_at_call 13; ((with_reducible refine (HC.out _).mono ?_); rintro e w' ⟨rfl, rfl⟩))
        refine (HA.out _).mono ?_
        rintro e w3 ⟨rfl, hb3⟩
        have hB3 := hB2.trans (hb3.mono hB2.size)
        obtain ⟨-, v0, v1, v2, v3, v4, v5⟩ := g6.below hb3
        simp only [Nat.zero_add] at v1 v2 v3 v4 v5
        clear hb3 g6 u0
        go_wp2_with fail
        refine (show_word 2 (by decide) tx tn tl tc A' n' c' _).mono ?_
        rintro e w4 ⟨rfl, hb4⟩
        have hB4 := hB3.trans (hb4.mono hB3.size)
        clear hb4 v0 v1 v2 v3 v4 v5
        go_wp2_with (go_at_call 13; ((with_reducible refine (HC.out _).mono ?_); rintro e w' ⟨rfl, rfl⟩))
        refine (HB.out _).mono ?_
        rintro e w5 ⟨rfl, hb5⟩
        have hB5 := hB4.trans (hb5.mono hB4.size)
        clear hb5
        go_wp2_with (go_at_call 7; ((with_reducible refine (awake_any _).mono ?_); rintro e w6 ⟨rfl, hb6⟩))
        go_ret
        exact ⟨rfl, hB5.trans (hb6.mono hB5.size)⟩
    · by_cases h5 : K = 5
      · cases up
        · skip
          have HA : Hid (∀ w, Calls Tryd.prog 15 #[.string s, .bool false] w fun e w' => e = .returned (.bool false) ∧ Below w.heap.size w w') := Lib.hid (fun w => by have := HN.out false w; rw [show (K == if false = true then 2 else 1) = false from by simpa using hK] at this; exact this)
          have HC : Hid (∀ w, Calls Tryd.prog 13 #[.string s] w fun e w' => e = .returned (.bool true) ∧ w = w') := Lib.hid (fun w => by have := HW.out w; rw [show (K == 5) = true from by simpa using h5] at this; exact this)
          have k1 : (K == 1) = false := by simpa using hK
          have k5 : (K == 5) = true := by simpa using h5
          clear HN HW HL hK h5
          go_wp2_with fail
          refine (HA.out _).mono ?_
          rintro e w2 ⟨rfl, hb2⟩
          have hB2 := hB.trans (hb2.mono hB.size)
          have g6 := h6.below hb2
          have u0 := g6.c0
          clear hb2 y0 y1 h6
          go_wp2_with (go_at_call 13; ((with_reducible refine (HC.out _).mono ?_); rintro e w' ⟨rfl, rfl⟩))
          refine (HA.out _).mono ?_
          rintro e w3 ⟨rfl, hb3⟩
          have hB3 := hB2.trans (hb3.mono hB2.size)
          clear hb3 g6 u0
          go_wp2_with (go_at_call 7; ((with_reducible refine (awake_any _).mono ?_); rintro e w6 ⟨rfl, hb6⟩))
          go_ret
          exact ⟨rfl, hB3.trans (hb6.mono hB3.size)⟩
        · skip
          have HA : Hid (∀ w, Calls Tryd.prog 15 #[.string s, .bool true] w fun e w' => e = .returned (.bool false) ∧ Below w.heap.size w w') := Lib.hid (fun w => by have := HN.out true w; rw [show (K == if true = true then 2 else 1) = false from by simpa using hK] at this; exact this)
          have HC : Hid (∀ w, Calls Tryd.prog 13 #[.string s] w fun e w' => e = .returned (.bool true) ∧ w = w') := Lib.hid (fun w => by have := HW.out w; rw [show (K == 5) = true from by simpa using h5] at this; exact this)
          have k1 : (K == 2) = false := by simpa using hK
          have k5 : (K == 5) = true := by simpa using h5
          clear HN HW HL hK h5
          go_wp2_with fail
          refine (HA.out _).mono ?_
          rintro e w2 ⟨rfl, hb2⟩
          have hB2 := hB.trans (hb2.mono hB.size)
          have g6 := h6.below hb2
          have u0 := g6.c0
          clear hb2 y0 y1 h6
          go_wp2_with (go_at_call 13; ((with_reducible refine (HC.out _).mono ?_); rintro e w' ⟨rfl, rfl⟩))
          refine (HA.out _).mono ?_
          rintro e w3 ⟨rfl, hb3⟩
          have hB3 := hB2.trans (hb3.mono hB2.size)
          clear hb3 g6 u0
          go_wp2_with (go_at_call 7; ((with_reducible refine (awake_any _).mono ?_); rintro e w6 ⟨rfl, hb6⟩))
          go_ret
          exact ⟨rfl, hB3.trans (hb6.mono hB3.size)⟩
      · cases up
        · skip
          have HA : Hid (∀ w, Calls Tryd.prog 15 #[.string s, .bool false] w fun e w' => e = .returned (.bool false) ∧ Below w.heap.size w w') := Lib.hid (fun w => by have := HN.out false w; rw [show (K == if false = true then 2 else 1) = false from by simpa using hK] at this; exact this)
          have HC : Hid (∀ w, Calls Tryd.prog 13 #[.string s] w fun e w' => e = .returned (.bool false) ∧ w = w') := Lib.hid (fun w => by have := HW.out w; rw [show (K == 5) = false from by simpa using h5] at this; exact this)
          have k1 : (K == 1) = false := by simpa using hK
          have k5 : (K == 5) = false := by simpa using h5
          clear HN HW HL hK h5
          go_wp2_with fail
          refine (HA.out _).mono ?_
          rintro e w2 ⟨rfl, hb2⟩
          have hB2 := hB.trans (hb2.mono hB.size)
          have g6 := h6.below hb2
          have u0 := g6.c0
          clear hb2 y0 y1 h6
          go_wp2_with (go_at_call 13; ((with_reducible refine (HC.out _).mono ?_); rintro e w' ⟨rfl, rfl⟩))
          refine (HA.out _).mono ?_
          rintro e w3 ⟨rfl, hb3⟩
          have hB3 := hB2.trans (hb3.mono hB2.size)
          clear hb3 g6 u0
          go_wp2_with (go_at_call 7; ((with_reducible refine (awake_any _).mono ?_); rintro e w6 ⟨rfl, hb6⟩))
          go_ret
          exact ⟨rfl, hB3.trans (hb6.mono hB3.size)⟩
        · skip
          have HA : Hid (∀ w, Calls Tryd.prog 15 #[.string s, .bool true] w fun e w' => e = .returned (.bool false) ∧ Below w.heap.size w w') := Lib.hid (fun w => by have := HN.out true w; rw [show (K == if true = true then 2 else 1) = false from by simpa using hK] at this; exact this)
          have HC : Hid (∀ w, Calls Tryd.prog 13 #[.string s] w fun e w' => e = .returned (.bool false) ∧ w = w') := Lib.hid (fun w => by have := HW.out w; rw [show (K == 5) = false from by simpa using h5] at this; exact this)
          have k1 : (K == 2) = false := by simpa using hK
          have k5 : (K == 5) = false := by simpa using h5
          clear HN HW HL hK h5
          go_wp2_with fail
          refine (HA.out _).mono ?_
          rintro e w2 ⟨rfl, hb2⟩
          have hB2 := hB.trans (hb2.mono hB.size)
          have g6 := h6.below hb2
          have u0 := g6.c0
          clear hb2 y0 y1 h6
          go_wp2_with (go_at_call 13; ((with_reducible refine (HC.out _).mono ?_); rintro e w' ⟨rfl, rfl⟩))
          refine (HA.out _).mono ?_
          rintro e w3 ⟨rfl, hb3⟩
          have hB3 := hB2.trans (hb3.mono hB2.size)
          clear hb3 g6 u0
          go_wp2_with (go_at_call 7; ((with_reducible refine (awake_any _).mono ?_); rintro e w6 ⟨rfl, hb6⟩))
          go_ret
          exact ⟨rfl, hB3.trans (hb6.mono hB3.size)⟩
/-- For any text of few bytes. -/
theorem names_mid (s : ByteArray) (up : Bool) (hs : s.size ≤ 300) (w : World) : Calls Tryd.prog 6 #[.string s, .bool up] w fun e w' => e = .returned (.bool true) ∧ Below w.heap.size w w' := by
  by_cases h : ∃ k, oneB s k = true
  · obtain ⟨k, hk⟩ := h; exact names_one s up hs w k hk
  · exact names_none s up hs w (fun k => by
      cases hk : oneB s k
      · rfl
      · exact absurd ⟨k, hk⟩ h)
set_option maxRecDepth 100000 in
theorem names_walk (s : ByteArray) (up : Bool) (hs : s.size ≤ 9223372036854775807) (w : World) : Calls Tryd.prog 6 #[.string s, .bool up] w fun e w' => e = .returned (.bool true) ∧ Below w.heap.size w w' := by
  by_cases hg : 300 < s.size
  · go_enter Tryd.func6, Tryd.ntmps6
    go_wp2_with (go_at_call 7; ((with_reducible refine (awake_any _).mono ?_); rintro e w9 ⟨rfl, hb9⟩))
    go_ret
    exact ⟨rfl, hb9⟩
  · exact names_mid s up (by omega) w
end Go.Proofs.YtdmgpeflanjngaaDoor
