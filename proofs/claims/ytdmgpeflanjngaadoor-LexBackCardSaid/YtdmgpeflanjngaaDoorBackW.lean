/-
  For every text of few bytes the Go function LexBack of the statements on package lex returns true. No condition but that the library's table of tens holds its numbers.
-/
import Derived.Test.YtdmgpeflanjngaaDoorRise
import Derived.Test.YtdmgpeflanjngaaDoorNamesO
namespace Go.Proofs.YtdmgpeflanjngaaDoor
open Go.ChangeShapes Go.WideShapes Go.ChangeAt Go.RowKit
set_option linter.unusedVariables false

set_option maxRecDepth 100000 in
set_option maxHeartbeats 2000000 in
theorem back_fault (s : ByteArray) (hs : s.size ≤ 800) (w : World) {er : Int × Int × Int} (hl : lexOf s = .inl er) : Calls Tryd.prog 4 #[.string s] w fun e w' => e = .returned (.bool true) ∧ Below w.heap.size w w' := by
  have HL := Lib.hid (fun w => lex_any s (by omega) w)
  have Hl := Lib.hid hl
  clear hl
  go_enter Tryd.func4, Tryd.ntmps4
  go_wp2_with fail
  refine (HL.out _).mono ?_
  rintro e w1 (⟨er, L, C, h1, her, rfl, hb⟩ | ⟨A, n, c, ps, h1, rfl, rfl, ht, hb⟩)
  · have q : (er != 0) = true := by simpa using her
    have hB := hb.alloc (o := .cells #[.int .i64 er, .int .i64 L, .int .i64 C] 31) hb.size
    clear h1 hb
    go_wp2_with (go_at_call 7; ((with_reducible refine (awake_any _).mono ?_); rintro e w4 ⟨rfl, hb4⟩))
    go_ret
    exact ⟨rfl, hB.trans (hb4.mono hB.size)⟩
  · rw [Hl.out] at h1; cases h1

/-- What the walk wants of token k. -/
theorem shown_take {T : List Tok} {k : Nat} {t : Tok} (h : T[k]? = some t) : shown (T.take (k + 1)) = shown (T.take k) ++ (showT t ++ [32]) := by
  obtain ⟨hk, rfl⟩ := List.getElem?_eq_some_iff.1 h
  rw [List.take_succ_eq_append_getElem hk, shown, List.flatMap_append]; simp [shown]
theorem shown_le {T : List Tok} (k : Nat) : (shown (T.take k)).length ≤ (shown T).length := by
  have : shown T = shown (T.take k) ++ shown (T.drop k) := by
    unfold shown; rw [← List.flatMap_append, List.take_append_drop]
  rw [this]; simp
set_option maxRecDepth 100000 in
set_option maxHeartbeats 4000000 in
theorem back_ok (s : ByteArray) (hs : s.size ≤ 800) (w : World) (htn : Tens w) {T : List Tok} (hl : lexOf s = .inr T) : Calls Tryd.prog 4 #[.string s] w fun e w' => e = .returned (.bool true) ∧ Below w.heap.size w w' := by
  have HL := Lib.hid (fun w => lex_any s (by omega) w)
  have Hl := Lib.hid hl
  have HB := Lib.hid (back_of hs hl)
  clear hl
  go_enter Tryd.func4, Tryd.ntmps4
  go_wp2_with fail
  refine (HL.out _).mono ?_
  rintro e w1 (⟨er, L, C, h1, her, rfl, hb⟩ | ⟨A, n, c, ps, h1, rfl, rfl, ht, hb⟩)
  · rw [Hl.out] at h1; cases h1
  rw [Hl.out] at h1
  obtain rfl : T = ps.map (·.1) := Sum.inr.inj h1
  have hB := hb.alloc (o := .cells #[.int .i64 0, .int .i64 0, .int .i64 0] 31) hb.size
  have hrow := (TRow.of_toks ht rfl).below ((Below.refl _ w1).alloc (Nat.le_refl _) (.cells #[.int .i64 0, .int .i64 0, .int .i64 0] 31))
  have htn1 := tens_below htn hB
  have Hrow := Lib.hid hrow
  have Htn := Lib.hid htn1
  clear h1 hb ht hrow htn1
  have y0 : (w1.alloc (.cells #[.int .i64 0, .int .i64 0, .int .i64 0] 31)).cell? ⟨w1.heap.size, 0, none⟩ = some (.int .i64 0) := by simp
  go_wp2_with fail
  go_loopw [5, 30] (fun t i wr => ∃ k : Nat, k ≤ ps.length ∧ i = .int .i64 (k : Int) ∧ t = .string ⟨(shown ((ps.map (·.1)).take k)).toArray⟩ ∧ Below (w1.alloc (.cells #[.int .i64 0, .int .i64 0, .int .i64 0] 31)).heap.size (w1.alloc (.cells #[.int .i64 0, .int .i64 0, .int .i64 0] 31)) wr) (fun _ i _ => ps.length - (intOf i).toNat)
  case atStart => exact ⟨0, by omega, rfl, rfl, Below.refl _ _⟩
  case round =>
    obtain ⟨k, hk, rfl, rfl, hB1⟩ := hrel
    have hz1 := hB1.size
    have hz1' := hB1.size
    rw [World.size_alloc] at hz1
    by_cases hlt : k < ps.length
    · have hlt' : (k : Int) < ps.length := by omega
      obtain ⟨p, hp⟩ : ∃ e, ps[k]? = some e := ⟨ps[k], List.getElem?_eq_getElem hlt⟩
      have hrw := Hrow.out.below hB1
      have hcap := hrw.cap
      obtain ⟨g, o, rfl, hg, hx⟩ := hrw.at' (by omega)
      obtain ⟨x0, x1, x2, x3, x4, x5⟩ := hx k p hp
      obtain ⟨A1, n1, c1, hv1, hc1, hr1⟩ := hrw.bytes p (List.mem_of_getElem? hp)
      rw [hv1] at x3
      have hpT : (ps.map (·.1))[k]? = some p.1 := by rw [List.getElem?_map, hp]; rfl
      have hkn := HB.out.known p.1 (List.mem_of_getElem? hpT)
      have htk := shown_take hpT
      have hsm := HB.out.small
      have hsl := shown_le (T := ps.map (·.1)) (k + 1)
      have hend := HB.out.ends k p.1 hpT
      rw [List.length_map] at hend
      have HS := Lib.hid (fun W (hb : Below wr.heap.size wr W) => show_any p.1 W A1 n1 c1 (hr1.below hb) hc1 (by have := hkn.bytes; omega) (by have := hkn.num; omega) (tens_below (tens_below Htn.out hB1) hb))
      obtain ⟨kd, hkd⟩ : ∃ kd, p.1.kind = kd := ⟨_, rfl⟩
      obtain ⟨nm, hnm⟩ : ∃ kd, p.1.num = kd := ⟨_, rfl⟩
      obtain ⟨tx, htx⟩ : ∃ tx : ByteArray, ⟨p.1.text.toArray⟩ = tx := ⟨_, rfl⟩
      obtain ⟨l1, hl1⟩ : ∃ kd, p.1.line = kd := ⟨_, rfl⟩
      obtain ⟨d1, hd1⟩ : ∃ kd, p.1.col = kd := ⟨_, rfl⟩
      obtain ⟨sh, hsh⟩ : ∃ sh, showT p.1 = sh := ⟨_, rfl⟩
      rw [hkd, hnm, htx, hl1, hd1, hsh] at HS
      rw [hkd] at x0 hend
      rw [hnm] at x2
      rw [htx] at x1
      rw [hl1] at x4
      rw [hd1] at x5
      rw [hsh] at htk
      obtain ⟨t1, ht1⟩ : ∃ t1, shown ((ps.map (·.1)).take k) = t1 := ⟨_, rfl⟩
      rw [ht1] at htk ⊢
      rw [htk] at hsl
      simp only [List.length_append, List.length_cons, List.length_nil] at hsl
      have Hx := Lib.hid hx
      have Htk := Lib.hid htk
      have Hsl : t1.length + (sh.length + 1) ≤ 13601 := by omega
      clear hx hrw hpT hkn htk hsm hsl hnm htx hsh ht1
      go_wp2_with fail
      refine (HS.out _ ((Below.refl _ _).alloc (Nat.le_refl _) _)).mono ?_
      rintro e w3 ⟨rfl, hb3⟩
      have hz3 := hb3.size
      rw [World.size_alloc] at hz3
      have hb3' : Below wr.heap.size wr w3 := ((Below.refl _ _).alloc (Nat.le_refl _) _).trans (hb3.mono (by simp))
      have v0 : w3.cell? ⟨wr.heap.size, 0, none⟩ = some (.int .i64 kd) := (hb3.cell (p := ⟨wr.heap.size, 0, none⟩) (by simp)).trans (by simp)
      have v4 : w3.cell? ⟨wr.heap.size, 4, none⟩ = some (.int .i64 l1) := (hb3.cell (p := ⟨wr.heap.size, 4, none⟩) (by simp)).trans (by simp)
      have v5 : w3.cell? ⟨wr.heap.size, 5, none⟩ = some (.int .i64 d1) := (hb3.cell (p := ⟨wr.heap.size, 5, none⟩) (by simp)).trans (by simp)
      have hB3 := hB1.trans (hb3'.mono (by rw [World.size_alloc]; omega))
      clear hb3 x0 x1 x2 x3 x4 x5
      go_wp2_with fail
      have hfin : ∀ nq, (∃ k' : Nat, k' ≤ ps.length ∧ (Value.int IntKind.i64 ((k : Int) + 1)) = .int .i64 (k' : Int) ∧ Value.string (⟨t1.toArray⟩ ++ (⟨sh.toArray⟩ ++ ⟨#[32]⟩)) = .string ⟨(shown ((ps.map (·.1)).take k')).toArray⟩ ∧ Below (w1.alloc (.cells #[.int .i64 0, .int .i64 0, .int .i64 0] 31)).heap.size (w1.alloc (.cells #[.int .i64 0, .int .i64 0, .int .i64 0] 31)) (w3.drewN nq)) := fun nq => ⟨k + 1, by omega, by simp, by rw [Htk.out]; congr 1, below_drawn hB3 nq⟩
      have hfew : ps.length ≤ 801 := by have := HB.out.few; simpa using this
      cases k with
      | zero =>
        by_cases hlast : 0 + 1 = ps.length
        · have hk0 : kd = 0 := hend.2 hlast
          have hi1 : (0 == (ps.length : Int) - 1) = true := by simp; omega
          subst hk0
          go_quiet (fail)
          go_wp2
          refine ⟨hfin _, ?_⟩
          simp [intOf]; omega
        · have hk0 : (kd == 0) = false := by simp; exact fun e => hlast (hend.1 e)
          have hi1 : (0 == (ps.length : Int) - 1) = false := by simp; omega
          go_quiet (fail)
          go_wp2
          refine ⟨hfin _, ?_⟩
          simp [intOf]; omega
      | succ m =>
        obtain ⟨q, hq⟩ : ∃ e, ps[m]? = some e := ⟨ps[m]'(by omega), List.getElem?_eq_getElem _⟩
        obtain ⟨-, -, -, -, z4, z5⟩ := Hx.out m q hq
        have hr := HB.out.rise m q.1 p.1 (by rw [List.getElem?_map, hq]; rfl) (by rw [List.getElem?_map, hp]; rfl)
        rw [hl1, hd1] at hr
        obtain ⟨l0, hl0⟩ : ∃ kd, q.1.line = kd := ⟨_, rfl⟩
        obtain ⟨d0, hd0⟩ : ∃ kd, q.1.col = kd := ⟨_, rfl⟩
        rw [hl0] at z4 hr
        rw [hd0] at z5 hr
        have w4 := cell_kept hb3' hg z4
        have w5 := cell_kept hb3' hg z5
        have hg3 : g < w3.heap.size := by omega
        have hm1 : (m : Int) + 1 > 0 := by omega
        clear z4 z5 hl0 hd0 hq
        by_cases hlast : m + 1 + 1 = ps.length
        · have hk0 : kd = 0 := hend.2 hlast
          have hi1 : ((m : Int) + 1 == (ps.length : Int) - 1) = true := by simp; omega
          subst hk0
          rcases hr with hr | ⟨rfl, hr⟩
          · have hr1 : ¬ l1 < l0 := by omega
            have hr2 : (l1 == l0) = false := by simp; omega
            go_quiet (fail)
            go_wp2
            refine ⟨hfin _, ?_⟩
            simp [intOf]; omega
          · have hr1 : ¬ d1 < d0 := by omega
            go_quiet (fail)
            go_wp2
            refine ⟨hfin _, ?_⟩
            simp [intOf]; omega
        · have hk0 : (kd == 0) = false := by simp; exact fun e => hlast (hend.1 e)
          have hi1 : ((m : Int) + 1 == (ps.length : Int) - 1) = false := by simp; omega
          rcases hr with hr | ⟨rfl, hr⟩
          · have hr1 : ¬ l1 < l0 := by omega
            have hr2 : (l1 == l0) = false := by simp; omega
            go_quiet (fail)
            go_wp2
            refine ⟨hfin _, ?_⟩
            simp [intOf]; omega
          · have hr1 : ¬ d1 < d0 := by omega
            go_quiet (fail)
            go_wp2
            refine ⟨hfin _, ?_⟩
            simp [intOf]; omega
    · obtain rfl : k = ps.length := by omega
      have hge : (ps.length : Int) ≤ ps.length := by omega
      obtain ⟨T', hT', hTb⟩ := HB.out.again
      have hsz : (⟨(shown (ps.map (·.1))).toArray⟩ : ByteArray).size ≤ 9223372036854775807 := by
        have := HB.out.small
        show (shown (ps.map (·.1))).toArray.size ≤ 9223372036854775807
        simp; omega
      have HL2 := Lib.hid (fun w => lex_any ⟨(shown (ps.map (·.1))).toArray⟩ hsz w)
      have HT' := Lib.hid hT'
      have HTb := Lib.hid hTb
      rw [List.take_of_length_le (by simp)]
      obtain ⟨tb, htb⟩ : ∃ tb : ByteArray, ⟨(shown (ps.map (·.1))).toArray⟩ = tb := ⟨_, rfl⟩
      rw [htb] at HL2 HT' ⊢
      have hrw := Hrow.out.below hB1
      have Hrw := Lib.hid hrw
      have hfew : ps.length ≤ 801 := by have := HB.out.few; simpa using this
      have hpos : 0 < ps.length := by have := HB.out.some'; simpa using this
      have hpos' : 0 < (ps.length : Int) := by omega
      clear hsz hT' hTb htb hrw
      go_wp2_with fail
      refine (HL2.out _).mono ?_
      rintro e w2 (⟨er, L, C, h1, her, rfl, hb⟩ | ⟨A2, n2, c2, qs, h1, rfl, rfl, ht, hb⟩)
      · rw [HT'.out] at h1; cases h1
      rw [HT'.out] at h1
      obtain rfl : T' = qs.map (·.1) := Sum.inr.inj h1
      have hlen : qs.length = ps.length := by have := congrArg List.length HTb.out; simpa using this
      have hsame : SameToks false ps qs := by
        intro i p q hp hq
        have e := congrArg (fun l => l[i]?) HTb.out
        simp only [List.getElem?_map, hp, hq, Option.map_some, Option.some.injEq] at e
        exact ⟨(congrArg (·.kind) e).symm, (congrArg (·.text) e).symm, (congrArg (·.num) e).symm, (congrArg (·.bytes) e).symm, fun h => by cases h⟩
      have hB2 := (hB1.trans (hb.mono hz1')).alloc (o := .cells #[.int .i64 0, .int .i64 0, .int .i64 0] 31) (by have := hb.size; omega)
      have hr1 := (Hrw.out.below hb).below ((Below.refl _ w2).alloc (Nat.le_refl _) (.cells #[.int .i64 0, .int .i64 0, .int .i64 0] 31))
      have hr2 := (TRow.of_toks ht rfl).below ((Below.refl _ w2).alloc (Nat.le_refl _) (.cells #[.int .i64 0, .int .i64 0, .int .i64 0] 31))
      rw [hlen] at hr2 ⊢
      have HS := Lib.hid (same_yes false A A2 ps.length c c2 ps qs (by omega) hsame _ hr1 hr2)
      clear h1 ht hb hsame hr1 hr2
      go_wp2_with fail
      refine HS.out.mono ?_
      rintro e w3 ⟨rfl, hb3⟩
      have hB3 := hB2.trans (hb3.mono hB2.size)
      clear hb3
      go_wp2_with (go_at_call 7; ((with_reducible refine (awake_any _).mono ?_); rintro e w4 ⟨rfl, hb4⟩))
      go_ret
      exact ⟨rfl, hB.trans ((hB3.trans (hb4.mono hB3.size)).mono hB.size)⟩
/-- For any text. -/
theorem back_walk (s : ByteArray) (hs : s.size ≤ 9223372036854775807) (w : World) (htn : Tens w) : Calls Tryd.prog 4 #[.string s] w fun e w' => e = .returned (.bool true) ∧ Below w.heap.size w w' := by
  by_cases hg : 800 < s.size
  · go_enter Tryd.func4, Tryd.ntmps4
    go_wp2_with (go_at_call 7; ((with_reducible refine (awake_any _).mono ?_); rintro e w9 ⟨rfl, hb9⟩))
    go_ret
    exact ⟨rfl, hb9⟩
  · cases hl : lexOf s with
    | inl e => exact back_fault s (by omega) w hl
    | inr T => exact back_ok s (by omega) w htn hl
end Go.Proofs.YtdmgpeflanjngaaDoor
