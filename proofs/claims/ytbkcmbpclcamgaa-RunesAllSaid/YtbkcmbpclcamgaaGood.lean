/-
  What RunesAll does with a sound text: its runes are the text, places rise, and each rune's place is its own. No condition but the sizes named.
-/
import Derived.Test.YtbkcmbpclcamgaaAll
import Derived.Lib.QuietBelow
import Derived.BigQuiet
namespace Go.Proofs.Ytbkcmbpclcamgaa
open Go.ChangeShapes Go.WideShapes Go.ChangeAt Go.RowKit Go.BigFrame
set_option linter.unusedVariables false

def All1 (s : ByteArray) (w w1 : World) (t j : Value) (wr : World) : Prop :=
  ∃ k : Nat, k ≤ (runesOf s).length ∧ j = .int .i64 (k : Int) ∧ t = .string ⟨(textOf (((runesOf s).take k).map (·.1))).toArray⟩ ∧ Below w1.heap.size w1 wr

theorem place_at (s : ByteArray) (hz : s.size ≤ 16384) (e : Ent) (he : e ∈ runesOf s) (w : World) (d : Nat) (os : Array Obj) : Calls Try.prog 11 #[.string s, .int .i64 (e.2.1 : Int)] (Go.Sort.grow (redrawn w d) os) fun x w'' => x = .returned (.agg #[.int .i64 e.2.2.1, .int .i64 e.2.2.2]) ∧ ∃ p : Regrown, w'' = Go.Sort.grow (redrawn w p.d) p.os :=
  Calls.regrown_of ((place_any s (e.2.1 : Int) hz _).mono fun x w'' ⟨hx, hb⟩ => ⟨by rw [hx, show placeOf s (e.2.1 : Int) = (e.2.2.1, e.2.2.2) from runesF_place s _ _ _ _ e he], hb⟩)
theorem ahead_at (a b c d : Int) (h : a < c ∨ (a = c ∧ b < d)) (w : World) (n : Nat) (os : Array Obj) : Calls Try.prog 24 #[.agg #[.int .i64 a, .int .i64 b], .agg #[.int .i64 c, .int .i64 d]] (Go.Sort.grow (redrawn w n) os) fun x w'' => x = .returned (.bool true) ∧ ∃ p : Regrown, w'' = Go.Sort.grow (redrawn w p.d) p.os :=
  Calls.regrown_of (ahead_yes a b c d h _)
/-- Places rise from rune to rune. -/
theorem rises (s : ByteArray) (k : Nat) (d e : Ent) (hd : (runesOf s)[k]? = some d) (he : (runesOf s)[k + 1]? = some e) : d.2.2.1 < e.2.2.1 ∨ (d.2.2.1 = e.2.2.1 ∧ d.2.2.2 < e.2.2.2) := by
  have h := runesF_next s _ _ _ _ k d e hd he
  rw [h.1, h.2]
  unfold nlL nlC
  split <;> omega

theorem all1_next (s : ByteArray) (w W1 w4 : World) (k : Nat) (j : Int) (hj : j = (k : Int) + 1) (T : List UInt8) (e : Ent) (hT : textOf (((runesOf s).take k).map (·.1)) = T) (he : (runesOf s)[k]? = some e) (hB : Below W1.heap.size W1 w4) :
    All1 s w W1 (.string (⟨T.toArray⟩ ++ ⟨(enc e.1).toArray⟩)) (.int .i64 j) w4 := by
  have hk := (List.getElem?_eq_some_iff.1 he).1
  refine ⟨k + 1, by omega, by rw [hj]; go_num, ?_, hB⟩
  rw [take_snoc _ k e he, List.map_append, List.map_cons, List.map_nil, textOf_snoc, hT, ByteArray.mk_append_mk]
theorem whole_text (s : ByteArray) (hb : badOf s = none) : (⟨(textOf ((runesOf s).map (·.1))).toArray⟩ : ByteArray) = s := by
  have h := runesF_text s s.size 0 1 1 (by omega) hb
  rw [List.drop_zero] at h
  have e : textOf ((runesOf s).map (·.1)) = s.data.toList := by
    rw [← h, textOf, List.flatMap_map]; rfl
  rw [e]

set_option maxRecDepth 100000 in
set_option maxHeartbeats 1000000 in
theorem all_good (s : ByteArray) (A : Option Addr) (n cap : Nat) (zs : List Int) (w : World) (hs : s.size ≤ 1000) (hn : n ≤ 200) (hl : LRow w A n zs) (hbad : badOf s = none) : Calls Try.prog 4 #[.string s, .slice A n cap] w fun e w' => e = .returned (.bool true) ∧ Below w.heap.size w w' := by
  have Hbad := Lib.hid hbad
  clear hbad
  go_enter Try.func4, Try.ntmps4
  go_wp2_with fail
  refine (split_any s (by omega) _).mono ?_
  rintro e w1 (⟨L', C', hb', _⟩ | ⟨_, A1, n1, c1, rfl, rfl, ho, hb1⟩)
  · rw [Hbad.out] at hb'; cases hb'
  · have hr1 := RRow.of_owns rfl ho
    have hrl : (runesOf s).length ≤ 1000 := Nat.le_trans (runesF_len s s.size 0 1 1) hs
    clear ho
    go_wp2_with fail
    obtain ⟨W1, hW1⟩ : ∃ W1, w1.alloc (.cells #[.int .i64 0, .int .i64 0, .int .i64 0] 28) = W1 := ⟨_, rfl⟩
    have hr2 := hr1.below ((Below.refl _ _).alloc (Nat.le_refl _) (.cells #[.int .i64 0, .int .i64 0, .int .i64 0] 28))
    have hB1 := hb1.alloc hb1.size (.cells #[.int .i64 0, .int .i64 0, .int .i64 0] 28)
    rw [hW1] at hr2 hB1 ⊢
    clear hW1 hr1 hb1
    go_loopw [7, 36] (fun t j wr => All1 s w W1 t j wr) (fun _ j _ => (runesOf s).length - (intOf j).toNat)
    case atStart => exact ⟨0, by omega, rfl, rfl, Below.refl _ _⟩
    case round =>
      obtain ⟨k, hk, rfl, rfl, hB⟩ := hrel
      by_cases hlt : k < (runesOf s).length
      · have hlt' : (k : Int) < (runesOf s).length := by omega
        have hc1 := hr2.2.1
        obtain ⟨g, rfl, hg, hx⟩ := hr2.2.2 (by omega)
        obtain ⟨e, he⟩ : ∃ e, (runesOf s)[k]? = some e := ⟨(runesOf s)[k], List.getElem?_eq_getElem hlt⟩
        have hem : e ∈ runesOf s := List.mem_of_getElem? he
        obtain ⟨x0, x1, x2, x3⟩ := hx k e he
        rw [← hB.cell (p := ⟨g, _, none⟩) hg] at x0 x1 x2 x3
        have hv : validB e.1 = true := (runesF_bd s _ _ _ _ e hem (by omega) (by omega) (by omega) (by omega)).1
        have Hv := Lib.hid hv
        have Hx := Lib.hid hx
        have He := Lib.hid he
        have Hem := Lib.hid hem
        clear hx he hem hv
        have hTl : (textOf (((runesOf s).take k).map (·.1))).length ≤ 4000 := by
          have h1 := textOf_len (((runesOf s).take k).map (·.1))
          have h2 : (((runesOf s).take k).map (·.1)).length ≤ k := by rw [List.length_map]; exact List.length_take_le _ _
          omega
        obtain ⟨T, hT⟩ : ∃ T, textOf (((runesOf s).take k).map (·.1)) = T := ⟨_, rfl⟩
        rw [hT] at hTl ⊢
        have HT := Lib.hid hT
        clear hT
        have hle := enc_le e.1
        go_wp2_with fail
        refine (put_pos e.1 Hv.out _).mono ?_
        rintro x w3 ⟨A3, n3, c3, rfl, hrow, h30, h34, hb3⟩
        have hcv := hrow.conv c3
        have hz3 := hb3.size
        rw [World.size_alloc] at hz3
        have y0 := hb3.cell (p := ⟨wr.heap.size, 1, none⟩) (by simp)
        have y1 := hb3.cell (p := ⟨wr.heap.size, 2, none⟩) (by simp)
        have y2 := hb3.cell (p := ⟨wr.heap.size, 3, none⟩) (by simp)
        rw [cell_of_row _ _ _ _ 40 (0, 0) (heap_alloc_new wr _)] at y0 y1 y2
        have y0' : w3.cell? ⟨wr.heap.size, 1, none⟩ = some (.int .i64 (e.2.1 : Int)) := y0
        have y1' : w3.cell? ⟨wr.heap.size, 2, none⟩ = some (.int .i64 e.2.2.1) := y1
        have y2' : w3.cell? ⟨wr.heap.size, 3, none⟩ = some (.int .i64 e.2.2.2) := y2
        clear y0 y1 y2 x0 x1 x2 x3
        have q1 : ∀ d os, (Go.Sort.grow (redrawn w3 d) os).cell? ⟨wr.heap.size, 1, none⟩ = some (.int .i64 (e.2.1 : Int)) := cell_regrown y0'
        have q2 : ∀ d os, (Go.Sort.grow (redrawn w3 d) os).cell? ⟨wr.heap.size, 2, none⟩ = some (.int .i64 e.2.2.1) := cell_regrown y1'
        have q3 : ∀ d os, (Go.Sort.grow (redrawn w3 d) os).cell? ⟨wr.heap.size, 3, none⟩ = some (.int .i64 e.2.2.2) := cell_regrown y2'
        have cP := Lib.hid (place_at s (by omega) e Hem.out w3)
        have hB3 : Below W1.heap.size W1 w3 := (hB.alloc hB.size _).trans (hb3.mono (by have := hB.size; simp; omega))
        by_cases hk0 : k = 0
        · subst hk0
          go_wp2
          refine wp_region_quiet_below (by kernel_rfl) (by kernel_rfl) ?_
          repeat (first | go_big_quiet_step (exact cP.out _ _))
          refine wpQuiet_nil ?_
          intro w4 hw4
          have hb4 : Below w3.heap.size w3 w4 := by obtain ⟨p, rfl⟩ := hw4; exact below_regrown _ _ _
          have hB4 := hB3.trans (hb4.mono hB3.size)
          clear hw4 q1 q2 q3
          go_wp2
          refine ⟨all1_next s w W1 w4 0 _ (by omega) T e HT.out He.out hB4, ?_⟩
          simp [intOf]; omega
        · obtain ⟨m, rfl⟩ : ∃ m, k = m + 1 := ⟨k - 1, by omega⟩
          obtain ⟨d, hd⟩ : ∃ d, (runesOf s)[m]? = some d := ⟨(runesOf s)[m]'(by omega), List.getElem?_eq_getElem _⟩
          have hrise := rises s m d e hd He.out
          obtain ⟨_, _, v2, v3⟩ := Hx.out m d hd
          rw [← hB3.cell (p := ⟨g, _, none⟩) hg] at v2 v3
          have q4 : ∀ d' os, (Go.Sort.grow (redrawn w3 d') os).cell? ⟨g, m * 4 + 2, none⟩ = some (.int .i64 d.2.2.1) := cell_regrown v2
          have q5 : ∀ d' os, (Go.Sort.grow (redrawn w3 d') os).cell? ⟨g, m * 4 + 3, none⟩ = some (.int .i64 d.2.2.2) := cell_regrown v3
          have cA := Lib.hid (ahead_at d.2.2.1 d.2.2.2 e.2.2.1 e.2.2.2 hrise w3)
          clear hrise hd v2 v3 hk0
          by_cases h40 : m + 1 < 40
          · have h40' : (m : Int) + 1 < 40 := by omega
            go_wp2
            refine wp_region_quiet_below (by kernel_rfl) (by kernel_rfl) ?_
            repeat (first | go_big_quiet_step (first | exact cP.out _ _ | exact cA.out _ _))
            refine wpQuiet_nil ?_
            intro w4 hw4
            have hb4 : Below w3.heap.size w3 w4 := by obtain ⟨p, rfl⟩ := hw4; exact below_regrown _ _ _
            have hB4 := hB3.trans (hb4.mono hB3.size)
            clear hw4 q1 q2 q3 q4 q5
            go_wp2
            refine ⟨all1_next s w W1 w4 (m + 1) _ (by omega) T e HT.out He.out hB4, ?_⟩
            simp [intOf]; omega
          · have h40' : decide ((m : Int) + 1 < 40) = false := by rw [decide_eq_false_iff_not]; omega
            clear h40
            go_wp2
            refine wp_region_quiet_below (by kernel_rfl) (by kernel_rfl) ?_
            repeat (first | go_big_quiet_step (first | exact cP.out _ _ | exact cA.out _ _))
            refine wpQuiet_nil ?_
            intro w4 hw4
            have hb4 : Below w3.heap.size w3 w4 := by obtain ⟨p, rfl⟩ := hw4; exact below_regrown _ _ _
            have hB4 := hB3.trans (hb4.mono hB3.size)
            clear hw4 q1 q2 q3 q4 q5
            go_wp2
            refine ⟨all1_next s w W1 w4 (m + 1) _ (by omega) T e HT.out He.out hB4, ?_⟩
            simp [intOf]; omega
      · obtain rfl : k = (runesOf s).length := by omega
        rw [List.take_of_length_le (Nat.le_refl _), whole_text s Hbad.out]
        have hge : ((runesOf s).length : Int) ≤ (runesOf s).length := by omega
        have hBo := hB1.trans (hB.mono hB1.size)
        obtain ⟨wo, rfl⟩ : ∃ wo : World, wo = wr := ⟨_, rfl⟩
        clear hB hr2
        obtain rfl := hl.1
        go_wp2_with fail
        go_loopw [10, 11, 80] (fun t m j wr => All2 w zs t m j wr) (fun _ _ j _ => zs.length - (intOf j).toNat)
        case atStart => exact ⟨0, by omega, rfl, rfl, rfl, hBo⟩
        case round =>
          obtain ⟨k, hk, rfl, rfl, rfl, hB⟩ := hrel
          by_cases hlt : k < zs.length
          · have hlt' : (k : Int) < zs.length := by omega
            obtain ⟨b, off, rfl, hbz, hx⟩ := hl.2 (by omega)
            obtain ⟨c, hc⟩ : ∃ c, zs[k]? = some c := ⟨zs[k], List.getElem?_eq_getElem hlt⟩
            have hcell := (hB.cell (p := ⟨b, off + k, none⟩) hbz).trans (hx k c hc)
            have hl1 := textOf_len (zs.take k)
            have hl2 : (zs.take k).length ≤ k := List.length_take_le _ _
            have hcn := countOf_le (zs.take k)
            have hts := take_snoc zs k c hc
            have Hts := Lib.hid hts
            clear hx hc hts
            have hle := enc_le c
            cases hv : validB c
            · have Hv := Lib.hid hv
              clear hv
              go_wp2_with fail
              refine (put_no c Hv.out _).mono ?_
              rintro e w3 ⟨rfl, rfl⟩
              have hcv := Lib.run_convert_nil_bytes (P := Try.prog) wr 35 9 5 0 Try.underlying35 Try.underlying5 Try.underlying9
              go_wp2
              refine ⟨⟨k + 1, by omega, by go_num, ?_, ?_, hB⟩, ?_⟩
              · rw [Hts.out, textOf_snoc, enc_no Hv.out]; exact congrArg Value.string (ByteArray.mk_append_mk _ [])
              · rw [Hts.out, countOf_no _ _ Hv.out]
              · simp [intOf]; omega
            · have Hv := Lib.hid hv
              clear hv
              go_wp2_with fail
              refine (put_pos c Hv.out _).mono ?_
              rintro e w3 ⟨A3, n3, c3, rfl, hrow, h30, h34, hb3⟩
              have hcv := hrow.conv c3
              go_wp2
              refine ⟨⟨k + 1, by omega, by go_num, ?_, ?_, hB.trans (hb3.mono hB.size)⟩, ?_⟩
              · rw [Hts.out, textOf_snoc, ByteArray.mk_append_mk]
              · rw [Hts.out, countOf_yes _ _ Hv.out]; go_num
              · simp [intOf]; omega
          · obtain rfl : k = zs.length := by omega
            rw [List.take_of_length_le (Nat.le_refl _)]
            have hge : (zs.length : Int) ≤ zs.length := by omega
            go_wp2_with fail
            refine (split_text zs hn _).mono ?_
            rintro e w4 ⟨A4, c4, rfl, hb4⟩
            have hB4 := hB.trans (hb4.mono hB.size)
            go_wp2_with (go_at_call 7; ((with_reducible refine (awake_any _).mono ?_); rintro e w5 ⟨rfl, hb5⟩))
            go_ret
            exact ⟨rfl, (hB4.alloc hB4.size _).trans (hb5.mono (by have := hB4.size; simp; omega))⟩
end Go.Proofs.Ytbkcmbpclcamgaa
