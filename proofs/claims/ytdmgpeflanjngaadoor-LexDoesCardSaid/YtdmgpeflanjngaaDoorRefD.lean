/-
  What the document's own quoted tells of a row of runes from a sign of a text on. No condition but that the row lies in memory.
-/
import Derived.Test.YtdmgpeflanjngaaDoorRefQ
import Derived.Test.YtdmgpeflanjngaaDoorLine
import Derived.Deep.RegionWith
import Derived.Deep.RegionHeld3
import Derived.Deep.DrawnRows
import Derived.Deep.AppendLies
namespace Go.Proofs.YtdmgpeflanjngaaDoor
open Go.ChangeShapes Go.WideShapes Go.ChangeAt Go.RowKit
set_option linter.unusedVariables false
attribute [local go_sem ↓] Go.wp_at_zero Go.wp_at_succ

theorem wrap_u8 {x : Int} (h0 : 0 ≤ x) (h1 : x ≤ 255) : IntKind.u8.wrap x = x := by
  rw [IntKind.wrap_u8]; omega
theorem xb_nat {x : Int} (h : 0 ≤ x ∧ x ≤ 255) : (x.toNat.toUInt8.toNat : Int) = x := by simp; omega
set_option maxRecDepth 100000 in
set_option maxHeartbeats 4000000 in
theorem rquoted_any (A : Option Addr) (m : Nat) (rs : List Ent) (i : Nat) (w : World) (h : RRow w A rs.length m rs) (hv : ∀ e ∈ rs, validB e.1 = true) (hi : i < rs.length) (hn : rs.length ≤ 16384) : Calls Tryd.prog 49 #[.slice A rs.length m, .int .i64 (i : Int)] w (QuotTells i (textF [] (i + 1) ((runesI rs).drop (i + 1))) w) := by
  obtain ⟨g, rfl, hg, hx⟩ := h.at' (by omega)
  obtain ⟨i0, hinf, hz0, hz1, hz2⟩ := info_parts Tryd.info5
  have hcap := h.cap
  have Hx := Lib.hid hx
  have Hv := Lib.hid hv
  obtain ⟨T, hT⟩ : ∃ T, textF [] (i + 1) ((runesI rs).drop (i + 1)) = T := ⟨_, rfl⟩
  rw [hT]
  have HT := Lib.hid hT
  clear hx h hv hT
  go_enter Tryd.func49, Tryd.ntmps49
  go_wp2_with fail
  go_loopw [7, 8] (fun v j wr => ∃ (k : Nat) (acc : List UInt8), j = .int .i64 (k : Int) ∧ QuotI rs i k acc ∧ wr.ownsRow w.heap.size 5 1 v acc.length (Lib.byteCells acc) ∧ Below w.heap.size w wr) (fun _ j _ => rs.length - (intOf j).toNat)
  case atStart => exact ⟨i + 1, [], by go_num, ⟨Nat.le_refl _, by omega, by simp, rfl⟩, World.ownsRow_nil _ _ _ _, Below.refl _ _⟩
  case round =>
    obtain ⟨k, acc, rfl, hI, hown, hB⟩ := hrel
    have hz := hB.size
    have hge := hI.ge
    have hle := hI.le
    have hfew := hI.few
    have HI := Lib.hid hI
    clear hI
    by_cases hend : rs.length ≤ k
    · have hend' : (rs.length : Int) ≤ k := by omega
      have ht := text_at acc (.inl hend)
      rw [HI.out.rest, HT.out, if_neg (by rw [runeAt_out hend]; decide)] at ht
      go_wp2_with fail
      exact bodyPost_ret (v := .tuple #[.slice none 0 0, .int .i64 0, .int .i64 4]) (by simp [results, Tryd.results49, go_sem]) rfl ⟨hB, .inl ⟨ht, rfl⟩⟩
    have hlt : k < rs.length := by omega
    have hlt' : (k : Int) < rs.length := by omega
    obtain ⟨e, he⟩ : ∃ e, rs[k]? = some e := ⟨rs[k], List.getElem?_eq_getElem hlt⟩
    obtain ⟨x0, -⟩ := Hx.out k e he
    have y0 := cell_kept hB hg x0
    have hval := Hv.out e (List.mem_of_getElem? he)
    rw [← rune_of he] at y0 hval
    obtain ⟨c, hc⟩ : ∃ c, runeAt rs k = c := ⟨_, rfl⟩
    rw [hc] at y0 hval
    clear x0 he hend
    by_cases h34 : c = 34
    · subst h34
      have ht := text_at acc (.inr (.inl hc))
      rw [HI.out.rest, HT.out, if_pos hc] at ht
      obtain ⟨A3, c3, rfl⟩ := owns_form hown
      by_cases h64 : 64 < acc.length
      · have h64' : (64 : Int) < acc.length := by omega
        go_wp2_with fail
        exact bodyPost_ret (v := .tuple #[.slice none 0 0, .int .i64 0, .int .i64 5]) (by simp [results, Tryd.results49, go_sem]) rfl ⟨hB, .inr (.inl ⟨acc, k + 1, ht, h64, rfl⟩)⟩
      · have h64' : (acc.length : Int) ≤ 64 := by omega
        go_wp2_with fail
        exact bodyPost_ret (v := .tuple #[.slice A3 acc.length c3, .int .i64 ((k : Int) + 1 - i), .int .i64 0]) (by simp [results, Tryd.results49, go_sem]) rfl ⟨hB, .inr (.inr ⟨acc, k + 1, A3, acc.length, c3, ht, by omega, by rfl, hown⟩)⟩
    by_cases h10 : c = 10
    · subst h10
      have ht := text_at acc (.inr (.inr hc))
      rw [HI.out.rest, HT.out, if_neg (by rw [hc]; decide)] at ht
      go_wp2_with fail
      exact bodyPost_ret (v := .tuple #[.slice none 0 0, .int .i64 0, .int .i64 4]) (by simp [results, Tryd.results49, go_sem]) rfl ⟨hB, .inl ⟨ht, rfl⟩⟩
    have q34 : (c != 34) = true := by simpa using h34
    have q10 : (c != 10) = true := by simpa using h10
    have hmore : moreB rs textB k = true := by simp [moreB, hlt, hc, textB, h34, h10]
    by_cases h92 : c = 92
    · subst h92
      have q92 : (92 != 92) = false := by decide
      clear q34 q10
      by_cases hk1 : rs.length ≤ k + 1
      · have hk1' : (rs.length : Int) ≤ (k : Int) + 1 := by omega
        have ht := HI.out.bad hmore hc (by rw [drop_end hk1]; rfl)
        rw [HT.out] at ht
        go_wp2_with fail
        exact bodyPost_ret (v := .tuple #[.slice none 0 0, .int .i64 0, .int .i64 4]) (by simp [results, Tryd.results49, go_sem]) rfl ⟨hB, .inl ⟨ht, rfl⟩⟩
      have hk1' : (k : Int) + 1 < rs.length := by omega
      obtain ⟨e, he⟩ : ∃ e, rs[k + 1]? = some e := ⟨rs[k + 1], List.getElem?_eq_getElem (by omega)⟩
      obtain ⟨x0, -⟩ := Hx.out (k + 1) e he
      have y1 := cell_kept hB hg x0
      rw [← rune_of he] at y1
      obtain ⟨d, hd⟩ : ∃ d, runeAt rs (k + 1) = d := ⟨_, rfl⟩
      have hdrop := drop_at (rs := rs) (k := k + 1) (by omega)
      rw [hd] at y1 hdrop
      clear x0 he hd
      by_cases hD110 : d = 110
      · subst hD110
        have Hon := Lib.hid (HI.out.esc hmore hc (b := 10) (m := 1) (by rw [hdrop]; rfl))
        clear hdrop hmore hc
        go_wp2_with (at_builtin; refine wpList_append_own _ rfl _ _ 22 rfl w.heap.size 5 i0 (.int .u8 0) 1 1 Tryd.underlying22 hinf hz0 hz1 hz2 rfl (by decide) _ _ _ rfl (hown.alloc _) ⟨wr.heap.size, 0, none⟩ 1 1 (Lib.byteCells [10]) rfl rfl (cells_new _ [10]) (bytes_one _) (by unfold maxLen; omega) (by omega) (by simp; omega) ?_; intro v' w2 hown' hgrow _)
        have hB2 : Below w.heap.size w w2 := (hB.alloc (by omega) _).grown hgrow (by simp; omega) (fun j e => (hown.lt j e).1)
        have HO := Lib.hid (owns_snoc hown' rfl rfl)
        clear hown' hgrow
        go_wp2
        go_roundw
        case rel => exact ⟨k + 1 + 1, acc ++ [10], by go_num, Hon.out, HO.out, hB2⟩
        case measure => simp [intOf]; omega
      by_cases hD116 : d = 116
      · subst hD116
        have Hon := Lib.hid (HI.out.esc hmore hc (b := 9) (m := 1) (by rw [hdrop]; rfl))
        clear hdrop hmore hc
        go_wp2_with (at_builtin; refine wpList_append_own _ rfl _ _ 22 rfl w.heap.size 5 i0 (.int .u8 0) 1 1 Tryd.underlying22 hinf hz0 hz1 hz2 rfl (by decide) _ _ _ rfl (hown.alloc _) ⟨wr.heap.size, 0, none⟩ 1 1 (Lib.byteCells [9]) rfl rfl (cells_new _ [9]) (bytes_one _) (by unfold maxLen; omega) (by omega) (by simp; omega) ?_; intro v' w2 hown' hgrow _)
        have hB2 : Below w.heap.size w w2 := (hB.alloc (by omega) _).grown hgrow (by simp; omega) (fun j e => (hown.lt j e).1)
        have HO := Lib.hid (owns_snoc hown' rfl rfl)
        clear hown' hgrow
        go_wp2
        go_roundw
        case rel => exact ⟨k + 1 + 1, acc ++ [9], by go_num, Hon.out, HO.out, hB2⟩
        case measure => simp [intOf]; omega
      by_cases hD34 : d = 34
      · subst hD34
        have Hon := Lib.hid (HI.out.esc hmore hc (b := 34) (m := 1) (by rw [hdrop]; rfl))
        clear hdrop hmore hc
        go_wp2_with (at_builtin; refine wpList_append_own _ rfl _ _ 22 rfl w.heap.size 5 i0 (.int .u8 0) 1 1 Tryd.underlying22 hinf hz0 hz1 hz2 rfl (by decide) _ _ _ rfl (hown.alloc _) ⟨wr.heap.size, 0, none⟩ 1 1 (Lib.byteCells [34]) rfl rfl (cells_new _ [34]) (bytes_one _) (by unfold maxLen; omega) (by omega) (by simp; omega) ?_; intro v' w2 hown' hgrow _)
        have hB2 : Below w.heap.size w w2 := (hB.alloc (by omega) _).grown hgrow (by simp; omega) (fun j e => (hown.lt j e).1)
        have HO := Lib.hid (owns_snoc hown' rfl rfl)
        clear hown' hgrow
        go_wp2
        go_roundw
        case rel => exact ⟨k + 1 + 1, acc ++ [34], by go_num, Hon.out, HO.out, hB2⟩
        case measure => simp [intOf]; omega
      by_cases hD92 : d = 92
      · subst hD92
        have Hon := Lib.hid (HI.out.esc hmore hc (b := 92) (m := 1) (by rw [hdrop]; rfl))
        clear hdrop hmore hc
        go_wp2_with (at_builtin; refine wpList_append_own _ rfl _ _ 22 rfl w.heap.size 5 i0 (.int .u8 0) 1 1 Tryd.underlying22 hinf hz0 hz1 hz2 rfl (by decide) _ _ _ rfl (hown.alloc _) ⟨wr.heap.size, 0, none⟩ 1 1 (Lib.byteCells [92]) rfl rfl (cells_new _ [92]) (bytes_one _) (by unfold maxLen; omega) (by omega) (by simp; omega) ?_; intro v' w2 hown' hgrow _)
        have hB2 : Below w.heap.size w w2 := (hB.alloc (by omega) _).grown hgrow (by simp; omega) (fun j e => (hown.lt j e).1)
        have HO := Lib.hid (owns_snoc hown' rfl rfl)
        clear hown' hgrow
        go_wp2
        go_roundw
        case rel => exact ⟨k + 1 + 1, acc ++ [92], by go_num, Hon.out, HO.out, hB2⟩
        case measure => simp [intOf]; omega
      have q1 : (d == 110) = false := by simpa using hD110
      have q2 : (d == 116) = false := by simpa using hD116
      have q3 : (d == 34) = false := by simpa using hD34
      have q4 : (d == 92) = false := by simpa using hD92
      by_cases hD120 : d = 120
      · subst hD120
        clear q1 q2 q3 q4 hD110 hD116 hD34 hD92
        by_cases hk3 : rs.length ≤ k + 3
        · have hk3' : (rs.length : Int) ≤ (k : Int) + 3 := by omega
          have ht := HI.out.bad hmore hc (by rw [hdrop]; exact escF_short (by simp [runesI]; omega))
          rw [HT.out] at ht
          clear hdrop hmore hc
          go_wp2_with fail
          exact bodyPost_ret (v := .tuple #[.slice none 0 0, .int .i64 0, .int .i64 4]) (by simp [results, Tryd.results49, go_sem]) rfl ⟨hB, .inl ⟨ht, rfl⟩⟩
        have hk3' : (k : Int) + 3 < rs.length := by omega
        obtain ⟨e2, he2⟩ : ∃ e, rs[k + 2]? = some e := ⟨rs[k + 2], List.getElem?_eq_getElem (by omega)⟩
        obtain ⟨e3, he3⟩ : ∃ e, rs[k + 3]? = some e := ⟨rs[k + 3], List.getElem?_eq_getElem (by omega)⟩
        obtain ⟨x2, -⟩ := Hx.out (k + 2) e2 he2
        obtain ⟨x3, -⟩ := Hx.out (k + 3) e3 he3
        have y2 := cell_kept hB hg x2
        have y3 := cell_kept hB hg x3
        have hv2 := Hv.out e2 (List.mem_of_getElem? he2)
        have hv3 := Hv.out e3 (List.mem_of_getElem? he3)
        rw [← rune_of he2] at y2 hv2
        rw [← rune_of he3] at y3 hv3
        obtain ⟨h, hh⟩ : ∃ d, runeAt rs (k + 2) = d := ⟨_, rfl⟩
        obtain ⟨j, hj⟩ : ∃ d, runeAt rs (k + 3) = d := ⟨_, rfl⟩
        have hdrop2 := drop_at (rs := rs) (k := k + 1 + 1) (by omega)
        have hdrop3 := drop_at (rs := rs) (k := k + 1 + 1 + 1) (by omega)
        rw [show k + 1 + 1 = k + 2 from rfl, hh] at hdrop2
        rw [show k + 1 + 1 + 1 = k + 3 from rfl, hj] at hdrop3
        rw [hh] at y2 hv2
        rw [hj] at y3 hv3
        rw [validB_iff] at hv2 hv3
        have hesc : escF ((runesI rs).drop (k + 1)) = if hexV h < 0 ∨ hexV j < 0 then none else some ((16 * hexV h + hexV j).toNat.toUInt8, 3) := by
          rw [hdrop, show k + 1 + 1 = k + 2 from rfl, hdrop2, hdrop3, escF_hex]
        have b1 := hexV_bd h
        have b2 := hexV_bd j
        obtain ⟨v1, hv1⟩ : ∃ v, hexV h = v := ⟨_, rfl⟩
        obtain ⟨v2, hv2'⟩ : ∃ v, hexV j = v := ⟨_, rfl⟩
        have HX1 := Lib.hid (fun w => hv1 ▸ rhex_any h (by omega) (by omega) w)
        have HX2 := Lib.hid (fun w => hv2' ▸ rhex_any j (by omega) (by omega) w)
        rw [hv1, hv2'] at hesc
        rw [hv1] at b1
        rw [hv2'] at b2
        clear x2 x3 he2 he3 hh hj hdrop hdrop2 hdrop3 hv1 hv2' hv2 hv3
        by_cases n1 : v1 < 0
        · have ht := HI.out.bad hmore hc (by rw [hesc, if_pos (.inl n1)])
          rw [HT.out] at ht
          clear hmore hc hesc
          go_wp2_with (go_at_call 67; ((with_reducible refine (HX1.out _).mono ?_); rintro e w' ⟨rfl, rfl⟩))
          exact bodyPost_ret (v := .tuple #[.slice none 0 0, .int .i64 0, .int .i64 4]) (by simp [results, Tryd.results49, go_sem]) rfl ⟨hB, .inl ⟨ht, rfl⟩⟩
        have p1 : 0 ≤ v1 := by omega
        by_cases n2 : v2 < 0
        · have ht := HI.out.bad hmore hc (by rw [hesc, if_pos (.inr n2)])
          rw [HT.out] at ht
          clear hmore hc hesc
          go_wp2_with (first | (go_at_call 67; ((with_reducible refine (HX1.out _).mono ?_); rintro e w' ⟨rfl, rfl⟩)) | (go_at_call 67; ((with_reducible refine (HX2.out _).mono ?_); rintro e w' ⟨rfl, rfl⟩)))
          exact bodyPost_ret (v := .tuple #[.slice none 0 0, .int .i64 0, .int .i64 4]) (by simp [results, Tryd.results49, go_sem]) rfl ⟨hB, .inl ⟨ht, rfl⟩⟩
        have p2 : 0 ≤ v2 := by omega
        have Hon := Lib.hid (HI.out.esc hmore hc (by rw [hesc, if_neg (by omega)]))
        clear hmore hc hesc
        go_wp2_with (first | (go_at_call 67; ((with_reducible refine (HX1.out _).mono ?_); rintro e w' ⟨rfl, rfl⟩)) | (go_at_call 67; ((with_reducible refine (HX2.out _).mono ?_); rintro e w' ⟨rfl, rfl⟩)))
        have f1 : (0 : Int) ≤ (k : Int) + 2 := by omega
        have f2 : (k : Int) + 2 < rs.length := by omega
        have f3 : (0 : Int) ≤ (k : Int) + 3 := by omega
        have r2 : -9223372036854775808 ≤ (k : Int) + 2 ∧ (k : Int) + 2 ≤ 9223372036854775807 := by omega
        have r3 : -9223372036854775808 ≤ (k : Int) + 3 ∧ (k : Int) + 3 ≤ 9223372036854775807 := by omega
        have r4 : -9223372036854775808 ≤ 16 * v1 ∧ 16 * v1 ≤ 9223372036854775807 := by omega
        have r5 : -9223372036854775808 ≤ 16 * v1 + v2 ∧ 16 * v1 + v2 ≤ 9223372036854775807 := by omega
        have r6 : 0 ≤ 16 * v1 + v2 ∧ 16 * v1 + v2 ≤ 255 := by omega
        have a2 := IntWalk.i64_in _ r2
        have a3 := IntWalk.i64_in _ r3
        have a4 := IntWalk.i64_in _ r4
        have a5 := IntWalk.i64_in _ r5
        have a6 := wrap_u8 r6.1 r6.2
        have h6 := r6
        clear r2 r3 r4 r5 r6
        have hL1 : acc.length + 1 ≤ maxLen := by unfold maxLen; clear a2 a3 a4 a5 a6; omega
        have hL2 : (acc.length + 1) * 1 ≤ 140737488355328 := by clear a2 a3 a4 a5 a6; omega
        have z2 : wr.cell? ⟨g, ((k : Int) + 2).toNat * 4, none⟩ = some (.int .i32 h) := by rw [show ((k : Int) + 2).toNat = k + 2 from rfl]; exact y2
        have z3 : wr.cell? ⟨g, ((k : Int) + 3).toNat * 4, none⟩ = some (.int .i32 j) := by rw [show ((k : Int) + 3).toNat = k + 3 from rfl]; exact y3
        have ag := fun e => Nat.not_le.2 hg (hown.lt g e).1
        have hgw : g < wr.heap.size := by clear a2 a3 a4 a5 a6; omega
        have hx1 : ((16 * v1 + v2).toNat.toUInt8.toNat : Int) = 16 * v1 + v2 := xb_nat h6
        obtain ⟨xb, hxb⟩ : ∃ xb, (16 * v1 + v2).toNat.toUInt8 = xb := ⟨_, rfl⟩
        rw [hxb] at hx1 Hon
        have Hx1 := Lib.hid hx1
        clear hx1 hxb h6
        clear HI hfew hge hle hval
        go_region_held3 (fun w' => w'.cell? ⟨g, ((k : Int) + 2).toNat * 4, none⟩ = some (.int .i32 h) ∧ w'.cell? ⟨g, ((k : Int) + 3).toNat * 4, none⟩ = some (.int .i32 j))
          (first
            | go_keep
            | (go_split_ands
               refine ⟨?_, ?_⟩
               · (rw [hgrow.cell_far _ (by simp; omega) (Ne.symm ag)]; assumption)
               · (rw [hgrow.cell_far _ (by simp; omega) (Ne.symm ag)]; assumption)))
          (first
            | (go_at_call_of 67 (Value.int IntKind.i32 h); refine (HX1.out _).mono ?_; rintro e w' ⟨rfl, rfl⟩)
            | (go_at_call_of 67 (Value.int IntKind.i32 j); refine (HX2.out _).mono ?_; rintro e w' ⟨rfl, rfl⟩)
            | (refine step_append_lies _ (by rfl) _ _ _ (by rfl) w.heap.size 5 i0 _ 1 1 Tryd.underlying22 hinf hz0 hz1 hz2 rfl (by omega) _ acc.length _ (by rfl) ((hown.alloc _).drew) ⟨wr.heap.size, 0, none⟩ 1 1 [.int .u8 (16 * v1 + v2)] (by rfl) (by rfl) (World.news_of_block (cs := #[.int .u8 (16 * v1 + v2)]) (t := 5) (fr := (0, 0)) (heap_alloc_new wr _)) (by simp [Value.oneCell']) (by omega) hL1 hL2 (by simp; omega) (wr.heap.size + 1) (by simp) ?_; intro gg cap w1' hown1 hgrow hat hlt3))
        have hB2 : Below w.heap.size w w1' := ((hB.alloc hz _).drew).grown hgrow (by simp; omega) (fun j e => (hown.lt j e).1)
        have hown2 : w1'.ownsRow w.heap.size 5 1 (.slice (some ⟨gg, 0, none⟩) (acc.length + 1) cap) (acc ++ [xb]).length (Lib.byteCells (acc ++ [xb])) := by
          rw [← Hx1.out] at hown1
          have e : Lib.byteCells (acc ++ [xb]) = Lib.byteCells acc ++ [.int .u8 (xb.toNat : Int)] := by simp [Lib.byteCells]
          rw [e, List.length_append]; exact hown1
        clear hown1 hgrow
        go_wp2
        go_roundw
        case rel => exact ⟨k + 1 + 3, acc ++ [xb], by go_num, Hon.out, hown2, hB2⟩
        case measure => simp [intOf]; omega
      · have q5 : (d == 120) = false := by simpa using hD120
        have ht := HI.out.bad hmore hc (by rw [hdrop]; exact escF_other ⟨hD120, hD34, hD92, hD110, hD116⟩)
        rw [HT.out] at ht
        clear hdrop hmore hc
        go_wp2_with fail
        exact bodyPost_ret (v := .tuple #[.slice none 0 0, .int .i64 0, .int .i64 4]) (by simp [results, Tryd.results49, go_sem]) rfl ⟨hB, .inl ⟨ht, rfl⟩⟩
    · have q92 : (c != 92) = true := by simpa using h92
      have hon : QuotI rs i (k + 1) (acc ++ enc c) := by
        refine ⟨by omega, hlt, ?_, ?_⟩
        · have := (enc_len c hval).2; simp; omega
        · rw [← HI.out.rest, textF_on acc hmore (by rw [hc]; exact h92), hc]
      have Hon := Lib.hid hon
      have hel := enc_len c hval
      clear hon hmore hc h34 h10 h92
      go_wp2_with fail
      refine (rput_any _ _).mono ?_
      rintro e w2 ⟨A2, n2, c2, rfl, hr2, hb2⟩
      have hr2n := hr2.len
      subst hr2n
      obtain ⟨g2, rfl, hg2, hcs2⟩ : ∃ g, A2 = some ⟨g, 0, none⟩ ∧ g < w2.heap.size ∧ ∀ j (hj : j < (enc c).length), w2.cell? ⟨g, j, none⟩ = some (.int .u8 ((enc c)[j].toNat : Int)) := by
        rcases hr2 with ⟨_, h0, _⟩ | ⟨g, h1, _, h3, h4⟩
        · omega
        · exact ⟨g, h1, h3, h4⟩
      have hB2 := hB.trans (hb2.mono hz)
      have hown2 := owns_below hown hb2
      have hz2' := hb2.size
      go_wp2_with (at_builtin; refine wpList_append_own _ rfl _ _ 22 rfl w.heap.size 5 i0 (.int .u8 0) 1 1 Tryd.underlying22 hinf hz0 hz1 hz2 rfl (by decide) _ _ _ rfl hown2 ⟨g2, 0, none⟩ (enc c).length c2 (Lib.byteCells (enc c)) rfl (by simp [Lib.byteCells]) (bytes_at hcs2) (bytes_one _) (by unfold maxLen; omega) (by omega) (by omega) ?_; intro v' w3 hown' hgrow _)
      have hB3 : Below w.heap.size w w3 := hB2.grown hgrow (by omega) (fun j e => (hown2.lt j e).1)
      have HO := Lib.hid (owns_snoc hown' rfl rfl)
      clear hown' hgrow hown2 hr2
      go_wp2
      go_roundw
      case rel => exact ⟨k + 1, acc ++ enc c, by go_num, Hon.out, HO.out, hB3⟩
      case measure => simp [intOf]; omega
end Go.Proofs.YtdmgpeflanjngaaDoor
