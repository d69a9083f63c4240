/-
  What both Shows tell of any token; the arguments of a law read again; the walk of LexDoes. Conditions stand at each theorem.
-/
import Derived.Test.YtdmgpeflanjngaaDoorRefF
import Derived.Test.YtdmgpeflanjngaaDoorPost
import Derived.Carry
import Derived.ChangeSlices
import Derived.WalkKit
import Derived.ProofKit
import Derived.OpenShut
import Derived.Test.YtdmgpeflanjngaaDoorShown
import Derived.Lib.LaidTab
import Derived.Test.YtdmgpeflanjngaaDoorLexA
import Derived.Test.YtdmgpeflanjngaaDoorRefH
import Derived.Test.YtdmgpeflanjngaaDoorPadsW
import Derived.Lib.QuietBelow
namespace Go.Proofs.YtdmgpeflanjngaaDoor
open Go.ChangeShapes Go.WideShapes Go.ChangeAt Go.RowKit
set_option linter.unusedVariables false

/-- Bytes that lie somewhere in a block. -/
def RowO (w : World) (A : Option Addr) (n : Nat) (l : List UInt8) : Prop :=
  n = l.length ∧ (0 < l.length → ∃ g o, A = some ⟨g, o, none⟩ ∧ g < w.heap.size ∧ ∀ j (hj : j < l.length), w.cell? ⟨g, o + j, none⟩ = some (.int .u8 (l[j].toNat : Int)))
theorem RowO.below {w w' : World} {A : Option Addr} {n : Nat} {l : List UInt8} (h : RowO w A n l) (hb : Below w.heap.size w w') : RowO w' A n l := by
  refine ⟨h.1, fun h0 => ?_⟩
  obtain ⟨g, o, h1, h3, h4⟩ := h.2 h0
  exact ⟨g, o, h1, Nat.lt_of_lt_of_le h3 hb.size, fun j hj => (hb.cell (p := ⟨g, o + j, none⟩) h3).trans (h4 j hj)⟩

set_option maxRecDepth 100000 in
set_option maxHeartbeats 2000000 in
theorem quoted_off (A : Option Addr) (n c : Nat) (l : List UInt8) (w : World) (hr : RowO w A n l) (hn : n ≤ c) (hl : l.length ≤ 1000) : Calls Tryd.prog 26 #[.slice A n c] w fun e w' => e = .returned (.string ⟨(quoteF l).toArray⟩) ∧ Below w.heap.size w w' := by
  obtain ⟨i0, hi, hz0, hz1, hz2⟩ := info_parts Tryd.info5
  have hnl := hr.1
  subst hnl
  go_enter Tryd.func26, Tryd.ntmps26
  go_wp2
  go_loopw [3, 9] (fun v i wr => QuoteRel l w v i wr) (fun _ i _ => l.length - (intOf i).toNat)
  case atStart => exact ⟨0, by omega, rfl, made_one w 34, (Below.refl _ _).alloc (Nat.le_refl _) _⟩
  case round =>
    obtain ⟨k, hk, rfl, hown, hB⟩ := hrel
    have hq := qAcc_len l k hk
    have hz := hB.size
    by_cases hlt : k < l.length
    · obtain ⟨g, o, rfl, hg, hcs⟩ : ∃ g o, A = some ⟨g, o, none⟩ ∧ g < w.heap.size ∧ ∀ j (hj : j < l.length), w.cell? ⟨g, o + j, none⟩ = some (.int .u8 (l[j].toNat : Int)) := by
        exact hr.2 (by omega)
      have hc := hcs k hlt
      rw [← hB.cell (p := ⟨g, o + k, none⟩) hg] at hc
      have hsn := qAcc_on l k hlt
      obtain ⟨b, hb⟩ : ∃ b, l[k] = b := ⟨_, rfl⟩
      rw [hb] at hc hsn
      have hbl : (b.toNat : Int) < 256 := by have := UInt8.toNat_lt b; omega
      have Hsn := Lib.hid hsn
      have hlt' : (k : Int) < (l.length : Int) := by omega
      clear hcs hsn hb
      by_cases h1 : b = 34 ∨ b = 92
      · rcases h1 with rfl | rfl
        · clear hbl
          have hqb : quoteB 34 = [92, 34] := by decide
          rw [hqb] at Hsn
          clear hqb
          go_wp2_with (at_builtin; refine wpList_append_own _ rfl _ _ 22 rfl w.heap.size 5 i0 (.int .u8 0) 1 1 Tryd.underlying22 hi hz0 hz1 hz2 rfl (by decide) _ _ _ rfl (hown.alloc _) ⟨wr.heap.size, 0, none⟩ 2 2 (Lib.byteCells [92, 34]) rfl rfl (cells_new _ [92, 34]) (bytes_one _) (by unfold maxLen; omega) (by omega) (by simp; omega) ?_; intro v' w2 hown' hgrow _)
          have hB2 : Below w.heap.size w w2 := (hB.alloc (by omega) _).grown hgrow (by simp; omega) (fun j e => (hown.lt j e).1)
          have HO := Lib.hid (owns_snoc hown' rfl Hsn.out)
          clear hown' hgrow
          go_wp2
          go_roundw
          case rel => exact ⟨k + 1, by omega, by go_num, HO.out, hB2⟩
          case measure => simp [intOf]; omega
        · clear hbl
          have hqb : quoteB 92 = [92, 92] := by decide
          rw [hqb] at Hsn
          clear hqb
          go_wp2_with (at_builtin; refine wpList_append_own _ rfl _ _ 22 rfl w.heap.size 5 i0 (.int .u8 0) 1 1 Tryd.underlying22 hi hz0 hz1 hz2 rfl (by decide) _ _ _ rfl (hown.alloc _) ⟨wr.heap.size, 0, none⟩ 2 2 (Lib.byteCells [92, 92]) rfl rfl (cells_new _ [92, 92]) (bytes_one _) (by unfold maxLen; omega) (by omega) (by simp; omega) ?_; intro v' w2 hown' hgrow _)
          have hB2 : Below w.heap.size w w2 := (hB.alloc (by omega) _).grown hgrow (by simp; omega) (fun j e => (hown.lt j e).1)
          have HO := Lib.hid (owns_snoc hown' rfl Hsn.out)
          clear hown' hgrow
          go_wp2
          go_roundw
          case rel => exact ⟨k + 1, by omega, by go_num, HO.out, hB2⟩
          case measure => simp [intOf]; omega
      · have q1 : ((b.toNat : Int) == 34) = false := by
          have : b ≠ 34 := fun e => h1 (.inl e)
          have : b.toNat ≠ 34 := fun e => this (UInt8.toNat_inj.1 e)
          simp; omega
        have q2 : ((b.toNat : Int) == 92) = false := by
          have : b ≠ 92 := fun e => h1 (.inr e)
          have : b.toNat ≠ 92 := fun e => this (UInt8.toNat_inj.1 e)
          simp; omega
        by_cases h2 : 32 ≤ b.toNat ∧ b.toNat ≤ 126
        · have p1 : (32 : Int) ≤ (b.toNat : Int) := by omega
          have p2 : (b.toNat : Int) ≤ 126 := by omega
          have hqb : quoteB b = [b] := by unfold quoteB; rw [if_neg h1, if_pos h2]
          rw [hqb] at Hsn
          clear hqb
          go_wp2_with (at_builtin; refine wpList_append_own _ rfl _ _ 22 rfl w.heap.size 5 i0 (.int .u8 0) 1 1 Tryd.underlying22 hi hz0 hz1 hz2 rfl (by decide) _ _ _ rfl (hown.alloc _) ⟨wr.heap.size, 0, none⟩ 1 1 (Lib.byteCells [b]) rfl rfl (cells_new _ [b]) (bytes_one _) (by unfold maxLen; omega) (by omega) (by simp; omega) ?_; intro v' w2 hown' hgrow _)
          have hB2 : Below w.heap.size w w2 := (hB.alloc (by omega) _).grown hgrow (by simp; omega) (fun j e => (hown.lt j e).1)
          have HO := Lib.hid (owns_snoc hown' rfl Hsn.out)
          clear hown' hgrow
          go_wp2
          go_roundw
          case rel => exact ⟨k + 1, by omega, by go_num, HO.out, hB2⟩
          case measure => simp [intOf]; omega
        · have hbn := UInt8.toNat_lt b
          have hA1 := hexU_toNat (b.toNat / 16) (by omega)
          have hA2 := hexU_toNat (b.toNat % 16) (by omega)
          have D1 : Hid (∀ w, Calls Tryd.prog 52 #[.int .u8 ((b.toNat : Int) / 16)] w fun e w' => e = .returned (.int .u8 ((hexU (b.toNat / 16)).toNat : Int)) ∧ w = w') := Lib.hid (fun w => by
            rw [hA1, show ((b.toNat : Int) / 16) = ((b.toNat / 16 : Nat) : Int) by omega]; exact digit_any _ (by omega) (by omega) w)
          have D2 : Hid (∀ w, Calls Tryd.prog 52 #[.int .u8 ((b.toNat : Int) % 16)] w fun e w' => e = .returned (.int .u8 ((hexU (b.toNat % 16)).toNat : Int)) ∧ w = w') := Lib.hid (fun w => by
            rw [hA2, show ((b.toNat : Int) % 16) = ((b.toNat % 16 : Nat) : Int) by omega]; exact digit_any _ (by omega) (by omega) w)
          have hqb : quoteB b = [92, 120, hexU (b.toNat / 16), hexU (b.toNat % 16)] := by unfold quoteB; rw [if_neg h1, if_neg h2]
          rw [hqb] at Hsn
          clear hqb hA1 hA2 h1
          by_cases h3 : 32 ≤ b.toNat
          · have p1 : (32 : Int) ≤ (b.toNat : Int) := by omega
            have p2 : (126 : Int) < (b.toNat : Int) := by omega
            clear h2 h3
            go_wp2_with fail
            refine (D1.out _).mono ?_
            rintro e w' ⟨rfl, rfl⟩
            go_wp2_with fail
            refine (D2.out _).mono ?_
            rintro e w' ⟨rfl, rfl⟩
            go_wp2_with (at_builtin; refine wpList_append_own _ rfl _ _ 22 rfl w.heap.size 5 i0 (.int .u8 0) 1 1 Tryd.underlying22 hi hz0 hz1 hz2 rfl (by decide) _ _ _ rfl (hown.alloc _) ⟨wr.heap.size, 0, none⟩ 4 4 (Lib.byteCells [92, 120, hexU (b.toNat / 16), hexU (b.toNat % 16)]) rfl rfl (cells_new _ [92, 120, hexU (b.toNat / 16), hexU (b.toNat % 16)]) (bytes_one _) (by unfold maxLen; omega) (by omega) (by simp; omega) ?_; intro v' w2 hown' hgrow _)
            have hB2 : Below w.heap.size w w2 := (hB.alloc (by omega) _).grown hgrow (by simp; omega) (fun j e => (hown.lt j e).1)
            have HO := Lib.hid (owns_snoc hown' rfl Hsn.out)
            clear hown' hgrow
            go_wp2
            go_roundw
            case rel => exact ⟨k + 1, by omega, by go_num, HO.out, hB2⟩
            case measure => simp [intOf]; omega
          · have p1 : (b.toNat : Int) < 32 := by omega
            clear h2 h3
            go_wp2_with fail
            refine (D1.out _).mono ?_
            rintro e w' ⟨rfl, rfl⟩
            go_wp2_with fail
            refine (D2.out _).mono ?_
            rintro e w' ⟨rfl, rfl⟩
            go_wp2_with (at_builtin; refine wpList_append_own _ rfl _ _ 22 rfl w.heap.size 5 i0 (.int .u8 0) 1 1 Tryd.underlying22 hi hz0 hz1 hz2 rfl (by decide) _ _ _ rfl (hown.alloc _) ⟨wr.heap.size, 0, none⟩ 4 4 (Lib.byteCells [92, 120, hexU (b.toNat / 16), hexU (b.toNat % 16)]) rfl rfl (cells_new _ [92, 120, hexU (b.toNat / 16), hexU (b.toNat % 16)]) (bytes_one _) (by unfold maxLen; omega) (by omega) (by simp; omega) ?_; intro v' w2 hown' hgrow _)
            have hB2 : Below w.heap.size w w2 := (hB.alloc (by omega) _).grown hgrow (by simp; omega) (fun j e => (hown.lt j e).1)
            have HO := Lib.hid (owns_snoc hown' rfl Hsn.out)
            clear hown' hgrow
            go_wp2
            go_roundw
            case rel => exact ⟨k + 1, by omega, by go_num, HO.out, hB2⟩
            case measure => simp [intOf]; omega
    · have hkl : k = l.length := by omega
      subst hkl
      have Hall := Lib.hid (qAcc_all l)
      have hge : (l.length : Int) ≤ (l.length : Int) := by omega
      go_wp2_with (at_builtin; refine wpList_append_own _ rfl _ _ 22 rfl w.heap.size 5 i0 (.int .u8 0) 1 1 Tryd.underlying22 hi hz0 hz1 hz2 rfl (by decide) _ _ _ rfl (hown.alloc _) ⟨wr.heap.size, 0, none⟩ 1 1 (Lib.byteCells [34]) rfl rfl (cells_new _ [34]) (bytes_one _) (by unfold maxLen; omega) (by omega) (by simp; omega) ?_; intro v' w2 hown' hgrow _; obtain ⟨A2, c2, hv, hrow⟩ := Row.of_owns (owns_snoc hown' rfl Hall.out); subst hv; have hcv := hrow.conv c2)
      have hB2 : Below w.heap.size w w2 := (hB.alloc (by omega) _).grown hgrow (by simp; omega) (fun j e => (hown.lt j e).1)
      go_ret
      exact ⟨rfl, hB2⟩
set_option maxRecDepth 100000 in
set_option maxHeartbeats 1000000 in
theorem show_text_off (b : ByteArray) (n L C : Int) (A : Option Addr) (m c : Nat) (l : List UInt8) (w : World) (hr : RowO w A m l) (hm : m ≤ c) (hl : l.length ≤ 1000) : Calls Tryd.prog 11 #[.agg #[.int .i64 4, .string b, .int .i64 n, .slice A m c, .int .i64 L, .int .i64 C]] w fun e w' => e = .returned (.string ⟨(quoteF l).toArray⟩) ∧ Below w.heap.size w w' := by
  have hq := Lib.hid (fun o => quoted_off A m c l (w.alloc o) (hr.below ((Below.refl _ _).alloc (Nat.le_refl _) _)) hm hl)
  go_enter Tryd.func11, Tryd.ntmps11
  go_wp2_with fail
  refine (hq.out _).mono ?_
  rintro e w' ⟨rfl, hb⟩
  go_wp2
  go_ret
  exact ⟨rfl, ((Below.refl _ _).alloc (Nat.le_refl _) _).trans (hb.mono (by simp))⟩
theorem show_off (t : Tok) (w : World) (A : Option Addr) (m c : Nat) (hr : RowO w A m t.bytes) (hm : m ≤ c) (hl : t.bytes.length ≤ 1000) (hn : t.num ≤ 9223372036854775807) (ht : Tens w) : Calls Tryd.prog 11 #[.agg #[.int .i64 t.kind, .string ⟨t.text.toArray⟩, .int .i64 t.num, .slice A m c, .int .i64 t.line, .int .i64 t.col]] w fun e w' => e = .returned (.string ⟨(showT t).toArray⟩) ∧ Below w.heap.size w w' := by
  unfold showT
  split
  · rename_i hk; exact show_word _ hk _ _ _ _ _ _ _ w
  rename_i hk
  split
  · rename_i h3; rw [h3]; exact show_num _ _ _ _ hn _ _ _ w (fun o => tens_below ht ((Below.refl _ _).alloc (Nat.le_refl _) _))
  rename_i h3
  split
  · rename_i h4; rw [h4]; exact show_text_off _ _ _ _ _ _ _ _ w hr hm hl
  · rename_i h4; exact show_none _ (by omega) _ _ _ _ _ _ _ w
set_option maxRecDepth 100000 in
set_option maxHeartbeats 4000000 in
theorem rshow_text_off (b : ByteArray) (n L C : Int) (A : Option Addr) (m c : Nat) (l : List UInt8) (w : World) (hr : RowO w A m l) (hm : m ≤ c) (hl : l.length ≤ 1000) : Calls Tryd.prog 12 #[.agg #[.int .i64 4, .string b, .int .i64 n, .slice A m c, .int .i64 L, .int .i64 C]] w fun e w' => e = .returned (.string ⟨(quoteF l).toArray⟩) ∧ Below w.heap.size w w' := by
  have hnl := hr.1
  subst hnl
  go_enter Tryd.func12, Tryd.ntmps12
  go_wp2_with fail
  obtain ⟨W0, hW0⟩ : ∃ W0, w.alloc (.cells #[.int .i64 4, .string b, .int .i64 n, .slice A l.length c, .int .i64 L, .int .i64 C] 26) = W0 := ⟨_, rfl⟩
  have hB0 : Below w.heap.size w W0 := by rw [← hW0]; exact (Below.refl _ _).alloc (Nat.le_refl _) _
  have hz0 : W0.heap.size = w.heap.size + 1 := by rw [← hW0]; simp
  have c3 : W0.cell? ⟨w.heap.size, 3, none⟩ = some (.slice A l.length c) := by rw [← hW0]; simp
  have hr0 := hr.below hB0
  rw [hW0]
  clear hW0
  go_loopw [4, 5] (fun s i wr => ∃ k : Nat, k ≤ l.length ∧ i = .int .i64 (k : Int) ∧ s = .string ⟨(qAcc l k).toArray⟩ ∧ Below W0.heap.size W0 wr) (fun _ i _ => l.length - (intOf i).toNat)
  case atStart => exact ⟨0, by omega, rfl, rfl, Below.refl _ _⟩
  case round =>
    obtain ⟨k, hk, rfl, rfl, hB⟩ := hrel
    have hq := qAcc_len l k hk
    have hz := hB.size
    have c3r := cell_kept hB (by omega) c3
    by_cases hlt : k < l.length
    · obtain ⟨g, o, rfl, hg, hcs⟩ : ∃ g o, A = some ⟨g, o, none⟩ ∧ g < W0.heap.size ∧ ∀ j (hj : j < l.length), W0.cell? ⟨g, o + j, none⟩ = some (.int .u8 (l[j].toNat : Int)) := by
        exact hr0.2 (by omega)
      have hc := cell_kept hB hg (hcs k hlt)
      have hsn := qAcc_on l k hlt
      obtain ⟨bb, hb⟩ : ∃ bb, l[k] = bb := ⟨_, rfl⟩
      rw [hb] at hc hsn
      have hbl : (bb.toNat : Int) < 256 := by have := UInt8.toNat_lt bb; omega
      have Hsn := Lib.hid hsn
      have hlt' : (k : Int) < (l.length : Int) := by omega
      obtain ⟨qa, hqa⟩ : ∃ qa, qAcc l k = qa := ⟨_, rfl⟩
      rw [hqa] at Hsn hq ⊢
      clear hcs hsn hb hqa
      by_cases h1 : bb = 34 ∨ bb = 92
      · have hqb : quoteB bb = [92, bb] := by rw [quoteB, if_pos h1]
        rw [hqb] at Hsn
        have hcv : (convert 22 9 (.slice (some ⟨wr.heap.size, 0, none⟩) 2 2)).run Tryd.prog (wr.alloc (.cells #[.int .u8 92, .int .u8 (bb.toNat : Int)] 5)) = .ok (.string ⟨#[92, bb]⟩) (wr.alloc (.cells #[.int .u8 92, .int .u8 (bb.toNat : Int)] 5)) := (row_made wr [92, bb]).conv 2
        have hB2 := hB.alloc (o := .cells #[.int .u8 92, .int .u8 (bb.toNat : Int)] 5) hz
        have hq12 : ((bb.toNat : Int) == 34) = true ∨ (((bb.toNat : Int) == 34) = false ∧ ((bb.toNat : Int) == 92) = true) := by
          rcases h1 with rfl | rfl
          · left; decide
          · right; exact ⟨by decide, by decide⟩
        clear hqb h1
        rcases hq12 with q1 | ⟨q1, q2⟩
        all_goals
          go_wp2_with fail
          refine ⟨⟨k + 1, by omega, by go_num, ?_, hB2⟩, ?_⟩
          · rw [← Hsn.out]; congr 1
          · simp [intOf]; omega
      · have q1 : ((bb.toNat : Int) == 34) = false := by
          have : bb ≠ 34 := fun e => h1 (.inl e)
          have : bb.toNat ≠ 34 := fun e => this (UInt8.toNat_inj.1 e)
          simp; omega
        have q2 : ((bb.toNat : Int) == 92) = false := by
          have : bb ≠ 92 := fun e => h1 (.inr e)
          have : bb.toNat ≠ 92 := fun e => this (UInt8.toNat_inj.1 e)
          simp; omega
        by_cases h2 : 32 ≤ bb.toNat ∧ bb.toNat ≤ 126
        · have p1 : (32 : Int) ≤ (bb.toNat : Int) := by omega
          have p2 : (bb.toNat : Int) ≤ 126 := by omega
          have hqb : quoteB bb = [bb] := by unfold quoteB; rw [if_neg h1, if_pos h2]
          rw [hqb] at Hsn
          have hcv : (convert 22 9 (.slice (some ⟨wr.heap.size, 0, none⟩) 1 1)).run Tryd.prog (wr.alloc (.cells #[.int .u8 (bb.toNat : Int)] 5)) = .ok (.string ⟨#[bb]⟩) (wr.alloc (.cells #[.int .u8 (bb.toNat : Int)] 5)) := (row_made wr [bb]).conv 1
          have hB2 := hB.alloc (o := .cells #[.int .u8 (bb.toNat : Int)] 5) hz
          clear hqb h1 h2
          go_wp2_with fail
          refine ⟨⟨k + 1, by omega, by go_num, ?_, hB2⟩, ?_⟩
          · rw [← Hsn.out]; congr 1
          · simp [intOf]; omega
        · have hqb : quoteB bb = [92, 120, hexU (bb.toNat / 16), hexU (bb.toNat % 16)] := by unfold quoteB; rw [if_neg h1, if_neg h2]
          rw [hqb] at Hsn
          have s1 : bb.toNat / 16 < ({ data := #[48, 49, 50, 51, 52, 53, 54, 55, 56, 57, 97, 98, 99, 100, 101, 102] } : ByteArray).size := by show bb.toNat / 16 < 16; omega
          have s2 : bb.toNat % 16 < ({ data := #[48, 49, 50, 51, 52, 53, 54, 55, 56, 57, 97, 98, 99, 100, 101, 102] } : ByteArray).size := by show bb.toNat % 16 < 16; omega
          have i1 := hex_at (bb.toNat / 16) (by omega) s1
          have i2 := hex_at (bb.toNat % 16) (by omega) s2
          obtain ⟨u1, hu1⟩ : ∃ u, hexU (bb.toNat / 16) = u := ⟨_, rfl⟩
          obtain ⟨u2, hu2⟩ : ∃ u, hexU (bb.toNat % 16) = u := ⟨_, rfl⟩
          rw [hu1] at i1 Hsn
          rw [hu2] at i2 Hsn
          have hp : (bb.toNat : Int) < 32 ∨ ((32 : Int) ≤ (bb.toNat : Int) ∧ (126 : Int) < (bb.toNat : Int)) := by omega
          have g1 : (bb.toNat : Int) / 16 < 16 := by omega
          have g2 : (bb.toNat : Int) % 16 < 16 := by omega
          have g3 : 0 ≤ (bb.toNat : Int) / 16 := by omega
          have g4 : 0 ≤ (bb.toNat : Int) % 16 := by omega
          have hcv : (convert 22 9 (.slice (some ⟨wr.heap.size, 0, none⟩) 4 4)).run Tryd.prog (wr.alloc (.cells #[.int .u8 92, .int .u8 120, .int .u8 (u1.toNat : Int), .int .u8 (u2.toNat : Int)] 5)).drew = .ok (.string ⟨#[92, 120, u1, u2]⟩) (wr.alloc (.cells #[.int .u8 92, .int .u8 120, .int .u8 (u1.toNat : Int), .int .u8 (u2.toNat : Int)] 5)).drew := ((row_made wr [92, 120, u1, u2]).below ((Below.refl _ _).drew)).conv 4
          have hB2 := (hB.alloc (o := .cells #[.int .u8 92, .int .u8 120, .int .u8 (u1.toNat : Int), .int .u8 (u2.toNat : Int)] 5) hz).drew
          clear hqb h1 h2 hu1 hu2
          rcases hp with p1 | ⟨p1, p2⟩
          all_goals
            go_wp2_with fail
            go_region
            go_wp2_with fail
            refine ⟨⟨k + 1, by omega, by go_num, ?_, hB2⟩, ?_⟩
            · rw [← Hsn.out]; congr 1
            · simp [intOf]; omega
    · obtain rfl : k = l.length := by omega
      have hge : (l.length : Int) ≤ (l.length : Int) := by omega
      have Hall := Lib.hid (qAcc_all l)
      obtain ⟨qa, hqa⟩ : ∃ qa, qAcc l l.length = qa := ⟨_, rfl⟩
      rw [hqa] at Hall hq ⊢
      clear hqa
      go_wp2_with fail
      go_ret
      exact ⟨by rw [← Hall.out]; rfl, hB0.trans (hB.mono (by omega))⟩
theorem rshow_off (t : Tok) (w : World) (A : Option Addr) (m c : Nat) (hr : RowO w A m t.bytes) (hm : m ≤ c) (hl : t.bytes.length ≤ 1000) (h1 : -9223372036854775808 ≤ t.num) (hn : t.num ≤ 9223372036854775807) : Calls Tryd.prog 12 #[.agg #[.int .i64 t.kind, .string ⟨t.text.toArray⟩, .int .i64 t.num, .slice A m c, .int .i64 t.line, .int .i64 t.col]] w fun e w' => e = .returned (.string ⟨(showT t).toArray⟩) ∧ Below w.heap.size w w' := by
  unfold showT
  split
  · rename_i hk; exact rshow_word _ hk _ _ _ _ _ _ _ w
  rename_i hk
  split
  · rename_i h3; rw [h3]; exact rshow_num _ _ _ _ h1 hn _ _ _ w
  rename_i h3
  split
  · rename_i h4; rw [h4]; exact rshow_text_off _ _ _ _ _ _ _ _ w hr hm hl
  · rename_i h4; exact rshow_none _ (by omega) _ _ _ _ _ _ _ w
end Go.Proofs.YtdmgpeflanjngaaDoor

namespace Go.Proofs.YtdmgpeflanjngaaDoor
open Go.ChangeShapes Go.WideShapes Go.ChangeAt Go.RowKit
set_option linter.unusedVariables false

theorem args_again {H : Type} {enc : TypeId × Value → H} {P : Program} {W W' : World} (hl : laidOutB P = true) (hb : Below W.heap.size W W') : ∀ (ts : List TypeId), (∀ t ∈ ts, P.readableRec t = true ∧ t < P.types.size) → ∀ (vs : List Value) (ds : List (DataW H)) (ps : List MemPlace),
    DataW.TrodAll enc P W 0 (fun _ => true) true ts vs ds ps → (∀ x ∈ ps, x.block < W.heap.size) → ∀ sp : Nat → Bool, (∀ x ∈ ps, sp x.block = true) → DataW.TrodAll enc P W' 0 sp true ts vs ds ps := by
  intro ts
  induction ts with
  | nil => intro _ vs ds ps h _ sp _; obtain ⟨rfl, rfl, rfl⟩ := trodAll_nil h; exact trodAll_mk0
  | cons t ts ih =>
    intro ht vs ds ps h hlt sp hsp
    obtain ⟨v, vs1, d, ds1, a, b, rfl, rfl, rfl, h1, h2⟩ := trodAll_cons h
    have h0 := ht t (by simp)
    exact trodAll_cons_mk (WideElems.Trod_stays hl h0.1 h0.2 h1 (fun x hx => hb.same (hlt x (List.mem_append_left _ hx))) (fun x hx => hsp x (List.mem_append_left _ hx)))
      (ih (fun t h => ht t (by simp [h])) _ _ _ h2 (fun x hx => hlt x (List.mem_append_right _ hx)) sp (fun x hx => hsp x (List.mem_append_right _ hx)))

theorem cells5 : Tryd.prog.cellsOf 5 = 1 := by kernel_rfl
theorem cells26 : Tryd.prog.cellsOf 26 = 6 := by kernel_rfl
theorem cells3 : Tryd.prog.cellsOf 3 = 1 := by kernel_rfl
theorem cells9 : Tryd.prog.cellsOf 9 = 1 := by kernel_rfl
theorem cells2 : Tryd.prog.cellsOf 2 = 1 := by kernel_rfl
theorem cells22 : Tryd.prog.cellsOf 22 = 1 := by kernel_rfl
theorem cells24 : Tryd.prog.cellsOf 24 = 2 := by kernel_rfl
/-- A slice of bytes that came in, wherever it lies. -/
theorem bytes_open {H : Type} {enc : TypeId × Value → H} {W : World} {fuel : Nat} {x : Value} {y : DataW H × List MemPlace} (h : DataW.trod enc Tryd.prog W 0 (fun _ => true) true fuel 22 [x] = some y) : ∃ A m c bs, x = .slice A m c ∧ m ≤ c ∧ c ≤ 9223372036854775807 ∧ RowO W A m bs := by
  rcases open_ints Tryd.underlying22 Tryd.underlying5 cells5 h with ⟨hcs, hx⟩ | ⟨a, len, cap, zs, hcs, _, hle, hm, hz, hx, hcell, hwz⟩
  · obtain rfl : x = .slice none 0 0 := by simpa using hcs
    exact ⟨none, 0, 0, [], rfl, Nat.le_refl _, by omega, rfl, fun h => by simp at h⟩
  · obtain rfl : x = .slice (some a) len cap := by simpa using hcs
    simp only [if_true] at hz
    unfold maxLen at hm
    refine ⟨some a, len, cap, (zs.take len).map (fun z => z.toNat.toUInt8), rfl, hle, hm, by simp; omega, fun h0 => ?_⟩
    have h0' : 0 < zs.length ∧ 0 < len := by simp at h0; omega
    obtain ⟨b, off, spot⟩ := a
    have hspot : spot = none := by simpa [Addr.add] using World.cell?_spot (hcell 0 (by omega))
    subst hspot
    have hcell' : ∀ i, i < zs.length → W.cell? ⟨b, off + i, none⟩ = some (.int .u8 (zs.getD i 0)) := fun i hi => by rw [← add_plain]; exact hcell i hi
    refine ⟨b, off, rfl, World.block_lt_of_cell? W _ (hcell' 0 (by omega)), fun j hj => ?_⟩
    have hj' : j < len ∧ j < zs.length := by simp at hj; omega
    rw [hcell' j hj'.2]
    have hw := bounds_u8 (hwz _ (List.getElem_mem hj'.2))
    simp only [List.getElem_map, List.getElem_take, List.getD_eq_getElem?_getD, List.getElem?_eq_getElem hj'.2, Option.getD_some]
    congr 2
    rw [show zs[j].toNat.toUInt8 = UInt8.ofNat zs[j].toNat from rfl, UInt8.toNat_ofNat']
    omega
set_option maxRecDepth 100000 in
theorem token_open {H : Type} {enc : TypeId × Value → H} {W : World} {r : Reach} {b0 : Nat} {v : Value} {d : DataW H} {p : List MemPlace} (hv : Value.okWide Tryd.prog W r b0 26 v) (h : DataW.Trod enc Tryd.prog W 0 (fun _ => true) true 26 v d p) :
    ∃ (k : Int) (tx : ByteArray) (n : Int) (A : Option Addr) (m c : Nat) (bs : List UInt8) (L C : Int), v = .agg #[.int .i64 k, .string tx, .int .i64 n, .slice A m c, .int .i64 L, .int .i64 C] ∧ tx.size ≤ 9223372036854775807 ∧ -9223372036854775808 ≤ n ∧ n ≤ 9223372036854775807 ∧ RowO W A m bs ∧ m ≤ c ∧ c ≤ 9223372036854775807 := by
  obtain ⟨cs, rfl, hsz⟩ := okWide_struct Tryd.underlying26 hv
  obtain ⟨fuel, h⟩ := h
  obtain ⟨xs, f, _, _, hl, hxs, hf⟩ := DataW.trod_struct Tryd.underlying26 h
  obtain ⟨l⟩ := cs
  rw [cells26] at hsz
  match l, hsz with
  | [c0, c1, c2, c3, c4, c5], _ =>
    have f0 := hf 0 _ rfl
    have f1 := hf 1 _ rfl
    have f2 := hf 2 _ rfl
    have f3 := hf 3 _ rfl
    have f4 := hf 4 _ rfl
    match xs, hxs with
    | [y0, y1, y2, y3, y4], _ =>
      simp [Value.cells, cells3, cells9, cells2, cells22, cells24] at f0 f1 f2 f3 f4
      obtain ⟨k, e0, _, _⟩ := DataW.trod_int Tryd.underlying3 f0
      obtain ⟨tx, e1, _, htx⟩ := DataW.trod_string Tryd.underlying9 f1
      obtain ⟨n, e2, _, hn⟩ := DataW.trod_int Tryd.underlying2 f2
      obtain ⟨A, m, c, bs, rfl, hmc, hc, hrow⟩ := bytes_open f3
      obtain ⟨zs, g, _, _, _, hzs, hg⟩ := DataW.trod_struct Tryd.underlying24 f4
      have g0 := hg 0 _ rfl
      have g1 := hg 1 _ rfl
      match zs, hzs with
      | [z0, z1], _ =>
        simp [cells3] at g0 g1
        obtain ⟨L, e4, _, _⟩ := DataW.trod_int Tryd.underlying3 g0
        obtain ⟨C, e5, _, _⟩ := DataW.trod_int Tryd.underlying3 g1
        simp at e0 e1 e2 e4 e5
        subst e0 e1 e2 e4 e5
        have hn' := bounds_i64 hn
        unfold maxLen at htx
        exact ⟨k, tx, n, A, m, c, bs, L, C, rfl, htx, hn'.1, hn'.2, hrow, hmc, hc⟩
end Go.Proofs.YtdmgpeflanjngaaDoor

namespace Go.Proofs.YtdmgpeflanjngaaDoor
open Go.RowKit

theorem gTensD : Tryd.prog.globalNamed "internal/strconv.uint64pow10" = some 0 := by kernel_rfl
theorem gTensTypeD : (Tryd.prog.globals[0]?).map (·.type) = some 103 := by kernel_rfl
theorem cells103D : Tryd.prog.cellsOf 103 = 20 := by kernel_rfl
theorem cells94D : Tryd.prog.cellsOf 94 = 1 := by kernel_rfl
set_option maxRecDepth 100000 in
theorem tens_ofD {W : World} (h : laidMetH Tryd.prog Rows.lexDoesRow.laid W) : Tens W := by
  have h2 : laidMet Tryd.prog Rows.lexDoesRow.laid W := h
  obtain ⟨ps, ⟨g0, t0, cs0, f0, p0, q0, hg0, ht0, hv0, hd0, ⟨g1, t1, cs1, f1, p1, q1, hg1, ht1, hv1, hd1, ⟨g2, t2, cs2, f2, p2, q2, hg2, ht2, hv2, hd2, _, _⟩, _⟩, _⟩, _, _⟩ := h2
  obtain rfl := Option.some.inj (gTensD.symm.trans hg2)
  obtain rfl := Option.some.inj (gTensTypeD.symm.trans ht2)
  unfold Tens Lib.TabIs
  rw [hv2, ← Lib.cells_of_tab (zs := Lib.pow10Tab) Tryd.underlying103 Tryd.underlying94 cells94D cells103D hd2]
end Go.Proofs.YtdmgpeflanjngaaDoor

namespace Go.Proofs.YtdmgpeflanjngaaDoor
open Go.ChangeShapes Go.WideShapes Go.ChangeAt Go.RowKit
set_option linter.unusedVariables false

theorem rlex_any (s : ByteArray) (hs : s.size ≤ 3000 ∨ 16384 < s.size) (hm : s.size ≤ 9223372036854775807) (w : World) : Calls Tryd.prog 9 #[.string s] w (LexTells s w) := by
  by_cases hl : 16384 < s.size
  · exact rlex_fault s 5 1 1 w (by decide) (by rw [lexOf, if_pos hl]) (fun w => rsplit_long s hl hm w)
  · have h3 : s.size ≤ 3000 := by omega
    cases hb : badOf s with
    | none => exact rlex_ok s h3 hb w
    | some p =>
      obtain ⟨L, C⟩ := p
      refine rlex_fault s 1 L C w (by decide) (by rw [lexOf, if_neg hl, hb]) (fun w => ?_)
      refine (rsplit_any s (by omega) w).mono ?_
      rintro e w' (⟨L', C', h1, he, hbl⟩ | ⟨h1, _⟩)
      · rw [hb] at h1; cases h1; exact ⟨he, hbl⟩
      · rw [hb] at h1; cases h1
/-- All that is told of a text. -/
def Full (s : ByteArray) (er L C : Int) (ps : List (Tok × Value)) : Prop := (er ≠ 0 ∧ ps = [] ∧ lexOf s = .inl (er, L, C)) ∨ (er = 0 ∧ L = 0 ∧ C = 0 ∧ lexOf s = .inr (ps.map (fun p => p.1)))
theorem full_of {s : ByteArray} {w w' : World} {e : Ending} (h : LexTells s w e w') : ∃ er L C A n c ps, e = .returned (.tuple #[.slice A n c, .agg #[.int .i64 er, .int .i64 L, .int .i64 C]]) ∧ n = ps.length ∧ Full s er L C ps ∧ TRow w' A n c ps ∧ Below w.heap.size w w' := by
  rcases h with ⟨er, L, C, h1, her, rfl, hb⟩ | ⟨A, n, c, ps, h1, hn, rfl, ht, hb⟩
  · exact ⟨er, L, C, none, 0, 0, [], rfl, rfl, .inl ⟨her, rfl, h1⟩, trow_nil _, hb⟩
  · exact ⟨0, 0, 0, A, n, c, ps, rfl, hn, .inr ⟨rfl, rfl, rfl, h1⟩, TRow.of_toks ht hn, hb⟩
theorem full_same {s : ByteArray} {er er' L L' C C' : Int} {ps qs : List (Tok × Value)} (h : Full s er L C ps) (h' : Full s er' L' C' qs) : er' = er ∧ L' = L ∧ C' = C ∧ qs.length = ps.length ∧ SameToks true ps qs := by
  rcases h with ⟨h0, rfl, h1⟩ | ⟨rfl, rfl, rfl, h1⟩ <;> rcases h' with ⟨h0', rfl, h1'⟩ | ⟨rfl, rfl, rfl, h1'⟩
  · rw [h1] at h1'; cases h1'; exact ⟨rfl, rfl, rfl, rfl, fun k p q hp => by cases hp⟩
  · rw [h1] at h1'; cases h1'
  · rw [h1] at h1'; cases h1'
  · rw [h1] at h1'
    have e := Sum.inr.inj h1'
    have hl : qs.length = ps.length := by have := congrArg List.length e; simpa using this.symm
    refine ⟨rfl, rfl, rfl, hl, fun k p q hp hq => ?_⟩
    have e2 := congrArg (fun l => l[k]?) e
    simp only [List.getElem?_map, hp, hq, Option.map_some, Option.some.injEq] at e2
    rw [e2]
    exact ⟨rfl, rfl, rfl, rfl, fun _ => ⟨rfl, rfl⟩⟩
theorem lexF_few {rs : List Ent} {eL eC : Int} : ∀ (f k cnt : Nat) (T : List Tok), lexF rs eL eC f k cnt = .inr T → T.length ≤ f := by
  intro f
  induction f with
  | zero => intro k cnt T h; simp [lexF] at h; subst h; simp
  | succ f ih =>
    intro k cnt T h
    rw [lexF] at h
    split at h
    · cases h
    · split at h
      · cases h
      · split at h
        · cases h; simp
        · split at h
          · cases h
          · rename_i hx
            cases h
            have := ih _ _ _ hx
            simp; omega
theorem few_of {s : ByteArray} {T : List Tok} (h : lexOf s = .inr T) : T.length ≤ 100000 := by
  unfold lexOf at h
  split at h
  · cases h
  · split at h
    · cases h
    · have := lexF_few _ _ _ _ h
      have := runesOf_len s
      omega
theorem Full.few {s : ByteArray} {er L C : Int} {ps : List (Tok × Value)} (h : Full s er L C ps) : ps.length ≤ 100000 := by
  rcases h with ⟨_, rfl, _⟩ | ⟨_, _, _, h⟩
  · simp
  · have := few_of h; simpa using this
theorem tok_text (tx : ByteArray) : (⟨tx.data.toList.toArray⟩ : ByteArray) = tx := by cases tx; simp
set_option maxRecDepth 100000 in
set_option maxHeartbeats 8000000 in
theorem does_mid (s tx : ByteArray) (k n L C : Int) (bs : List UInt8) (A : Option Addr) (m c : Nat) (up : Bool) (w : World) (hs : s.size ≤ 3000 ∨ 16384 < s.size) (hm : s.size ≤ 9223372036854775807) (ht : tx.size ≤ 300) (hb : bs.length ≤ 300)
    (h1 : -9223372036854775808 ≤ n) (h2 : n ≤ 9223372036854775807) (hr : RowO w A m bs) (hc : m ≤ c) (hT : Tens w) :
    Calls Tryd.prog 3 #[.string s, .agg #[.int .i64 k, .string tx, .int .i64 n, .slice A m c, .int .i64 L, .int .i64 C], .bool up] w fun e w' => e = .returned (.bool true) ∧ Below w.heap.size w w' := by
  have HL := Lib.hid (fun w => lex_any s hm w)
  have HR := Lib.hid (fun w => rlex_any s hs hm w)
  have Hs := Lib.hid hs
  have hml : m = bs.length := hr.1
  have hm3 : m ≤ 300 := by omega
  have q1 : ∀ x : Prop, [Decidable x] → x → decide x = true := fun x _ h => by simpa using h
  clear q1
  have ht' : (tx.size : Int) ≤ 300 := by omega
  have hm3' : (m : Int) ≤ 300 := by omega
  have HRow := Lib.hid hr
  have HTens := Lib.hid hT
  have Hbs := Lib.hid hb
  have hg : (s.size : Int) ≤ 3000 ∨ ((3000 : Int) < s.size ∧ (16384 : Int) < s.size) := by omega
  clear hml hr hT hb hs
  go_enter Tryd.func3, Tryd.ntmps3
  rcases hg with hg | ⟨hg, hg'⟩
  all_goals
    go_wp2_with fail
    refine (HL.out _).mono ?_
    rintro e w1 hE
    obtain ⟨er, FL, FC, A1, n1, c1, ps, rfl, rfl, g1, r1, hb1⟩ := full_of hE
    have hz1 := hb1.size
    rw [World.size_alloc] at hz1
    have X1 : TkAt w1 w.heap.size (.int .i64 k) (.string tx) (.int .i64 n) (.slice A m c) (.int .i64 L) (.int .i64 C) := (hb1.block _ (by simp)).trans (heap_alloc_new w _)
    have hB1 : Below w.heap.size w (w1.alloc (.cells #[.int .i64 er, .int .i64 FL, .int .i64 FC] 31)) := ((((Below.refl _ _).alloc (Nat.le_refl _) _).trans (hb1.mono (by simp))).alloc (by omega) _)
    have F1 := FB.new w1 er FL FC
    have R1 := r1.below ((Below.refl _ w1).alloc (Nat.le_refl _) (.cells #[.int .i64 er, .int .i64 FL, .int .i64 FC] 31))
    have X2 : TkAt (w1.alloc (.cells #[.int .i64 er, .int .i64 FL, .int .i64 FC] 31)) w.heap.size (.int .i64 k) (.string tx) (.int .i64 n) (.slice A m c) (.int .i64 L) (.int .i64 C) := (Below.heap_alloc _ _ _ (by omega)).trans X1
    have G1 := Lib.hid g1
    clear hE hb1 r1 g1 X1
    go_wp2_with fail
    refine (HR.out _).mono ?_
    rintro e w2 hE2
    obtain ⟨er2, FL2, FC2, A2, n2, c2, qs, rfl, rfl, g2, r2, hb2⟩ := full_of hE2
    obtain ⟨rfl, rfl, rfl, hl2, hsm⟩ := full_same G1.out g2
    have hz2 := hb2.size
    rw [World.size_alloc] at hz2
    have hb2' := hb2.alloc (o := .cells #[.int .i64 er2, .int .i64 FL2, .int .i64 FC2] 31) hb2.size
    replace F1 := F1.below hb2'
    replace R1 := R1.below hb2'
    have X4 : TkAt (w2.alloc (.cells #[.int .i64 er2, .int .i64 FL2, .int .i64 FC2] 31)) w.heap.size (.int .i64 k) (.string tx) (.int .i64 n) (.slice A m c) (.int .i64 L) (.int .i64 C) := (hb2'.block _ (by simp; omega)).trans X2
    have F2 := FB.new w2 er2 FL2 FC2
    have R2 := r2.below ((Below.refl _ w2).alloc (Nat.le_refl _) (.cells #[.int .i64 er2, .int .i64 FL2, .int .i64 FC2] 31))
    have hB4 := hB1.trans (hb2'.mono hB1.size)
    rw [hl2] at R2 ⊢
    have hfew : ps.length ≤ 100000 := Full.few G1.out
    clear hE2 hb2 hb2' r2 g2 hB1 X2
    obtain ⟨w4, hw4⟩ : ∃ w4, w2.alloc (.cells #[.int .i64 er2, .int .i64 FL2, .int .i64 FC2] 31) = w4 := ⟨_, rfl⟩
    rw [hw4] at F1 R1 X4 F2 R2 hB4
    obtain ⟨x0, x1, x2, x3, x4, x5⟩ := X4.cells
    have Fa0 := fun d os => cell_regrown F1.c0 d os
    have Fa1 := fun d os => cell_regrown F1.c1 d os
    have Fa2 := fun d os => cell_regrown F1.c2 d os
    have Fb0 := fun d os => cell_regrown F2.c0 d os
    have Fb1 := fun d os => cell_regrown F2.c1 d os
    have Fb2 := fun d os => cell_regrown F2.c2 d os
    replace x0 := fun d os => cell_regrown x0 d os
    replace x1 := fun d os => cell_regrown x1 d os
    replace x2 := fun d os => cell_regrown x2 d os
    replace x3 := fun d os => cell_regrown x3 d os
    replace x4 := fun d os => cell_regrown x4 d os
    replace x5 := fun d os => cell_regrown x5 d os
    obtain ⟨sh, hsh⟩ : ∃ sh, showT ⟨k, tx.data.toList, n, bs, L, C⟩ = sh := ⟨_, rfl⟩
    obtain ⟨bw, hbw⟩ : ∃ b, wordB tx.data.toList = b := ⟨_, rfl⟩
    obtain ⟨bn, hbn⟩ : ∃ b, namedB tx up = b := ⟨_, rfl⟩
    have cS := Lib.hid (regrown_call (w := w4) (fun W hb => same_yes true A1 A2 ps.length c1 c2 ps qs hfew hsm W (R1.below hb) (R2.below hb)))
    have cX := Lib.hid (regrown_call (w := w4) (fun W hb => by
      have h := show_off ⟨k, tx.data.toList, n, bs, L, C⟩ W A m c (HRow.out.below (hB4.trans (hb.mono hB4.size))) hc (by have := Hbs.out; show bs.length ≤ 1000; omega) h2 (tens_below HTens.out (hB4.trans (hb.mono hB4.size)))
      rw [hsh] at h
      simpa only [tok_text] using h))
    have cY := Lib.hid (regrown_call (w := w4) (fun W hb => by
      have h := rshow_off ⟨k, tx.data.toList, n, bs, L, C⟩ W A m c (HRow.out.below (hB4.trans (hb.mono hB4.size))) hc (by have := Hbs.out; show bs.length ≤ 1000; omega) h1 h2
      rw [hsh] at h
      simpa only [tok_text] using h))
    have cW := Lib.hid (regrown_call (w := w4) (v := .bool bw) (fun W hb => (word_any tx W).mono (fun e w' h => ⟨by rw [← hbw]; exact h.1, h.2 ▸ Below.refl _ _⟩)))
    have cV := Lib.hid (regrown_call (w := w4) (v := .bool bw) (fun W hb => (rword_any tx W).mono (fun e w' h => ⟨by rw [← hbw]; exact h.1, h.2 ▸ Below.refl _ _⟩)))
    have cN := Lib.hid (regrown_call (w := w4) (v := .bool bn) (fun W hb => (named_any tx up (by omega) W).mono (fun e w' h => ⟨by rw [← hbn]; exact h.1, h.2⟩)))
    have cM := Lib.hid (regrown_call (w := w4) (v := .bool bn) (fun W hb => (rnamed_any tx up (by omega) W).mono (fun e w' h => ⟨by rw [← hbn, named_same tx up (by omega)]; exact h.1, h.2⟩)))
    have cA := Lib.hid (regrown_call (w := w4) (fun W hb => awake_any W))
    have HB4 := Lib.hid hB4
    clear hsm R1 R2 F1 F2 X4 hB4 hsh hbw hbn
    go_wp2_with fail
    refine wp_region_quiet_below (by kernel_rfl) (by kernel_rfl) ?_
    repeat (go_big_quiet_step (with_reducible (first | exact cS.out _ _ | exact cX.out _ _ | exact cY.out _ _ | exact cW.out _ _ | exact cV.out _ _ | exact cN.out _ _ | exact cM.out _ _ | exact cA.out _ _)))
    refine wpQuiet_nil ?_
    intro w6 hw6
    have hb6 : Below w4.heap.size w4 w6 := by obtain ⟨p, rfl⟩ := hw6; exact below_regrown _ _ _
    have hB6 := HB4.out.trans (hb6.mono HB4.out.size)
    clear hw6 hb6
    go_wp2_with fail
    go_ret
    exact ⟨rfl, hB6⟩
set_option maxRecDepth 100000 in
/-- For any arguments. -/
theorem does_walk (s tx : ByteArray) (k n L C : Int) (bs : List UInt8) (A : Option Addr) (m c : Nat) (up : Bool) (w : World) (hm : s.size ≤ 9223372036854775807) (ht : tx.size ≤ 9223372036854775807)
    (h1 : -9223372036854775808 ≤ n) (h2 : n ≤ 9223372036854775807) (hr : RowO w A m bs) (hc : m ≤ c) (hl : c ≤ 9223372036854775807) (hT : Tens w) :
    Calls Tryd.prog 3 #[.string s, .agg #[.int .i64 k, .string tx, .int .i64 n, .slice A m c, .int .i64 L, .int .i64 C], .bool up] w fun e w' => e = .returned (.bool true) ∧ Below w.heap.size w w' := by
  have hmb : m = bs.length := hr.1
  by_cases ha : (s.size ≤ 3000 ∨ 16384 < s.size) ∧ tx.size ≤ 300 ∧ bs.length ≤ 300
  · exact does_mid s tx k n L C bs A m c up w ha.1 hm ha.2.1 ha.2.2 h1 h2 hr hc hT
  · have hg : ((3000 : Int) < s.size ∧ (s.size : Int) ≤ 16384) ∨ ((s.size : Int) ≤ 3000 ∧ (300 : Int) < tx.size) ∨ ((3000 : Int) < s.size ∧ (16384 : Int) < s.size ∧ (300 : Int) < tx.size) ∨ ((s.size : Int) ≤ 3000 ∧ (tx.size : Int) ≤ 300 ∧ (300 : Int) < m) ∨ ((3000 : Int) < s.size ∧ (16384 : Int) < s.size ∧ (tx.size : Int) ≤ 300 ∧ (300 : Int) < m) := by omega
    clear ha hr hmb hT
    go_enter Tryd.func3, Tryd.ntmps3
    rcases hg with ⟨g1, g2⟩ | ⟨g1, g2⟩ | ⟨g1, g2, g3⟩ | ⟨g1, g2, g3⟩ | ⟨g1, g2, g3, g4⟩
    all_goals
      go_wp2_with (go_at_call 7; ((with_reducible refine (awake_any _).mono ?_); rintro e w9 ⟨rfl, hb9⟩))
      go_ret
      exact ⟨rfl, ((Below.refl _ _).alloc (Nat.le_refl _) _).trans (hb9.mono (by simp))⟩
end Go.Proofs.YtdmgpeflanjngaaDoor
