/-
  What digit, quoted and Show tell: a token as a text; here of names, words, signs and texts. No condition but that a text's bytes lie in memory.
-/
import Derived.Test.YtdmgpeflanjngaaDoorLexok
namespace Go.Proofs.YtdmgpeflanjngaaDoor
open Go.ChangeShapes Go.WideShapes Go.ChangeAt Go.RowKit
set_option linter.unusedVariables false

theorem ret_u8 {a b : Int} (h : a = b) : Ending.returned (.int .u8 a) = .returned (.int .u8 b) := by rw [h]
def hexD (n : Int) : Int := if n < 10 then 48 + n else 87 + n
theorem digit_any (n : Int) (h0 : 0 ≤ n) (h1 : n ≤ 15) (w : World) : Calls Tryd.prog 52 #[.int .u8 n] w fun e w' => e = .returned (.int .u8 (hexD n)) ∧ w = w' := by
  by_cases h : n < 10
  · go_enter Tryd.func52, Tryd.ntmps52
    go_wp2
    go_ret
    exact ⟨ret_u8 (by rw [hexD, if_pos h]), rfl⟩
  · have h' : 10 ≤ n := by omega
    go_enter Tryd.func52, Tryd.ntmps52
    go_wp2
    go_ret
    exact ⟨ret_u8 (by rw [hexD, if_neg (by omega)]; omega), rfl⟩
def hexU (n : Nat) : UInt8 := (hexD (n : Int)).toNat.toUInt8
theorem hexD_bd (n : Int) (h0 : 0 ≤ n) (h1 : n ≤ 15) : 48 ≤ hexD n ∧ hexD n ≤ 102 := by unfold hexD; split <;> omega
theorem hexU_toNat (n : Nat) (h : n ≤ 15) : ((hexU n).toNat : Int) = hexD n := by
  have := hexD_bd n (by omega) (by omega)
  unfold hexU
  simp; omega
/-- A byte within a text, as it is shown. -/
def quoteB (b : UInt8) : List UInt8 := if b = 34 ∨ b = 92 then [92, b] else if 32 ≤ b.toNat ∧ b.toNat ≤ 126 then [b] else [92, 120, hexU (b.toNat / 16), hexU (b.toNat % 16)]
def quoteF (l : List UInt8) : List UInt8 := 34 :: l.flatMap quoteB ++ [34]
theorem quoteB_len (b : UInt8) : 1 ≤ (quoteB b).length ∧ (quoteB b).length ≤ 4 := by unfold quoteB; split <;> (try split) <;> simp
theorem quote_len (l : List UInt8) : (l.flatMap quoteB).length ≤ 4 * l.length := by
  induction l with
  | nil => simp
  | cons b t ih => have := quoteB_len b; simp at ih ⊢; omega
theorem take_snocU (l : List UInt8) (k : Nat) (h : k < l.length) : (l.take (k + 1)).flatMap quoteB = (l.take k).flatMap quoteB ++ quoteB l[k] := by
  rw [List.take_succ_eq_append_getElem h, List.flatMap_append]; simp only [List.flatMap_cons, List.flatMap_nil, List.append_nil]
theorem made_one (w : World) (b : UInt8) : (w.alloc (.cells #[.int .u8 (b.toNat : Int)] 5)).ownsRow w.heap.size 5 1 (.slice (some ⟨w.heap.size, 0, none⟩) 1 1) 1 (Lib.byteCells [b]) := by
  refine ⟨rfl, .inr ⟨w.heap.size, 1, #[.int .u8 (b.toNat : Int)], rfl, Nat.le_refl _, heap_alloc_new w _, Nat.le_refl _, by decide, rfl, by simp [Lib.byteCells]⟩⟩

/-- What has been written when k bytes are shown. -/
def qAcc (l : List UInt8) (k : Nat) : List UInt8 := 34 :: (l.take k).flatMap quoteB
theorem qAcc_on (l : List UInt8) (k : Nat) (h : k < l.length) : qAcc l k ++ quoteB l[k] = qAcc l (k + 1) := by
  unfold qAcc; rw [take_snocU l k h]; rfl
theorem qAcc_len (l : List UInt8) (k : Nat) (h : k ≤ l.length) : (qAcc l k).length ≤ 1 + 4 * k := by
  have := quote_len (l.take k)
  rw [List.length_take_of_le h] at this
  unfold qAcc; rw [List.length_cons]; omega
theorem qAcc_all (l : List UInt8) : qAcc l l.length ++ [34] = quoteF l := by
  unfold qAcc quoteF; rw [List.take_length]
theorem owns_snoc {W : World} {B m : Nat} {v : Value} {a x a2 : List UInt8} (h : W.ownsRow B 5 1 v (a.length + m) (Lib.byteCells a ++ Lib.byteCells x)) (hx : x.length = m) (e : a ++ x = a2) : W.ownsRow B 5 1 v a2.length (Lib.byteCells a2) := by
  subst hx e
  rw [List.length_append, show Lib.byteCells (a ++ x) = Lib.byteCells a ++ Lib.byteCells x from by simp [Lib.byteCells]]
  exact h
theorem cells_new (W : World) (l : List UInt8) : ∀ j u, (Lib.byteCells l)[j]? = some u → (W.alloc (.cells (Lib.byteCells l).toArray 5)).cell? ((⟨W.heap.size, 0, none⟩ : Addr).add j) = some u := by
  intro j u hu
  have e : (⟨W.heap.size, 0, none⟩ : Addr).add j = ⟨W.heap.size, j, none⟩ := by unfold Addr.add; split <;> simp_all
  rw [e, cell_of_row _ W.heap.size j _ 5 (0, 0) (heap_alloc_new W _)]
  simpa using hu
def QuoteRel (l : List UInt8) (w : World) (v i : Value) (wr : World) : Prop :=
  ∃ k : Nat, k ≤ l.length ∧ i = .int .i64 (k : Int) ∧ wr.ownsRow w.heap.size 5 1 v (qAcc l k).length (Lib.byteCells (qAcc l k)) ∧ Below w.heap.size w wr
set_option maxRecDepth 100000 in
set_option maxHeartbeats 2000000 in
theorem quoted_any (A : Option Addr) (n c : Nat) (l : List UInt8) (w : World) (hr : Row w A n l) (hn : n ≤ c) (hl : l.length ≤ 1000) : Calls Tryd.prog 26 #[.slice A n c] w fun e w' => e = .returned (.string ⟨(quoteF l).toArray⟩) ∧ Below w.heap.size w w' := by
  obtain ⟨i0, hi, hz0, hz1, hz2⟩ := info_parts Tryd.info5
  have hnl := hr.len
  subst hnl
  go_enter Tryd.func26, Tryd.ntmps26
  go_wp2
  go_loopw [3, 9] (fun v i wr => QuoteRel l w v i wr) (fun _ i _ => l.length - (intOf i).toNat)
  case atStart => exact ⟨0, by omega, rfl, made_one w 34, (Below.refl _ _).alloc (Nat.le_refl _) _⟩
  case round =>
    obtain ⟨k, hk, rfl, hown, hB⟩ := hrel
    have hq := qAcc_len l k hk
    have hz := hB.size
    by_cases hlt : k < l.length
    · obtain ⟨g, rfl, hg, hcs⟩ : ∃ g, A = some ⟨g, 0, none⟩ ∧ g < w.heap.size ∧ ∀ j (hj : j < l.length), w.cell? ⟨g, j, none⟩ = some (.int .u8 (l[j].toNat : Int)) := by
        rcases hr with ⟨_, _, h0⟩ | ⟨g, h1, h2, h3, h4⟩
        · subst h0; simp at hlt
        · exact ⟨g, h1, h3, h4⟩
      have hc := hcs k hlt
      rw [← hB.cell (p := ⟨g, k, none⟩) hg] at hc
      have hsn := qAcc_on l k hlt
      obtain ⟨b, hb⟩ : ∃ b, l[k] = b := ⟨_, rfl⟩
      rw [hb] at hc hsn
      have hbl : (b.toNat : Int) < 256 := by have := UInt8.toNat_lt b; omega
      have Hsn := Lib.hid hsn
      have hlt' : (k : Int) < (l.length : Int) := by omega
      clear hcs hsn hb
      by_cases h1 : b = 34 ∨ b = 92
      · rcases h1 with rfl | rfl
        · clear hbl
          have hqb : quoteB 34 = [92, 34] := by decide
          rw [hqb] at Hsn
          clear hqb
          go_wp2_with (at_builtin; refine wpList_append_own _ rfl _ _ 22 rfl w.heap.size 5 i0 (.int .u8 0) 1 1 Tryd.underlying22 hi hz0 hz1 hz2 rfl (by decide) _ _ _ rfl (hown.alloc _) ⟨wr.heap.size, 0, none⟩ 2 2 (Lib.byteCells [92, 34]) rfl rfl (cells_new _ [92, 34]) (bytes_one _) (by unfold maxLen; omega) (by omega) (by simp; omega) ?_; intro v' w2 hown' hgrow _)
          have hB2 : Below w.heap.size w w2 := (hB.alloc (by omega) _).grown hgrow (by simp; omega) (fun j e => (hown.lt j e).1)
          have HO := Lib.hid (owns_snoc hown' rfl Hsn.out)
          clear hown' hgrow
          go_wp2
          go_roundw
          case rel => exact ⟨k + 1, by omega, by go_num, HO.out, hB2⟩
          case measure => simp [intOf]; omega
        · clear hbl
          have hqb : quoteB 92 = [92, 92] := by decide
          rw [hqb] at Hsn
          clear hqb
          go_wp2_with (at_builtin; refine wpList_append_own _ rfl _ _ 22 rfl w.heap.size 5 i0 (.int .u8 0) 1 1 Tryd.underlying22 hi hz0 hz1 hz2 rfl (by decide) _ _ _ rfl (hown.alloc _) ⟨wr.heap.size, 0, none⟩ 2 2 (Lib.byteCells [92, 92]) rfl rfl (cells_new _ [92, 92]) (bytes_one _) (by unfold maxLen; omega) (by omega) (by simp; omega) ?_; intro v' w2 hown' hgrow _)
          have hB2 : Below w.heap.size w w2 := (hB.alloc (by omega) _).grown hgrow (by simp; omega) (fun j e => (hown.lt j e).1)
          have HO := Lib.hid (owns_snoc hown' rfl Hsn.out)
          clear hown' hgrow
          go_wp2
          go_roundw
          case rel => exact ⟨k + 1, by omega, by go_num, HO.out, hB2⟩
          case measure => simp [intOf]; omega
      · have q1 : ((b.toNat : Int) == 34) = false := by
          have : b ≠ 34 := fun e => h1 (.inl e)
          have : b.toNat ≠ 34 := fun e => this (UInt8.toNat_inj.1 e)
          simp; omega
        have q2 : ((b.toNat : Int) == 92) = false := by
          have : b ≠ 92 := fun e => h1 (.inr e)
          have : b.toNat ≠ 92 := fun e => this (UInt8.toNat_inj.1 e)
          simp; omega
        by_cases h2 : 32 ≤ b.toNat ∧ b.toNat ≤ 126
        · have p1 : (32 : Int) ≤ (b.toNat : Int) := by omega
          have p2 : (b.toNat : Int) ≤ 126 := by omega
          have hqb : quoteB b = [b] := by unfold quoteB; rw [if_neg h1, if_pos h2]
          rw [hqb] at Hsn
          clear hqb
          go_wp2_with (at_builtin; refine wpList_append_own _ rfl _ _ 22 rfl w.heap.size 5 i0 (.int .u8 0) 1 1 Tryd.underlying22 hi hz0 hz1 hz2 rfl (by decide) _ _ _ rfl (hown.alloc _) ⟨wr.heap.size, 0, none⟩ 1 1 (Lib.byteCells [b]) rfl rfl (cells_new _ [b]) (bytes_one _) (by unfold maxLen; omega) (by omega) (by simp; omega) ?_; intro v' w2 hown' hgrow _)
          have hB2 : Below w.heap.size w w2 := (hB.alloc (by omega) _).grown hgrow (by simp; omega) (fun j e => (hown.lt j e).1)
          have HO := Lib.hid (owns_snoc hown' rfl Hsn.out)
          clear hown' hgrow
          go_wp2
          go_roundw
          case rel => exact ⟨k + 1, by omega, by go_num, HO.out, hB2⟩
          case measure => simp [intOf]; omega
        · have hbn := UInt8.toNat_lt b
          have hA1 := hexU_toNat (b.toNat / 16) (by omega)
          have hA2 := hexU_toNat (b.toNat % 16) (by omega)
          have D1 : Hid (∀ w, Calls Tryd.prog 52 #[.int .u8 ((b.toNat : Int) / 16)] w fun e w' => e = .returned (.int .u8 ((hexU (b.toNat / 16)).toNat : Int)) ∧ w = w') := Lib.hid (fun w => by
            rw [hA1, show ((b.toNat : Int) / 16) = ((b.toNat / 16 : Nat) : Int) by omega]; exact digit_any _ (by omega) (by omega) w)
          have D2 : Hid (∀ w, Calls Tryd.prog 52 #[.int .u8 ((b.toNat : Int) % 16)] w fun e w' => e = .returned (.int .u8 ((hexU (b.toNat % 16)).toNat : Int)) ∧ w = w') := Lib.hid (fun w => by
            rw [hA2, show ((b.toNat : Int) % 16) = ((b.toNat % 16 : Nat) : Int) by omega]; exact digit_any _ (by omega) (by omega) w)
          have hqb : quoteB b = [92, 120, hexU (b.toNat / 16), hexU (b.toNat % 16)] := by unfold quoteB; rw [if_neg h1, if_neg h2]
          rw [hqb] at Hsn
          clear hqb hA1 hA2 h1
          by_cases h3 : 32 ≤ b.toNat
          · have p1 : (32 : Int) ≤ (b.toNat : Int) := by omega
            have p2 : (126 : Int) < (b.toNat : Int) := by omega
            clear h2 h3
            go_wp2_with fail
            refine (D1.out _).mono ?_
            rintro e w' ⟨rfl, rfl⟩
            go_wp2_with fail
            refine (D2.out _).mono ?_
            rintro e w' ⟨rfl, rfl⟩
            go_wp2_with (at_builtin; refine wpList_append_own _ rfl _ _ 22 rfl w.heap.size 5 i0 (.int .u8 0) 1 1 Tryd.underlying22 hi hz0 hz1 hz2 rfl (by decide) _ _ _ rfl (hown.alloc _) ⟨wr.heap.size, 0, none⟩ 4 4 (Lib.byteCells [92, 120, hexU (b.toNat / 16), hexU (b.toNat % 16)]) rfl rfl (cells_new _ [92, 120, hexU (b.toNat / 16), hexU (b.toNat % 16)]) (bytes_one _) (by unfold maxLen; omega) (by omega) (by simp; omega) ?_; intro v' w2 hown' hgrow _)
            have hB2 : Below w.heap.size w w2 := (hB.alloc (by omega) _).grown hgrow (by simp; omega) (fun j e => (hown.lt j e).1)
            have HO := Lib.hid (owns_snoc hown' rfl Hsn.out)
            clear hown' hgrow
            go_wp2
            go_roundw
            case rel => exact ⟨k + 1, by omega, by go_num, HO.out, hB2⟩
            case measure => simp [intOf]; omega
          · have p1 : (b.toNat : Int) < 32 := by omega
            clear h2 h3
            go_wp2_with fail
            refine (D1.out _).mono ?_
            rintro e w' ⟨rfl, rfl⟩
            go_wp2_with fail
            refine (D2.out _).mono ?_
            rintro e w' ⟨rfl, rfl⟩
            go_wp2_with (at_builtin; refine wpList_append_own _ rfl _ _ 22 rfl w.heap.size 5 i0 (.int .u8 0) 1 1 Tryd.underlying22 hi hz0 hz1 hz2 rfl (by decide) _ _ _ rfl (hown.alloc _) ⟨wr.heap.size, 0, none⟩ 4 4 (Lib.byteCells [92, 120, hexU (b.toNat / 16), hexU (b.toNat % 16)]) rfl rfl (cells_new _ [92, 120, hexU (b.toNat / 16), hexU (b.toNat % 16)]) (bytes_one _) (by unfold maxLen; omega) (by omega) (by simp; omega) ?_; intro v' w2 hown' hgrow _)
            have hB2 : Below w.heap.size w w2 := (hB.alloc (by omega) _).grown hgrow (by simp; omega) (fun j e => (hown.lt j e).1)
            have HO := Lib.hid (owns_snoc hown' rfl Hsn.out)
            clear hown' hgrow
            go_wp2
            go_roundw
            case rel => exact ⟨k + 1, by omega, by go_num, HO.out, hB2⟩
            case measure => simp [intOf]; omega
    · have hkl : k = l.length := by omega
      subst hkl
      have Hall := Lib.hid (qAcc_all l)
      have hge : (l.length : Int) ≤ (l.length : Int) := by omega
      go_wp2_with (at_builtin; refine wpList_append_own _ rfl _ _ 22 rfl w.heap.size 5 i0 (.int .u8 0) 1 1 Tryd.underlying22 hi hz0 hz1 hz2 rfl (by decide) _ _ _ rfl (hown.alloc _) ⟨wr.heap.size, 0, none⟩ 1 1 (Lib.byteCells [34]) rfl rfl (cells_new _ [34]) (bytes_one _) (by unfold maxLen; omega) (by omega) (by simp; omega) ?_; intro v' w2 hown' hgrow _; obtain ⟨A2, c2, hv, hrow⟩ := Row.of_owns (owns_snoc hown' rfl Hall.out); subst hv; have hcv := hrow.conv c2)
      have hB2 : Below w.heap.size w w2 := (hB.alloc (by omega) _).grown hgrow (by simp; omega) (fun j e => (hown.lt j e).1)
      go_ret
      exact ⟨rfl, hB2⟩
end Go.Proofs.YtdmgpeflanjngaaDoor
