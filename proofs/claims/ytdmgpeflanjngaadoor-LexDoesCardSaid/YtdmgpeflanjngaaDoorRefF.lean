/-
  What the document's own Show tells of any token. No condition but that a text's bytes lie in memory.
-/
import Derived.Test.YtdmgpeflanjngaaDoorRefE
import Derived.BigRegion
namespace Go.Proofs.YtdmgpeflanjngaaDoor
open Go.ChangeShapes Go.WideShapes Go.ChangeAt Go.RowKit
set_option linter.unusedVariables false

set_option maxRecDepth 100000 in
set_option maxHeartbeats 1000000 in
theorem rshow_word (k : Int) (hk : k = 1 ∨ k = 2 ∨ k = 5 ∨ k = 6) (b : ByteArray) (n L C : Int) (A : Option Addr) (m c : Nat) (w : World) : Calls Tryd.prog 12 #[.agg #[.int .i64 k, .string b, .int .i64 n, .slice A m c, .int .i64 L, .int .i64 C]] w fun e w' => e = .returned (.string b) ∧ Below w.heap.size w w' := by
  rcases hk with rfl | rfl | rfl | rfl
  all_goals
    go_enter Tryd.func12, Tryd.ntmps12
    go_wp2
    go_ret
    exact ⟨rfl, (Below.refl _ _).alloc (Nat.le_refl _) _⟩
set_option maxRecDepth 100000 in
set_option maxHeartbeats 1000000 in
theorem rshow_none (k : Int) (hk : ¬ (k = 1 ∨ k = 2 ∨ k = 3 ∨ k = 4 ∨ k = 5 ∨ k = 6)) (b : ByteArray) (n L C : Int) (A : Option Addr) (m c : Nat) (w : World) : Calls Tryd.prog 12 #[.agg #[.int .i64 k, .string b, .int .i64 n, .slice A m c, .int .i64 L, .int .i64 C]] w fun e w' => e = .returned (.string ⟨#[]⟩) ∧ Below w.heap.size w w' := by
  have f : ∀ n : Int, k ≠ n → (k == n) = false := fun n hn => by simpa using hn
  have e1 := f 1 (by omega); have e2 := f 2 (by omega); have e3 := f 3 (by omega); have e4 := f 4 (by omega); have e5 := f 5 (by omega); have e6 := f 6 (by omega)
  clear f hk
  go_enter Tryd.func12, Tryd.ntmps12
  go_wp2
  go_ret
  exact ⟨rfl, (Below.refl _ _).alloc (Nat.le_refl _) _⟩
set_option maxRecDepth 100000 in
set_option maxHeartbeats 1000000 in
theorem rshow_num (b : ByteArray) (n L C : Int) (h1 : -9223372036854775808 ≤ n) (h2 : n ≤ 9223372036854775807) (A : Option Addr) (m c : Nat) (w : World) : Calls Tryd.prog 12 #[.agg #[.int .i64 3, .string b, .int .i64 n, .slice A m c, .int .i64 L, .int .i64 C]] w fun e w' => e = .returned (.string ⟨(Lib.decDigits n.toNat).toArray⟩) ∧ Below w.heap.size w w' := by
  have hq := Lib.hid (fun w => rdigits_any n h1 h2 w)
  go_enter Tryd.func12, Tryd.ntmps12
  go_wp2_with fail
  refine (hq.out _).mono ?_
  rintro e w' ⟨rfl, hb⟩
  go_wp2
  go_ret
  exact ⟨rfl, ((Below.refl _ _).alloc (Nat.le_refl _) _).trans (hb.mono (by simp))⟩
theorem hex_at (n : Nat) (h : n ≤ 15) (hs : n < ({ data := #[48, 49, 50, 51, 52, 53, 54, 55, 56, 57, 97, 98, 99, 100, 101, 102] } : ByteArray).size) : ({ data := #[48, 49, 50, 51, 52, 53, 54, 55, 56, 57, 97, 98, 99, 100, 101, 102] } : ByteArray)[n]'hs = hexU n := by
  have : n = 0 ∨ n = 1 ∨ n = 2 ∨ n = 3 ∨ n = 4 ∨ n = 5 ∨ n = 6 ∨ n = 7 ∨ n = 8 ∨ n = 9 ∨ n = 10 ∨ n = 11 ∨ n = 12 ∨ n = 13 ∨ n = 14 ∨ n = 15 := by omega
  rcases this with rfl | rfl | rfl | rfl | rfl | rfl | rfl | rfl | rfl | rfl | rfl | rfl | rfl | rfl | rfl | rfl
  all_goals (apply UInt8.toNat_inj.1; kernel_rfl)
set_option maxRecDepth 100000 in
set_option maxHeartbeats 4000000 in
theorem rshow_text (b : ByteArray) (n L C : Int) (A : Option Addr) (m c : Nat) (l : List UInt8) (w : World) (hr : Row w A m l) (hm : m ≤ c) (hl : l.length ≤ 1000) : Calls Tryd.prog 12 #[.agg #[.int .i64 4, .string b, .int .i64 n, .slice A m c, .int .i64 L, .int .i64 C]] w fun e w' => e = .returned (.string ⟨(quoteF l).toArray⟩) ∧ Below w.heap.size w w' := by
  have hnl := hr.len
  subst hnl
  go_enter Tryd.func12, Tryd.ntmps12
  go_wp2_with fail
  obtain ⟨W0, hW0⟩ : ∃ W0, w.alloc (.cells #[.int .i64 4, .string b, .int .i64 n, .slice A l.length c, .int .i64 L, .int .i64 C] 26) = W0 := ⟨_, rfl⟩
  have hB0 : Below w.heap.size w W0 := by rw [← hW0]; exact (Below.refl _ _).alloc (Nat.le_refl _) _
  have hz0 : W0.heap.size = w.heap.size + 1 := by rw [← hW0]; simp
  have c3 : W0.cell? ⟨w.heap.size, 3, none⟩ = some (.slice A l.length c) := by rw [← hW0]; simp
  have hr0 := hr.below hB0
  rw [hW0]
  clear hW0
  go_loopw [4, 5] (fun s i wr => ∃ k : Nat, k ≤ l.length ∧ i = .int .i64 (k : Int) ∧ s = .string ⟨(qAcc l k).toArray⟩ ∧ Below W0.heap.size W0 wr) (fun _ i _ => l.length - (intOf i).toNat)
  case atStart => exact ⟨0, by omega, rfl, rfl, Below.refl _ _⟩
  case round =>
    obtain ⟨k, hk, rfl, rfl, hB⟩ := hrel
    have hq := qAcc_len l k hk
    have hz := hB.size
    have c3r := cell_kept hB (by omega) c3
    by_cases hlt : k < l.length
    · obtain ⟨g, rfl, hg, hcs⟩ : ∃ g, A = some ⟨g, 0, none⟩ ∧ g < W0.heap.size ∧ ∀ j (hj : j < l.length), W0.cell? ⟨g, j, none⟩ = some (.int .u8 (l[j].toNat : Int)) := by
        rcases hr0 with ⟨_, _, h0⟩ | ⟨g, h1, h2, h3, h4⟩
        · subst h0; simp at hlt
        · exact ⟨g, h1, h3, h4⟩
      have hc := cell_kept hB hg (hcs k hlt)
      have hsn := qAcc_on l k hlt
      obtain ⟨bb, hb⟩ : ∃ bb, l[k] = bb := ⟨_, rfl⟩
      rw [hb] at hc hsn
      have hbl : (bb.toNat : Int) < 256 := by have := UInt8.toNat_lt bb; omega
      have Hsn := Lib.hid hsn
      have hlt' : (k : Int) < (l.length : Int) := by omega
      obtain ⟨qa, hqa⟩ : ∃ qa, qAcc l k = qa := ⟨_, rfl⟩
      rw [hqa] at Hsn hq ⊢
      clear hcs hsn hb hqa
      by_cases h1 : bb = 34 ∨ bb = 92
      · have hqb : quoteB bb = [92, bb] := by rw [quoteB, if_pos h1]
        rw [hqb] at Hsn
        have hcv : (convert 22 9 (.slice (some ⟨wr.heap.size, 0, none⟩) 2 2)).run Tryd.prog (wr.alloc (.cells #[.int .u8 92, .int .u8 (bb.toNat : Int)] 5)) = .ok (.string ⟨#[92, bb]⟩) (wr.alloc (.cells #[.int .u8 92, .int .u8 (bb.toNat : Int)] 5)) := (row_made wr [92, bb]).conv 2
        have hB2 := hB.alloc (o := .cells #[.int .u8 92, .int .u8 (bb.toNat : Int)] 5) hz
        have hq12 : ((bb.toNat : Int) == 34) = true ∨ (((bb.toNat : Int) == 34) = false ∧ ((bb.toNat : Int) == 92) = true) := by
          rcases h1 with rfl | rfl
          · left; decide
          · right; exact ⟨by decide, by decide⟩
        clear hqb h1
        rcases hq12 with q1 | ⟨q1, q2⟩
        all_goals
          go_wp2_with fail
          refine ⟨⟨k + 1, by omega, by go_num, ?_, hB2⟩, ?_⟩
          · rw [← Hsn.out]; congr 1
          · simp [intOf]; omega
      · have q1 : ((bb.toNat : Int) == 34) = false := by
          have : bb ≠ 34 := fun e => h1 (.inl e)
          have : bb.toNat ≠ 34 := fun e => this (UInt8.toNat_inj.1 e)
          simp; omega
        have q2 : ((bb.toNat : Int) == 92) = false := by
          have : bb ≠ 92 := fun e => h1 (.inr e)
          have : bb.toNat ≠ 92 := fun e => this (UInt8.toNat_inj.1 e)
          simp; omega
        by_cases h2 : 32 ≤ bb.toNat ∧ bb.toNat ≤ 126
        · have p1 : (32 : Int) ≤ (bb.toNat : Int) := by omega
          have p2 : (bb.toNat : Int) ≤ 126 := by omega
          have hqb : quoteB bb = [bb] := by unfold quoteB; rw [if_neg h1, if_pos h2]
          rw [hqb] at Hsn
          have hcv : (convert 22 9 (.slice (some ⟨wr.heap.size, 0, none⟩) 1 1)).run Tryd.prog (wr.alloc (.cells #[.int .u8 (bb.toNat : Int)] 5)) = .ok (.string ⟨#[bb]⟩) (wr.alloc (.cells #[.int .u8 (bb.toNat : Int)] 5)) := (row_made wr [bb]).conv 1
          have hB2 := hB.alloc (o := .cells #[.int .u8 (bb.toNat : Int)] 5) hz
          clear hqb h1 h2
          go_wp2_with fail
          refine ⟨⟨k + 1, by omega, by go_num, ?_, hB2⟩, ?_⟩
          · rw [← Hsn.out]; congr 1
          · simp [intOf]; omega
        · have hqb : quoteB bb = [92, 120, hexU (bb.toNat / 16), hexU (bb.toNat % 16)] := by unfold quoteB; rw [if_neg h1, if_neg h2]
          rw [hqb] at Hsn
          have s1 : bb.toNat / 16 < ({ data := #[48, 49, 50, 51, 52, 53, 54, 55, 56, 57, 97, 98, 99, 100, 101, 102] } : ByteArray).size := by show bb.toNat / 16 < 16; omega
          have s2 : bb.toNat % 16 < ({ data := #[48, 49, 50, 51, 52, 53, 54, 55, 56, 57, 97, 98, 99, 100, 101, 102] } : ByteArray).size := by show bb.toNat % 16 < 16; omega
          have i1 := hex_at (bb.toNat / 16) (by omega) s1
          have i2 := hex_at (bb.toNat % 16) (by omega) s2
          obtain ⟨u1, hu1⟩ : ∃ u, hexU (bb.toNat / 16) = u := ⟨_, rfl⟩
          obtain ⟨u2, hu2⟩ : ∃ u, hexU (bb.toNat % 16) = u := ⟨_, rfl⟩
          rw [hu1] at i1 Hsn
          rw [hu2] at i2 Hsn
          have hp : (bb.toNat : Int) < 32 ∨ ((32 : Int) ≤ (bb.toNat : Int) ∧ (126 : Int) < (bb.toNat : Int)) := by omega
          have g1 : (bb.toNat : Int) / 16 < 16 := by omega
          have g2 : (bb.toNat : Int) % 16 < 16 := by omega
          have g3 : 0 ≤ (bb.toNat : Int) / 16 := by omega
          have g4 : 0 ≤ (bb.toNat : Int) % 16 := by omega
          have hcv : (convert 22 9 (.slice (some ⟨wr.heap.size, 0, none⟩) 4 4)).run Tryd.prog (wr.alloc (.cells #[.int .u8 92, .int .u8 120, .int .u8 (u1.toNat : Int), .int .u8 (u2.toNat : Int)] 5)).drew = .ok (.string ⟨#[92, 120, u1, u2]⟩) (wr.alloc (.cells #[.int .u8 92, .int .u8 120, .int .u8 (u1.toNat : Int), .int .u8 (u2.toNat : Int)] 5)).drew := ((row_made wr [92, 120, u1, u2]).below ((Below.refl _ _).drew)).conv 4
          have hB2 := (hB.alloc (o := .cells #[.int .u8 92, .int .u8 120, .int .u8 (u1.toNat : Int), .int .u8 (u2.toNat : Int)] 5) hz).drew
          clear hqb h1 h2 hu1 hu2
          rcases hp with p1 | ⟨p1, p2⟩
          all_goals
            go_wp2_with fail
            go_region
            go_wp2_with fail
            refine ⟨⟨k + 1, by omega, by go_num, ?_, hB2⟩, ?_⟩
            · rw [← Hsn.out]; congr 1
            · simp [intOf]; omega
    · obtain rfl : k = l.length := by omega
      have hge : (l.length : Int) ≤ (l.length : Int) := by omega
      have Hall := Lib.hid (qAcc_all l)
      obtain ⟨qa, hqa⟩ : ∃ qa, qAcc l l.length = qa := ⟨_, rfl⟩
      rw [hqa] at Hall hq ⊢
      clear hqa
      go_wp2_with fail
      go_ret
      exact ⟨by rw [← Hall.out]; rfl, hB0.trans (hB.mono (by omega))⟩
theorem rshow_any (t : Tok) (w : World) (A : Option Addr) (m c : Nat) (hr : Row w A m t.bytes) (hm : m ≤ c) (hl : t.bytes.length ≤ 1000) (h1 : -9223372036854775808 ≤ t.num) (hn : t.num ≤ 9223372036854775807) : Calls Tryd.prog 12 #[.agg #[.int .i64 t.kind, .string ⟨t.text.toArray⟩, .int .i64 t.num, .slice A m c, .int .i64 t.line, .int .i64 t.col]] w fun e w' => e = .returned (.string ⟨(showT t).toArray⟩) ∧ Below w.heap.size w w' := by
  unfold showT
  split
  · rename_i hk; exact rshow_word _ hk _ _ _ _ _ _ _ w
  rename_i hk
  split
  · rename_i h3; rw [h3]; exact rshow_num _ _ _ _ h1 hn _ _ _ w
  rename_i h3
  split
  · rename_i h4; rw [h4]; exact rshow_text _ _ _ _ _ _ _ _ w hr hm hl
  · rename_i h4; exact rshow_none _ (by omega) _ _ _ _ _ _ _ w
end Go.Proofs.YtdmgpeflanjngaaDoor
