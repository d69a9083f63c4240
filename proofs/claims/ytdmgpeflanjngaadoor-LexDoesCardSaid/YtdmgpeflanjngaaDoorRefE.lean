/-
  What the document's own Digits and Show tell. No condition but that a text's bytes lie in memory.
-/
import Derived.Test.YtdmgpeflanjngaaDoorRefC
namespace Go.Proofs.YtdmgpeflanjngaaDoor
open Go.ChangeShapes Go.WideShapes Go.ChangeAt Go.RowKit
set_option linter.unusedVariables false

theorem row_made (w : World) (l : List UInt8) : Row (w.alloc (.cells (Lib.byteCells l).toArray 5)) (some ⟨w.heap.size, 0, none⟩) l.length l := row_lit w l
theorem row_made' (w : World) (l : List UInt8) (k : Nat × Nat) : Row (w.alloc (.cells (Lib.byteCells l).toArray 5 k)) (some ⟨w.heap.size, 0, none⟩) l.length l := by
  refine .inr ⟨_, rfl, rfl, by simp, fun j hj => ?_⟩
  rw [cell_of_row _ w.heap.size j _ 5 k (heap_alloc_new w _)]
  simp [Lib.byteCells, hj]
/-- The digits of u, and what stands behind them. -/
structure DigI (n u : Nat) (s : List UInt8) : Prop where
  le : u ≤ n
  text : Lib.decDigits u ++ s = Lib.decDigits n
theorem DigI.on {n u : Nat} {s : List UInt8} (h : DigI n u s) (h9 : 9 < u) : DigI n (u / 10) (UInt8.ofNat (48 + u % 10) :: s) := by
  refine ⟨by have := h.le; omega, ?_⟩
  rw [← h.text]
  have : Lib.decDigits u = Lib.decDigits (u / 10) ++ [UInt8.ofNat (48 + u % 10)] := by
    rw [Lib.decDigits]; rw [dif_neg (by omega)]
  rw [this]; simp
theorem DigI.done {n u : Nat} {s : List UInt8} (h : DigI n u s) (h9 : u ≤ 9) : UInt8.ofNat (48 + u) :: s = Lib.decDigits n := by
  rw [← h.text, Lib.decDigits_one (by omega)]; rfl
theorem nDigits_pow : ∀ (k n : Nat), n < 10 ^ (k + 1) → Lib.nDigits n ≤ k + 1 := by
  intro k
  induction k with
  | zero => intro n h; rw [Lib.nDigits_small (by simpa using h)]; exact Nat.le_refl _
  | succ k ih =>
    intro n h
    rw [Lib.nDigits]
    split
    · omega
    · have := ih (n / 10) (by rw [Nat.pow_succ] at h; omega)
      omega
theorem DigI.len {n u : Nat} {s : List UInt8} (h : DigI n u s) (hn : n ≤ 9223372036854775807) : s.length ≤ 19 := by
  have h1 := congrArg List.length h.text
  rw [List.length_append, Lib.decDigits_length, Lib.decDigits_length] at h1
  have : Lib.nDigits n ≤ 19 := by
    exact nDigits_pow 18 n (by omega)
  omega
set_option maxRecDepth 100000 in
set_option maxHeartbeats 2000000 in
theorem rdigits_nat (n : Nat) (hn : n ≤ 9223372036854775807) (w : World) : Calls Tryd.prog 27 #[.int .i64 (n : Int)] w fun e w' => e = .returned (.string ⟨(Lib.decDigits n).toArray⟩) ∧ Below w.heap.size w w' := by
  go_enter Tryd.func27, Tryd.ntmps27
  go_wp2_with fail
  go_loopw [0, 3] (fun u s wr => ∃ (q : Nat) (l : List UInt8), u = .int .i64 (q : Int) ∧ s = .string ⟨l.toArray⟩ ∧ DigI n q l ∧ Below w.heap.size w wr) (fun u _ _ => (intOf u).toNat)
  case atStart => exact ⟨n, [], rfl, rfl, ⟨Nat.le_refl _, by simp⟩, Below.refl _ _⟩
  case round =>
    obtain ⟨q, l, rfl, rfl, hI, hB⟩ := hrel
    have hz := hB.size
    have hll := hI.len hn
    have hle := hI.le
    by_cases h9 : 9 < q
    · have h9' : (9 : Int) < (q : Int) := by omega
      have Hon := Lib.hid (hI.on h9)
      have hv : ((48 : Int) + (q : Int) % 10) = ((UInt8.ofNat (48 + q % 10)).toNat : Int) := by simp; omega
      have hr : (convert 22 9 (.slice (some ⟨wr.heap.size, 0, none⟩) 1 1)).run Tryd.prog (wr.alloc (.cells #[.int .u8 (48 + (q : Int) % 10)] 5)) = .ok (.string ⟨#[UInt8.ofNat (48 + q % 10)]⟩) (wr.alloc (.cells #[.int .u8 (48 + (q : Int) % 10)] 5)) := by
        rw [hv]; exact (row_made wr [UInt8.ofNat (48 + q % 10)]).conv 1
      have hB2 := hB.alloc (o := .cells #[.int .u8 (48 + (q : Int) % 10)] 5) hz
      obtain ⟨bb, hbb⟩ : ∃ bb, UInt8.ofNat (48 + q % 10) = bb := ⟨_, rfl⟩
      rw [hbb] at Hon hr
      clear hI hv hbb
      go_wp2_with fail
      refine ⟨⟨q / 10, _, by go_num, ?_, Hon.out, hB2⟩, ?_⟩
      · congr 1
      · simp [intOf]; omega
    · have h9' : (q : Int) ≤ 9 := by omega
      have hdone := Lib.hid (hI.done (by omega))
      have hv : ((48 : Int) + (q : Int)) = ((UInt8.ofNat (48 + q)).toNat : Int) := by simp; omega
      have hr : (convert 22 9 (.slice (some ⟨wr.heap.size, 0, none⟩) 1 1)).run Tryd.prog (wr.alloc (.cells #[.int .u8 (48 + (q : Int))] 5)) = .ok (.string ⟨#[UInt8.ofNat (48 + q)]⟩) (wr.alloc (.cells #[.int .u8 (48 + (q : Int))] 5)) := by
        rw [hv]; exact (row_made wr [UInt8.ofNat (48 + q)]).conv 1
      have hB2 := hB.alloc (o := .cells #[.int .u8 (48 + (q : Int))] 5) hz
      have hmax : max (q : Int) 0 = q := by omega
      obtain ⟨bb, hbb⟩ : ∃ bb, UInt8.ofNat (48 + q) = bb := ⟨_, rfl⟩
      rw [hbb] at hdone hr
      clear hI hv hbb
      go_wp2_with fail
      go_ret
      exact ⟨by rw [← hdone.out]; rfl, hB2⟩
set_option maxRecDepth 100000 in
set_option maxHeartbeats 1000000 in
theorem rdigits_neg (n : Int) (hn : n < 0) (h1 : -9223372036854775808 ≤ n) (w : World) : Calls Tryd.prog 27 #[.int .i64 n] w fun e w' => e = .returned (.string ⟨(Lib.decDigits n.toNat).toArray⟩) ∧ Below w.heap.size w w' := by
  have hd : Lib.decDigits n.toNat = [48] := by rw [show n.toNat = 0 by omega]; decide +kernel
  rw [hd]
  have hr : (convert 22 9 (.slice (some ⟨w.heap.size, 0, none⟩) 1 1)).run Tryd.prog (w.alloc (.cells #[.int .u8 48] 5)) = .ok (.string ⟨#[48]⟩) (w.alloc (.cells #[.int .u8 48] 5)) := (row_made w [48]).conv 1
  have hmax : max n 0 = 0 := by omega
  have h9 : n ≤ 9 := by omega
  clear hd
  go_enter Tryd.func27, Tryd.ntmps27
  go_wp2_with fail
  go_loopw [0, 3] (fun u s wr => u = .int .i64 n ∧ s = .string ⟨#[]⟩ ∧ wr = w) (fun _ _ _ => 0)
  case atStart => exact ⟨rfl, rfl, rfl⟩
  case round =>
    obtain ⟨rfl, rfl, rfl⟩ := hrel
    go_wp2_with fail
    go_ret
    exact ⟨rfl, (Below.refl _ _).alloc (Nat.le_refl _) _⟩
theorem rdigits_any (n : Int) (h1 : -9223372036854775808 ≤ n) (h2 : n ≤ 9223372036854775807) (w : World) : Calls Tryd.prog 27 #[.int .i64 n] w fun e w' => e = .returned (.string ⟨(Lib.decDigits n.toNat).toArray⟩) ∧ Below w.heap.size w w' := by
  by_cases h : n < 0
  · exact rdigits_neg n h h1 w
  · have e : ((n.toNat : Nat) : Int) = n := by omega
    have := rdigits_nat n.toNat (by omega) w
    rwa [e] at this
end Go.Proofs.YtdmgpeflanjngaaDoor
