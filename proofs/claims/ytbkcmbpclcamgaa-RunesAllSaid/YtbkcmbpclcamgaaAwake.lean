/-
  The document's own examples of chapter 2 hold of the calls of package runes. No condition.
-/
import Derived.Test.YtbkcmbpclcamgaaSplit
namespace Go.Proofs.Ytbkcmbpclcamgaa
open Go.ChangeShapes Go.WideShapes Go.ChangeAt Go.RowKit
set_option linter.unusedVariables false

theorem ex_bad : badOf ⟨#[97, 10, 195, 169]⟩ = none := by decide +kernel
theorem ex_runes : runesOf ⟨#[97, 10, 195, 169]⟩ = [(97, 0, 1, 1), (10, 1, 1, 2), (233, 2, 2, 1)] := by decide +kernel
theorem ex_bad2 : badOf ⟨#[255]⟩ = some (1, 1) := by decide +kernel
theorem ex_enc : enc 233 = [195, 169] := by decide +kernel

theorem bytes_same (A B : Option Addr) (n m c d : Nat) (x : List UInt8) (w : World) (hx : Row w A n x) (hy : Row w B m x) :
    Calls Try.prog 21 #[.slice A n c, .slice B m d] w fun e w' => e = .returned (.bool true) ∧ w = w' :=
  (bytes_any A B n m c d x x w hx hy).mono fun e w' ⟨he, hw⟩ => ⟨by rw [he]; simp, hw⟩
theorem row_lit (w : World) (l : List UInt8) : Row (w.alloc (.cells (Lib.byteCells l).toArray 5)) (some ⟨w.heap.size, 0, none⟩) l.length l := by
  refine .inr ⟨_, rfl, rfl, by simp, fun j hj => ?_⟩
  rw [cell_of_row _ w.heap.size j _ 5 (0, 0) (heap_alloc_new w _)]
  simp [Lib.byteCells, hj]

/-- A row of runes: its cells, one by one. -/
theorem owns_cell {w : World} {B : Nat} {A : Option Addr} {n c : Nat} {l : List Ent} (h : w.ownsRow B 40 4 (.slice A n c) n (listCells l)) (hn : 0 < n) :
    ∃ g, A = some ⟨g, 0, none⟩ ∧ B ≤ g ∧ g < w.heap.size ∧ n ≤ c ∧ ∀ j u, (listCells l)[j]? = some u → w.cell? ⟨g, j, none⟩ = some u := by
  rcases h.2 with ⟨_, h0⟩ | ⟨g, cap, cur, hv, hB, hg, hc, _⟩
  · omega
  · injection hv with h1 h2 h3
    subst h1 h3
    refine ⟨g, rfl, hB, (Array.getElem?_eq_some_iff.1 hg).1, hc, fun j u hu => ?_⟩
    have := h.cells (g := g) rfl j u hu
    have e : (⟨g, 0, none⟩ : Addr).add j = ⟨g, j, none⟩ := by unfold Addr.add; split <;> simp_all
    rw [e] at this; exact this

theorem split_ex (w : World) : Calls Try.prog 8 #[.string ⟨#[97, 10, 195, 169]⟩] w fun e w' => ∃ g c, e = .returned (.tuple #[.slice (some ⟨g, 0, none⟩) 3 c, .agg #[.int .i64 0, .int .i64 0, .int .i64 0]]) ∧ g < w'.heap.size ∧ 3 ≤ c ∧ w'.cell? ⟨g, 10, none⟩ = some (.int .i64 2) ∧ w'.cell? ⟨g, 11, none⟩ = some (.int .i64 1) ∧ Below w.heap.size w w' := by
  refine (split_any _ (by decide) w).mono fun e w' h => ?_
  rcases h with ⟨L, C, hb, _⟩ | ⟨_, A, n, c, rfl, hn, ho, hb⟩
  · rw [ex_bad] at hb; cases hb
  · rw [ex_runes] at hn ho
    subst hn
    obtain ⟨g, rfl, _, hg, hc, hx⟩ := owns_cell ho (by simp)
    exact ⟨g, c, rfl, hg, hc, hx 10 _ rfl, hx 11 _ rfl, hb⟩
theorem split_ex2 (w : World) : Calls Try.prog 8 #[.string ⟨#[255]⟩] w fun e w' => e = .returned (.tuple #[.slice none 0 0, .agg #[.int .i64 1, .int .i64 1, .int .i64 1]]) ∧ Below w.heap.size w w' := by
  refine (split_any _ (by decide) w).mono fun e w' h => ?_
  rcases h with ⟨L, C, hb, he, hw⟩ | ⟨hb, _⟩
  · rw [ex_bad2] at hb
    injection hb with hb
    injection hb with h1 h2
    subst h1 h2
    exact ⟨he, hw⟩
  · rw [ex_bad2] at hb; cases hb

set_option maxHeartbeats 1000000 in
set_option maxRecDepth 100000 in
theorem awake_any (w : World) : Calls Try.prog 7 #[] w fun e w' => e = .returned (.bool true) ∧ Below w.heap.size w w' := by
  go_enter Try.func7, Try.ntmps7
  go_wp2_with fail
  refine (split_ex _).mono ?_
  rintro e w1 ⟨g, c, rfl, hg, hc, hL, hC, hb1⟩
  go_wp2_with fail
  refine (split_ex2 _).mono ?_
  rintro e w2 ⟨rfl, hb2⟩
  have hz2 : w1.heap.size < w2.heap.size := by have := hb2.size; simp at this; omega
  have hg2 : g < w2.heap.size := by omega
  have hL2 : w2.cell? ⟨g, 10, none⟩ = some (.int .i64 2) := by
    rw [hb2.cell (p := ⟨g, 10, none⟩) (by simp; omega), World.cell?_alloc_lt _ _ _ hg]; exact hL
  have hC2 : w2.cell? ⟨g, 11, none⟩ = some (.int .i64 1) := by
    rw [hb2.cell (p := ⟨g, 11, none⟩) (by simp; omega), World.cell?_alloc_lt _ _ _ hg]; exact hC
  have hE2 : w2.cell? ⟨w1.heap.size, 0, none⟩ = some (.int .i64 0) := by
    rw [hb2.cell (p := ⟨w1.heap.size, 0, none⟩) (by simp)]; simp
  have hB2 : Below w.heap.size w w2 := (hb1.alloc (by have := hb1.size; omega) _).trans (hb2.mono (by have := hb1.size; simp; omega))
  clear hL hC hb2 hg hb1
  go_wp2_with fail
  refine (put_any _ _).mono ?_
  rintro e w3 ⟨A, n, cc, rfl, hrow, hb3⟩
  go_wp2_with fail
  refine (bytes_same _ _ _ _ _ _ _ _ (hrow.below ((Below.refl _ _).alloc (Nat.le_refl _) _)) (by rw [ex_enc]; exact row_lit w3 [195, 169])).mono ?_
  rintro e w4 ⟨rfl, rfl⟩
  go_wp2
  go_ret
  refine ⟨rfl, ?_⟩
  have hz := hB2.size
  have hz3 := hb3.size
  simp only [World.size_alloc] at hz3
  exact ((hB2.alloc hz _).trans (hb3.mono (by simp; omega))).alloc (by omega) _
end Go.Proofs.Ytbkcmbpclcamgaa
