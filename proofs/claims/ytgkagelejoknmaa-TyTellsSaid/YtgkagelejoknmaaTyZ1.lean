/-
  Texts of one proof, in their order. No condition.
-/
import Derived.Test.YtgkagelejoknmaaChecked
import Derived.WalkKit
import Derived.ProofKit
import Derived.LoopN
import Derived.Scope
import Derived.Lib.QuietBelow
import Derived.StillTailTactics
import Derived.BigQuiet
import Derived.Deep.RegionLawGrows
import Derived.Deep.RegionHeldLaw
import Derived.BigRegion
import Derived.Lib.SmallJoins
namespace Go.Proofs.Ytgkagelejoknmaa.Deep
open Go.ChangeShapes Go.WideShapes Go.ChangeAt Go.RowKit Go.Proofs
set_option linter.unusedSimpArgs false
set_option linter.unusedVariables false
theorem u82 : Try.prog.underlying 82 = some (.slice 96) := by kernel_rfl
theorem i96 : ∃ i z, Try.prog.info? 96 = some i ∧ i.zero = some z ∧ i.size = 2 ∧ i.bytes = 32 ∧ z.cells.size = 2 := by
  have h : (match Try.prog.info? 96 with | some i => (match i.zero with | some z => decide (i.size = 2 ∧ i.bytes = 32 ∧ z.cells.size = 2) | none => false) | none => false) = true := by kernel_rfl
  split at h
  · rename_i i hi
    split at h
    · rename_i z hz
      exact ⟨i, z, hi, hz, of_decide_eq_true h⟩
    · cases h
  · cases h
abbrev Keeps1 (g2 : Nat) (w w' : World) : Prop := w'.os = w.os ∧ w'.tape = w.tape ∧ w'.output = w.output ∧ w.heap.size ≤ w'.heap.size ∧ ∀ k, k < w.heap.size → k ≠ g2 → w'.heap[k]? = w.heap[k]?
theorem noGotoN (Q : Exit → Act → World → Prop) (a : Act) (w : World) : Exit.noGoto Q .normal a w = Q .normal a w := rfl
def OnlyN (Mid : Act → World → Prop) : Exit → Act → World → Prop
  | .normal, a, w => Mid a w
  | _, _, _ => False
theorem cut {P : Program} {c : Code} {Q : Exit → Act → World → Prop} {a : Act} {w : World} (Mid : Act → World → Prop) (h1 : c.wp P (OnlyN Mid) a w) (h2 : ∀ a w, Mid a w → Q .normal a w) : c.wp P Q a w :=
  Code.wp_mono (fun e a w h => by
    cases e with
    | normal => exact h2 a w h
    | _ => exact False.elim h) h1
def Mid36 (g2 : Nat) (w0 : World) (a : Act) (w : World) : Prop := ∃ x0 x1 x2 x3 x5 x6 x7 x8 x9 x10 x11 x12 x15 x16 x17 x18 x19 x20 x21 x22 x23 x24 x25 x26 x27 x28 x29 x30 x31 x32 x33 x34 x35 x36 x37 x38 x39 x40 x41 x42 x43 x44 x45 x46 x47 x48 x49 x50 x51 x52 x53 x54 x55 x56 x57 x58 x59 x60 x61 x62 x63 x64 x65 x66 x67 x68 x69 x70 x71 x72 : Value, a = { tmps := #[x0, x1, x2, x3, .slice none 0 0, x5, x6, x7, x8, x9, x10, x11, x12, .int .i64 1, .int .i64 0, x15, x16, x17, x18, x19, x20, x21, x22, x23, x24, x25, x26, x27, x28, x29, x30, x31, x32, x33, x34, x35, x36, x37, x38, x39, x40, x41, x42, x43, x44, x45, x46, x47, x48, x49, x50, x51, x52, x53, x54, x55, x56, x57, x58, x59, x60, x61, x62, x63, x64, x65, x66, x67, x68, x69, x70, x71, x72], defers := [] } ∧ Keeps1 g2 w0 w
set_option maxRecDepth 100000 in
set_option maxHeartbeats 40000000 in
theorem rounds_one (w : World) (o4 g1 g2 g3 g4 c1 c2 c3 c4 : Nat) (x1 : w.cell? ⟨g1, 0, none⟩ = some (.bool false)) (x2 : w.heap[g2]? = some (.cells #[.slice none 0 0] 82 (0, 0))) (x3 : w.cell? ⟨g3, 0, none⟩ = some (.int .i64 0)) (x4 : w.cell? ⟨g3, 1, none⟩ = some (.slice (some ⟨g4, o4, none⟩) 1 c4)) (x5 : w.cell? ⟨g4, o4, none⟩ = some (.int .i64 0))
   (h1 : 1 ≤ c1) (h2 : 1 ≤ c2) (h3 : 1 ≤ c3) (h4 : 1 ≤ c4) (k1 : c1 ≤ 9223372036854775807) (k2 : c2 ≤ 9223372036854775807) (k3 : c3 ≤ 9223372036854775807) (k4 : c4 ≤ 9223372036854775807) :
   Calls Try.prog 36 #[.agg #[.slice (some ⟨g1, 0, none⟩) 1 c1, .slice (some ⟨g2, 0, none⟩) 1 c2], .slice (some ⟨g3, 0, none⟩) 1 c3] w fun e w' => e = .returned (.tuple #[]) ∧ w'.os = w.os ∧ w'.tape = w.tape ∧ w'.output = w.output ∧ w.heap.size ≤ w'.heap.size ∧ ∀ k, k < w.heap.size → k ≠ g2 → w'.heap[k]? = w.heap[k]? := by
  have l1 : g1 < w.heap.size := block_lt_of_cell x1
  have l2 : g2 < w.heap.size := (Array.getElem?_eq_some_iff.1 x2).1
  have l3 : g3 < w.heap.size := block_lt_of_cell x3
  have l4 : g4 < w.heap.size := block_lt_of_cell x5
  have y1 : ∀ o, (w.alloc o).cell? ⟨g1, 0, none⟩ = some (.bool false) := fun o => by rw [World.cell?_alloc_lt _ _ _ l1]; exact x1
  have y2 : w.cell? ⟨g2, 0, none⟩ = some (.slice none 0 0) := by simp [World.cell?, x2]
  have y2' : ∀ o, (w.alloc o).cell? ⟨g2, 0, none⟩ = some (.slice none 0 0) := fun o => by rw [World.cell?_alloc_lt _ _ _ l2]; exact y2
  have y3 : ∀ o, (w.alloc o).cell? ⟨g3, 0, none⟩ = some (.int .i64 0) := fun o => by rw [World.cell?_alloc_lt _ _ _ l3]; exact x3
  have y4 : ∀ o, (w.alloc o).cell? ⟨g3, 1, none⟩ = some (.slice (some ⟨g4, o4, none⟩) 1 c4) := fun o => by rw [World.cell?_alloc_lt _ _ _ l3]; exact x4
  have y5 : ∀ o, (w.alloc o).cell? ⟨g4, o4, none⟩ = some (.int .i64 0) := fun o => by rw [World.cell?_alloc_lt _ _ _ l4]; exact x5
  have s1 : ∀ o, (w.alloc o).heap.size = w.heap.size + 1 := fun o => World.size_alloc _ _
  have al : ∀ (W : World) (o : Obj) (g k : Nat), g < W.heap.size → (W.alloc o).cell? ⟨g, k, none⟩ = W.cell? ⟨g, k, none⟩ := fun W o g k h => World.cell?_alloc_lt _ _ _ h
  have z1 : ∀ o p, ((w.alloc o).alloc p).cell? ⟨g1, 0, none⟩ = some (.bool false) := fun o p => (al _ _ _ _ (by rw [s1]; omega)).trans (y1 o)
  have z2 : ∀ o p, ((w.alloc o).alloc p).cell? ⟨g2, 0, none⟩ = some (.slice none 0 0) := fun o p => (al _ _ _ _ (by rw [s1]; omega)).trans (y2' o)
  have z5 : ∀ o p, ((w.alloc o).alloc p).cell? ⟨g4, o4, none⟩ = some (.int .i64 0) := fun o p => (al _ _ _ _ (by rw [s1]; omega)).trans (y5 o)
  have d1 : ∀ o p, ((w.alloc o).alloc p).drew.cell? ⟨g1, 0, none⟩ = some (.bool false) := z1
  have d2 : ∀ o p, ((w.alloc o).alloc p).drew.cell? ⟨g2, 0, none⟩ = some (.slice none 0 0) := z2
  have d5 : ∀ o p, ((w.alloc o).alloc p).drew.cell? ⟨g4, o4, none⟩ = some (.int .i64 0) := z5
  have s2 : ∀ o p, ((w.alloc o).alloc p).heap.size = w.heap.size + 2 := fun o p => by rw [World.size_alloc, s1]
  have s3 : ∀ o p q, (((w.alloc o).alloc p).alloc q).heap.size = w.heap.size + 3 := fun o p q => by rw [World.size_alloc, s2]
  have pu : ∀ (W : World) (o : Obj) (g : Nat), g < W.heap.size → (W.alloc o).heap[g]? = W.heap[g]? := fun W o g h => by show (W.heap.push o)[g]? = _; rw [Array.getElem?_push, if_neg (by omega)]
  have q0 : ∀ g, g < w.heap.size → ∀ o p q, (((w.alloc o).alloc p).alloc q).heap[g]? = w.heap[g]? := fun g hg o p q => (pu _ _ _ (by rw [s2]; omega)).trans ((pu _ _ _ (by rw [s1]; omega)).trans (pu _ _ _ hg))
  have q2 : ∀ o p q, (((w.alloc o).alloc p).alloc q).heap[g2]? = some (.cells #[.slice none 0 0] 82 (0, 0)) := fun o p q => (q0 g2 l2 o p q).trans x2
  have r2 : ∀ o p q, g2 < (((w.alloc o).alloc p).alloc q).heap.size := fun o p q => by rw [s3]; omega
  have t2 : ∀ o p q, (((w.alloc o).alloc p).alloc q).cell? ⟨g2, 0, none⟩ = some (.slice none 0 0) := fun o p q => (al _ _ _ _ (by rw [s2]; omega)).trans (z2 o p)
  have t2' : ∀ o p q, (((w.alloc o).alloc p).alloc q).drew.cell? ⟨g2, 0, none⟩ = some (.slice none 0 0) := t2
  have r6 : ∀ o p q, w.heap.size < (((w.alloc o).alloc p).alloc q).heap.size := fun o p q => by rw [s3]; omega
  have n6 : ∀ (cs : Array Value) (t : TypeId) (j : Nat), (w.alloc (.cells cs t (0, 0))).cell? ⟨w.heap.size, j, none⟩ = cs[j]? := fun cs t j => cell_of_row _ w.heap.size j cs t (0, 0) (heap_alloc_new w _)
  have f6 : ∀ p q, (((w.alloc (.cells #[.slice (some ⟨g1, 0, none⟩) 1 c1, .slice (some ⟨g2, 0, none⟩) 1 c2] 80 (0, 0))).alloc p).alloc q).cell? ⟨w.heap.size, 1, none⟩ = some (.slice (some ⟨g2, 0, none⟩) 1 c2) := fun p q => (al _ _ _ _ (by rw [s2]; omega)).trans ((al _ _ _ _ (by rw [s1]; omega)).trans (n6 _ _ _))
  have f7 : ∀ o p (j : Nat) (u : Value), [Value.int .i64 0, Value.slice (some ⟨g4, o4, none⟩) 1 c4][j]? = some u → (((w.alloc o).alloc p).alloc (.cells #[.int .i64 0, .slice (some ⟨g4, o4, none⟩) 1 c4] 96 (0, 0))).cell? ((⟨w.heap.size + 2, 0, none⟩ : Addr).add j) = some u := fun o p j u hj => by
    have h1 := heap_alloc_new ((w.alloc o).alloc p) (.cells #[.int .i64 0, .slice (some ⟨g4, o4, none⟩) 1 c4] 96 (0, 0))
    rw [s2] at h1
    have h2 := cell_of_row _ (w.heap.size + 2) j _ 96 (0, 0) h1
    show _ = some u
    rw [show ((⟨w.heap.size + 2, 0, none⟩ : Addr).add j) = ⟨w.heap.size + 2, j, none⟩ from by simp [Addr.add]; intro h; exact h.symm, h2]
    rw [← hj]
    simp
  have hX0 : ((w.alloc (.cells #[.slice (some ⟨g1, 0, none⟩) 1 c1, .slice (some ⟨g2, 0, none⟩) 1 c2] 80 (0, 0))).alloc (.cells #[.int .i64 0, .slice (some ⟨g4, o4, none⟩) 1 c4] 96 (0, 0))).heap[w.heap.size]? = some (.cells #[.slice (some ⟨g1, 0, none⟩) 1 c1, .slice (some ⟨g2, 0, none⟩) 1 c2] 80 (0, 0)) := (pu _ _ _ (by rw [s1]; omega)).trans (heap_alloc_new w _)
  have hX1 : ((w.alloc (.cells #[.slice (some ⟨g1, 0, none⟩) 1 c1, .slice (some ⟨g2, 0, none⟩) 1 c2] 80 (0, 0))).alloc (.cells #[.int .i64 0, .slice (some ⟨g4, o4, none⟩) 1 c4] 96 (0, 0))).heap[w.heap.size + 1]? = some (.cells #[.int .i64 0, .slice (some ⟨g4, o4, none⟩) 1 c4] 96 (0, 0)) := by
    have h := heap_alloc_new (w.alloc (.cells #[.slice (some ⟨g1, 0, none⟩) 1 c1, .slice (some ⟨g2, 0, none⟩) 1 c2] 80 (0, 0))) (.cells #[.int .i64 0, .slice (some ⟨g4, o4, none⟩) 1 c4] 96 (0, 0))
    rwa [s1] at h
  have K0 : ((w.alloc (.cells #[.slice (some ⟨g1, 0, none⟩) 1 c1, .slice (some ⟨g2, 0, none⟩) 1 c2] 80 (0, 0))).alloc (.cells #[.int .i64 0, .slice (some ⟨g4, o4, none⟩) 1 c4] 96 (0, 0))).cell? ⟨w.heap.size, 1, none⟩ = some (.slice (some ⟨g2, 0, none⟩) 1 c2) ∧ ((w.alloc (.cells #[.slice (some ⟨g1, 0, none⟩) 1 c1, .slice (some ⟨g2, 0, none⟩) 1 c2] 80 (0, 0))).alloc (.cells #[.int .i64 0, .slice (some ⟨g4, o4, none⟩) 1 c4] 96 (0, 0))).cell? ⟨w.heap.size + 1, 0, none⟩ = some (.int .i64 0) ∧ ((w.alloc (.cells #[.slice (some ⟨g1, 0, none⟩) 1 c1, .slice (some ⟨g2, 0, none⟩) 1 c2] 80 (0, 0))).alloc (.cells #[.int .i64 0, .slice (some ⟨g4, o4, none⟩) 1 c4] 96 (0, 0))).cell? ⟨w.heap.size + 1, 1, none⟩ = some (.slice (some ⟨g4, o4, none⟩) 1 c4) := ⟨cell_of_row _ _ 1 _ _ _ hX0, cell_of_row _ _ 0 _ _ _ hX1, cell_of_row _ _ 1 _ _ _ hX1⟩
  have K0' : ((w.alloc (.cells #[.slice (some ⟨g1, 0, none⟩) 1 c1, .slice (some ⟨g2, 0, none⟩) 1 c2] 80 (0, 0))).alloc (.cells #[.int .i64 0, .slice (some ⟨g4, o4, none⟩) 1 c4] 96 (0, 0))).drew.cell? ⟨w.heap.size, 1, none⟩ = some (.slice (some ⟨g2, 0, none⟩) 1 c2) ∧ ((w.alloc (.cells #[.slice (some ⟨g1, 0, none⟩) 1 c1, .slice (some ⟨g2, 0, none⟩) 1 c2] 80 (0, 0))).alloc (.cells #[.int .i64 0, .slice (some ⟨g4, o4, none⟩) 1 c4] 96 (0, 0))).drew.cell? ⟨w.heap.size + 1, 0, none⟩ = some (.int .i64 0) ∧ ((w.alloc (.cells #[.slice (some ⟨g1, 0, none⟩) 1 c1, .slice (some ⟨g2, 0, none⟩) 1 c2] 80 (0, 0))).alloc (.cells #[.int .i64 0, .slice (some ⟨g4, o4, none⟩) 1 c4] 96 (0, 0))).drew.cell? ⟨w.heap.size + 1, 1, none⟩ = some (.slice (some ⟨g4, o4, none⟩) 1 c4) := K0
  have K1 : ∀ q, (((w.alloc (.cells #[.slice (some ⟨g1, 0, none⟩) 1 c1, .slice (some ⟨g2, 0, none⟩) 1 c2] 80 (0, 0))).alloc (.cells #[.int .i64 0, .slice (some ⟨g4, o4, none⟩) 1 c4] 96 (0, 0))).alloc q).cell? ⟨w.heap.size, 1, none⟩ = some (.slice (some ⟨g2, 0, none⟩) 1 c2) ∧ (((w.alloc (.cells #[.slice (some ⟨g1, 0, none⟩) 1 c1, .slice (some ⟨g2, 0, none⟩) 1 c2] 80 (0, 0))).alloc (.cells #[.int .i64 0, .slice (some ⟨g4, o4, none⟩) 1 c4] 96 (0, 0))).alloc q).cell? ⟨w.heap.size + 1, 0, none⟩ = some (.int .i64 0) ∧ (((w.alloc (.cells #[.slice (some ⟨g1, 0, none⟩) 1 c1, .slice (some ⟨g2, 0, none⟩) 1 c2] 80 (0, 0))).alloc (.cells #[.int .i64 0, .slice (some ⟨g4, o4, none⟩) 1 c4] 96 (0, 0))).alloc q).cell? ⟨w.heap.size + 1, 1, none⟩ = some (.slice (some ⟨g4, o4, none⟩) 1 c4) := fun q => ⟨(al _ _ _ _ (by rw [s2]; omega)).trans K0.1, (al _ _ _ _ (by rw [s2]; omega)).trans K0.2.1, (al _ _ _ _ (by rw [s2]; omega)).trans K0.2.2⟩
  have K1' : ∀ q, (((w.alloc (.cells #[.slice (some ⟨g1, 0, none⟩) 1 c1, .slice (some ⟨g2, 0, none⟩) 1 c2] 80 (0, 0))).alloc (.cells #[.int .i64 0, .slice (some ⟨g4, o4, none⟩) 1 c4] 96 (0, 0))).drew.alloc q).cell? ⟨w.heap.size, 1, none⟩ = some (.slice (some ⟨g2, 0, none⟩) 1 c2) ∧ (((w.alloc (.cells #[.slice (some ⟨g1, 0, none⟩) 1 c1, .slice (some ⟨g2, 0, none⟩) 1 c2] 80 (0, 0))).alloc (.cells #[.int .i64 0, .slice (some ⟨g4, o4, none⟩) 1 c4] 96 (0, 0))).drew.alloc q).cell? ⟨w.heap.size + 1, 0, none⟩ = some (.int .i64 0) ∧ (((w.alloc (.cells #[.slice (some ⟨g1, 0, none⟩) 1 c1, .slice (some ⟨g2, 0, none⟩) 1 c2] 80 (0, 0))).alloc (.cells #[.int .i64 0, .slice (some ⟨g4, o4, none⟩) 1 c4] 96 (0, 0))).drew.alloc q).cell? ⟨w.heap.size + 1, 1, none⟩ = some (.slice (some ⟨g4, o4, none⟩) 1 c4) := K1
  have K2 : ∀ q w', (((w.alloc (.cells #[.slice (some ⟨g1, 0, none⟩) 1 c1, .slice (some ⟨g2, 0, none⟩) 1 c2] 80 (0, 0))).alloc (.cells #[.int .i64 0, .slice (some ⟨g4, o4, none⟩) 1 c4] 96 (0, 0))).alloc q).drew.grownBy w' none → w'.cell? ⟨w.heap.size, 1, none⟩ = some (.slice (some ⟨g2, 0, none⟩) 1 c2) ∧ w'.cell? ⟨w.heap.size + 1, 0, none⟩ = some (.int .i64 0) ∧ w'.cell? ⟨w.heap.size + 1, 1, none⟩ = some (.slice (some ⟨g4, o4, none⟩) 1 c4) := fun q w' hg => ⟨(World.cell?_of_block (hg.block w.heap.size (by show _ < (((w.alloc (.cells #[.slice (some ⟨g1, 0, none⟩) 1 c1, .slice (some ⟨g2, 0, none⟩) 1 c2] 80 (0, 0))).alloc (.cells #[.int .i64 0, .slice (some ⟨g4, o4, none⟩) 1 c4] 96 (0, 0))).alloc q).heap.size; rw [s3]; omega) (by simp))).trans (K1 q).1, (World.cell?_of_block (hg.block (w.heap.size + 1) (by show _ < (((w.alloc (.cells #[.slice (some ⟨g1, 0, none⟩) 1 c1, .slice (some ⟨g2, 0, none⟩) 1 c2] 80 (0, 0))).alloc (.cells #[.int .i64 0, .slice (some ⟨g4, o4, none⟩) 1 c4] 96 (0, 0))).alloc q).heap.size; rw [s3]; omega) (by simp))).trans (K1 q).2.1, (World.cell?_of_block (hg.block (w.heap.size + 1) (by show _ < (((w.alloc (.cells #[.slice (some ⟨g1, 0, none⟩) 1 c1, .slice (some ⟨g2, 0, none⟩) 1 c2] 80 (0, 0))).alloc (.cells #[.int .i64 0, .slice (some ⟨g4, o4, none⟩) 1 c4] 96 (0, 0))).alloc q).heap.size; rw [s3]; omega) (by simp))).trans (K1 q).2.2⟩
  have K3 : ∀ (W : World) v, W.cell? ⟨w.heap.size, 1, none⟩ = some (.slice (some ⟨g2, 0, none⟩) 1 c2) ∧ W.cell? ⟨w.heap.size + 1, 0, none⟩ = some (.int .i64 0) ∧ W.cell? ⟨w.heap.size + 1, 1, none⟩ = some (.slice (some ⟨g4, o4, none⟩) 1 c4) → (W.setCell ⟨g2, 0, none⟩ v).cell? ⟨w.heap.size, 1, none⟩ = some (.slice (some ⟨g2, 0, none⟩) 1 c2) ∧ (W.setCell ⟨g2, 0, none⟩ v).cell? ⟨w.heap.size + 1, 0, none⟩ = some (.int .i64 0) ∧ (W.setCell ⟨g2, 0, none⟩ v).cell? ⟨w.heap.size + 1, 1, none⟩ = some (.slice (some ⟨g4, o4, none⟩) 1 c4) := fun W v h => ⟨(World.cell?_setCell_other _ _ _ _ (fun e => Nat.ne_of_lt l2 (congrArg Addr.block e))).trans h.1, (World.cell?_setCell_other _ _ _ _ (fun e => Nat.ne_of_lt (Nat.lt_succ_of_lt l2) (congrArg Addr.block e))).trans h.2.1, (World.cell?_setCell_other _ _ _ _ (fun e => Nat.ne_of_lt (Nat.lt_succ_of_lt l2) (congrArg Addr.block e))).trans h.2.2⟩
  obtain ⟨ti, tz, hi0, hz0, hs0, hb0, hc0⟩ := i96
  have bK : ∀ o p q w', (((w.alloc o).alloc p).alloc q).drew.grownBy w' none → Below w.heap.size w w' := fun o p q w' hg => Below.grown (row := none) ((((Below.refl _ w).alloc (Nat.le_refl _) o).alloc (by rw [s1]; omega) p).alloc (by rw [s2]; omega) q).drew hg (by show _ ≤ (((w.alloc o).alloc p).alloc q).heap.size; rw [s3]; omega) (fun k hk => by cases hk)
  have kS : ∀ w' v, Below w.heap.size w w' → Keeps1 g2 w (w'.setCell ⟨g2, 0, none⟩ v) := fun w' v h => ⟨h.os, h.tape, h.output, by rw [World.size_setCell]; exact h.size, fun k hk hn => (Below.heap_setCell _ _ _ _ (by simpa using hn)).trans (h.block k hk)⟩
  go_enter Try.func36, Try.ntmps36
  go_wp2_with fail
  refine wp_loop_rounds 2 ?_
  rw [rounds_succ]
  go_wp2_with fail
  refine wp_scope_straight ?_
  go_wp2_with fail
  refine wp_label ?_
  go_wp2_with fail
  refine wp_loop_rounds 2 ?_
  rw [rounds_succ]
  go_wp2_with fail
  refine wp_loop_rounds 2 ?_
  rw [rounds_succ]
  go_wp2_with fail
  refine cut (Mid36 g2 w) ?_ ?_
  · refine wp_region_held_drew (S := (fun W => W.cell? ⟨w.heap.size, 1, none⟩ = some (.slice (some ⟨g2, 0, none⟩) 1 c2) ∧ W.cell? ⟨w.heap.size + 1, 0, none⟩ = some (.int .i64 0) ∧ W.cell? ⟨w.heap.size + 1, 1, none⟩ = some (.slice (some ⟨g4, o4, none⟩) 1 c4))) (by kernel_rfl) ?_ (fun hHeld => ?_)
    · ((try dsimp only); (first | exact K0' | exact K1' _ | exact K1 _ | assumption | exact K2 _ _ (by assumption) | exact K3 _ _ (by assumption)))
    refine wpAnyH_take (i := 0) (v := ?_) rfl (by kernel_rfl) (by kernel_rfl) (by kernel_rfl) (fun _ _ _ h => h) (Or.inl ⟨by rfl, ?_⟩) (by assumption) ?_
    rotate_left
    · (intro w hSw; (try dsimp only at hSw); first | (go_simp; done) | (go_simp; with_reducible rfl))
    (try simp only [Act.put, List.getElem_toArray, List.getElem_cons_zero, List.getElem_cons_succ, List.setIfInBounds_toArray, List.set_cons_zero, List.set_cons_succ])
    refine wpAnyH_take (i := 1) (v := ?_) rfl (by kernel_rfl) (by kernel_rfl) (by kernel_rfl) (fun _ _ _ h => h) (Or.inl ⟨by rfl, ?_⟩) (by assumption) ?_
    rotate_left
    · (intro w hSw; (try dsimp only at hSw); first | (go_simp; done) | (go_simp; with_reducible rfl))
    (try simp only [Act.put, List.getElem_toArray, List.getElem_cons_zero, List.getElem_cons_succ, List.setIfInBounds_toArray, List.set_cons_zero, List.set_cons_succ])
    refine wpAnyH_take (i := 2) (v := ?_) rfl (by kernel_rfl) (by kernel_rfl) (by kernel_rfl) (fun _ _ _ h => h) (Or.inl ⟨by rfl, ?_⟩) (by assumption) ?_
    rotate_left
    · (intro w hSw; (try dsimp only at hSw); first | (go_simp; done) | (go_simp; with_reducible rfl))
    (try simp only [Act.put, List.getElem_toArray, List.getElem_cons_zero, List.getElem_cons_succ, List.setIfInBounds_toArray, List.set_cons_zero, List.set_cons_succ])
    refine wpAnyH_take (i := 3) (v := ?_) rfl (by kernel_rfl) (by kernel_rfl) (by kernel_rfl) (fun _ _ _ h => h) (Or.inl ⟨by rfl, ?_⟩) (by assumption) ?_
    rotate_left
    · (intro w hSw; (try dsimp only at hSw); first | (go_simp; done) | (go_simp; with_reducible rfl))
    (try simp only [Act.put, List.getElem_toArray, List.getElem_cons_zero, List.getElem_cons_succ, List.setIfInBounds_toArray, List.set_cons_zero, List.set_cons_succ])
    refine wpAnyH_take (i := 4) (v := ?_) rfl (by kernel_rfl) (by kernel_rfl) (by kernel_rfl) (fun _ _ _ h => h) (Or.inl ⟨by rfl, ?_⟩) (by assumption) ?_
    rotate_left
    · (intro w hSw; (try dsimp only at hSw); first | (go_simp; done) | (go_simp; with_reducible rfl))
    (try simp only [Act.put, List.getElem_toArray, List.getElem_cons_zero, List.getElem_cons_succ, List.setIfInBounds_toArray, List.set_cons_zero, List.set_cons_succ])
    refine wpAnyH_take (i := 5) (v := ?_) rfl (by kernel_rfl) (by kernel_rfl) (by kernel_rfl) (fun _ _ _ h => h) (Or.inl ⟨by rfl, ?_⟩) (by assumption) ?_
    rotate_left
    · (intro w hSw; (try dsimp only at hSw); first | (go_simp; done) | (go_simp; with_reducible rfl))
    (try simp only [Act.put, List.getElem_toArray, List.getElem_cons_zero, List.getElem_cons_succ, List.setIfInBounds_toArray, List.set_cons_zero, List.set_cons_succ])
    refine wpAnyH_take (i := 6) (v := ?_) rfl (by kernel_rfl) (by kernel_rfl) (by kernel_rfl) (fun _ _ _ h => h) (Or.inl ⟨by rfl, ?_⟩) (by assumption) ?_
    rotate_left
    · (intro w hSw; (try dsimp only at hSw); first | (go_simp; done) | (go_simp; with_reducible rfl))
    (try simp only [Act.put, List.getElem_toArray, List.getElem_cons_zero, List.getElem_cons_succ, List.setIfInBounds_toArray, List.set_cons_zero, List.set_cons_succ])
    refine wpAnyH_take (i := 8) (v := ?_) rfl (by kernel_rfl) (by kernel_rfl) (by kernel_rfl) (fun _ _ _ h => h) (Or.inl ⟨by rfl, ?_⟩) (by assumption) ?_
    rotate_left
    · (intro w hSw; (try dsimp only at hSw); first | (go_simp; done) | (go_simp; with_reducible rfl))
    (try simp only [Act.put, List.getElem_toArray, List.getElem_cons_zero, List.getElem_cons_succ, List.setIfInBounds_toArray, List.set_cons_zero, List.set_cons_succ])
    refine wpAnyH_take (i := 9) (v := ?_) rfl (by kernel_rfl) (by kernel_rfl) (by kernel_rfl) (fun _ _ _ h => h) (Or.inl ⟨by rfl, ?_⟩) (by assumption) ?_
    rotate_left
    · (intro w hSw; (try dsimp only at hSw); first | (go_simp; done) | (go_simp; with_reducible rfl))
    (try simp only [Act.put, List.getElem_toArray, List.getElem_cons_zero, List.getElem_cons_succ, List.setIfInBounds_toArray, List.set_cons_zero, List.set_cons_succ])
    refine wpAnyH_take (i := 10) (v := ?_) rfl (by kernel_rfl) (by kernel_rfl) (by kernel_rfl) (fun _ _ _ h => h) (Or.inl ⟨by rfl, ?_⟩) (by assumption) ?_
    rotate_left
    · (intro w hSw; (try dsimp only at hSw); first | (go_simp; done) | (go_simp; with_reducible rfl))
    (try simp only [Act.put, List.getElem_toArray, List.getElem_cons_zero, List.getElem_cons_succ, List.setIfInBounds_toArray, List.set_cons_zero, List.set_cons_succ])
    refine wpAnyH_take (i := 11) (v := ?_) rfl (by kernel_rfl) (by kernel_rfl) (by kernel_rfl) (fun _ _ _ h => h) (Or.inl ⟨by rfl, ?_⟩) (by assumption) ?_
    rotate_left
    · (intro w hSw; (try dsimp only at hSw); first | (go_simp; done) | (go_simp; with_reducible rfl))
    (try simp only [Act.put, List.getElem_toArray, List.getElem_cons_zero, List.getElem_cons_succ, List.setIfInBounds_toArray, List.set_cons_zero, List.set_cons_succ])
    refine wpAnyH_take (i := 12) (v := ?_) rfl (by kernel_rfl) (by kernel_rfl) (by kernel_rfl) (fun _ _ _ h => h) (Or.inl ⟨by rfl, ?_⟩) (by assumption) ?_
    rotate_left
    · (intro w hSw; (try dsimp only at hSw); first | (go_simp; done) | (go_simp; with_reducible rfl))
    (try simp only [Act.put, List.getElem_toArray, List.getElem_cons_zero, List.getElem_cons_succ, List.setIfInBounds_toArray, List.set_cons_zero, List.set_cons_succ])
    refine wpAnyH_take (i := 13) (v := ?_) rfl (by kernel_rfl) (by kernel_rfl) (by kernel_rfl) (fun _ _ _ h => h) (Or.inl ⟨by rfl, ?_⟩) (by assumption) ?_
    rotate_left
    · (intro w hSw; (try dsimp only at hSw); first | (go_simp; done) | (go_simp; with_reducible rfl))
    (try simp only [Act.put, List.getElem_toArray, List.getElem_cons_zero, List.getElem_cons_succ, List.setIfInBounds_toArray, List.set_cons_zero, List.set_cons_succ])
    refine wpAnyH_take (i := 14) (v := ?_) rfl (by kernel_rfl) (by kernel_rfl) (by kernel_rfl) (fun _ _ _ h => h) (Or.inl ⟨by rfl, ?_⟩) (by assumption) ?_
    rotate_left
    · (intro w hSw; (try dsimp only at hSw); first | (go_simp; done) | (go_simp; with_reducible rfl))
    (try simp only [Act.put, List.getElem_toArray, List.getElem_cons_zero, List.getElem_cons_succ, List.setIfInBounds_toArray, List.set_cons_zero, List.set_cons_succ])
    refine wpAnyH_ready (rs := [7, 15]) (by kernel_rfl) (by simp) ?_
    refine AllReadyH.cons rfl (fun K hK => ?_) ?_
    · go_simp
      refine hK.out _ _ ?_ (fun hHeld => ?_)
      · ((try dsimp only); (first | exact K0' | exact K1' _ | exact K1 _ | assumption | exact K2 _ _ (by assumption) | exact K3 _ _ (by assumption)))
      clear hK K
      (try simp only [Act.put, List.getElem_toArray, List.getElem_cons_zero, List.getElem_cons_succ, List.setIfInBounds_toArray, List.set_cons_zero, List.set_cons_succ])
      refine wpAnyH_ready (rs := [15]) (by kernel_rfl) (by simp) ?_
      refine AllReadyH.cons rfl (fun K hK => ?_) ?_
      · go_simp
        refine hK.out _ _ ?_ (fun hHeld => ?_)
        · ((try dsimp only); (first | exact K0' | exact K1' _ | exact K1 _ | assumption | exact K2 _ _ (by assumption) | exact K3 _ _ (by assumption)))
        clear hK K
        (try simp only [Act.put, List.getElem_toArray, List.getElem_cons_zero, List.getElem_cons_succ, List.setIfInBounds_toArray, List.set_cons_zero, List.set_cons_succ])
        refine wpAnyH_ready (rs := [16]) (by kernel_rfl) (by simp) ?_
        refine AllReadyH.cons rfl (fun K hK => ?_) ?_
        · (refine step_append_grows rfl (.tmp 39) (.tmp 47) 82 rfl 96 ti tz 2 32 u82 hi0 hz0 hs0 hb0 hc0 (by decide) none 0 0 [] (by simp [Act.eval, Act.put]) (fun _ => ⟨rfl, rfl⟩) rfl (fun b hb => by cases hb) ⟨w.heap.size + 2, 0, none⟩ 1 1 [.int .i64 0, .slice (some ⟨g4, o4, none⟩) 1 c4] (by simp [Act.eval, Act.put]) rfl (f7 _ _) (by simp [Value.oneCell']) (by decide) (by decide) (by decide) ?_; intro v' w' hown hgrow; have B := bK _ _ _ _ hgrow; obtain ⟨g, cap, hv⟩ := Joins.ownsRow_form hown (by decide); subst hv; have e2 : w'.heap[g2]? = some (.cells #[.slice none 0 0] 82 (0, 0)) := (hgrow.block g2 (r2 _ _ _) (by simp)).trans (q2 _ _ _); have e3 : w'.cell? ⟨g2, 0, none⟩ = some (.slice none 0 0) := (by simp [World.cell?, e2]); have e4 : w'.frozen? ⟨g2, 0, none⟩ = false := (by simp [World.frozen?, e2]); have e6 : w'.cell? ⟨w.heap.size, 1, none⟩ = some (.slice (some ⟨g2, 0, none⟩) 1 c2) := (World.cell?_of_block (hgrow.block w.heap.size (r6 _ _ _) (by simp))).trans (f6 _ _))
          refine hK.out _ _ ?_ (fun hHeld => ?_)
          · ((try dsimp only); (first | exact K0' | exact K1' _ | exact K1 _ | assumption | exact K2 _ _ (by assumption) | exact K3 _ _ (by assumption)))
          clear hK K
          (try simp only [Act.put, List.getElem_toArray, List.getElem_cons_zero, List.getElem_cons_succ, List.setIfInBounds_toArray, List.set_cons_zero, List.set_cons_succ])
          refine wpAnyH_take (i := 17) (v := ?_) rfl (by kernel_rfl) (by kernel_rfl) (by kernel_rfl) (fun _ _ _ h => h) (Or.inl ⟨by rfl, ?_⟩) (by assumption) ?_
          rotate_left
          · (intro w hSw; (try dsimp only at hSw); first | (go_simp; done) | (go_simp; with_reducible rfl))
          (try simp only [Act.put, List.getElem_toArray, List.getElem_cons_zero, List.getElem_cons_succ, List.setIfInBounds_toArray, List.set_cons_zero, List.set_cons_succ])
          refine wpAnyH_ready (rs := [18]) (by kernel_rfl) (by simp) ?_
          refine AllReadyH.cons rfl (fun K hK => ?_) ?_
          · go_simp
            refine hK.out _ _ ?_ (fun hHeld => ?_)
            · ((try dsimp only); (first | exact K0' | exact K1' _ | exact K1 _ | assumption | exact K2 _ _ (by assumption) | exact K3 _ _ (by assumption)))
            clear hK K
            (try simp only [Act.put, List.getElem_toArray, List.getElem_cons_zero, List.getElem_cons_succ, List.setIfInBounds_toArray, List.set_cons_zero, List.set_cons_succ])
            refine wpAnyH_done (by kernel_rfl) ?_ _
            show Mid36 g2 w _ _
            unfold Mid36
            exact ⟨_, _, _, _, _, _, _, _, _, _, _, _, _, _, _, _, _, _, _, _, _, _, _, _, _, _, _, _, _, _, _, _, _, _, _, _, _, _, _, _, _, _, _, _, _, _, _, _, _, _, _, _, _, _, _, _, _, _, _, _, _, _, _, _, _, _, _, _, _, _, rfl, kS _ _ B⟩
          exact AllReadyH.nil
        exact AllReadyH.nil
      exact AllReadyH.nil
    refine AllReadyH.cons rfl (fun K hK => ?_) ?_
    · go_simp
      refine hK.out _ _ ?_ (fun hHeld => ?_)
      · ((try dsimp only); (first | exact K0' | exact K1' _ | exact K1 _ | assumption | exact K2 _ _ (by assumption) | exact K3 _ _ (by assumption)))
      clear hK K
      (try simp only [Act.put, List.getElem_toArray, List.getElem_cons_zero, List.getElem_cons_succ, List.setIfInBounds_toArray, List.set_cons_zero, List.set_cons_succ])
      refine wpAnyH_ready (rs := [7]) (by kernel_rfl) (by simp) ?_
      refine AllReadyH.cons rfl (fun K hK => ?_) ?_
      · go_simp
        refine hK.out _ _ ?_ (fun hHeld => ?_)
        · ((try dsimp only); (first | exact K0' | exact K1' _ | exact K1 _ | assumption | exact K2 _ _ (by assumption) | exact K3 _ _ (by assumption)))
        clear hK K
        (try simp only [Act.put, List.getElem_toArray, List.getElem_cons_zero, List.getElem_cons_succ, List.setIfInBounds_toArray, List.set_cons_zero, List.set_cons_succ])
        refine wpAnyH_ready (rs := [16]) (by kernel_rfl) (by simp) ?_
        refine AllReadyH.cons rfl (fun K hK => ?_) ?_
        · (refine step_append_grows rfl (.tmp 39) (.tmp 47) 82 rfl 96 ti tz 2 32 u82 hi0 hz0 hs0 hb0 hc0 (by decide) none 0 0 [] (by simp [Act.eval, Act.put]) (fun _ => ⟨rfl, rfl⟩) rfl (fun b hb => by cases hb) ⟨w.heap.size + 2, 0, none⟩ 1 1 [.int .i64 0, .slice (some ⟨g4, o4, none⟩) 1 c4] (by simp [Act.eval, Act.put]) rfl (f7 _ _) (by simp [Value.oneCell']) (by decide) (by decide) (by decide) ?_; intro v' w' hown hgrow; have B := bK _ _ _ _ hgrow; obtain ⟨g, cap, hv⟩ := Joins.ownsRow_form hown (by decide); subst hv; have e2 : w'.heap[g2]? = some (.cells #[.slice none 0 0] 82 (0, 0)) := (hgrow.block g2 (r2 _ _ _) (by simp)).trans (q2 _ _ _); have e3 : w'.cell? ⟨g2, 0, none⟩ = some (.slice none 0 0) := (by simp [World.cell?, e2]); have e4 : w'.frozen? ⟨g2, 0, none⟩ = false := (by simp [World.frozen?, e2]); have e6 : w'.cell? ⟨w.heap.size, 1, none⟩ = some (.slice (some ⟨g2, 0, none⟩) 1 c2) := (World.cell?_of_block (hgrow.block w.heap.size (r6 _ _ _) (by simp))).trans (f6 _ _))
          refine hK.out _ _ ?_ (fun hHeld => ?_)
          · ((try dsimp only); (first | exact K0' | exact K1' _ | exact K1 _ | assumption | exact K2 _ _ (by assumption) | exact K3 _ _ (by assumption)))
          clear hK K
          (try simp only [Act.put, List.getElem_toArray, List.getElem_cons_zero, List.getElem_cons_succ, List.setIfInBounds_toArray, List.set_cons_zero, List.set_cons_succ])
          refine wpAnyH_take (i := 17) (v := ?_) rfl (by kernel_rfl) (by kernel_rfl) (by kernel_rfl) (fun _ _ _ h => h) (Or.inl ⟨by rfl, ?_⟩) (by assumption) ?_
          rotate_left
          · (intro w hSw; (try dsimp only at hSw); first | (go_simp; done) | (go_simp; with_reducible rfl))
          (try simp only [Act.put, List.getElem_toArray, List.getElem_cons_zero, List.getElem_cons_succ, List.setIfInBounds_toArray, List.set_cons_zero, List.set_cons_succ])
          refine wpAnyH_ready (rs := [18]) (by kernel_rfl) (by simp) ?_
          refine AllReadyH.cons rfl (fun K hK => ?_) ?_
          · go_simp
            refine hK.out _ _ ?_ (fun hHeld => ?_)
            · ((try dsimp only); (first | exact K0' | exact K1' _ | exact K1 _ | assumption | exact K2 _ _ (by assumption) | exact K3 _ _ (by assumption)))
            clear hK K
            (try simp only [Act.put, List.getElem_toArray, List.getElem_cons_zero, List.getElem_cons_succ, List.setIfInBounds_toArray, List.set_cons_zero, List.set_cons_succ])
            refine wpAnyH_done (by kernel_rfl) ?_ _
            show Mid36 g2 w _ _
            unfold Mid36
            exact ⟨_, _, _, _, _, _, _, _, _, _, _, _, _, _, _, _, _, _, _, _, _, _, _, _, _, _, _, _, _, _, _, _, _, _, _, _, _, _, _, _, _, _, _, _, _, _, _, _, _, _, _, _, _, _, _, _, _, _, _, _, _, _, _, _, _, _, _, _, _, _, rfl, kS _ _ B⟩
          exact AllReadyH.nil
        exact AllReadyH.nil
      exact AllReadyH.nil
    exact AllReadyH.nil
  · rintro a w2 ⟨x0, x1, x2, x3, x5, x6, x7, x8, x9, x10, x11, x12, x15, x16, x17, x18, x19, x20, x21, x22, x23, x24, x25, x26, x27, x28, x29, x30, x31, x32, x33, x34, x35, x36, x37, x38, x39, x40, x41, x42, x43, x44, x45, x46, x47, x48, x49, x50, x51, x52, x53, x54, x55, x56, x57, x58, x59, x60, x61, x62, x63, x64, x65, x66, x67, x68, x69, x70, x71, x72, rfl, hk⟩
    go_wp2_with fail
    rw [rounds_succ]
    go_wp2_with fail
    rw [noGotoN]
    go_wp2_with fail
    rw [rounds_succ]
    go_wp2_with fail
    refine bodyPost_end (results_none rfl _ _ _) rfl ?_
    exact ⟨rfl, hk⟩
end Go.Proofs.Ytgkagelejoknmaa.Deep
