/-
  Texts of one proof, in their order. No condition.
-/
import Derived.Recover
import Derived.Test.YtjhnmikciejekaaGreatPqPkf
set_option linter.unusedSectionVars false
set_option linter.unusedSimpArgs false
set_option linter.unusedVariables false
namespace Go.Proofs.YtjhnmikciejekaaGreat.Deep
open Go.RowKit Go.ChangeShapes Go.WideShapes Go.ChangeAt
set_option linter.unusedVariables false
set_option linter.unusedSimpArgs false
theorem ta_fault (v : Value) (w : World) : (Instr.typeAssert (.iface 40 v) 20 40 true).run Tryz.prog w = .ok (.tuple #[v, .bool true]) w := by kernel_rfl
structure Caught (w w' : World) (A B : Nat) (T : TypeId) (z : Array Value) (e li co : Int) : Prop where
  os : w'.os = w.os
  tape : w'.tape = w.tape
  output : w'.output = w.output
  size : w.heap.size ≤ w'.heap.size
  keep : ∀ k, k < w.heap.size → k ≠ A → k ≠ B → w'.heap[k]? = w.heap[k]?
  first : w'.heap[A]? = some (.cells z T (0, 0))
  second : w'.heap[B]? = some (.cells #[.int .i64 e, .int .i64 li, .int .i64 co] 40 (0, 0))
set_option maxRecDepth 100000 in
set_option maxHeartbeats 1000000 in
theorem idle_E (a b : Addr) (w : World) :
    CallsD Tryz.prog 70 #[.pointer (some a), .pointer (some b)] .returning w fun e u' w' => e = .returned (.tuple #[]) ∧ u' = .returning ∧ w' = w := by
  refine callsD_of_wpS Tryz.func70 rfl fun c₀ cs hu => ?_
  apply wpS_seq
  apply wpS_region
  simp [wpOpsS, go_sem, recoverD, hu, Tryz.ntmps70, Exit.thenS]
  refine wpS_of_wp ?_
  generalize hQ : (fun (e : Exit) (a' : Act) (w' : World) => bodyPostS Tryz.prog Tryz.f70 c₀ cs (fun e u' w' => e = Ending.returned (Value.tuple #[]) ∧ u' = FrameMode.returning ∧ w' = w) e a' (c₀ :: cs) w') = Q
  simp only [Array.replicate_succ, Array.replicate_zero, List.push_toArray, List.append_toArray, List.nil_append, List.cons_append, List.setIfInBounds_toArray, List.set_cons_zero, List.set_cons_succ]
  go_wp2
  try simp only [Exit.inBlock, Exit.then]
  subst hQ
  refine ⟨rfl, .returning, ?_, .tuple #[], ?_, rfl, rfl, rfl⟩
  · rw [← hu]
  · simp [results, Tryz.results70, go_sem]
set_option maxRecDepth 100000 in
set_option maxHeartbeats 4000000 in
theorem catch_E (A B : Nat) (x0 x1 x2 x3 x4 x5 x6 x7 y0 y1 y2 : Value) (e li co : Int) (w : World) (hA : w.heap[A]? = some (.cells #[x0, x1, x2, x3, x4, x5, x6, x7] 34 (0, 0))) (hB : w.heap[B]? = some (.cells #[y0, y1, y2] 40 (0, 0))) (hAB : A ≠ B) :
    CallsD Tryz.prog 70 #[.pointer (some ⟨A, 0, none⟩), .pointer (some ⟨B, 0, none⟩)] (.panicking [{ v := .iface 40 (.agg #[.int .i64 e, .int .i64 li, .int .i64 co]), recovered := false }]) w fun x u' w' =>
      x = .returned (.tuple #[]) ∧ u' = .panicking [{ v := .iface 40 (.agg #[.int .i64 e, .int .i64 li, .int .i64 co]), recovered := true }] ∧ Caught w w' A B 34 #[.int .i64 0, .int .i64 0, .int .i64 0, .int .i64 0, .slice none 0 0, .string ⟨#[]⟩, .slice none 0 0, .slice none 0 0] e li co := by
  refine callsD_of_wpS Tryz.func70 rfl fun c₀ cs hu => ?_
  apply wpS_seq
  apply wpS_region
  simp [wpOpsS, go_sem, recoverD, hu, Tryz.ntmps70, Exit.thenS]
  refine wpS_of_wp ?_
  generalize hc : ({ c₀ with mode := FrameMode.panicking [{ v := .iface 40 (.agg #[.int .i64 e, .int .i64 li, .int .i64 co]), recovered := true }] } : Frame) = c₁
  generalize hQ : (fun (e : Exit) (a' : Act) (w' : World) => bodyPostS _ _ c₀ cs _ e a' (c₁ :: cs) w') = Q
  simp only [Array.replicate_succ, Array.replicate_zero, List.push_toArray, List.append_toArray, List.nil_append, List.cons_append, List.setIfInBounds_toArray, List.set_cons_zero, List.set_cons_succ]
  have hta := ta_fault
  obtain ⟨f0, f1, f2, ff⟩ := three_cells (heap_alloc_new w (.cells #[.int .i64 0, .int .i64 0, .int .i64 0] 40))
  have hA' := Lib.hid hA
  have hB' := Lib.hid hB
  have hQ' := Lib.hid hQ
  have hc' := Lib.hid hc
  clear hA hB hQ hc
  go_wp2
  clear f0 f1 f2 ff
  have hAl : A < w.heap.size := (Array.getElem?_eq_some_iff.1 hA'.out).1
  have hBl : B < w.heap.size := (Array.getElem?_eq_some_iff.1 hB'.out).1
  have hbw : Below w.heap.size w ((w.alloc (.cells #[.int .i64 e, .int .i64 li, .int .i64 co] 40)).alloc (.cells #[.int .i64 0, .int .i64 0, .int .i64 0, .int .i64 0, .slice none 0 0, .string ⟨#[]⟩, .slice none 0 0, .slice none 0 0] 34)) := ((Below.refl _ _).alloc (Nat.le_refl _) _).alloc (by simp) _
  have hU : ((w.alloc (.cells #[.int .i64 e, .int .i64 li, .int .i64 co] 40)).alloc (.cells #[.int .i64 0, .int .i64 0, .int .i64 0, .int .i64 0, .slice none 0 0, .string ⟨#[]⟩, .slice none 0 0, .slice none 0 0] 34)).heap[w.heap.size]? = some (.cells #[.int .i64 e, .int .i64 li, .int .i64 co] 40 (0, 0)) := (Below.heap_alloc _ _ _ (by simp)).trans (heap_alloc_new w _)
  have hV : ((w.alloc (.cells #[.int .i64 e, .int .i64 li, .int .i64 co] 40)).alloc (.cells #[.int .i64 0, .int .i64 0, .int .i64 0, .int .i64 0, .slice none 0 0, .string ⟨#[]⟩, .slice none 0 0, .slice none 0 0] 34)).heap[w.heap.size + 1]? = some (.cells #[.int .i64 0, .int .i64 0, .int .i64 0, .int .i64 0, .slice none 0 0, .string ⟨#[]⟩, .slice none 0 0, .slice none 0 0] 34 (0, 0)) := by
    have := heap_alloc_new (w.alloc (.cells #[.int .i64 e, .int .i64 li, .int .i64 co] 40)) (.cells #[.int .i64 0, .int .i64 0, .int .i64 0, .int .i64 0, .slice none 0 0, .string ⟨#[]⟩, .slice none 0 0, .slice none 0 0] 34)
    rwa [World.size_alloc] at this
  generalize ((w.alloc (.cells #[.int .i64 e, .int .i64 li, .int .i64 co] 40)).alloc (.cells #[.int .i64 0, .int .i64 0, .int .i64 0, .int .i64 0, .slice none 0 0, .string ⟨#[]⟩, .slice none 0 0, .slice none 0 0] 34)) = W at hbw hU hV ⊢
  have hWA := (hbw.block A hAl).trans hA'.out
  have hWB := (hbw.block B hBl).trans hB'.out
  have a0 : W.cell? ⟨A, 0, none⟩ = some x0 := cell_of_row W A 0 _ _ (0, 0) hWA
  have a1 : W.cell? ⟨A, 1, none⟩ = some x1 := cell_of_row W A 1 _ _ (0, 0) hWA
  have a2 : W.cell? ⟨A, 2, none⟩ = some x2 := cell_of_row W A 2 _ _ (0, 0) hWA
  have a3 : W.cell? ⟨A, 3, none⟩ = some x3 := cell_of_row W A 3 _ _ (0, 0) hWA
  have a4 : W.cell? ⟨A, 4, none⟩ = some x4 := cell_of_row W A 4 _ _ (0, 0) hWA
  have a5 : W.cell? ⟨A, 5, none⟩ = some x5 := cell_of_row W A 5 _ _ (0, 0) hWA
  have a6 : W.cell? ⟨A, 6, none⟩ = some x6 := cell_of_row W A 6 _ _ (0, 0) hWA
  have a7 : W.cell? ⟨A, 7, none⟩ = some x7 := cell_of_row W A 7 _ _ (0, 0) hWA
  have v0 : W.cell? ⟨w.heap.size + 1, 0, none⟩ = some (.int .i64 0) := cell_of_row W _ 0 _ _ (0, 0) hV
  have v1 : W.cell? ⟨w.heap.size + 1, 1, none⟩ = some (.int .i64 0) := cell_of_row W _ 1 _ _ (0, 0) hV
  have v2 : W.cell? ⟨w.heap.size + 1, 2, none⟩ = some (.int .i64 0) := cell_of_row W _ 2 _ _ (0, 0) hV
  have v3 : W.cell? ⟨w.heap.size + 1, 3, none⟩ = some (.int .i64 0) := cell_of_row W _ 3 _ _ (0, 0) hV
  have v4 : W.cell? ⟨w.heap.size + 1, 4, none⟩ = some (.slice none 0 0) := cell_of_row W _ 4 _ _ (0, 0) hV
  have v5 : W.cell? ⟨w.heap.size + 1, 5, none⟩ = some (.string ⟨#[]⟩) := cell_of_row W _ 5 _ _ (0, 0) hV
  have v6 : W.cell? ⟨w.heap.size + 1, 6, none⟩ = some (.slice none 0 0) := cell_of_row W _ 6 _ _ (0, 0) hV
  have v7 : W.cell? ⟨w.heap.size + 1, 7, none⟩ = some (.slice none 0 0) := cell_of_row W _ 7 _ _ (0, 0) hV
  have b0 : W.cell? ⟨B, 0, none⟩ = some y0 := cell_of_row W B 0 _ _ (0, 0) hWB
  have u0 : W.cell? ⟨w.heap.size, 0, none⟩ = some (.int .i64 e) := cell_of_row W _ 0 _ _ (0, 0) hU
  have b1 : W.cell? ⟨B, 1, none⟩ = some y1 := cell_of_row W B 1 _ _ (0, 0) hWB
  have u1 : W.cell? ⟨w.heap.size, 1, none⟩ = some (.int .i64 li) := cell_of_row W _ 1 _ _ (0, 0) hU
  have b2 : W.cell? ⟨B, 2, none⟩ = some y2 := cell_of_row W B 2 _ _ (0, 0) hWB
  have u2 : W.cell? ⟨w.heap.size, 2, none⟩ = some (.int .i64 co) := cell_of_row W _ 2 _ _ (0, 0) hU
  have fzA : ∀ i, W.frozen? ⟨A, i, none⟩ = false := fun i => by simp [World.frozen?, hWA]
  have fzB : ∀ i, W.frozen? ⟨B, i, none⟩ = false := fun i => by simp [World.frozen?, hWB]
  have fzU : ∀ i, W.frozen? ⟨w.heap.size, i, none⟩ = false := fun i => by simp [World.frozen?, hU]
  have fzV : ∀ i, W.frozen? ⟨(w.heap.size + 1), i, none⟩ = false := fun i => by simp [World.frozen?, hV]
  have n1 : ¬ w.heap.size = A := by omega
  have n2 : ¬ w.heap.size = B := by omega
  have n3 : ¬ w.heap.size + 1 = A := by omega
  have n4 : ¬ w.heap.size + 1 = B := by omega
  have n5 : ¬ A = B := hAB
  have n6 : ¬ B = A := fun h => hAB h.symm
  have hWA' := Lib.hid hWA
  have hWB' := Lib.hid hWB
  clear hWA hWB hU hV
  go_region
  go_wp2
  have hQ := hQ'.out
  have hc := hc'.out
  clear hQ' hc'
  have hWA := hWA'.out
  have hWB := hWB'.out
  subst hQ
  unfold bodyPostS
  dsimp only
  refine ⟨rfl, .panicking [{ v := .iface 40 (.agg #[.int .i64 e, .int .i64 li, .int .i64 co]), recovered := true }], ?_, .tuple #[], ?_, rfl, rfl, ⟨?_, ?_, ?_, ?_, fun k hk h1 h2 => ?_, ?_, ?_⟩⟩
  · rw [← hc]
  · simp [results, Tryz.results70, go_sem]
  · simp only [World.drew, World.setCell]; exact hbw.os
  · simp only [World.drew, World.setCell]; exact hbw.tape
  · simp only [World.drew, World.setCell]; exact hbw.output
  · simp only [World.drew, World.setCell, Array.size_modify]; exact hbw.size
  · have m1 : ¬ A = k := fun h => h1 h.symm
    have m2 : ¬ B = k := fun h => h2 h.symm
    simp only [World.drew, World.setCell, Array.getElem?_modify, m1, m2, if_false]
    exact hbw.block k hk
  · simp [World.drew, World.setCell, Array.getElem?_modify, hWA, n6]
  · simp [World.drew, World.setCell, Array.getElem?_modify, hWB, n5]
end Go.Proofs.YtjhnmikciejekaaGreat.Deep
