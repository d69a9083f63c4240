/-
  Texts of one proof, in their order. No condition.
-/
import Derived.WalkKit
import Derived.ProofKit
import Derived.Deep.RegionWith
import Derived.BigRegion
import Derived.Laws.MakeOwn
import Derived.Test.YtgkagelejoknmaaTyZ1
namespace Go.Proofs.Ytgkagelejoknmaa.Deep
open Go.ChangeShapes Go.WideShapes Go.ChangeAt Go.RowKit Go.Proofs
set_option linter.unusedVariables false
set_option linter.unusedSimpArgs false
theorem u78 : Try.prog.underlying 78 = some (.slice 82) := by kernel_rfl
theorem i82 : ∃ i, Try.prog.info? 82 = some i ∧ i.zero = some (.slice none 0 0) ∧ i.size = 1 ∧ i.bytes = 24 := by
  have h : (match Try.prog.info? 82 with | some i => (match i.zero with | some (.slice none 0 0) => decide (i.size = 1 ∧ i.bytes = 24) | _ => false) | none => false) = true := by kernel_rfl
  split at h
  · rename_i i hi
    split at h
    · rename_i hz
      exact ⟨i, hi, hz, of_decide_eq_true h⟩
    · cases h
  · cases h
theorem make_one (W : World) : (Instr.makeSlice 78 (.int .i64 1) (.int .i64 1)).run Try.prog W = .ok (.slice (some ⟨W.heap.size, 0, none⟩) 1 1) (W.alloc (.cells #[.slice none 0 0] 82)) := by
  obtain ⟨i, hi, hz, hs, hb⟩ := i82
  have h := run_makeSlice (P := Try.prog) W 78 82 i (.slice none 0 0) u78 hi hz .i64 .i64 1 1 (by decide) (by decide) (by rw [hs]; decide) (by rw [hb]; decide) (by decide)
  rw [h, hs]
  have e : madeCells (Value.slice none 0 0).cells (Int.toNat 1 * 1) = #[.slice none 0 0] := by
    apply Array.ext
    · simp [madeCells]
    · intro i h1 h2
      obtain rfl : i = 0 := by simpa using h2
      simp [madeCells, Value.cells]
  rw [e]
  rfl
theorem row_facts (W : World) (g : Nat) (h : W.heap[g]? = some (.cells #[.slice none 0 0, .slice none 0 0] 80 (0, 0))) :
    W.cell? ⟨g, 0, none⟩ = some (.slice none 0 0) ∧ W.cell? ⟨g, 1, none⟩ = some (.slice none 0 0) ∧ (∀ v, (W.setCell ⟨g, 0, none⟩ v).cell? ⟨g, 1, none⟩ = some (.slice none 0 0)) ∧ (∀ k, W.frozen? ⟨g, k, none⟩ = false) := by
  refine ⟨cell_of_row _ _ 0 _ _ _ h, cell_of_row _ _ 1 _ _ _ h, fun v => (World.cell?_setCell_other _ _ _ _ (by simp)).trans (cell_of_row _ _ 1 _ _ _ h), fun k => by simp [World.frozen?, h]⟩
theorem row_facts' (W : World) (g : Nat) (h : W.heap[g]? = some (.cells #[.slice none 0 0, .slice none 0 0] 80 (0, 0))) (o : Obj) :
    (W.alloc o).cell? ⟨g, 0, none⟩ = some (.slice none 0 0) ∧ (W.alloc o).cell? ⟨g, 1, none⟩ = some (.slice none 0 0) ∧ (∀ v, ((W.alloc o).setCell ⟨g, 0, none⟩ v).cell? ⟨g, 1, none⟩ = some (.slice none 0 0)) ∧ (∀ k, (W.alloc o).frozen? ⟨g, k, none⟩ = false) := by
  apply row_facts
  show (W.heap.push o)[g]? = _
  obtain ⟨hlt, -⟩ := Array.getElem?_eq_some_iff.mp h
  rw [Array.getElem?_push, if_neg (by omega)]
  exact h
structure SF (w W : World) (G M g c : Nat) : Prop where
  agg : W.heap[G]? = some (.cells #[.slice (some ⟨g, 0, none⟩) 1 c, .slice (some ⟨M, 0, none⟩) 1 1] 80 (0, 0))
  mkr : W.heap[M]? = some (.cells #[.slice none 0 0] 82 (0, 0))
  row : W.cell? ⟨g, 0, none⟩ = some (.bool false)
  below : Below w.heap.size w W
  le : w.heap.size ≤ g ∧ w.heap.size ≤ G ∧ w.heap.size ≤ M
theorem lt_of_block {W : World} {g : Nat} {o : Obj} (h : W.heap[g]? = some o) : g < W.heap.size := (Array.getElem?_eq_some_iff.mp h).1
theorem lt_of_cell {W : World} {g k : Nat} {v : Value} (h : W.cell? ⟨g, k, none⟩ = some v) : g < W.heap.size := block_lt_of_cell h
theorem SF.cells {w W : World} {G M g c : Nat} (S : SF w W G M g c) : W.cell? ⟨G, 0, none⟩ = some (.slice (some ⟨g, 0, none⟩) 1 c) ∧ W.cell? ⟨G, 1, none⟩ = some (.slice (some ⟨M, 0, none⟩) 1 1) :=
  ⟨cell_of_row _ _ 0 _ _ _ S.agg, cell_of_row _ _ 1 _ _ _ S.agg⟩
theorem SF.drew {w W : World} {G M g c : Nat} (S : SF w W G M g c) : SF w W.drew G M g c := ⟨S.agg, S.mkr, S.row, S.below.drew, S.le⟩
theorem SF.neM {w W : World} {G M g c : Nat} (S : SF w W G M g c) : G ≠ M ∧ g ≠ M := by
  refine ⟨fun h => ?_, fun h => ?_⟩
  · have h1 := S.agg
    rw [h, S.mkr] at h1
    simp at h1
  · have h1 := S.row
    have h2 := cell_of_row _ M 0 _ _ _ S.mkr
    rw [h] at h1
    rw [h1] at h2
    simp at h2
theorem SF.keep {w W W' : World} {G M g c : Nat} (S : SF w W G M g c) (hb : Below W.heap.size W W') : SF w W' G M g c :=
  ⟨(hb.block _ (lt_of_block S.agg)).trans S.agg, (hb.block _ (lt_of_block S.mkr)).trans S.mkr, (hb.cell (p := ⟨g, 0, none⟩) (lt_of_cell S.row)).trans S.row, S.below.trans (hb.mono S.below.size), S.le⟩
theorem SF.done {w W W' : World} {G M g c : Nat} (S : SF w W G M g c) (h : Keeps1 M W W') : W'.cell? ⟨G, 0, none⟩ = some (.slice (some ⟨g, 0, none⟩) 1 c) ∧ W'.cell? ⟨g, 0, none⟩ = some (.bool false) ∧ Below w.heap.size w W' ∧ g < W'.heap.size := by
  obtain ⟨h1, h2, h3, h4, h5⟩ := h
  refine ⟨(World.cell?_of_block (a := ⟨G, 0, none⟩) (h5 G (lt_of_block S.agg) S.neM.1)).trans S.cells.1, (World.cell?_of_block (a := ⟨g, 0, none⟩) (h5 g (lt_of_cell S.row) S.neM.2)).trans S.row, S.below.trans ⟨h1, h2, h3, h4, fun k hk => ?_⟩, Nat.lt_of_lt_of_le (lt_of_cell S.row) h4⟩
  have := S.le.2.2
  exact h5 k (Nat.lt_of_lt_of_le hk S.below.size) (by omega)
theorem set_both (W : World) (G : Nat) (a b : Value) (t : TypeId) (u v : Value) (h : W.heap[G]? = some (.cells #[a, b] t (0, 0))) : ((W.setCell ⟨G, 0, none⟩ u).setCell ⟨G, 1, none⟩ v).heap[G]? = some (.cells #[u, v] t (0, 0)) := by
  have hlt := lt_of_block h
  simp [World.setCell, Array.getElem?_modify, h]
theorem st_set {w W : World} {G M g c : Nat} {a b : Value} (h : W.heap[G]? = some (.cells #[a, b] 80 (0, 0))) (hM : W.heap[M]? = some (.cells #[.slice none 0 0] 82 (0, 0))) (hr : W.cell? ⟨g, 0, none⟩ = some (.bool false)) (hb : Below w.heap.size w W) (hl : w.heap.size ≤ g ∧ w.heap.size ≤ G ∧ w.heap.size ≤ M) (hG : G ≠ g) :
    SF w ((W.setCell ⟨G, 0, none⟩ (.slice (some ⟨g, 0, none⟩) 1 c)).setCell ⟨G, 1, none⟩ (.slice (some ⟨M, 0, none⟩) 1 1)) G M g c := by
  have hne : M ≠ G := fun e => by
    rw [e, h] at hM
    simp at hM
  refine ⟨set_both _ _ _ _ _ _ _ h, ?_, ?_, (hb.setCell hl.2.1 _).setCell hl.2.1 _, hl⟩
  · rw [Below.heap_setCell _ _ _ _ hne, Below.heap_setCell _ _ _ _ hne]
    exact hM
  · rw [World.cell?_setCell_other _ _ _ _ (fun e => hG (congrArg Addr.block e)), World.cell?_setCell_other _ _ _ _ (fun e => hG (congrArg Addr.block e))]
    exact hr
theorem alloc_ne {W : World} {g : Nat} {o p : Obj} (h : W.heap[g]? = some p) : (W.alloc o).heap[g]? = some p := (Below.heap_alloc _ _ _ (lt_of_block h)).trans h
theorem alloc_cell {W : World} {g k : Nat} {o : Obj} {v : Value} (h : W.cell? ⟨g, k, none⟩ = some v) : (W.alloc o).cell? ⟨g, k, none⟩ = some v := (World.cell?_alloc_lt _ _ _ (lt_of_cell h)).trans h
theorem ne_of_row {W : World} {G g : Nat} (h : W.heap[G]? = some (.cells #[.slice none 0 0, .slice none 0 0] 80 (0, 0))) (hr : W.cell? ⟨g, 0, none⟩ = some (.bool false)) : G ≠ g := fun e => by
  have h2 := cell_of_row _ G 0 _ _ _ h
  rw [e, hr] at h2
  simp at h2
theorem with_st {P : Program} {cd : Code} {Q : Exit → Act → World → Prop} {a : Act} {w W : World} {G M g c : Nat} (S : SF w W G M g c) (k : SF w W G M g c → Code.wp P cd Q a W) : Code.wp P cd Q a W := k S
set_option maxRecDepth 100000 in
set_option maxHeartbeats 2000000 in
theorem full_raw (w : World) (v : Value) (A : Option Addr) (C : Nat) (hv : v = .slice A 1 C)
    (e34 : ∀ W, Below w.heap.size w W → Calls Try.prog 34 #[v, .func (.func 35) #[] #[]] W fun e W' => ∃ g c, e = .returned (.slice (some ⟨g, 0, none⟩) 1 c) ∧ 1 ≤ c ∧ c ≤ 9223372036854775807 ∧ w.heap.size ≤ g ∧ g < W'.heap.size ∧ W'.cell? ⟨g, 0, none⟩ = some (.bool false) ∧ Below W.heap.size W W')
    (e37 : ∀ W, Below w.heap.size w W → Calls Try.prog 37 #[v] W fun e W' => ∃ g c g4 o4 c4, e = .returned (.slice (some ⟨g, 0, none⟩) 1 c) ∧ 1 ≤ c ∧ c ≤ 9223372036854775807 ∧ W'.cell? ⟨g, 0, none⟩ = some (.int .i64 0) ∧ W'.cell? ⟨g, 1, none⟩ = some (.slice (some ⟨g4, o4, none⟩) 1 c4) ∧ W'.cell? ⟨g4, o4, none⟩ = some (.int .i64 0) ∧ 1 ≤ c4 ∧ c4 ≤ 9223372036854775807 ∧ Below W.heap.size W W') :
    Calls Try.prog 21 #[v] w fun e w' => ∃ g c, e = .returned (.slice (some ⟨g, 0, none⟩) 1 c) ∧ 1 ≤ c ∧ c ≤ 9223372036854775807 ∧ w.heap.size ≤ g ∧ g < w'.heap.size ∧ w'.cell? ⟨g, 0, none⟩ = some (.bool false) ∧ Below w.heap.size w w' := by
  subst hv
  have mk1 := make_one
  have zd : ∀ W : World, W.drew.heap.size = W.heap.size := fun _ => rfl
  have zs2 : ∀ o p, ((w.alloc o).alloc p).heap.size = w.heap.size + 2 := fun o p => by rw [World.size_alloc, World.size_alloc]
  have hp0 : ∀ o p, ((w.alloc o).alloc p).drew.heap[w.heap.size]? = some o := fun o p => by
    show ((w.alloc o).heap.push p)[w.heap.size]? = _
    rw [Array.getElem?_push, if_neg (by rw [World.size_alloc]; omega)]
    exact heap_alloc_new w o
  have hp1 : ∀ o p, ((w.alloc o).alloc p).drew.heap[w.heap.size + 1]? = some p := fun o p => by
    have := heap_alloc_new (w.alloc o) p
    rwa [World.size_alloc] at this
  have hA : ∀ (W : World) (cs : Array Value) (t : TypeId) (p : Obj), ((W.alloc (.cells cs t (0, 0))).alloc p).heap[W.heap.size]? = some (.cells cs t (0, 0)) := fun W cs t p => by
    show ((W.alloc (.cells cs t (0, 0))).heap.push p)[W.heap.size]? = _
    rw [Array.getElem?_push, if_neg (by rw [World.size_alloc]; omega)]
    exact heap_alloc_new W _
  have cA : ∀ (W : World) (cs : Array Value) (t : TypeId) (p : Obj) (k : Nat), ((W.alloc (.cells cs t (0, 0))).alloc p).cell? ⟨W.heap.size, k, none⟩ = cs[k]? := fun W cs t p k => cell_of_row _ _ k cs t (0, 0) (hA W cs t p)
  have fA : ∀ (W : World) (cs : Array Value) (t : TypeId) (p : Obj) (k : Nat), ((W.alloc (.cells cs t (0, 0))).alloc p).frozen? ⟨W.heap.size, k, none⟩ = false := fun W cs t p k => by simp [World.frozen?, hA W cs t p]
  have cA0 : ∀ (W : World) (p : Obj), ((W.alloc (.cells #[.slice none 0 0, .slice none 0 0] 80 (0, 0))).alloc p).cell? ⟨W.heap.size, 0, none⟩ = some (.slice none 0 0) := fun W p => cA W _ 80 p 0
  have cA1 : ∀ (W : World) (p : Obj), ((W.alloc (.cells #[.slice none 0 0, .slice none 0 0] 80 (0, 0))).alloc p).cell? ⟨W.heap.size, 1, none⟩ = some (.slice none 0 0) := fun W p => cA W _ 80 p 1
  have cA2 : ∀ (W : World) (p : Obj) (v : Value), (((W.alloc (.cells #[.slice none 0 0, .slice none 0 0] 80 (0, 0))).alloc p).setCell ⟨W.heap.size, 0, none⟩ v).cell? ⟨W.heap.size, 1, none⟩ = some (.slice none 0 0) := fun W p v => (World.cell?_setCell_other _ _ _ _ (by simp)).trans (cA1 W p)
  have fA0 : ∀ (W : World) (p : Obj) (k : Nat), ((W.alloc (.cells #[.slice none 0 0, .slice none 0 0] 80 (0, 0))).alloc p).frozen? ⟨W.heap.size, k, none⟩ = false := fun W p k => fA W _ 80 p k
  have b0 : Below w.heap.size w w.drew := ⟨rfl, rfl, rfl, Nat.le_refl _, fun _ _ => rfl⟩
  have bz : ∀ {n : Nat} {W : World}, Below n w W → Below n w W.drew := fun h => ⟨h.os, h.tape, h.output, h.size, h.block⟩
  have b1 : ∀ o, Below w.heap.size w (w.alloc o).drew := fun o => bz ((Below.refl _ w).alloc (Nat.le_refl _) o)
  have b2 : ∀ o p, Below w.heap.size w ((w.alloc o).alloc p).drew := fun o p => bz (((Below.refl _ w).alloc (Nat.le_refl _) o).alloc (by rw [World.size_alloc]; omega) p)
  go_enter Try.func21, Try.ntmps21
  go_wp2_with fail
  go_region_with (go_at_call 34; refine (e34 _ (by first | exact b0 | exact b1 _ | exact b2 _ _)).mono ?_; rintro e W' ⟨g, c, rfl, q1, q2, q3, q4, q5, q6⟩; first | (have y0 := (q6.block w.heap.size (by rw [zd, zs2]; omega)).trans (hp0 _ _); have y1 := (q6.block (w.heap.size + 1) (by rw [zd, zs2]; omega)).trans (hp1 _ _); first | (have kk := row_facts W' w.heap.size y0; obtain ⟨k0, k1, k2, k3⟩ := kk) | (have kk := row_facts W' (w.heap.size + 1) y1; obtain ⟨k0, k1, k2, k3⟩ := kk)) | (have y0 := (q6.block w.heap.size (by rw [zd, World.size_alloc]; omega)).trans (heap_alloc_new w _); first | (have kk := row_facts W' w.heap.size y0; obtain ⟨k0, k1, k2, k3⟩ := kk; have l0 := fun o => (row_facts' W' w.heap.size y0 o).1; have l1 := fun o => (row_facts' W' w.heap.size y0 o).2.1; have l2 := fun o => (row_facts' W' w.heap.size y0 o).2.2.1; have l3 := fun o => (row_facts' W' w.heap.size y0 o).2.2.2) | skip) | skip)
  · go_wp2_with fail
    have B : Below w.heap.size w W' := ((Below.refl _ w).drew).trans (q6.mono (by first | exact Nat.le_refl _ | (rw [zd, zs2]; omega) | (rw [zd, World.size_alloc]; omega)))
    refine with_st (w := w) (g := g) (c := c) (⟨by have := heap_alloc_new (W'.alloc (.cells #[.slice none 0 0] 82 (0, 0))) (.cells #[.slice (some ⟨g, 0, none⟩) 1 c, .slice (some ⟨W'.heap.size, 0, none⟩) 1 1] 80 (0, 0)); rwa [World.size_alloc] at this, alloc_ne (heap_alloc_new W' _), alloc_cell (alloc_cell q5), (B.alloc B.size _).alloc (Nat.le_trans B.size (by rw [World.size_alloc]; omega)) _, by have := B.size; omega⟩) (fun S => ?_)
    obtain ⟨a0, a1⟩ := S.drew.cells
    go_region_with (first | (go_at_call 37; refine (e37 _ S.drew.below).mono ?_; rintro e W1 ⟨g3, c3, g4, o4, c4, rfl, j1, j2, j3, j4, j5, j6, j7, j8⟩; have S1 := S.drew.keep j8; obtain ⟨b0, b1⟩ := S1.cells) | (go_at_call 36; refine (rounds_one _ o4 _ _ _ g4 _ _ _ c4 S1.row S1.mkr j3 j4 j5 q1 (by decide) j1 j6 q2 (by decide) j2 j7).mono ?_; rintro e W2 ⟨rfl, hk⟩; obtain ⟨d0, d1, d2, d3⟩ := S1.done hk))
    all_goals (go_wp2_with fail; refine ⟨rfl, _, results_tmp rfl _ _ _, ?_⟩; exact ⟨g, c, rfl, q1, q2, q3, d3, d1, d2⟩)
  · go_wp2_with fail
    have B : Below w.heap.size w W' := ((Below.refl _ w).drew).trans (q6.mono (by first | exact Nat.le_refl _ | (rw [zd, zs2]; omega) | (rw [zd, World.size_alloc]; omega)))
    refine with_st (w := w) (g := g) (c := c) (⟨alloc_ne (heap_alloc_new W' _), by have := heap_alloc_new (W'.alloc (.cells #[.slice (some ⟨g, 0, none⟩) 1 c, .slice (some ⟨W'.heap.size + 1, 0, none⟩) 1 1] 80 (0, 0))) (.cells #[.slice none 0 0] 82 (0, 0)); rwa [World.size_alloc] at this, alloc_cell (alloc_cell q5), (B.alloc B.size _).alloc (Nat.le_trans B.size (by rw [World.size_alloc]; omega)) _, by have := B.size; omega⟩) (fun S => ?_)
    obtain ⟨a0, a1⟩ := S.drew.cells
    go_region_with (first | (go_at_call 37; refine (e37 _ S.drew.below).mono ?_; rintro e W1 ⟨g3, c3, g4, o4, c4, rfl, j1, j2, j3, j4, j5, j6, j7, j8⟩; have S1 := S.drew.keep j8; obtain ⟨b0, b1⟩ := S1.cells) | (go_at_call 36; refine (rounds_one _ o4 _ _ _ g4 _ _ _ c4 S1.row S1.mkr j3 j4 j5 q1 (by decide) j1 j6 q2 (by decide) j2 j7).mono ?_; rintro e W2 ⟨rfl, hk⟩; obtain ⟨d0, d1, d2, d3⟩ := S1.done hk))
    all_goals (go_wp2_with fail; refine ⟨rfl, _, results_tmp rfl _ _ _, ?_⟩; exact ⟨g, c, rfl, q1, q2, q3, d3, d1, d2⟩)
  · go_wp2_with fail
    have B : Below w.heap.size w W' := (b1 _).trans (q6.mono (by first | exact Nat.le_refl _ | (rw [zd, zs2]; omega) | (rw [zd, World.size_alloc]; omega)))
    refine with_st (w := w) (g := g) (c := c) (⟨heap_alloc_new W' _, alloc_ne y0, alloc_cell q5, B.alloc B.size _, by have := B.size; omega⟩) (fun S => ?_)
    obtain ⟨a0, a1⟩ := S.drew.cells
    go_region_with (first | (go_at_call 37; refine (e37 _ S.drew.below).mono ?_; rintro e W1 ⟨g3, c3, g4, o4, c4, rfl, j1, j2, j3, j4, j5, j6, j7, j8⟩; have S1 := S.drew.keep j8; obtain ⟨b0, b1⟩ := S1.cells) | (go_at_call 36; refine (rounds_one _ o4 _ _ _ g4 _ _ _ c4 S1.row S1.mkr j3 j4 j5 q1 (by decide) j1 j6 q2 (by decide) j2 j7).mono ?_; rintro e W2 ⟨rfl, hk⟩; obtain ⟨d0, d1, d2, d3⟩ := S1.done hk))
    all_goals (go_wp2_with fail; refine ⟨rfl, _, results_tmp rfl _ _ _, ?_⟩; exact ⟨g, c, rfl, q1, q2, q3, d3, d1, d2⟩)
  · go_wp2_with fail
    have B : Below w.heap.size w W' := (b2 _ _).trans (q6.mono (by first | exact Nat.le_refl _ | (rw [zd, zs2]; omega) | (rw [zd, World.size_alloc]; omega)))
    refine with_st (w := w) (g := g) (c := c) (st_set y1 y0 q5 B (by omega) (ne_of_row y1 q5)) (fun S => ?_)
    obtain ⟨a0, a1⟩ := S.drew.cells
    go_region_with (first | (go_at_call 37; refine (e37 _ S.drew.below).mono ?_; rintro e W1 ⟨g3, c3, g4, o4, c4, rfl, j1, j2, j3, j4, j5, j6, j7, j8⟩; have S1 := S.drew.keep j8; obtain ⟨b0, b1⟩ := S1.cells) | (go_at_call 36; refine (rounds_one _ o4 _ _ _ g4 _ _ _ c4 S1.row S1.mkr j3 j4 j5 q1 (by decide) j1 j6 q2 (by decide) j2 j7).mono ?_; rintro e W2 ⟨rfl, hk⟩; obtain ⟨d0, d1, d2, d3⟩ := S1.done hk))
    all_goals (go_wp2_with fail; refine ⟨rfl, _, results_tmp rfl _ _ _, ?_⟩; exact ⟨g, c, rfl, q1, q2, q3, d3, d1, d2⟩)
  · go_wp2_with fail
    have B : Below w.heap.size w W' := (b1 _).trans (q6.mono (by first | exact Nat.le_refl _ | (rw [zd, zs2]; omega) | (rw [zd, World.size_alloc]; omega)))
    refine with_st (w := w) (g := g) (c := c) (st_set (alloc_ne y0) (heap_alloc_new W' _) (alloc_cell q5) (B.alloc B.size _) (by have := B.size; omega) (ne_of_row y0 q5)) (fun S => ?_)
    obtain ⟨a0, a1⟩ := S.drew.cells
    go_region_with (first | (go_at_call 37; refine (e37 _ S.drew.below).mono ?_; rintro e W1 ⟨g3, c3, g4, o4, c4, rfl, j1, j2, j3, j4, j5, j6, j7, j8⟩; have S1 := S.drew.keep j8; obtain ⟨b0, b1⟩ := S1.cells) | (go_at_call 36; refine (rounds_one _ o4 _ _ _ g4 _ _ _ c4 S1.row S1.mkr j3 j4 j5 q1 (by decide) j1 j6 q2 (by decide) j2 j7).mono ?_; rintro e W2 ⟨rfl, hk⟩; obtain ⟨d0, d1, d2, d3⟩ := S1.done hk))
    all_goals (go_wp2_with fail; refine ⟨rfl, _, results_tmp rfl _ _ _, ?_⟩; exact ⟨g, c, rfl, q1, q2, q3, d3, d1, d2⟩)
  · go_wp2_with fail
    have B : Below w.heap.size w W' := (b2 _ _).trans (q6.mono (by first | exact Nat.le_refl _ | (rw [zd, zs2]; omega) | (rw [zd, World.size_alloc]; omega)))
    refine with_st (w := w) (g := g) (c := c) (st_set y0 y1 q5 B (by omega) (ne_of_row y0 q5)) (fun S => ?_)
    obtain ⟨a0, a1⟩ := S.drew.cells
    go_region_with (first | (go_at_call 37; refine (e37 _ S.drew.below).mono ?_; rintro e W1 ⟨g3, c3, g4, o4, c4, rfl, j1, j2, j3, j4, j5, j6, j7, j8⟩; have S1 := S.drew.keep j8; obtain ⟨b0, b1⟩ := S1.cells) | (go_at_call 36; refine (rounds_one _ o4 _ _ _ g4 _ _ _ c4 S1.row S1.mkr j3 j4 j5 q1 (by decide) j1 j6 q2 (by decide) j2 j7).mono ?_; rintro e W2 ⟨rfl, hk⟩; obtain ⟨d0, d1, d2, d3⟩ := S1.done hk))
    all_goals (go_wp2_with fail; refine ⟨rfl, _, results_tmp rfl _ _ _, ?_⟩; exact ⟨g, c, rfl, q1, q2, q3, d3, d1, d2⟩)
end Go.Proofs.Ytgkagelejoknmaa.Deep
