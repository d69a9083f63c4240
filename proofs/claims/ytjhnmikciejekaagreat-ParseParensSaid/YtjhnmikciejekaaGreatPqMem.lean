/-
  Texts of one proof, in their order. No condition.
-/
import Derived.Lib.OthersKept
import Derived.Test.YtjhnmikciejekaaGreatPqBad
namespace Go.Proofs.YtjhnmikciejekaaGreat
open Go.RowKit
set_option linter.unusedVariables false
theorem Tryz.info111 : (Tryz.prog.info? 111).map (fun i => (i.zero, i.size, i.bytes)) = some (some (.agg #[.int .i32 0, .int .i64 0, .int .i64 0, .int .i64 0]), 4, 32) := by kernel_rfl
structure Mem (w : World) (B G O : Nat) (v : Value) (wr : World) (acc : List Ent) (L C : Int) : Prop where
  fault : wr.heap[B]? = some (.cells #[.int .i64 0, .int .i64 0, .int .i64 0] 40 (0, 0))
  place : wr.heap[G]? = some (.cells #[.int .i64 L, .int .i64 C] 29 (0, 0))
  own : wr.ownsRow O 111 4 v acc.length (listCells acc)
  below : Below B w wr
  ord : B < G ∧ G < O ∧ O ≤ wr.heap.size
theorem owns_same {w w' : World} {base : Nat} {e : TypeId} {size : Nat} {v : Value} {n : Nat} {xs : List Value} (h : w.ownsRow base e size v n xs) (hk : ∀ k, base ≤ k → k < w.heap.size → w'.heap[k]? = w.heap[k]?) : w'.ownsRow base e size v n xs := by
  refine ⟨h.1, ?_⟩
  rcases h.2 with hn | ⟨g, cap, cur, hv, hb, hg, rest⟩
  · exact .inl hn
  · exact .inr ⟨g, cap, cur, hv, hb, (hk g hb (Array.getElem?_eq_some_iff.1 hg).1).trans hg, rest⟩
section
variable {w wr w' : World} {B G O : Nat} {v : Value} {acc : List Ent} {L C : Int}
theorem Mem.same (M : Mem w B G O v wr acc L C) (hbel : Below B w w') (hs : wr.heap.size ≤ w'.heap.size) (hB : w'.heap[B]? = wr.heap[B]?) (hG : w'.heap[G]? = wr.heap[G]?) (hO : ∀ k, O ≤ k → k < wr.heap.size → w'.heap[k]? = wr.heap[k]?) : Mem w B G O v w' acc L C :=
  ⟨hB.trans M.fault, hG.trans M.place, owns_same M.own hO, hbel, M.ord.1, M.ord.2.1, Nat.le_trans M.ord.2.2 hs⟩
theorem Mem.later (M : Mem w B G O v wr acc L C) (hb : Below wr.heap.size wr w') : Mem w B G O v w' acc L C := by
  have ho := M.ord
  exact M.same (M.below.trans (hb.mono (by omega))) hb.size (hb.block B (by omega)) (hb.block G (by omega)) (fun k _ hk => hb.block k hk)
theorem Mem.iter (M : Mem w B G O v wr acc L C) (K : Nat) (hK : G < K ∧ K < O) (s : ByteArray) (pos : Nat) : Mem w B G O v (wr.iterAt K s pos) acc L C := by
  have ho := M.ord
  exact M.same (Lib.below_iterAt M.below (by omega) s pos) (by rw [Lib.iterAt_size]; exact Nat.le_refl _) (Lib.iterAt_other wr K B s pos (by omega)) (Lib.iterAt_other wr K G s pos (by omega)) (fun k hk _ => Lib.iterAt_other wr K k s pos (by omega))
theorem Mem.cell0 (M : Mem w B G O v wr acc L C) : wr.cell? ⟨G, 0, none⟩ = some (.int .i64 L) := cell_of_row wr G 0 _ 29 (0, 0) M.place
theorem Mem.cell1 (M : Mem w B G O v wr acc L C) : wr.cell? ⟨G, 1, none⟩ = some (.int .i64 C) := cell_of_row wr G 1 _ 29 (0, 0) M.place
theorem Mem.free (M : Mem w B G O v wr acc L C) (i : Nat) : wr.frozen? ⟨G, i, none⟩ = false := by
  have := M.place
  simp [World.frozen?, this]
theorem Mem.fcell0 (M : Mem w B G O v wr acc L C) : wr.cell? ⟨B, 0, none⟩ = some (.int .i64 0) := cell_of_row wr B 0 _ 40 (0, 0) M.fault
theorem Mem.fcell1 (M : Mem w B G O v wr acc L C) : wr.cell? ⟨B, 1, none⟩ = some (.int .i64 0) := cell_of_row wr B 1 _ 40 (0, 0) M.fault
theorem Mem.fcell2 (M : Mem w B G O v wr acc L C) : wr.cell? ⟨B, 2, none⟩ = some (.int .i64 0) := cell_of_row wr B 2 _ 40 (0, 0) M.fault
theorem Mem.ffree (M : Mem w B G O v wr acc L C) (i : Nat) : wr.frozen? ⟨B, i, none⟩ = false := by
  have := M.fault
  simp [World.frozen?, this]
theorem Mem.grow {o : Obj} {v' : Value} {e : Ent} (M : Mem w B G O v wr acc L C) (hown : w'.ownsRow O 111 4 v' (acc.length + 1) (listCells acc ++ entCells e)) (hg : (wr.alloc o).grownBy w' v.ownBlock) : Mem w B G O v' w' (acc ++ [e]) L C := by
  have ho := M.ord
  have hv : ∀ k, v.ownBlock = some k → O ≤ k := fun k hk => (M.own.lt k hk).1
  have hz : wr.heap.size + 1 ≤ w'.heap.size := by have := hg.size; simpa using this
  refine ⟨?_, ?_, ?_, ?_, ho.1, ho.2.1, by omega⟩
  · rw [hg.block B (by simp; omega) (fun e => by have := hv B e.symm; omega), Below.heap_alloc _ _ _ (by omega)]; exact M.fault
  · rw [hg.block G (by simp; omega) (fun e => by have := hv G e.symm; omega), Below.heap_alloc _ _ _ (by omega)]; exact M.place
  · rw [listCells_snoc, List.length_append]; exact hown
  · exact (M.below.alloc (by omega) o).grown hg (by simp; omega) (fun k hk => by have := hv k hk; omega)
theorem Mem.grow_block {o : Obj} (M : Mem w B G O v wr acc L C) (hg : (wr.alloc o).grownBy w' v.ownBlock) (k : Nat) (hk : k < O) : w'.heap[k]? = wr.heap[k]? := by
  have ho := M.ord
  rw [hg.block k (by simp; omega) (fun e => by have := (M.own.lt k e.symm).1; omega), Below.heap_alloc _ _ _ (by omega)]
theorem Mem.fset (M : Mem w B G O v wr acc L C) (a b c : Value) : Below B w (((wr.setCell ⟨B, 0, none⟩ a).setCell ⟨B, 1, none⟩ b).setCell ⟨B, 2, none⟩ c) :=
  ((M.below.setCell (by simp) _).setCell (by simp) _).setCell (by simp) _
theorem Mem.done (M : Mem w B G O v wr acc L C) (a b c : Value) : (((wr.setCell ⟨B, 0, none⟩ a).setCell ⟨B, 1, none⟩ b).setCell ⟨B, 2, none⟩ c).ownsRow B 111 4 v acc.length (listCells acc) := by
  have ho := M.ord
  have h := owns_same (w' := ((wr.setCell ⟨B, 0, none⟩ a).setCell ⟨B, 1, none⟩ b).setCell ⟨B, 2, none⟩ c) M.own (fun k h _ => by
    rw [Below.heap_setCell _ _ _ _ (by simp; omega), Below.heap_setCell _ _ _ _ (by simp; omega), Below.heap_setCell _ _ _ _ (by simp; omega)])
  refine ⟨h.1, ?_⟩
  rcases h.2 with hn | ⟨g, cap, cur, hv, hb, rest⟩
  · exact .inl hn
  · exact .inr ⟨g, cap, cur, hv, by omega, rest⟩
theorem owns_form {B : Nat} {e : TypeId} {size n : Nat} {v : Value} {xs : List Value} {w : World} (h : w.ownsRow B e size v n xs) : ∃ A c, v = .slice A n c := by
  rcases h.2 with ⟨rfl, rfl⟩ | ⟨g, cap, cur, rfl, _⟩
  · exact ⟨none, 0, rfl⟩
  · exact ⟨_, _, rfl⟩
theorem Mem.store (M : Mem w B G O v wr acc L C) (L' C' : Int) : Mem w B G O v ((wr.setCell ⟨G, 0, none⟩ (.int .i64 L')).setCell ⟨G, 1, none⟩ (.int .i64 C')) acc L' C' := by
  have ho := M.ord
  have hz : ((wr.setCell ⟨G, 0, none⟩ (.int .i64 L')).setCell ⟨G, 1, none⟩ (.int .i64 C')).heap.size = wr.heap.size := by simp [World.setCell]
  have hk : ∀ k, k ≠ G → ((wr.setCell ⟨G, 0, none⟩ (.int .i64 L')).setCell ⟨G, 1, none⟩ (.int .i64 C')).heap[k]? = wr.heap[k]? := fun k h => by
    rw [Below.heap_setCell _ _ _ _ h, Below.heap_setCell _ _ _ _ h]
  refine ⟨(hk B (by omega)).trans M.fault, ?_, owns_same M.own (fun k h _ => hk k (by omega)), (M.below.setCell (by simp; omega) _).setCell (by simp; omega) _, ho.1, ho.2.1, by omega⟩
  have := M.place
  simp [World.setCell, Array.getElem?_modify, this]
end
theorem heap_two (w : World) (a b : Obj) : ((w.alloc a).alloc b).heap[w.heap.size]? = some a ∧ ((w.alloc a).alloc b).heap[w.heap.size + 1]? = some b := by
  refine ⟨?_, ?_⟩
  · rw [Below.heap_alloc _ _ _ (by simp)]; exact heap_alloc_new w a
  · have e : (w.alloc a).heap.size = w.heap.size + 1 := by simp
    rw [← e]; exact heap_alloc_new _ b
theorem heap_three (w : World) (a b c : Obj) : (((w.alloc a).alloc b).alloc c).heap[w.heap.size]? = some a ∧ (((w.alloc a).alloc b).alloc c).heap[w.heap.size + 1 + 1]? = some c := by
  refine ⟨?_, ?_⟩
  · rw [Below.heap_alloc _ _ _ (by simp; omega)]; exact (heap_two w a b).1
  · have e : ((w.alloc a).alloc b).heap.size = w.heap.size + 1 + 1 := by simp
    rw [← e]; exact heap_alloc_new _ c
theorem heap_four (w : World) (a b c d : Obj) : ((((w.alloc a).alloc b).alloc c).alloc d).heap[w.heap.size]? = some a ∧ ((((w.alloc a).alloc b).alloc c).alloc d).heap[w.heap.size + 1 + 1]? = some c ∧ ((((w.alloc a).alloc b).alloc c).alloc d).heap[w.heap.size + 1 + 1 + 1]? = some d := by
  refine ⟨?_, ?_, ?_⟩
  · rw [Below.heap_alloc _ _ _ (by simp; omega)]; exact (heap_three w a b c).1
  · rw [Below.heap_alloc _ _ _ (by simp)]; exact (heap_three w a b c).2
  · have e : (((w.alloc a).alloc b).alloc c).heap.size = w.heap.size + 1 + 1 + 1 := by simp
    rw [← e]; exact heap_alloc_new _ d
theorem iterPos_of {w : World} {k : Nat} {s : ByteArray} {p : Nat} (h : w.heap[k]? = some (.stringIter s p)) : w.iterPos k = p := by simp [World.iterPos, h]
end Go.Proofs.YtjhnmikciejekaaGreat
