/-
  Texts of one proof, in their order. No condition.
-/
import Derived.Deep.RegionWith
import Derived.Test.YtjhnmikciejekaaGreatPqSplit
namespace Go.Proofs.YtjhnmikciejekaaGreat
open Go.ChangeShapes Go.WideShapes Go.ChangeAt Go.RowKit
set_option linter.unusedVariables false
theorem heap_six (w : World) (a b c d e f : Obj) : ((((((w.alloc a).alloc b).alloc c).alloc d).alloc e).alloc f).heap[w.heap.size]? = some a ∧ ((((((w.alloc a).alloc b).alloc c).alloc d).alloc e).alloc f).heap[w.heap.size + 1 + 1 + 1]? = some d ∧ ((((((w.alloc a).alloc b).alloc c).alloc d).alloc e).alloc f).heap[w.heap.size + 1 + 1 + 1 + 1]? = some e ∧ ((((((w.alloc a).alloc b).alloc c).alloc d).alloc e).alloc f).heap[w.heap.size + 1 + 1 + 1 + 1 + 1]? = some f := by
  have h4 := heap_four w a b c d
  refine ⟨?_, ?_, ?_, ?_⟩
  · rw [Below.heap_alloc _ _ _ (by simp only [World.size_alloc]; omega), Below.heap_alloc _ _ _ (by simp only [World.size_alloc]; omega)]; exact h4.1
  · rw [Below.heap_alloc _ _ _ (by simp only [World.size_alloc]; omega), Below.heap_alloc _ _ _ (by simp only [World.size_alloc]; omega)]; exact h4.2.2
  · have e1 : ((((w.alloc a).alloc b).alloc c).alloc d).heap.size = w.heap.size + 1 + 1 + 1 + 1 := by simp
    rw [Below.heap_alloc _ _ _ (by simp only [World.size_alloc]; omega), ← e1]; exact heap_alloc_new _ e
  · have e1 : (((((w.alloc a).alloc b).alloc c).alloc d).alloc e).heap.size = w.heap.size + 1 + 1 + 1 + 1 + 1 := by simp
    rw [← e1]; exact heap_alloc_new _ f
structure PMem (w : World) (wr : World) (hL hC nL nC : Int) : Prop where
  res : wr.heap[w.heap.size]? = some (.cells #[.int .i64 0, .int .i64 0] 29 (0, 0))
  here : wr.heap[w.heap.size + 1 + 1 + 1]? = some (.cells #[.int .i64 hL, .int .i64 hC] 29 (0, 0))
  next : wr.heap[w.heap.size + 1 + 1 + 1 + 1]? = some (.cells #[.int .i64 nL, .int .i64 nC] 29 (0, 0))
  below : Below w.heap.size w wr
  size : w.heap.size + 1 + 1 + 1 + 1 + 1 + 1 ≤ wr.heap.size
structure PSums (s : ByteArray) (off : Int) (pos f : Nat) (hL hC nL nC : Int) : Prop where
  in_ : off < pos → (hL, hC) = placeOf s off
  on_ : pos ≤ off → placeF s off f pos nL nC = placeOf s off
  fuel : s.size ≤ pos + f
  pos_le : pos ≤ s.size
  lo : 1 ≤ nL ∧ 1 ≤ nC ∧ nL ≤ pos + 1 ∧ nC ≤ pos + 1
theorem PSums.zero (s : ByteArray) (off : Int) : PSums s off 0 s.size 1 1 1 1 := by
  refine ⟨fun h => ?_, fun h => rfl, by omega, by omega, by omega⟩
  unfold placeOf
  by_cases hz : 0 < s.size
  · obtain ⟨f, hf⟩ : ∃ f, s.size = f + 1 := ⟨s.size - 1, by omega⟩
    have hw := dec_width s 0 hz
    rw [hf, placeF_in s off f 0 1 1 hz (by omega)]
  · rw [placeF_end s off _ 0 1 1 hz]
theorem PSums.step {s : ByteArray} {off : Int} {pos f : Nat} {hL hC nL nC : Int} (h : PSums s off pos f hL hC nL nC) (hp : pos < s.size) (ho : pos ≤ off) :
    PSums s off (pos + (Utf8.decode s pos).2) (f - 1) nL nC (nlL (Utf8.decode s pos).1 nL) (nlC (Utf8.decode s pos).1 nC) := by
  have hw := dec_width s pos hp
  have hf := h.fuel
  have hl := h.lo
  have hn := nl_le (Utf8.decode s pos).1 nL nC hl.1 hl.2.1
  have h1 := h.on_ ho
  obtain ⟨g, rfl⟩ : ∃ g, f = g + 1 := ⟨f - 1, by omega⟩
  refine ⟨fun h2 => ?_, fun h2 => ?_, by omega, by omega, by omega⟩
  · rw [← h1, placeF_in s off g pos nL nC hp (by omega)]
  · rw [← h1, placeF_on s off g pos nL nC hp (by omega)]; rfl
section
variable {w wr w' : World} {hL hC nL nC : Int}
theorem PMem.iter (M : PMem w wr hL hC nL nC) (s : ByteArray) (pos : Nat) : PMem w (wr.iterAt (w.heap.size + 1 + 1 + 1 + 1 + 1) s pos) hL hC nL nC :=
  ⟨(Lib.iterAt_other wr _ _ s pos (by omega)).trans M.res, (Lib.iterAt_other wr _ _ s pos (by omega)).trans M.here, (Lib.iterAt_other wr _ _ s pos (by omega)).trans M.next, Lib.below_iterAt M.below (by omega) s pos, by rw [Lib.iterAt_size]; exact M.size⟩
theorem PMem.cells (M : PMem w wr hL hC nL nC) : wr.cell? ⟨w.heap.size, 0, none⟩ = some (.int .i64 0) ∧ wr.cell? ⟨w.heap.size, 1, none⟩ = some (.int .i64 0) ∧
    wr.cell? ⟨w.heap.size + 1 + 1 + 1, 0, none⟩ = some (.int .i64 hL) ∧ wr.cell? ⟨w.heap.size + 1 + 1 + 1, 1, none⟩ = some (.int .i64 hC) ∧
    wr.cell? ⟨w.heap.size + 1 + 1 + 1 + 1, 0, none⟩ = some (.int .i64 nL) ∧ wr.cell? ⟨w.heap.size + 1 + 1 + 1 + 1, 1, none⟩ = some (.int .i64 nC) :=
  ⟨cell_of_row wr _ 0 _ 29 (0, 0) M.res, cell_of_row wr _ 1 _ 29 (0, 0) M.res, cell_of_row wr _ 0 _ 29 (0, 0) M.here, cell_of_row wr _ 1 _ 29 (0, 0) M.here, cell_of_row wr _ 0 _ 29 (0, 0) M.next, cell_of_row wr _ 1 _ 29 (0, 0) M.next⟩
theorem PMem.frees (M : PMem w wr hL hC nL nC) (i : Nat) : wr.frozen? ⟨w.heap.size, i, none⟩ = false ∧ wr.frozen? ⟨w.heap.size + 1 + 1 + 1, i, none⟩ = false ∧ wr.frozen? ⟨w.heap.size + 1 + 1 + 1 + 1, i, none⟩ = false := by
  have h1 := M.res; have h2 := M.here; have h3 := M.next
  refine ⟨?_, ?_, ?_⟩ <;> simp [World.frozen?, h1, h2, h3]
end
def PQ (s : ByteArray) (w : World) (pos : Nat) (hL hC nL nC : Int) (wr : World) : Prop := PMem w wr hL hC nL nC ∧ wr.heap[w.heap.size + 1 + 1 + 1 + 1 + 1]? = some (.stringIter s pos)
theorem PQ.drew {s : ByteArray} {w : World} {pos : Nat} {hL hC nL nC : Int} {wr : World} (h : PQ s w pos hL hC nL nC wr) : PQ s w pos hL hC nL nC wr.drew :=
  ⟨⟨h.1.res, h.1.here, h.1.next, h.1.below.drew, h.1.size⟩, h.2⟩
theorem PQ.later {s : ByteArray} {w : World} {pos : Nat} {hL hC nL nC : Int} {wr w' : World} (h : PQ s w pos hL hC nL nC wr) (hb : Below wr.heap.size wr w') : PQ s w pos hL hC nL nC w' := by
  have hz := h.1.size
  exact ⟨⟨(hb.block _ (by omega)).trans h.1.res, (hb.block _ (by omega)).trans h.1.here, (hb.block _ (by omega)).trans h.1.next, h.1.below.trans (hb.mono (by omega)), Nat.le_trans hz hb.size⟩, (hb.block _ (by omega)).trans h.2⟩
theorem PQ.store {s : ByteArray} {w : World} {pos : Nat} {hL hC nL nC : Int} {wr : World} (h : PQ s w pos hL hC nL nC wr) (a b c d : Int) :
    PQ s w pos a b c d ((((wr.setCell ⟨w.heap.size + 1 + 1 + 1, 0, none⟩ (.int .i64 a)).setCell ⟨w.heap.size + 1 + 1 + 1, 1, none⟩ (.int .i64 b)).setCell ⟨w.heap.size + 1 + 1 + 1 + 1, 0, none⟩ (.int .i64 c)).setCell ⟨w.heap.size + 1 + 1 + 1 + 1, 1, none⟩ (.int .i64 d)) := by
  obtain ⟨⟨h1, h2, h3, h4, h5⟩, h6⟩ := h
  refine ⟨⟨?_, ?_, ?_, (((h4.setCell (by simp; omega) _).setCell (by simp; omega) _).setCell (by simp; omega) _).setCell (by simp; omega) _, by simpa [World.setCell] using h5⟩, ?_⟩
  · rw [Below.heap_setCell _ _ _ _ (by simp; omega), Below.heap_setCell _ _ _ _ (by simp; omega), Below.heap_setCell _ _ _ _ (by simp; omega), Below.heap_setCell _ _ _ _ (by simp; omega)]; exact h1
  · rw [Below.heap_setCell _ _ _ _ (by simp), Below.heap_setCell _ _ _ _ (by simp)]
    simp [World.setCell, Array.getElem?_modify, h2]
  · simp [World.setCell, Array.getElem?_modify, h3]
  · rw [Below.heap_setCell _ _ _ _ (by simp), Below.heap_setCell _ _ _ _ (by simp), Below.heap_setCell _ _ _ _ (by simp; omega), Below.heap_setCell _ _ _ _ (by simp; omega)]; exact h6
theorem behind_q (s : ByteArray) (w : World) (pos : Nat) (hL hC L C r : Int) (hL0 : 0 ≤ L) (hL1 : L ≤ 100000) (hC0 : 0 ≤ C) (hC1 : C ≤ 100000) (wr : World) (h : PQ s w pos hL hC L C wr) : Calls Tryz.prog 142 #[.agg #[.int .i64 L, .int .i64 C], .int .i32 r] wr fun e w' => e = .returned (.agg #[.int .i64 (nlL r L), .int .i64 (nlC r C)]) ∧ PQ s w pos hL hC L C w' :=
  (behind_any L C r hL0 hL1 hC0 hC1 wr).mono fun e w' ⟨he, hb⟩ => ⟨he, h.later hb⟩
def PlaceRel (s : ByteArray) (off : Int) (w : World) (wr : World) : Prop :=
  ∃ pos f hL hC nL nC, PMem w wr hL hC nL nC ∧ wr.heap[w.heap.size + 1 + 1 + 1 + 1 + 1]? = some (.stringIter s pos) ∧ PSums s off pos f hL hC nL nC
def PlaceTells (s : ByteArray) (off : Int) (w : World) (e : Ending) (w' : World) : Prop := e = .returned (.agg #[.int .i64 (placeOf s off).1, .int .i64 (placeOf s off).2]) ∧ Below w.heap.size w w'
set_option maxHeartbeats 2000000 in
set_option maxRecDepth 100000 in
theorem place_any (s : ByteArray) (off : Int) (h : s.size ≤ 16384) (w : World) : Calls Tryz.prog 101 #[.string s, .int .i64 off] w (PlaceTells s off w) := by
  go_enter Tryz.func101, Tryz.ntmps101
  go_wp2_with (go_at_call 140; ((with_reducible refine (first_new _).mono ?_); rintro e w' ⟨rfl, rfl⟩))
  go_loopw [] (fun wr => PlaceRel s off w wr) (fun wr => s.size - wr.iterPos (w.heap.size + 1 + 1 + 1 + 1 + 1))
  case atStart =>
    have hh := heap_six w (.cells #[.int .i64 0, .int .i64 0] 29) (.cells #[.int .i64 1, .int .i64 1] 29) (.cells #[.int .i64 1, .int .i64 1] 29) (.cells #[.int .i64 1, .int .i64 1] 29) (.cells #[.int .i64 1, .int .i64 1] 29) (.stringIter s 0)
    refine ⟨0, s.size, 1, 1, 1, 1, ⟨hh.1, hh.2.1, hh.2.2.1, ?_, by simp [World.iter]⟩, hh.2.2.2, PSums.zero s off⟩
    exact ((((((Below.refl _ _).alloc (Nat.le_refl _) _).alloc (by simp) _).alloc (by simp; omega) _).alloc (by simp; omega) _).alloc (by simp; omega) _).alloc (by simp; omega) _
  case round =>
    obtain ⟨pos, f, hL, hC, nL, nC, M, hit, S⟩ := hrel
    have hlo := S.lo
    have hple := S.pos_le
    by_cases hp : pos < s.size
    · have hnx : ∀ ty, (Instr.next (.pointer (some ⟨w.heap.size + 1 + 1 + 1 + 1 + 1, 0, none⟩)) true ty).run Tryz.prog wr = _ := fun ty => Lib.run_next_any_at wr (w.heap.size + 1 + 1 + 1 + 1 + 1) s pos ty hit hp
      have hwd := dec_width s pos hp
      have M1 := M.iter s (pos + (Utf8.decode s pos).2)
      have hit1 := Lib.iterAt_heap wr (w.heap.size + 1 + 1 + 1 + 1 + 1) s pos (pos + (Utf8.decode s pos).2) hit
      obtain ⟨W1, hW1⟩ : ∃ W1, wr.iterAt (w.heap.size + 1 + 1 + 1 + 1 + 1) s (pos + (Utf8.decode s pos).2) = W1 := ⟨_, rfl⟩
      rw [hW1] at hnx M1 hit1
      clear hW1
      have Hit := Lib.hid hit
      have Hit1 := Lib.hid hit1
      clear hit hit1
      obtain ⟨hr0, hr1, hh0, hh1, hn0, hn1⟩ := M1.cells
      obtain ⟨fr0, fh0, fn0⟩ := M1.frees 0
      obtain ⟨fr1, fh1, fn1⟩ := M1.frees 1
      by_cases ho : (pos : Int) ≤ off
      · have HQ : Hid (PQ s w (pos + (Utf8.decode s pos).2) hL hC nL nC W1) := Lib.hid ⟨M1, Hit1.out⟩
        clear hr0 hr1 fr0 fr1
        go_wp2
        go_region_with (first | (go_at_call 142; refine (behind_q s w (pos + (Utf8.decode s pos).2) hL hC nL nC _ (by omega) (by omega) (by omega) (by omega) _ HQ.out.drew).mono ?_; rintro e w' ⟨rfl, hq⟩; have hcs := hq.1.cells; have hf0 := hq.1.frees 0; have hf1 := hq.1.frees 1; obtain ⟨hr0, hr1, hh0, hh1, hn0, hn1⟩ := hcs; obtain ⟨fr0, fh0, fn0⟩ := hf0; obtain ⟨fr1, fh1, fn1⟩ := hf1))
        all_goals go_wp2
        all_goals
          have hq2 := hq.store nL nC (nlL (Utf8.decode s pos).1 nL) (nlC (Utf8.decode s pos).1 nC)
          refine ⟨⟨_, _, _, _, _, _, hq2.1, hq2.2, S.step hp ho⟩, ?_⟩
          rw [iterPos_of hq2.2, iterPos_of Hit.out]
          omega
      · have ho' : off < (pos : Int) := by omega
        have hw := S.in_ ho'
        have e1 := congrArg Prod.fst hw
        have e2 := congrArg Prod.snd hw
        simp only at e1 e2
        subst e1 e2
        clear hw ho
        go_wp2
        exact bodyPost_ret (v := .agg #[.int .i64 (placeOf s off).1, .int .i64 (placeOf s off).2]) (by simp [results, Tryz.results101, go_sem, hr0, hr1]) rfl ⟨rfl, (M1.below.setCell (by simp) _).setCell (by simp) _⟩
    · have hnx : ∀ ty, (Instr.next (.pointer (some ⟨w.heap.size + 1 + 1 + 1 + 1 + 1, 0, none⟩)) true ty).run Tryz.prog wr = _ := fun ty => Lib.run_next_end_at wr (w.heap.size + 1 + 1 + 1 + 1 + 1) s pos ty hit hp
      have Hit := Lib.hid hit
      clear hit
      obtain ⟨hr0, hr1, hh0, hh1, hn0, hn1⟩ := M.cells
      obtain ⟨fr0, fh0, fn0⟩ := M.frees 0
      obtain ⟨fr1, fh1, fn1⟩ := M.frees 1
      by_cases ho : (s.size : Int) ≤ off
      · have hw := S.on_ (by omega)
        rw [placeF_end s off f pos nL nC hp] at hw
        have e1 := congrArg Prod.fst hw
        have e2 := congrArg Prod.snd hw
        simp only at e1 e2
        subst e1 e2
        clear hw
        go_wp2
        exact bodyPost_ret (v := .agg #[.int .i64 (placeOf s off).1, .int .i64 (placeOf s off).2]) (by simp [results, Tryz.results101, go_sem, hr0, hr1]) rfl ⟨rfl, (M.below.setCell (by simp) _).setCell (by simp) _⟩
      · have ho' : off < (s.size : Int) := by omega
        have hw := S.in_ (by omega)
        have e1 := congrArg Prod.fst hw
        have e2 := congrArg Prod.snd hw
        simp only at e1 e2
        subst e1 e2
        clear hw ho
        go_wp2
        exact bodyPost_ret (v := .agg #[.int .i64 (placeOf s off).1, .int .i64 (placeOf s off).2]) (by simp [results, Tryz.results101, go_sem, hr0, hr1]) rfl ⟨rfl, (M.below.setCell (by simp) _).setCell (by simp) _⟩
end Go.Proofs.YtjhnmikciejekaaGreat
