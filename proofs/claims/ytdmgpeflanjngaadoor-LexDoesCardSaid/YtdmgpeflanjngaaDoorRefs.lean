/-
  What the document's own answers of layer 2 tell of a text: its runes with their places, or what is wrong, and the place of a byte. No condition.
-/
import Derived.Test.YtdmgpeflanjngaaDoorOne
import Derived.Test.YtdmgpeflanjngaaDoorPlace
namespace Go.Proofs.YtdmgpeflanjngaaDoor
open Go.ChangeShapes Go.WideShapes Go.ChangeAt Go.RowKit
set_option linter.unusedVariables false

theorem one_no (s : ByteArray) (i : Nat) (hs : s.size ≤ 16384) (hi : i < s.size) (hb : badAt s i = true) (w : World) : Calls Tryd.prog 28 #[.string s, .int .i64 (i : Int)] w fun e w' => e = .returned (.tuple #[.int .i32 0, .int .i64 0]) ∧ w = w' :=
  (one_any s i hs hi w).mono fun e w' ⟨he, hw⟩ => ⟨by rw [he, oneR, oneW, hb]; rfl, hw⟩
theorem one_yes (s : ByteArray) (i : Nat) (hs : s.size ≤ 16384) (hi : i < s.size) (hb : badAt s i = false) (w : World) : Calls Tryd.prog 28 #[.string s, .int .i64 (i : Int)] w fun e w' => e = .returned (.tuple #[.int .i32 ((Utf8.decode s i).1 : Int), .int .i64 ((Utf8.decode s i).2 : Int)]) ∧ w = w' :=
  (one_any s i hs hi w).mono fun e w' ⟨he, hw⟩ => ⟨by rw [he, oneR, oneW, hb]; rfl, hw⟩

set_option maxHeartbeats 1000000 in
set_option maxRecDepth 100000 in
theorem rsplit_long (s : ByteArray) (h : 16384 < s.size) (h2 : s.size ≤ 9223372036854775807) (w : World) : Calls Tryd.prog 21 #[.string s] w fun e w' => e = .returned (.tuple #[.slice none 0 0, .agg #[.int .i64 5, .int .i64 1, .int .i64 1]]) ∧ Below w.heap.size w w' := by
  go_enter Tryd.func21, Tryd.ntmps21
  go_wp2_with fail
  go_region
  go_wp2
  refine bodyPost_ret (v := .tuple #[.slice none 0 0, .agg #[.int .i64 5, .int .i64 1, .int .i64 1]]) (by simp [results, Tryd.results21, go_sem]) rfl ⟨rfl, ?_⟩
  exact (((Below.refl _ _).alloc (Nat.le_refl _) _).alloc (by simp) _).drew

def RSplitRel (s : ByteArray) (w : World) (v i : Value) (wr : World) : Prop :=
  ∃ (pos f : Nat) (acc : List Ent) (L C : Int), i = .int .i64 (pos : Int) ∧ Mem w w.heap.size (w.heap.size + 1) (w.heap.size + 1 + 1) v wr acc L C ∧ Sums s pos f acc L C

set_option maxHeartbeats 2000000 in
set_option maxRecDepth 100000 in
theorem rsplit_any (s : ByteArray) (h : s.size ≤ 16384) (w : World) : Calls Tryd.prog 21 #[.string s] w (SplitTells s w) := by
  obtain ⟨i0, hi, hz0, hz1, hz2⟩ := info_parts Tryd.info52
  go_enter Tryd.func21, Tryd.ntmps21
  go_wp2_with fail
  go_loopw [5, 6] (fun v i wr => RSplitRel s w v i wr) (fun _ i _ => s.size - (intOf i).toNat)
  case atStart =>
    have hh := heap_two w (.cells #[.int .i64 0, .int .i64 0, .int .i64 0] 31) (.cells #[.int .i64 1, .int .i64 1] 24)
    refine ⟨0, s.size, [], 1, 1, rfl, ⟨hh.1, hh.2, World.ownsRow_nil _ _ _ _, ?_, by omega, by omega, by simp⟩, Sums.zero s⟩
    exact ((Below.refl _ _).alloc (Nat.le_refl _) _).alloc (by simp) _
  case round =>
    obtain ⟨pos, f, acc, L, C, rfl, M, S⟩ := hrel
    have hlo := S.lo
    have hple := S.pos_le
    have hlen := S.len
    by_cases hp : pos < s.size
    · have hp' : (pos : Int) < s.size := by omega
      have hwd := dec_width s pos hp
      have hc0 := M.cell0
      have hc1 := M.cell1
      cases hbad : badAt s pos
      · have hO := M.ord.2.2
        have S2 := S.step hp hbad
        go_wp2_with (first | (go_at_call 28; ((with_reducible refine (one_yes s pos h hp hbad _).mono ?_); rintro e w' ⟨rfl, rfl⟩)) | (at_builtin; refine wpList_append_own _ rfl _ _ 42 rfl (w.heap.size + 1 + 1) 52 i0 (.agg #[.int .i32 0, .int .i64 0, .int .i64 0, .int .i64 0]) 4 32 Tryd.underlying42 hi hz0 hz1 hz2 rfl (by decide) _ _ _ rfl (M.own.alloc _) ⟨wr.heap.size, 0, none⟩ 1 1 (entCells (((Utf8.decode s pos).1 : Int), pos, L, C)) rfl rfl ?c1 ?c2 ?c3 ?c4 ?c5 ?_))
        case c1 =>
          intro j u hj
          match j, hj with
          | 0, hj => simp [entCells] at hj; subst hj; simp [Addr.add]
          | 1, hj => simp [entCells] at hj; subst hj; simp [Addr.add]
          | 2, hj => simp [entCells] at hj; subst hj; simp [Addr.add]
          | 3, hj => simp [entCells] at hj; subst hj; simp [Addr.add]
          | (j + 4), hj => simp [entCells] at hj
        case c2 => intro u hu; simp [entCells] at hu; rcases hu with rfl | rfl | rfl | rfl <;> rfl
        case c3 => unfold maxLen; omega
        case c4 => omega
        case c5 => simp; omega
        intro v' w2 hown' hgrow _
        have M2 := M.grow hown' hgrow
        clear hown' hgrow hc0 hc1
        have hd0 := M2.cell0
        have hd1 := M2.cell1
        go_wp2_with (go_at_call 46; ((with_reducible refine (next_any _ _ _ (by omega) (by omega) (by omega) (by omega) _).mono ?_)))
        rintro e w3 ⟨rfl, hb3⟩
        have M3 := M2.later hb3
        have he0 := M3.cell0
        have he1 := M3.cell1
        have hf0 := M3.free 0
        have hf1 := M3.free 1
        go_wp2
        have M4 := M3.store (nlL (Utf8.decode s pos).1 L) (nlC (Utf8.decode s pos).1 C)
        refine ⟨⟨_, _, _, _, _, by go_num, M4, S2⟩, ?_⟩
        simp [intOf]
        omega
      · have hg0 := M.fcell0
        have hg1 := M.fcell1
        have hg2 := M.fcell2
        have hf0 := M.ffree 0
        have hf1 := M.ffree 1
        have hf2 := M.ffree 2
        go_wp2_with (first | (go_at_call 28; ((with_reducible refine (one_no s pos h hp hbad _).mono ?_); rintro e w' ⟨rfl, rfl⟩)))
        go_region
        go_wp2
        obtain ⟨g, rfl⟩ : ∃ g, f = g + 1 := ⟨f - 1, by have := S.fuel; omega⟩
        refine bodyPost_ret (v := .tuple #[.slice none 0 0, .agg #[.int .i64 1, .int .i64 L, .int .i64 C]]) (by simp [results, Tryd.results21, go_sem, hg0, hg1, hg2]) rfl (.inl ⟨L, C, ?_, rfl, (M.fset _ _ _).drew⟩)
        rw [← S.bads, badF_bad s g pos L C hp hbad]
    · have hp' : (s.size : Int) ≤ pos := by omega
      have hg0 := M.fcell0
      have hg1 := M.fcell1
      have hg2 := M.fcell2
      have hf0 := M.ffree 0
      have hf1 := M.ffree 1
      have hf2 := M.ffree 2
      have hr := S.runes
      have hb := S.bads
      rw [runesF_end s f pos L C hp, List.append_nil] at hr
      rw [badF_end s f pos L C hp] at hb
      subst hr
      have Hb := Lib.hid hb
      clear hb
      obtain ⟨A, c, rfl⟩ := owns_form M.own
      go_wp2
      exact bodyPost_ret (v := .tuple #[.slice A (runesOf s).length c, .agg #[.int .i64 0, .int .i64 0, .int .i64 0]]) (by simp [results, Tryd.results21, go_sem, hg0, hg1, hg2]) rfl (.inr ⟨Hb.out.symm, A, _, c, rfl, rfl, M.done _ _ _, M.fset _ _ _⟩)

/-! ### The place of a byte -/
structure QMem (w : World) (wr : World) (L C : Int) : Prop where
  res : wr.heap[w.heap.size]? = some (.cells #[.int .i64 0, .int .i64 0] 24 (0, 0))
  at_ : wr.heap[w.heap.size + 1]? = some (.cells #[.int .i64 L, .int .i64 C] 24 (0, 0))
  below : Below w.heap.size w wr
  size : w.heap.size + 1 + 1 ≤ wr.heap.size
structure QSums (s : ByteArray) (off : Int) (pos f : Nat) (L C : Int) : Prop where
  all : placeF s off f pos L C = placeOf s off
  fuel : s.size ≤ pos + f
  pos_le : pos ≤ s.size
  lo : 1 ≤ L ∧ 1 ≤ C ∧ L ≤ pos + 1 ∧ C ≤ pos + 1
theorem QSums.step {s : ByteArray} {off : Int} {pos f : Nat} {L C : Int} (h : QSums s off pos f L C) (hp : pos < s.size) (ho : ¬ off < (pos : Int) + ((Utf8.decode s pos).2 : Int)) :
    QSums s off (pos + (Utf8.decode s pos).2) (f - 1) (nlL (Utf8.decode s pos).1 L) (nlC (Utf8.decode s pos).1 C) := by
  have hw := dec_width s pos hp
  have hf := h.fuel
  have hl := h.lo
  have hn := nl_le (Utf8.decode s pos).1 L C hl.1 hl.2.1
  obtain ⟨g, rfl⟩ : ∃ g, f = g + 1 := ⟨f - 1, by omega⟩
  exact ⟨by rw [← h.all, placeF_on s off g pos L C hp ho]; rfl, by omega, by omega, by omega⟩
section
variable {w wr w' : World} {L C : Int}
theorem QMem.cells (M : QMem w wr L C) : wr.cell? ⟨w.heap.size, 0, none⟩ = some (.int .i64 0) ∧ wr.cell? ⟨w.heap.size, 1, none⟩ = some (.int .i64 0) ∧ wr.cell? ⟨w.heap.size + 1, 0, none⟩ = some (.int .i64 L) ∧ wr.cell? ⟨w.heap.size + 1, 1, none⟩ = some (.int .i64 C) :=
  ⟨cell_of_row wr _ 0 _ 24 (0, 0) M.res, cell_of_row wr _ 1 _ 24 (0, 0) M.res, cell_of_row wr _ 0 _ 24 (0, 0) M.at_, cell_of_row wr _ 1 _ 24 (0, 0) M.at_⟩
theorem QMem.frees (M : QMem w wr L C) (i : Nat) : wr.frozen? ⟨w.heap.size, i, none⟩ = false ∧ wr.frozen? ⟨w.heap.size + 1, i, none⟩ = false := by
  have h1 := M.res; have h2 := M.at_
  refine ⟨?_, ?_⟩ <;> simp [World.frozen?, h1, h2]
theorem QMem.later (M : QMem w wr L C) (hb : Below wr.heap.size wr w') : QMem w w' L C := by
  have hz := M.size
  exact ⟨(hb.block _ (by omega)).trans M.res, (hb.block _ (by omega)).trans M.at_, M.below.trans (hb.mono (by omega)), Nat.le_trans hz hb.size⟩
theorem QMem.store (M : QMem w wr L C) (a b : Int) : QMem w ((wr.setCell ⟨w.heap.size + 1, 0, none⟩ (.int .i64 a)).setCell ⟨w.heap.size + 1, 1, none⟩ (.int .i64 b)) a b := by
  obtain ⟨h1, h2, h3, h4⟩ := M
  refine ⟨?_, ?_, (h3.setCell (by simp) _).setCell (by simp) _, by simpa [World.setCell] using h4⟩
  · rw [Below.heap_setCell _ _ _ _ (by simp), Below.heap_setCell _ _ _ _ (by simp)]; exact h1
  · simp [World.setCell, Array.getElem?_modify, h2]
end
set_option maxHeartbeats 1000000 in
set_option maxRecDepth 100000 in
theorem rplace_long (s : ByteArray) (off : Int) (h : 16384 < s.size) (h2 : s.size ≤ 9223372036854775807) (w : World) : Calls Tryd.prog 24 #[.string s, .int .i64 off] w fun e w' => e = .returned (.agg #[.int .i64 0, .int .i64 0]) ∧ Below w.heap.size w w' := by
  go_enter Tryd.func24, Tryd.ntmps24
  go_wp2_with fail
  exact bodyPost_ret (v := .agg #[.int .i64 0, .int .i64 0]) (by simp [results, Tryd.results24, go_sem]) rfl ⟨rfl, (Below.refl _ _).alloc (Nat.le_refl _) _⟩
def RPlaceRel (s : ByteArray) (off : Int) (w : World) (i : Value) (wr : World) : Prop :=
  ∃ (pos f : Nat) (L C : Int), i = .int .i64 (pos : Int) ∧ QMem w wr L C ∧ QSums s off pos f L C

set_option maxHeartbeats 2000000 in
set_option maxRecDepth 100000 in
theorem rplace_any (s : ByteArray) (off : Int) (h : s.size ≤ 16384) (w : World) : Calls Tryd.prog 24 #[.string s, .int .i64 off] w (PlaceTells s off w) := by
  go_enter Tryd.func24, Tryd.ntmps24
  go_wp2_with fail
  go_loopw [6] (fun i wr => RPlaceRel s off w i wr) (fun i _ => s.size - (intOf i).toNat)
  case atStart =>
    have hh := heap_two w (.cells #[.int .i64 0, .int .i64 0] 24) (.cells #[.int .i64 1, .int .i64 1] 24)
    refine ⟨0, s.size, 1, 1, rfl, ⟨hh.1, hh.2, ?_, by simp⟩, ⟨rfl, by omega, by omega, by omega⟩⟩
    exact ((Below.refl _ _).alloc (Nat.le_refl _) _).alloc (by simp) _
  case round =>
    obtain ⟨pos, f, L, C, rfl, M, S⟩ := hrel
    have hlo := S.lo
    have hple := S.pos_le
    obtain ⟨hr0, hr1, hc0, hc1⟩ := M.cells
    obtain ⟨fr0, fc0⟩ := M.frees 0
    obtain ⟨fr1, fc1⟩ := M.frees 1
    by_cases hp : pos < s.size
    · have hp' : (pos : Int) < s.size := by omega
      have hwd := dec_width s pos hp
      cases hbad : badAt s pos
      · by_cases ho : off < (pos : Int) + ((Utf8.decode s pos).2 : Int)
        · obtain ⟨g, rfl⟩ : ∃ g, f = g + 1 := ⟨f - 1, by have := S.fuel; omega⟩
          have hw := S.all
          rw [placeF_in s off g pos L C hp ho] at hw
          have e1 := congrArg Prod.fst hw
          have e2 := congrArg Prod.snd hw
          simp only at e1 e2
          subst e1 e2
          clear hw
          have hn1 : (((Utf8.decode s pos).2 : Int) == 0) = false := by simp; omega
          go_wp2_with (first | (go_at_call 28; ((with_reducible refine (one_yes s pos h hp hbad _).mono ?_); rintro e w' ⟨rfl, rfl⟩)))
          exact bodyPost_ret (v := .agg #[.int .i64 (placeOf s off).1, .int .i64 (placeOf s off).2]) (by simp [results, Tryd.results24, go_sem, hr0, hr1]) rfl ⟨rfl, (M.below.setCell (by simp) _).setCell (by simp) _⟩
        · have S2 := S.step hp ho
          have ho' : (pos : Int) + ((Utf8.decode s pos).2 : Int) ≤ off := by omega
          have hn1 : (((Utf8.decode s pos).2 : Int) == 0) = false := by simp; omega
          clear ho
          go_wp2_with (first | (go_at_call 28; ((with_reducible refine (one_yes s pos h hp hbad _).mono ?_); rintro e w' ⟨rfl, rfl⟩)) | (go_at_call 46; ((with_reducible refine (next_any _ _ _ (by omega) (by omega) (by omega) (by omega) _).mono ?_))))
          rintro e w3 ⟨rfl, hb3⟩
          have M3 := M.later hb3
          obtain ⟨_, _, he0, he1⟩ := M3.cells
          have hf0 := (M3.frees 0).2
          have hf1 := (M3.frees 1).2
          go_wp2
          have M4 := M3.store (nlL (Utf8.decode s pos).1 L) (nlC (Utf8.decode s pos).1 C)
          refine ⟨⟨_, _, _, _, by go_num, M4, S2⟩, ?_⟩
          simp [intOf]
          omega
      · have hd : (Utf8.decode s pos).1 = 65533 ∧ (Utf8.decode s pos).2 = 1 := by simpa [badAt] using hbad
        by_cases ho : off < (pos : Int) + 1
        · obtain ⟨g, rfl⟩ : ∃ g, f = g + 1 := ⟨f - 1, by have := S.fuel; omega⟩
          have hw := S.all
          rw [placeF_in s off g pos L C hp (by omega)] at hw
          have e1 := congrArg Prod.fst hw
          have e2 := congrArg Prod.snd hw
          simp only at e1 e2
          subst e1 e2
          clear hw hd hwd
          go_wp2_with (first | (go_at_call 28; ((with_reducible refine (one_no s pos h hp hbad _).mono ?_); rintro e w' ⟨rfl, rfl⟩)))
          exact bodyPost_ret (v := .agg #[.int .i64 (placeOf s off).1, .int .i64 (placeOf s off).2]) (by simp [results, Tryd.results24, go_sem, hr0, hr1]) rfl ⟨rfl, (M.below.setCell (by simp) _).setCell (by simp) _⟩
        · have S2 := S.step hp (by omega)
          rw [hd.1, hd.2] at S2
          have ho' : (pos : Int) + 1 ≤ off := by omega
          clear ho hd hwd
          go_wp2_with (first | (go_at_call 28; ((with_reducible refine (one_no s pos h hp hbad _).mono ?_); rintro e w' ⟨rfl, rfl⟩)) | (go_at_call 46; ((with_reducible refine (next_any _ _ _ (by omega) (by omega) (by omega) (by omega) _).mono ?_))))
          rintro e w3 ⟨rfl, hb3⟩
          have M3 := M.later hb3
          obtain ⟨_, _, he0, he1⟩ := M3.cells
          have hf0 := (M3.frees 0).2
          have hf1 := (M3.frees 1).2
          go_wp2
          have M4 := M3.store (nlL 0 L) (nlC 0 C)
          refine ⟨⟨_, _, _, _, by go_num, M4, S2⟩, ?_⟩
          simp [intOf]
          omega
    · have hp' : (s.size : Int) ≤ pos := by omega
      have hw := S.all
      rw [placeF_end s off f pos L C hp] at hw
      have e1 := congrArg Prod.fst hw
      have e2 := congrArg Prod.snd hw
      simp only at e1 e2
      subst e1 e2
      clear hw
      go_wp2
      exact bodyPost_ret (v := .agg #[.int .i64 (placeOf s off).1, .int .i64 (placeOf s off).2]) (by simp [results, Tryd.results24, go_sem, hr0, hr1]) rfl ⟨rfl, (M.below.setCell (by simp) _).setCell (by simp) _⟩
end Go.Proofs.YtdmgpeflanjngaaDoor
