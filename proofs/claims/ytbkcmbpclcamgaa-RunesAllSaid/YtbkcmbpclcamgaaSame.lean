/-
  What the document's own Put tells of a rune, and what its Same tells of two rows of the same runes. No condition.
-/
import Derived.Test.YtbkcmbpclcamgaaAwake
import Derived.Deep.QuietTactic
import Derived.BigQuiet
import Derived.Laws.StructEq
namespace Go.Proofs.Ytbkcmbpclcamgaa
open Go.ChangeShapes Go.WideShapes Go.ChangeAt Go.RowKit
set_option linter.unusedVariables false

theorem row_cells (w : World) (r : Int) (hv : validB r = true) (cs : List Value) (h : Lib.runeCells r = cs) : Row (w.alloc (.cells cs.toArray 5)) (some ⟨w.heap.size, 0, none⟩) (enc r).length (enc r) := by
  have e : Lib.byteCells (enc r) = cs := by rw [enc_yes hv, Lib.byteCells_encodeRune, h]
  rw [← e]; exact row_lit w (enc r)
def PutTells (r : Int) (w : World) (e : Ending) (w' : World) : Prop := ∃ A n c, e = .returned (.slice A n c) ∧ Row w' A n (enc r) ∧ Below w.heap.size w w'
theorem put_of (w : World) (r : Int) (hv : validB r = true) (cs : List Value) (h : Lib.runeCells r = cs) (n c : Nat) (hn : n = cs.length) : PutTells r w (.returned (.slice (some ⟨w.heap.size, 0, none⟩) n c)) (w.alloc (.cells cs.toArray 5)) := by
  have hr := row_cells w r hv cs h
  have e : n = (enc r).length := by rw [hn, ← h, Lib.runeCells_length, enc_yes hv]
  exact ⟨_, _, _, rfl, by rw [e]; exact hr, (Below.refl _ _).alloc (Nat.le_refl _) _⟩

set_option maxHeartbeats 1000000 in
set_option maxRecDepth 100000 in
theorem rput_any (r : Int) (w : World) : Calls Try.prog 23 #[.int .i32 r] w (PutTells r w) := by
  cases hv : validB r
  · go_enter Try.func23, Try.ntmps23
    go_wp2_with (go_at_call 31; ((with_reducible refine (scalar_any _ _).mono ?_); rintro e w' ⟨rfl, rfl⟩))
    go_ret
    exact ⟨none, 0, 0, rfl, by rw [enc_no hv]; exact .inl ⟨rfl, rfl, rfl⟩, Below.refl _ _⟩
  · have hb := (validB_iff r).1 hv
    have hr0 : 0 ≤ r := by omega
    have hr1 : r ≤ 1114111 := by omega
    have e1 : (!validB r) = false := by rw [hv]; rfl
    have Hv := Lib.hid hv
    have Hb := Lib.hid hb
    clear hb hv
    by_cases c1 : r < 128
    · go_enter Try.func23, Try.ntmps23
      go_wp2_with (go_at_call 31; ((with_reducible refine (scalar_any _ _).mono ?_); rintro e w' ⟨rfl, rfl⟩))
      go_ret
      exact put_of w r Hv.out _ (by simp [Lib.runeCells, Lib.encodeRuneZ_one (r := r) (by omega) (by omega)]) _ _ rfl
    have d1 : 128 ≤ r := by omega
    clear c1
    by_cases c2 : r < 2048
    · go_enter Try.func23, Try.ntmps23
      go_wp2_with (go_at_call 31; ((with_reducible refine (scalar_any _ _).mono ?_); rintro e w' ⟨rfl, rfl⟩))
      go_ret
      exact put_of w r Hv.out _ (by simp [Lib.runeCells, Lib.encodeRuneZ_two (r := r) (by omega) (by omega)]) _ _ rfl
    have d2 : 2048 ≤ r := by omega
    clear c2
    by_cases c3 : r < 65536
    · go_enter Try.func23, Try.ntmps23
      go_wp2_with (go_at_call 31; ((with_reducible refine (scalar_any _ _).mono ?_); rintro e w' ⟨rfl, rfl⟩))
      go_ret
      exact put_of w r Hv.out _ (by simp [Lib.runeCells, Lib.encodeRuneZ_three (r := r) (by have := Hb.out; omega)]) _ _ rfl
    · have d3 : 65536 ≤ r := by omega
      clear c3
      go_enter Try.func23, Try.ntmps23
      go_wp2_with (go_at_call 31; ((with_reducible refine (scalar_any _ _).mono ?_); rintro e w' ⟨rfl, rfl⟩))
      go_ret
      exact put_of w r Hv.out _ (by simp [Lib.runeCells, Lib.encodeRuneZ_four (r := r) (by omega) (by omega)]) _ _ rfl

theorem listCells_at (l : List Ent) : ∀ (k : Nat) (e : Ent), l[k]? = some e → (listCells l)[k * 4]? = some (.int .i32 e.1) ∧ (listCells l)[k * 4 + 1]? = some (.int .i64 (e.2.1 : Int)) ∧ (listCells l)[k * 4 + 2]? = some (.int .i64 e.2.2.1) ∧ (listCells l)[k * 4 + 3]? = some (.int .i64 e.2.2.2) := by
  induction l with
  | nil => intro k e h; cases h
  | cons d t ih =>
    intro k e h
    have hc : listCells (d :: t) = entCells d ++ listCells t := rfl
    have h4 : (entCells d).length = 4 := rfl
    cases k with
    | zero =>
      simp only [List.getElem?_cons_zero, Option.some.injEq] at h
      subst h
      exact ⟨rfl, rfl, rfl, rfl⟩
    | succ k =>
      rw [List.getElem?_cons_succ] at h
      obtain ⟨h0, h1, h2, h3⟩ := ih k e h
      rw [hc]
      refine ⟨?_, ?_, ?_, ?_⟩
      · rw [List.getElem?_append_right (by omega), h4, show (k + 1) * 4 - 4 = k * 4 by omega]; exact h0
      · rw [List.getElem?_append_right (by omega), h4, show (k + 1) * 4 + 1 - 4 = k * 4 + 1 by omega]; exact h1
      · rw [List.getElem?_append_right (by omega), h4, show (k + 1) * 4 + 2 - 4 = k * 4 + 2 by omega]; exact h2
      · rw [List.getElem?_append_right (by omega), h4, show (k + 1) * 4 + 3 - 4 = k * 4 + 3 by omega]; exact h3

/-- A slice of runes that reads as l. -/
def RRow (w : World) (A : Option Addr) (n c : Nat) (l : List Ent) : Prop :=
  n = l.length ∧ n ≤ c ∧ (0 < n → ∃ g, A = some ⟨g, 0, none⟩ ∧ g < w.heap.size ∧ ∀ k e, l[k]? = some e → w.cell? ⟨g, k * 4, none⟩ = some (.int .i32 e.1) ∧ w.cell? ⟨g, k * 4 + 1, none⟩ = some (.int .i64 (e.2.1 : Int)) ∧ w.cell? ⟨g, k * 4 + 2, none⟩ = some (.int .i64 e.2.2.1) ∧ w.cell? ⟨g, k * 4 + 3, none⟩ = some (.int .i64 e.2.2.2))
theorem RRow.of_owns {w : World} {B : Nat} {A : Option Addr} {n c : Nat} {l : List Ent} (hn : n = l.length) (h : w.ownsRow B 40 4 (.slice A n c) n (listCells l)) : RRow w A n c l := by
  refine ⟨hn, ?_, fun h0 => ?_⟩
  · rcases h.2 with ⟨_, h0⟩ | ⟨g, cap, cur, hv, hB, hg, hc, _⟩
    · omega
    · injection hv with h1 h2 h3
      omega
  · obtain ⟨g, hA, _, hg, _, hx⟩ := owns_cell h h0
    refine ⟨g, hA, hg, fun k e he => ?_⟩
    obtain ⟨x0, x1, x2, x3⟩ := listCells_at l k e he
    exact ⟨hx _ _ x0, hx _ _ x1, hx _ _ x2, hx _ _ x3⟩
theorem RRow.below {w w' : World} {A : Option Addr} {n c : Nat} {l : List Ent} (h : RRow w A n c l) (hb : Below w.heap.size w w') : RRow w' A n c l := by
  refine ⟨h.1, h.2.1, fun h0 => ?_⟩
  obtain ⟨g, hA, hg, hx⟩ := h.2.2 h0
  refine ⟨g, hA, Nat.lt_of_lt_of_le hg hb.size, fun k e he => ?_⟩
  obtain ⟨x0, x1, x2, x3⟩ := hx k e he
  exact ⟨(hb.cell (p := ⟨g, _, none⟩) hg).trans x0, (hb.cell (p := ⟨g, _, none⟩) hg).trans x1, (hb.cell (p := ⟨g, _, none⟩) hg).trans x2, (hb.cell (p := ⟨g, _, none⟩) hg).trans x3⟩

theorem below_drawn {B : Nat} {a w : World} (h : Below B a w) (n : Nat) : Below B a (w.drewN n) := ⟨h.os, h.tape, h.output, h.size, h.block⟩
set_option maxHeartbeats 1000000 in
set_option maxRecDepth 100000 in
theorem same_any (l : List Ent) (A B : Option Addr) (n c d : Nat) (hl : n ≤ 16384) (w : World) (ha : RRow w A n c l) (hb : RRow w B n d l) : Calls Try.prog 10 #[.slice A n c, .slice B n d] w fun e w' => e = .returned (.bool true) ∧ Below w.heap.size w w' := by
  go_enter Try.func10, Try.ntmps10
  go_wp2
  go_loopw [5] (fun i wr => ∃ k : Nat, k ≤ n ∧ i = .int .i64 (k : Int) ∧ Below w.heap.size w wr) (fun i _ => n - (intOf i).toNat)
  case atStart => exact ⟨0, by omega, rfl, Below.refl _ _⟩
  case round =>
    obtain ⟨k, hk, rfl, hB⟩ := hrel
    by_cases hlt : k < n
    · have hlt' : (k : Int) < n := by omega
      have hac := ha.2.1
      have hbc := hb.2.1
      obtain ⟨g, rfl, hg, hx⟩ := ha.2.2 (by omega)
      obtain ⟨g', rfl, hg', hx'⟩ := hb.2.2 (by omega)
      obtain ⟨e, he⟩ : ∃ e, l[k]? = some e := ⟨l[k]'(by have := ha.1; omega), List.getElem?_eq_getElem _⟩
      obtain ⟨x0, x1, x2, x3⟩ := hx k e he
      obtain ⟨y0, y1, y2, y3⟩ := hx' k e he
      rw [← hB.cell (p := ⟨g, _, none⟩) hg] at x0 x1 x2 x3
      rw [← hB.cell (p := ⟨g', _, none⟩) hg'] at y0 y1 y2 y3
      clear hx hx' he
      go_wp2
      go_quiet (fail)
      go_wp2
      refine ⟨⟨k + 1, by omega, by go_num, below_drawn hB _⟩, ?_⟩
      simp [intOf]; omega
    · have hge : (n : Int) ≤ k := by omega
      go_wp2
      go_ret
      exact ⟨rfl, hB⟩

/-! ### The two answers of a text, whatever its length -/
def spE (s : ByteArray) : Int := if 16384 < s.size then 5 else match badOf s with | some _ => 1 | none => 0
def spL (s : ByteArray) : Int := if 16384 < s.size then 1 else match badOf s with | some p => p.1 | none => 0
def spC (s : ByteArray) : Int := if 16384 < s.size then 1 else match badOf s with | some p => p.2 | none => 0
def spList (s : ByteArray) : List Ent := if 16384 < s.size then [] else match badOf s with | some _ => [] | none => runesOf s
def AllTells (s : ByteArray) (w : World) (e : Ending) (w' : World) : Prop :=
  ∃ A n c, e = .returned (.tuple #[.slice A n c, .agg #[.int .i64 (spE s), .int .i64 (spL s), .int .i64 (spC s)]]) ∧ n = (spList s).length ∧ RRow w' A n c (spList s) ∧ Below w.heap.size w w'
theorem rrow_nil (w : World) : RRow w none 0 0 [] := ⟨rfl, by omega, fun h => by omega⟩
theorem all_long {s : ByteArray} {w w' : World} {e : Ending} (h : 16384 < s.size) (he : e = .returned (.tuple #[.slice none 0 0, .agg #[.int .i64 5, .int .i64 1, .int .i64 1]])) (hb : Below w.heap.size w w') : AllTells s w e w' := by
  refine ⟨none, 0, 0, ?_, ?_, ?_, hb⟩
  · rw [he, spE, spL, spC, if_pos h, if_pos h, if_pos h]
  · rw [spList, if_pos h]; rfl
  · rw [spList, if_pos h]; exact rrow_nil _
theorem all_short {s : ByteArray} {w w' : World} {e : Ending} (h : s.size ≤ 16384) (ht : SplitTells s w e w') : AllTells s w e w' := by
  have hn : ¬ 16384 < s.size := by omega
  rcases ht with ⟨L, C, hbad, he, hb⟩ | ⟨hbad, A, n, c, he, hl, ho, hb⟩
  · refine ⟨none, 0, 0, ?_, ?_, ?_, hb⟩
    · rw [he, spE, spL, spC, if_neg hn, if_neg hn, if_neg hn, hbad]
    · rw [spList, if_neg hn, hbad]; rfl
    · rw [spList, if_neg hn, hbad]; exact rrow_nil _
  · refine ⟨A, n, c, ?_, ?_, ?_, hb⟩
    · rw [he, spE, spL, spC, if_neg hn, if_neg hn, if_neg hn, hbad]
    · rw [spList, if_neg hn, hbad]; exact hl
    · rw [spList, if_neg hn, hbad]; exact RRow.of_owns hl ho
theorem spList_len (s : ByteArray) : (spList s).length ≤ 16384 := by
  unfold spList
  split
  · simp
  · split
    · simp
    · have := runesF_len s s.size 0 1 1
      unfold runesOf; omega
theorem split_all (s : ByteArray) (h : s.size ≤ 9223372036854775807) (w : World) : Calls Try.prog 8 #[.string s] w (AllTells s w) := by
  by_cases hl : 16384 < s.size
  · exact (split_long s hl h w).mono fun e w' ⟨he, hb⟩ => all_long hl he hb
  · exact (split_any s (by omega) w).mono fun e w' ht => all_short (by omega) ht
end Go.Proofs.Ytbkcmbpclcamgaa
