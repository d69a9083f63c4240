/-
  What the document's own Put, part and hex tell of a rune; a row of runes in memory as it is read. No condition.
-/
import Derived.Test.YtdmgpeflanjngaaDoorRefs
import Derived.Test.YtdmgpeflanjngaaDoorNamesO
import Derived.Test.YtdmgpeflanjngaaDoorShown
import Derived.Deep.QuietTactic
import Derived.BigQuiet
import Derived.Lib.QuietBelow
namespace Go.Proofs.YtdmgpeflanjngaaDoor
open Go.ChangeShapes Go.WideShapes Go.ChangeAt Go.RowKit
set_option linter.unusedVariables false

theorem row_lit (w : World) (l : List UInt8) : Row (w.alloc (.cells (Lib.byteCells l).toArray 5)) (some ⟨w.heap.size, 0, none⟩) l.length l := by
  refine .inr ⟨_, rfl, rfl, by simp, fun j hj => ?_⟩
  rw [cell_of_row _ w.heap.size j _ 5 (0, 0) (heap_alloc_new w _)]
  simp [Lib.byteCells, hj]

theorem row_cells (w : World) (r : Int) (hv : validB r = true) (cs : List Value) (h : Lib.runeCells r = cs) : Row (w.alloc (.cells cs.toArray 5)) (some ⟨w.heap.size, 0, none⟩) (enc r).length (enc r) := by
  have e : Lib.byteCells (enc r) = cs := by rw [enc_yes hv, Lib.byteCells_encodeRune, h]
  rw [← e]; exact row_lit w (enc r)
def PutTells (r : Int) (w : World) (e : Ending) (w' : World) : Prop := ∃ A n c, e = .returned (.slice A n c) ∧ Row w' A n (enc r) ∧ Below w.heap.size w w'
theorem put_of (w : World) (r : Int) (hv : validB r = true) (cs : List Value) (h : Lib.runeCells r = cs) (n c : Nat) (hn : n = cs.length) : PutTells r w (.returned (.slice (some ⟨w.heap.size, 0, none⟩) n c)) (w.alloc (.cells cs.toArray 5)) := by
  have hr := row_cells w r hv cs h
  have e : n = (enc r).length := by rw [hn, ← h, Lib.runeCells_length, enc_yes hv]
  exact ⟨_, _, _, rfl, by rw [e]; exact hr, (Below.refl _ _).alloc (Nat.le_refl _) _⟩

set_option maxHeartbeats 1000000 in
set_option maxRecDepth 100000 in
theorem rput_any (r : Int) (w : World) : Calls Tryd.prog 66 #[.int .i32 r] w (PutTells r w) := by
  cases hv : validB r
  · go_enter Tryd.func66, Tryd.ntmps66
    go_wp2_with (go_at_call 54; ((with_reducible refine (scalar_any _ _).mono ?_); rintro e w' ⟨rfl, rfl⟩))
    go_ret
    exact ⟨none, 0, 0, rfl, by rw [enc_no hv]; exact .inl ⟨rfl, rfl, rfl⟩, Below.refl _ _⟩
  · have hb := (validB_iff r).1 hv
    have hr0 : 0 ≤ r := by omega
    have hr1 : r ≤ 1114111 := by omega
    have e1 : (!validB r) = false := by rw [hv]; rfl
    have Hv := Lib.hid hv
    have Hb := Lib.hid hb
    clear hb hv
    by_cases c1 : r < 128
    · go_enter Tryd.func66, Tryd.ntmps66
      go_wp2_with (go_at_call 54; ((with_reducible refine (scalar_any _ _).mono ?_); rintro e w' ⟨rfl, rfl⟩))
      go_ret
      exact put_of w r Hv.out _ (by simp [Lib.runeCells, Lib.encodeRuneZ_one (r := r) (by omega) (by omega)]) _ _ rfl
    have d1 : 128 ≤ r := by omega
    clear c1
    by_cases c2 : r < 2048
    · go_enter Tryd.func66, Tryd.ntmps66
      go_wp2_with (go_at_call 54; ((with_reducible refine (scalar_any _ _).mono ?_); rintro e w' ⟨rfl, rfl⟩))
      go_ret
      exact put_of w r Hv.out _ (by simp [Lib.runeCells, Lib.encodeRuneZ_two (r := r) (by omega) (by omega)]) _ _ rfl
    have d2 : 2048 ≤ r := by omega
    clear c2
    by_cases c3 : r < 65536
    · go_enter Tryd.func66, Tryd.ntmps66
      go_wp2_with (go_at_call 54; ((with_reducible refine (scalar_any _ _).mono ?_); rintro e w' ⟨rfl, rfl⟩))
      go_ret
      exact put_of w r Hv.out _ (by simp [Lib.runeCells, Lib.encodeRuneZ_three (r := r) (by have := Hb.out; omega)]) _ _ rfl
    · have d3 : 65536 ≤ r := by omega
      clear c3
      go_enter Tryd.func66, Tryd.ntmps66
      go_wp2_with (go_at_call 54; ((with_reducible refine (scalar_any _ _).mono ?_); rintro e w' ⟨rfl, rfl⟩))
      go_ret
      exact put_of w r Hv.out _ (by simp [Lib.runeCells, Lib.encodeRuneZ_four (r := r) (by omega) (by omega)]) _ _ rfl

theorem rune_of {rs : List Ent} {k : Nat} {e : Ent} (h : rs[k]? = some e) : runeAt rs k = e.1 := by simp [runeAt, h]
/-- A row of runes that lies in memory. -/
structure RRow (W : World) (A : Option Addr) (n c : Nat) (l : List Ent) : Prop where
  len : n = l.length
  cap : n ≤ c
  at' : 0 < n → ∃ g, A = some ⟨g, 0, none⟩ ∧ g < W.heap.size ∧ ∀ k e, l[k]? = some e → W.cell? ⟨g, k * 4, none⟩ = some (.int .i32 e.1) ∧ W.cell? ⟨g, k * 4 + 1, none⟩ = some (.int .i64 (e.2.1 : Int)) ∧ W.cell? ⟨g, k * 4 + 2, none⟩ = some (.int .i64 e.2.2.1) ∧ W.cell? ⟨g, k * 4 + 3, none⟩ = some (.int .i64 e.2.2.2)
theorem RRow.of_owns {w : World} {B : Nat} {A : Option Addr} {n c : Nat} {l : List Ent} (hn : n = l.length) (h : w.ownsRow B 52 4 (.slice A n c) n (listCells l)) : RRow w A n c l := by
  refine ⟨hn, owns_cap h, fun h0 => ?_⟩
  obtain ⟨g, hA, _, hg, _, hx⟩ := owns_cell h h0
  refine ⟨g, hA, hg, fun k e he => ?_⟩
  obtain ⟨x0, x1, x2, x3⟩ := listCells_at l k e he
  exact ⟨hx _ _ x0, hx _ _ x1, hx _ _ x2, hx _ _ x3⟩
theorem RRow.below {w w' : World} {A : Option Addr} {n c : Nat} {l : List Ent} (h : RRow w A n c l) (hb : Below w.heap.size w w') : RRow w' A n c l := by
  refine ⟨h.len, h.cap, fun h0 => ?_⟩
  obtain ⟨g, hA, hg, hx⟩ := h.at' h0
  refine ⟨g, hA, Nat.lt_of_lt_of_le hg hb.size, fun k e he => ?_⟩
  obtain ⟨x0, x1, x2, x3⟩ := hx k e he
  exact ⟨cell_kept hb hg x0, cell_kept hb hg x1, cell_kept hb hg x2, cell_kept hb hg x3⟩

theorem part_any (r : Int) (w : World) : Calls Tryd.prog 29 #[.int .i32 r] w fun e w' => e = .returned (.bool (nameB r)) ∧ w = w' := by
  have hn : nameB r = (lowB r || (upB r || (digB r || (r == 95)))) := by
    simp [nameB]; rfl
  rw [hn]
  obtain ⟨bl, hbl⟩ : ∃ b, lowB r = b := ⟨_, rfl⟩
  obtain ⟨bu, hbu⟩ : ∃ b, upB r = b := ⟨_, rfl⟩
  obtain ⟨bd, hbd⟩ : ∃ b, digB r = b := ⟨_, rfl⟩
  have HL := Lib.hid (fun w => hbl ▸ rlow_any r w)
  have HU := Lib.hid (fun w => hbu ▸ rup_any r w)
  have HD := Lib.hid (fun w => hbd ▸ rdig_any r w)
  rw [hbl, hbu, hbd]
  clear hn hbl hbu hbd
  cases bl <;> cases bu <;> cases bd
  all_goals
    go_enter Tryd.func29, Tryd.ntmps29
    go_wp2_with (first | (go_at_call 31; ((with_reducible refine (HL.out _).mono ?_); rintro e w' ⟨rfl, rfl⟩)) | (go_at_call 30; ((with_reducible refine (HU.out _).mono ?_); rintro e w' ⟨rfl, rfl⟩)) | (go_at_call 48; ((with_reducible refine (HD.out _).mono ?_); rintro e w' ⟨rfl, rfl⟩)))
    go_ret
    exact ⟨ret_bool (by simp), rfl⟩
theorem rhex_any (r : Int) (h0 : -1 ≤ r) (h1 : r ≤ 1114111) (w : World) : Calls Tryd.prog 67 #[.int .i32 r] w fun e w' => e = .returned (.int .i64 (hexV r)) ∧ w = w' := by
  by_cases a : 48 ≤ r ∧ r ≤ 57
  · obtain ⟨a1, a2⟩ := a
    rw [show hexV r = r - 48 by unfold hexV; rw [if_neg (by omega), if_pos (by omega)]]
    go_enter Tryd.func67, Tryd.ntmps67
    go_wp2
    go_ret
    exact ⟨rfl, rfl⟩
  by_cases b : 97 ≤ r ∧ r ≤ 102
  · obtain ⟨b1, b2⟩ := b
    rw [show hexV r = r - 97 + 10 by unfold hexV; rw [if_pos (by omega)]; omega]
    have c1 : 57 < r := by omega
    have c2 : 48 ≤ r := by omega
    go_enter Tryd.func67, Tryd.ntmps67
    go_wp2
    go_ret
    exact ⟨rfl, rfl⟩
  · rw [show hexV r = -1 by unfold hexV; rw [if_neg b, if_neg a]]
    have hc : r < 48 ∨ (57 < r ∧ r < 97) ∨ 102 < r := by omega
    rcases hc with c | ⟨c, d⟩ | c
    · have c2 : r < 97 := by omega
      go_enter Tryd.func67, Tryd.ntmps67
      go_wp2
      go_ret
      exact ⟨rfl, rfl⟩
    · have c2 : 48 ≤ r := by omega
      go_enter Tryd.func67, Tryd.ntmps67
      go_wp2
      go_ret
      exact ⟨rfl, rfl⟩
    · have c2 : 48 ≤ r := by omega
      have c3 : 57 < r := by omega
      have c4 : 97 ≤ r := by omega
      go_enter Tryd.func67, Tryd.ntmps67
      go_wp2
      go_ret
      exact ⟨rfl, rfl⟩
end Go.Proofs.YtdmgpeflanjngaaDoor
