/-
  Texts of one proof, in the order in which they lean on one another. No condition.
-/
import Derived.Deep.QuietTactic
import Derived.BigQuiet
import Derived.Lib.QuietBelow
import Derived.Shelf.Strconv.Itoa4
import Derived.Ground.NamesProg
import Derived.Lib.AppendIntMem
import Derived.Test.YtcmnjodjebcapaaGreatFaRefs
import Derived.Test.YtcmnjodjebcapaaGreatFaNamesO
import Derived.Test.YtcmnjodjebcapaaGreatFaSame
namespace Go.Proofs.YtcmnjodjebcapaaGreat
open Go.ChangeShapes Go.WideShapes Go.ChangeAt Go.RowKit
set_option linter.unusedVariables false
structure RRow (W : World) (A : Option Addr) (n c : Nat) (l : List Ent) : Prop where
  len : n = l.length
  cap : n ≤ c
  at' : 0 < n → ∃ g, A = some ⟨g, 0, none⟩ ∧ g < W.heap.size ∧ ∀ k e, l[k]? = some e → W.cell? ⟨g, k * 4, none⟩ = some (.int .i32 e.1) ∧ W.cell? ⟨g, k * 4 + 1, none⟩ = some (.int .i64 (e.2.1 : Int)) ∧ W.cell? ⟨g, k * 4 + 2, none⟩ = some (.int .i64 e.2.2.1) ∧ W.cell? ⟨g, k * 4 + 3, none⟩ = some (.int .i64 e.2.2.2)
theorem RRow.of_owns {w : World} {B : Nat} {A : Option Addr} {n c : Nat} {l : List Ent} (hn : n = l.length) (h : w.ownsRow B 230 4 (.slice A n c) n (listCells l)) : RRow w A n c l := by
  refine ⟨hn, owns_cap h, fun h0 => ?_⟩
  obtain ⟨g, hA, _, hg, _, hx⟩ := owns_cell h h0
  refine ⟨g, hA, hg, fun k e he => ?_⟩
  obtain ⟨x0, x1, x2, x3⟩ := listCells_at l k e he
  exact ⟨hx _ _ x0, hx _ _ x1, hx _ _ x2, hx _ _ x3⟩
theorem RRow.below {w w' : World} {A : Option Addr} {n c : Nat} {l : List Ent} (h : RRow w A n c l) (hb : Below w.heap.size w w') : RRow w' A n c l := by
  refine ⟨h.len, h.cap, fun h0 => ?_⟩
  obtain ⟨g, hA, hg, hx⟩ := h.at' h0
  refine ⟨g, hA, Nat.lt_of_lt_of_le hg hb.size, fun k e he => ?_⟩
  obtain ⟨x0, x1, x2, x3⟩ := hx k e he
  exact ⟨cell_kept hb hg x0, cell_kept hb hg x1, cell_kept hb hg x2, cell_kept hb hg x3⟩
theorem part_any (r : Int) (w : World) : Calls Tryz.prog 96 #[.int .i32 r] w fun e w' => e = .returned (.bool (nameB r)) ∧ w = w' := by
  have hn : nameB r = (lowB r || (upB r || (digB r || (r == 95)))) := by
    simp [nameB]; rfl
  rw [hn]
  obtain ⟨bl, hbl⟩ : ∃ b, lowB r = b := ⟨_, rfl⟩
  obtain ⟨bu, hbu⟩ : ∃ b, upB r = b := ⟨_, rfl⟩
  obtain ⟨bd, hbd⟩ : ∃ b, digB r = b := ⟨_, rfl⟩
  have HL := Lib.hid (fun w => hbl ▸ rlow_any r w)
  have HU := Lib.hid (fun w => hbu ▸ rup_any r w)
  have HD := Lib.hid (fun w => hbd ▸ rdig_any r w)
  rw [hbl, hbu, hbd]
  clear hn hbl hbu hbd
  cases bl <;> cases bu <;> cases bd
  all_goals
    go_enter Tryz.func96, Tryz.ntmps96
    go_wp2_with (first | (go_at_call 98; ((with_reducible refine (HL.out _).mono ?_); rintro e w' ⟨rfl, rfl⟩)) | (go_at_call 97; ((with_reducible refine (HU.out _).mono ?_); rintro e w' ⟨rfl, rfl⟩)) | (go_at_call 162; ((with_reducible refine (HD.out _).mono ?_); rintro e w' ⟨rfl, rfl⟩)))
    go_ret
    exact ⟨ret_bool (by simp), rfl⟩
end Go.Proofs.YtcmnjodjebcapaaGreat
