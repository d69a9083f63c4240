/-
  Texts of one proof, in their order. No condition.
-/
import Derived.Test.YtjhnmikciejekaaGreatPqWords
namespace Go.Proofs.YtjhnmikciejekaaGreat
open Go.ChangeShapes Go.WideShapes Go.ChangeAt Go.RowKit
set_option linter.unusedVariables false
theorem below_drawnW {B : Nat} {a w : World} (h : Below B a w) (n : Nat) : Below B a (w.drewN n) := ⟨h.os, h.tape, h.output, h.size, h.block⟩
section
variable {R : Nat} {A : Option Addr} {c : Nat} {rs : List Ent} {eL eC : Int} {k : Nat}
set_option maxHeartbeats 1000000 in
theorem where_in (w : World) (h : Rd R A c rs eL eC k w) (hk : k < rs.length) :
    Calls Tryz.prog 144 #[.pointer (some ⟨R, 0, none⟩)] w fun e w' => e = .returned (.agg #[.int .i64 (lineAt rs eL k), .int .i64 (colAt rs eC k)]) ∧ Below w.heap.size w w' := by
  have hR := h.lt
  have hl := h.len
  have h0 := (h.quiet (grown_alloc w (.cells #[.int .i64 0, .int .i64 0] 29) none)).cell0
  have h1 := (h.quiet (grown_alloc w (.cells #[.int .i64 0, .int .i64 0] 29) none)).cell1
  obtain ⟨hcap, hrow⟩ := (h.quiet (grown_alloc w (.cells #[.int .i64 0, .int .i64 0] 29) none)).row
  obtain ⟨g, rfl, hne, hlt, hx⟩ := hrow (by omega)
  have he := List.getElem?_eq_getElem hk
  obtain ⟨-, -, hc2, hc3⟩ := hx _ _ he
  have eL' : lineAt rs eL k = rs[k].2.2.1 := by simp [lineAt, he]
  have eC' : colAt rs eC k = rs[k].2.2.2 := by simp [colAt, he]
  rw [← eL'] at hc2
  rw [← eC'] at hc3
  obtain ⟨x, hxx⟩ : ∃ x, lineAt rs eL k = x := ⟨_, rfl⟩
  obtain ⟨y, hyy⟩ : ∃ y, colAt rs eC k = y := ⟨_, rfl⟩
  rw [hxx] at hc2 ⊢
  rw [hyy] at hc3 ⊢
  clear hx he hrow h eL' eC' hxx hyy
  have hlt' : (k : Int) < (rs.length : Int) := by omega
  go_enter Tryz.func144, Tryz.ntmps144
  go_wp2
  go_quiet (fail)
  go_wp2
  go_region
  go_wp2
  exact bodyPost_ret (v := .agg #[.int .i64 x, .int .i64 y]) (by simp [results, Tryz.results144, go_sem]) rfl ⟨rfl, ((below_drawnW ((Below.refl _ _).alloc (Nat.le_refl _) _) _).setCell (by simp) _).setCell (by simp) _⟩
set_option maxHeartbeats 1000000 in
theorem where_out (w : World) (h : Rd R A c rs eL eC k w) (hk : rs.length ≤ k) :
    Calls Tryz.prog 144 #[.pointer (some ⟨R, 0, none⟩)] w fun e w' => e = .returned (.agg #[.int .i64 eL, .int .i64 eC]) ∧ Below w.heap.size w w' := by
  have hR := h.lt
  have hl := h.len
  have hle := h.le
  have h0 := (h.quiet (grown_alloc w (.cells #[.int .i64 0, .int .i64 0] 29) none)).cell0
  have h1 := (h.quiet (grown_alloc w (.cells #[.int .i64 0, .int .i64 0] 29) none)).cell1
  have h2 := (h.quiet (grown_alloc w (.cells #[.int .i64 0, .int .i64 0] 29) none)).cell2
  have h3 := (h.quiet (grown_alloc w (.cells #[.int .i64 0, .int .i64 0] 29) none)).cell3
  clear h
  have hlt' : (rs.length : Int) ≤ (k : Int) := by omega
  have hd : decide (k < rs.length) = false := by simp; omega
  go_enter Tryz.func144, Tryz.ntmps144
  go_wp2
  go_quiet (fail)
  go_wp2
  exact bodyPost_ret (v := .agg #[.int .i64 eL, .int .i64 eC]) (by simp [results, Tryz.results144, go_sem]) rfl ⟨rfl, ((below_drawnW ((Below.refl _ _).alloc (Nat.le_refl _) _) _).setCell (by simp) _).setCell (by simp) _⟩
theorem where_any (w : World) (h : Rd R A c rs eL eC k w) :
    Calls Tryz.prog 144 #[.pointer (some ⟨R, 0, none⟩)] w fun e w' => e = .returned (.agg #[.int .i64 (lineAt rs eL k), .int .i64 (colAt rs eC k)]) ∧ Below w.heap.size w w' := by
  by_cases hk : k < rs.length
  · exact where_in w h hk
  · have e1 : lineAt rs eL k = eL := by simp [lineAt, List.getElem?_eq_none (show rs.length ≤ k by omega)]
    have e2 : colAt rs eC k = eC := by simp [colAt, List.getElem?_eq_none (show rs.length ≤ k by omega)]
    rw [e1, e2]; exact where_out w h (by omega)
end
end Go.Proofs.YtjhnmikciejekaaGreat
