/-
  Texts of one proof, in their order. No condition.
-/
import Derived.Test.YtcmnjodjebcapaaGreatFtNamed
namespace Go.Proofs.YtcmnjodjebcapaaGreat
open Go.ChangeShapes Go.WideShapes Go.ChangeAt Go.RowKit
set_option linter.unusedVariables false
theorem cell_kept {W W' : World} {g o : Nat} {v : Value} (hb : Below W.heap.size W W') (hg : g < W.heap.size) (h : W.cell? ⟨g, o, none⟩ = some v) : W'.cell? ⟨g, o, none⟩ = some v := (hb.cell (p := ⟨g, o, none⟩) hg).trans h
structure TRow (W : World) (A : Option Addr) (n c : Nat) (ps : List (Tok × Value)) : Prop where
  len : n = ps.length
  cap : n ≤ c
  at' : 0 < n → ∃ g o, A = some ⟨g, o, none⟩ ∧ g < W.heap.size ∧ ∀ k p, ps[k]? = some p → W.cell? ⟨g, o + k * 6, none⟩ = some (.int .i64 p.1.kind) ∧ W.cell? ⟨g, o + k * 6 + 1, none⟩ = some (.string ⟨p.1.text.toArray⟩) ∧ W.cell? ⟨g, o + k * 6 + 2, none⟩ = some (.int .i64 p.1.num) ∧ W.cell? ⟨g, o + k * 6 + 3, none⟩ = some p.2 ∧ W.cell? ⟨g, o + k * 6 + 4, none⟩ = some (.int .i64 p.1.line) ∧ W.cell? ⟨g, o + k * 6 + 5, none⟩ = some (.int .i64 p.1.col)
  bytes : ∀ p ∈ ps, ∃ A n c, p.2 = .slice A n c ∧ n ≤ c ∧ Row W A n p.1.bytes
theorem TRow.below {W W' : World} {A : Option Addr} {n c : Nat} {ps : List (Tok × Value)} (h : TRow W A n c ps) (hb : Below W.heap.size W W') : TRow W' A n c ps := by
  refine ⟨h.len, h.cap, fun h0 => ?_, fun p hp => ?_⟩
  · obtain ⟨g, o, hA, hg, hx⟩ := h.at' h0
    refine ⟨g, o, hA, Nat.lt_of_lt_of_le hg hb.size, fun k p hp => ?_⟩
    obtain ⟨x0, x1, x2, x3, x4, x5⟩ := hx k p hp
    exact ⟨cell_kept hb hg x0, cell_kept hb hg x1, cell_kept hb hg x2, cell_kept hb hg x3, cell_kept hb hg x4, cell_kept hb hg x5⟩
  · obtain ⟨A, n, c, h1, h2, h3⟩ := h.bytes p hp
    exact ⟨A, n, c, h1, h2, h3.below hb⟩
theorem owns_cap {W : World} {B e k size n c : Nat} {A : Option Addr} {xs : List Value} (h : W.ownsRow B e size (.slice A n c) k xs) : n ≤ c := by
  rcases h.2 with ⟨h0, h1⟩ | ⟨g, cap, cur, hv, _, _, hc, _⟩
  · injection h0 with _ h2 h3; omega
  · injection hv with h1 h2 h3; omega
end Go.Proofs.YtcmnjodjebcapaaGreat
