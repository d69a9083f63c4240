/-
  Rows of tokens in memory, as they are read; and what the document's Same tells of two rows of the same tokens: true. No condition but that the rows lie in memory.
-/
import Derived.Test.YtdmgpeflanjngaaDoorNamed
namespace Go.Proofs.YtdmgpeflanjngaaDoor
open Go.ChangeShapes Go.WideShapes Go.ChangeAt Go.RowKit
set_option linter.unusedVariables false

theorem cell_kept {W W' : World} {g o : Nat} {v : Value} (hb : Below W.heap.size W W') (hg : g < W.heap.size) (h : W.cell? ⟨g, o, none⟩ = some v) : W'.cell? ⟨g, o, none⟩ = some v := (hb.cell (p := ⟨g, o, none⟩) hg).trans h
/-- A row of tokens that lies in memory from some place on. -/
structure TRow (W : World) (A : Option Addr) (n c : Nat) (ps : List (Tok × Value)) : Prop where
  len : n = ps.length
  cap : n ≤ c
  at' : 0 < n → ∃ g o, A = some ⟨g, o, none⟩ ∧ g < W.heap.size ∧ ∀ k p, ps[k]? = some p → W.cell? ⟨g, o + k * 6, none⟩ = some (.int .i64 p.1.kind) ∧ W.cell? ⟨g, o + k * 6 + 1, none⟩ = some (.string ⟨p.1.text.toArray⟩) ∧ W.cell? ⟨g, o + k * 6 + 2, none⟩ = some (.int .i64 p.1.num) ∧ W.cell? ⟨g, o + k * 6 + 3, none⟩ = some p.2 ∧ W.cell? ⟨g, o + k * 6 + 4, none⟩ = some (.int .i64 p.1.line) ∧ W.cell? ⟨g, o + k * 6 + 5, none⟩ = some (.int .i64 p.1.col)
  bytes : ∀ p ∈ ps, ∃ A n c, p.2 = .slice A n c ∧ n ≤ c ∧ Row W A n p.1.bytes
theorem TRow.below {W W' : World} {A : Option Addr} {n c : Nat} {ps : List (Tok × Value)} (h : TRow W A n c ps) (hb : Below W.heap.size W W') : TRow W' A n c ps := by
  refine ⟨h.len, h.cap, fun h0 => ?_, fun p hp => ?_⟩
  · obtain ⟨g, o, hA, hg, hx⟩ := h.at' h0
    refine ⟨g, o, hA, Nat.lt_of_lt_of_le hg hb.size, fun k p hp => ?_⟩
    obtain ⟨x0, x1, x2, x3, x4, x5⟩ := hx k p hp
    exact ⟨cell_kept hb hg x0, cell_kept hb hg x1, cell_kept hb hg x2, cell_kept hb hg x3, cell_kept hb hg x4, cell_kept hb hg x5⟩
  · obtain ⟨A, n, c, h1, h2, h3⟩ := h.bytes p hp
    exact ⟨A, n, c, h1, h2, h3.below hb⟩
theorem owns_cap {W : World} {B e k size n c : Nat} {A : Option Addr} {xs : List Value} (h : W.ownsRow B e size (.slice A n c) k xs) : n ≤ c := by
  rcases h.2 with ⟨h0, h1⟩ | ⟨g, cap, cur, hv, _, _, hc, _⟩
  · injection h0 with _ h2 h3; omega
  · injection hv with h1 h2 h3; omega
theorem TRow.of_toks {W : World} {B : Nat} {A : Option Addr} {n c : Nat} {ps : List (Tok × Value)} (h : Toks W B (.slice A n c) ps) (hn : n = ps.length) : TRow W A n c ps := by
  refine ⟨hn, owns_cap h.own, fun h0 => ?_, fun p hp => ?_⟩
  · obtain ⟨g, rfl, _, hg, _, hx⟩ := h.cell hn (by omega)
    exact ⟨g, 0, rfl, hg, fun k p hp => by simpa using hx k p hp⟩
  · obtain ⟨A, n, c, hv, ho⟩ := h.bytes p hp
    obtain ⟨A', c', hv', hr⟩ := Row.of_owns ho
    rw [hv] at hv'
    injection hv' with e1 e2 e3
    subst e1 e2 e3
    rw [hv] at ho
    exact ⟨A, _, c, hv, owns_cap ho, hr⟩
theorem trow_nil (W : World) : TRow W none 0 0 [] := ⟨rfl, Nat.le_refl _, fun h => by omega, fun p hp => by cases hp⟩

theorem below_drawn {B : Nat} {a w : World} (h : Below B a w) (n : Nat) : Below B a (w.drewN n) := ⟨h.os, h.tape, h.output, h.size, h.block⟩
/-- The same tokens, but for their places, if these are not asked. -/
def SameToks (pl : Bool) (ps qs : List (Tok × Value)) : Prop := ∀ (k : Nat) (p q : Tok × Value), ps[k]? = some p → qs[k]? = some q → p.1.kind = q.1.kind ∧ p.1.text = q.1.text ∧ p.1.num = q.1.num ∧ p.1.bytes = q.1.bytes ∧ (pl = true → p.1.line = q.1.line ∧ p.1.col = q.1.col)
set_option maxHeartbeats 2000000 in
set_option maxRecDepth 100000 in
theorem same_yes (pl : Bool) (A B : Option Addr) (n c d : Nat) (ps qs : List (Tok × Value)) (hl : n ≤ 100000) (hs : SameToks pl ps qs) (w : World) (ha : TRow w A n c ps) (hb : TRow w B n d qs) : Calls Tryd.prog 10 #[.slice A n c, .slice B n d, .bool pl] w fun e w' => e = .returned (.bool true) ∧ Below w.heap.size w w' := by
  go_enter Tryd.func10, Tryd.ntmps10
  go_wp2
  go_loopw [7] (fun i wr => ∃ k : Nat, k ≤ n ∧ i = .int .i64 (k : Int) ∧ Below w.heap.size w wr) (fun i _ => n - (intOf i).toNat)
  case atStart => exact ⟨0, by omega, rfl, Below.refl _ _⟩
  case round =>
    obtain ⟨k, hk, rfl, hB⟩ := hrel
    by_cases hlt : k < n
    · have hlt' : (k : Int) < n := by omega
      have hac := ha.cap
      have hbc := hb.cap
      obtain ⟨g, o, rfl, hg, hx⟩ := ha.at' (by omega)
      obtain ⟨g', o', rfl, hg', hx'⟩ := hb.at' (by omega)
      obtain ⟨p, hp⟩ : ∃ e, ps[k]? = some e := ⟨ps[k]'(by have := ha.len; omega), List.getElem?_eq_getElem _⟩
      obtain ⟨q, hq⟩ : ∃ e, qs[k]? = some e := ⟨qs[k]'(by have := hb.len; omega), List.getElem?_eq_getElem _⟩
      obtain ⟨x0, x1, x2, x3, x4, x5⟩ := hx k p hp
      obtain ⟨y0, y1, y2, y3, y4, y5⟩ := hx' k q hq
      obtain ⟨s0, s1, s2, s3, s4⟩ := hs k p q hp hq
      obtain ⟨A1, n1, c1, hv1, hc1, hr1⟩ := ha.bytes p (List.mem_of_getElem? hp)
      obtain ⟨A2, n2, c2, hv2, hc2, hr2⟩ := hb.bytes q (List.mem_of_getElem? hq)
      rw [hv1] at x3
      rw [hv2, ] at y3
      rw [← s0] at y0
      rw [← s1] at y1
      rw [← s2] at y2
      rw [← s3] at hr2
      have hz := hB.size
      rw [← hB.cell (p := ⟨g, _, none⟩) hg] at x0 x1 x2 x3 x4 x5
      rw [← hB.cell (p := ⟨g', _, none⟩) hg'] at y0 y1 y2 y3 y4 y5
      have hgw : g < wr.heap.size := by omega
      have hgw' : g' < wr.heap.size := by omega
      have k1 := Lib.hid (fun W (hb : Below w.heap.size w W) => (hr1.below hb).conv c1)
      have k2 := Lib.hid (fun W (hb : Below w.heap.size w W) => (hr2.below hb).conv c2)
      obtain ⟨kd, hkd⟩ : ∃ kd, p.1.kind = kd := ⟨_, rfl⟩
      obtain ⟨nm, hnm⟩ : ∃ kd, p.1.num = kd := ⟨_, rfl⟩
      obtain ⟨tx, htx⟩ : ∃ tx : ByteArray, ⟨p.1.text.toArray⟩ = tx := ⟨_, rfl⟩
      obtain ⟨by', hby⟩ : ∃ tx : ByteArray, ⟨p.1.bytes.toArray⟩ = tx := ⟨_, rfl⟩
      rw [hkd] at x0 y0
      rw [hnm] at x2 y2
      rw [htx] at x1 y1
      rw [hby] at k1 k2
      clear hx hx' hs s0 s1 s2 s3 hv1 hv2 hr1 hr2 hkd hnm htx hby hp hq
      cases pl
      · clear s4
        have hB2 : Below w.heap.size w ((wr.alloc (.cells #[.int .i64 kd, .string tx, .int .i64 nm, .slice A1 n1 c1, .int .i64 p.1.line, .int .i64 p.1.col] 26)).alloc (.cells #[.int .i64 kd, .string tx, .int .i64 nm, .slice A2 n2 c2, .int .i64 q.1.line, .int .i64 q.1.col] 26)) := (hB.alloc hz _).alloc (by simp; omega) _
        have q1 : (convert 22 9 (.slice A1 n1 c1)).run Tryd.prog (((wr.alloc (.cells #[.int .i64 kd, .string tx, .int .i64 nm, .slice A1 n1 c1, .int .i64 p.1.line, .int .i64 p.1.col] 26)).alloc (.cells #[.int .i64 kd, .string tx, .int .i64 nm, .slice A2 n2 c2, .int .i64 q.1.line, .int .i64 q.1.col] 26))) = .ok (.string by') (((wr.alloc (.cells #[.int .i64 kd, .string tx, .int .i64 nm, .slice A1 n1 c1, .int .i64 p.1.line, .int .i64 p.1.col] 26)).alloc (.cells #[.int .i64 kd, .string tx, .int .i64 nm, .slice A2 n2 c2, .int .i64 q.1.line, .int .i64 q.1.col] 26))) := k1.out _ hB2
        have q2 : (convert 22 9 (.slice A2 n2 c2)).run Tryd.prog (((wr.alloc (.cells #[.int .i64 kd, .string tx, .int .i64 nm, .slice A1 n1 c1, .int .i64 p.1.line, .int .i64 p.1.col] 26)).alloc (.cells #[.int .i64 kd, .string tx, .int .i64 nm, .slice A2 n2 c2, .int .i64 q.1.line, .int .i64 q.1.col] 26))) = .ok (.string by') (((wr.alloc (.cells #[.int .i64 kd, .string tx, .int .i64 nm, .slice A1 n1 c1, .int .i64 p.1.line, .int .i64 p.1.col] 26)).alloc (.cells #[.int .i64 kd, .string tx, .int .i64 nm, .slice A2 n2 c2, .int .i64 q.1.line, .int .i64 q.1.col] 26))) := k2.out _ hB2
        go_wp2
        refine ⟨⟨k + 1, by omega, by go_num, hB2⟩, ?_⟩
        simp [intOf]; omega
      · obtain ⟨s5, s6⟩ := s4 rfl
        rw [← s5] at y4
        rw [← s6] at y5
        clear s4 s5 s6
        have hB2 : Below w.heap.size w ((wr.alloc (.cells #[.int .i64 kd, .string tx, .int .i64 nm, .slice A1 n1 c1, .int .i64 p.1.line, .int .i64 p.1.col] 26)).alloc (.cells #[.int .i64 kd, .string tx, .int .i64 nm, .slice A2 n2 c2, .int .i64 p.1.line, .int .i64 p.1.col] 26)) := (hB.alloc hz _).alloc (by simp; omega) _
        have q1 : (convert 22 9 (.slice A1 n1 c1)).run Tryd.prog (((wr.alloc (.cells #[.int .i64 kd, .string tx, .int .i64 nm, .slice A1 n1 c1, .int .i64 p.1.line, .int .i64 p.1.col] 26)).alloc (.cells #[.int .i64 kd, .string tx, .int .i64 nm, .slice A2 n2 c2, .int .i64 p.1.line, .int .i64 p.1.col] 26))) = .ok (.string by') (((wr.alloc (.cells #[.int .i64 kd, .string tx, .int .i64 nm, .slice A1 n1 c1, .int .i64 p.1.line, .int .i64 p.1.col] 26)).alloc (.cells #[.int .i64 kd, .string tx, .int .i64 nm, .slice A2 n2 c2, .int .i64 p.1.line, .int .i64 p.1.col] 26))) := k1.out _ hB2
        have q2 : (convert 22 9 (.slice A2 n2 c2)).run Tryd.prog (((wr.alloc (.cells #[.int .i64 kd, .string tx, .int .i64 nm, .slice A1 n1 c1, .int .i64 p.1.line, .int .i64 p.1.col] 26)).alloc (.cells #[.int .i64 kd, .string tx, .int .i64 nm, .slice A2 n2 c2, .int .i64 p.1.line, .int .i64 p.1.col] 26))) = .ok (.string by') (((wr.alloc (.cells #[.int .i64 kd, .string tx, .int .i64 nm, .slice A1 n1 c1, .int .i64 p.1.line, .int .i64 p.1.col] 26)).alloc (.cells #[.int .i64 kd, .string tx, .int .i64 nm, .slice A2 n2 c2, .int .i64 p.1.line, .int .i64 p.1.col] 26))) := k2.out _ hB2
        go_wp2
        refine ⟨⟨k + 1, by omega, by go_num, hB2⟩, ?_⟩
        simp [intOf]; omega
    · have hge : (n : Int) ≤ k := by omega
      go_wp2
      go_ret
      exact ⟨rfl, hB⟩
end Go.Proofs.YtdmgpeflanjngaaDoor
