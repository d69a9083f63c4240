/-
  Texts of one proof, in their order. No condition.
-/
import Derived.Test.YtcmnjodjebcapaaGreatFtLexok
namespace Go.Proofs.YtcmnjodjebcapaaGreat
open Go.ChangeShapes Go.WideShapes Go.ChangeAt Go.RowKit
set_option linter.unusedVariables false
theorem lex_any (s : ByteArray) (hs : s.size ≤ 9223372036854775807) (w : World) : Calls Tryz.prog 194 #[.string s] w (LexTells s w) := by
  by_cases hl : 16384 < s.size
  · exact lex_fault s 5 1 1 w (by decide) (by rw [lexOf, if_pos hl]) (fun w => split_long s hl hs w)
  · cases hb : badOf s with
    | none => exact lex_ok s (by omega) hb w
    | some p =>
      obtain ⟨L, C⟩ := p
      refine lex_fault s 1 L C w (by decide) (by rw [lexOf, if_neg hl, hb]) (fun w => ?_)
      refine (split_any s (by omega) w).mono ?_
      rintro e w' (⟨L', C', h1, he, hbl⟩ | ⟨h1, _⟩)
      · rw [hb] at h1; cases h1; exact ⟨he, hbl⟩
      · rw [hb] at h1; cases h1
theorem allCells_at : ∀ (ps : List (Tok × Value)) (k : Nat) (p : Tok × Value), ps[k]? = some p → ∀ j, j < 6 → (allCells ps)[k * 6 + j]? = (tokCells p.1 p.2)[j]? := by
  intro ps
  induction ps with
  | nil => intro k p h; cases h
  | cons d t ih =>
    intro k p h j hj
    have hc : allCells (d :: t) = tokCells d.1 d.2 ++ allCells t := rfl
    have h6 : (tokCells d.1 d.2).length = 6 := rfl
    cases k with
    | zero =>
      simp only [List.getElem?_cons_zero, Option.some.injEq] at h
      subst h
      rw [hc, List.getElem?_append_left (by omega)]; congr 1; omega
    | succ k =>
      rw [List.getElem?_cons_succ] at h
      rw [hc, List.getElem?_append_right (by omega), h6, show (k + 1) * 6 + j - 6 = k * 6 + j by omega]
      exact ih k p h j hj
theorem Toks.cell {W : World} {B : Nat} {A : Option Addr} {n c : Nat} {ps : List (Tok × Value)} (h : Toks W B (.slice A n c) ps) (hn : n = ps.length) (h0 : 0 < ps.length) :
    ∃ g, A = some ⟨g, 0, none⟩ ∧ B ≤ g ∧ g < W.heap.size ∧ n ≤ c ∧ ∀ k p, ps[k]? = some p → W.cell? ⟨g, k * 6, none⟩ = some (.int .i64 p.1.kind) ∧ W.cell? ⟨g, k * 6 + 1, none⟩ = some (.string ⟨p.1.text.toArray⟩) ∧ W.cell? ⟨g, k * 6 + 2, none⟩ = some (.int .i64 p.1.num) ∧ W.cell? ⟨g, k * 6 + 3, none⟩ = some p.2 ∧ W.cell? ⟨g, k * 6 + 4, none⟩ = some (.int .i64 p.1.line) ∧ W.cell? ⟨g, k * 6 + 5, none⟩ = some (.int .i64 p.1.col) := by
  subst hn
  rcases h.own.2 with ⟨_, h0'⟩ | ⟨g, cap, cur, hv, hB, hg, hc, _⟩
  · omega
  · injection hv with h1 h2 h3
    subst h1 h3
    have hx : ∀ j u, (allCells ps)[j]? = some u → W.cell? ⟨g, j, none⟩ = some u := fun j u hu => by
      have := h.own.cells (g := g) rfl j u hu
      have e : (⟨g, 0, none⟩ : Addr).add j = ⟨g, j, none⟩ := by unfold Addr.add; split <;> simp_all
      rw [e] at this; exact this
    refine ⟨g, rfl, hB, (Array.getElem?_eq_some_iff.1 hg).1, hc, fun k p hp => ?_⟩
    exact ⟨hx _ _ (allCells_at ps k p hp 0 (by omega)), hx _ _ (allCells_at ps k p hp 1 (by omega)), hx _ _ (allCells_at ps k p hp 2 (by omega)), hx _ _ (allCells_at ps k p hp 3 (by omega)), hx _ _ (allCells_at ps k p hp 4 (by omega)), hx _ _ (allCells_at ps k p hp 5 (by omega))⟩
def oneB (s : ByteArray) (k : Int) : Bool := match lexOf s with | .inr [t, _] => t.text == s.data.toList && t.kind == k | _ => false
theorem oneB_fault {s : ByteArray} {k : Int} {e : Int × Int × Int} (h : lexOf s = .inl e) : oneB s k = false := by simp [oneB, h]
theorem oneB_many {s : ByteArray} {k : Int} {l : List Tok} (h : lexOf s = .inr l) (hl : l.length ≠ 2) : oneB s k = false := by
  match l, hl with
  | [], _ => simp [oneB, h]
  | [_], _ => simp [oneB, h]
  | [_, _], hl => simp at hl
  | _ :: _ :: _ :: _, _ => simp [oneB, h]
theorem oneB_two {s : ByteArray} {k : Int} {t e : Tok} (h : lexOf s = .inr [t, e]) : oneB s k = (t.text == s.data.toList && t.kind == k) := by simp [oneB, h]
theorem two_of {ps : List (Tok × Value)} (h : ps.length = 2) : ∃ p q, ps = [p, q] := by
  match ps, h with
  | [p, q], _ => exact ⟨p, q, rfl⟩
def namedB (s : ByteArray) (up : Bool) : Bool := decide (s.size ≤ 96) && oneB s (if up then 2 else 1)
theorem text_eq {s : ByteArray} {l : List UInt8} : ((⟨l.toArray⟩ : ByteArray).toList == s.toList) = (l == s.data.toList) := by
  rw [Lib.toList_data, Lib.toList_data]
set_option maxRecDepth 100000 in
set_option maxHeartbeats 2000000 in
theorem named_any (s : ByteArray) (up : Bool) (hs : s.size ≤ 9223372036854775807) (w : World) : Calls Tryz.prog 159 #[.string s, .bool up] w fun e w' => e = .returned (.bool (namedB s up)) ∧ Below w.heap.size w w' := by
  by_cases h96 : 96 < s.size
  · have hv : namedB s up = false := by simp [namedB]; omega
    rw [hv]; clear hv
    go_enter Tryz.func159, Tryz.ntmps159
    go_wp2
    go_ret
    exact ⟨rfl, Below.refl _ _⟩
  · have hv : namedB s up = oneB s (if up then 2 else 1) := by simp [namedB]; omega
    rw [hv]; clear hv
    have HL := Lib.hid (fun w => lex_any s hs w)
    cases up
    all_goals
      go_enter Tryz.func159, Tryz.ntmps159
      go_wp2_with fail
      refine (HL.out _).mono ?_
      rintro e w1 (⟨er, L, C, h1, her, rfl, hb⟩ | ⟨A, n, c, ps, h1, rfl, rfl, ht, hb⟩)
      · have e1 := oneB_fault (k := 1) h1
        have e2 := oneB_fault (k := 2) h1
        have E1 := Lib.hid e1
        have E2 := Lib.hid e2
        have q : (er == 0) = false := by simpa using her
        clear e1 e2 h1
        go_wp2
        go_ret
        exact ⟨ret_bool (by first | exact E1.out.symm | exact E2.out.symm), hb.alloc hb.size _⟩
      · by_cases h2 : ps.length = 2
        · obtain ⟨p, q, rfl⟩ := two_of h2
          have e1 := oneB_two (k := 1) h1
          have e2 := oneB_two (k := 2) h1
          have E1 := Lib.hid e1
          have E2 := Lib.hid e2
          obtain ⟨g, rfl, hg1, hg2, hc, hx⟩ := ht.cell rfl (by simp)
          obtain ⟨x0, x1, -⟩ := hx 0 p rfl
          have y0 := x0
          have y1 := x1
          rw [← World.cell?_alloc_lt w1 (.cells #[.int .i64 0, .int .i64 0, .int .i64 0] 211) ⟨g, _, none⟩ hg2] at y0 y1
          have ht2 := text_eq (s := s) (l := p.1.text)
          have z0 : (w1.alloc (.cells #[.int .i64 0, .int .i64 0, .int .i64 0] 211)).cell? ⟨g, 0, none⟩ = some (.int .i64 p.1.kind) := y0
          have z1 : (w1.alloc (.cells #[.int .i64 0, .int .i64 0, .int .i64 0] 211)).cell? ⟨g, 1, none⟩ = some (.string ⟨p.1.text.toArray⟩) := y1
          obtain ⟨kd, hkd⟩ : ∃ kd, p.1.kind = kd := ⟨_, rfl⟩
          obtain ⟨tx, htx⟩ : ∃ tx : ByteArray, ⟨p.1.text.toArray⟩ = tx := ⟨_, rfl⟩
          rw [hkd] at z0
          rw [htx] at z1 ht2
          have Hkd := Lib.hid hkd
          have Ht2 := Lib.hid ht2
          clear e1 e2 h1 hx ht x0 x1 y0 y1 hkd htx ht2
          go_wp2
          all_goals go_ret
          all_goals refine ⟨ret_bool ?_, hb.alloc hb.size _⟩
          all_goals first | (rw [E1.out, ← Ht2.out, Hkd.out]; simp [*]; done) | (rw [E2.out, ← Ht2.out, Hkd.out]; simp [*]; done)
        · have e1 := oneB_many (k := 1) h1 (by simpa using h2)
          have e2 := oneB_many (k := 2) h1 (by simpa using h2)
          have E1 := Lib.hid e1
          have E2 := Lib.hid e2
          have q1 : ((ps.length : Int) == 2) = false := by simp; omega
          have q2 : (ps.length == 2) = false := by simpa using h2
          clear e1 e2 h1 h2
          go_wp2
          go_ret
          exact ⟨ret_bool (by first | exact E1.out.symm | exact E2.out.symm), hb.alloc hb.size _⟩
end Go.Proofs.YtcmnjodjebcapaaGreat
