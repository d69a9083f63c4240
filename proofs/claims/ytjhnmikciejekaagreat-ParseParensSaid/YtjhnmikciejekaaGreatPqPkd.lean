/-
  Texts of one proof, in their order. No condition.
-/
import Derived.Test.YtjhnmikciejekaaGreatPqLexok
import Derived.Test.YtjhnmikciejekaaGreatPqPkc
set_option linter.unusedSectionVars false
set_option linter.unusedSimpArgs false
set_option linter.unusedVariables false
namespace Go.Proofs.YtjhnmikciejekaaGreat.Deep
open Go.RowKit Go.ChangeShapes Go.WideShapes Go.ChangeAt
set_option linter.unusedVariables false
def tkOf (t : Go.Proofs.YtjhnmikciejekaaGreat.Tok) : Tk := ⟨t.kind, ⟨t.text.toArray⟩, t.num, t.bytes, t.line, t.col⟩
theorem lex_raw (s : ByteArray) (hs : s.size ≤ 9223372036854775807) (w : World) : Calls Tryz.prog 56 #[.string s] w (LexTells s w) := by
  by_cases hl : 16384 < s.size
  · exact lex_fault s 5 1 1 w (by decide) (by rw [lexOf, if_pos hl]) (fun w => split_long s hl hs w)
  · cases hb : badOf s with
    | none => exact lex_ok s (by omega) hb w
    | some p =>
      obtain ⟨L, C⟩ := p
      refine lex_fault s 1 L C w (by decide) (by rw [lexOf, if_neg hl, hb]) (fun w => ?_)
      refine (split_any s (by omega) w).mono ?_
      rintro e w' (⟨L', C', h1, he, hbl⟩ | ⟨h1, _⟩)
      · rw [hb] at h1; cases h1; exact ⟨he, hbl⟩
      · rw [hb] at h1; cases h1
theorem cells_of : ∀ (ps : List (Go.Proofs.YtjhnmikciejekaaGreat.Tok × Value)) (k : Nat) (p : Go.Proofs.YtjhnmikciejekaaGreat.Tok × Value), ps[k]? = some p → ∀ j, j < 6 → (allCells ps)[k * 6 + j]? = (tokCells p.1 p.2)[j]? := by
  intro ps
  induction ps with
  | nil => intro k p h; cases h
  | cons d t ih =>
    intro k p h j hj
    have hc : allCells (d :: t) = tokCells d.1 d.2 ++ allCells t := rfl
    have h6 : (tokCells d.1 d.2).length = 6 := rfl
    cases k with
    | zero =>
      simp only [List.getElem?_cons_zero, Option.some.injEq] at h
      subst h
      rw [hc, List.getElem?_append_left (by omega)]; congr 1; omega
    | succ k =>
      rw [List.getElem?_cons_succ] at h
      rw [hc, List.getElem?_append_right (by omega), h6, show (k + 1) * 6 + j - 6 = k * 6 + j by omega]
      exact ih k p h j hj
section
variable {P : Program} {G : Nat → Nat} {m : Nat → Pl} {w w' : World}
def Gn (G : Nat → Nat) (w w' : World) : Nat → Nat := fun g => if g < w.heap.size then G g else match w'.heap[g]? with | some (.cells cs _ _) => cs.size | _ => 0
theorem new_goes (hs : HS P G m w []) (hb : Below w.heap.size w w') : HS P (Gn G w w') m w' [] ∧ Goes G m w [] (Gn G w w') m w' [] := by
  have hle : ∀ k, G k ≤ Gn G w w' k := fun k => by
    unfold Gn
    by_cases hk : k < w.heap.size
    · rw [if_pos hk]; exact Nat.le_refl _
    · have : G k = 0 := by
        apply Classical.byContradiction
        intro hn
        exact hk (hs.old k hn)
      omega
  refine ⟨⟨fun b hb => absurd hb (Nat.not_lt_zero _), fun b _ hb => absurd hb (Nat.not_lt_zero _), fun k hk => ?_⟩, ⟨hb.os, hb.tape, hb.output, hb.size, Nat.le_refl _, hle, fun k o ho => ?_, fun k e N hsh => ?_, fun _ _ => rfl, fun _ _ h => h, fun k hk _ => ⟨hb.block k hk, by simp [Gn, hk]⟩, fun b _ hb => absurd hb (Nat.not_lt_zero _)⟩⟩
  · unfold Gn at hk
    by_cases hk2 : k < w.heap.size
    · exact Nat.lt_of_lt_of_le hk2 hb.size
    · rw [if_neg hk2] at hk
      apply Classical.byContradiction
      intro hn
      have : w'.heap[k]? = none := Array.getElem?_eq_none (Nat.le_of_not_lt hn)
      rw [this] at hk
      exact hk rfl
  · have hk : k < w.heap.size := hs.old k (by omega)
    exact hb.cell (p := ⟨k, o, none⟩) hk
  · exact hsh.block (hb.block k hsh.lt)
theorem row_sl {B n : Nat} {T sz : Nat} {v : Value} {xs : List Value} (ho : w'.ownsRow B T sz v n xs) {Gg : Nat → Nat} (hG : ∀ g cs e z, B ≤ g → w'.heap[g]? = some (.cells cs e z) → Gg g = cs.size) (k : Nat) (ps : List (List PV)) (hps : ps.length = n)
    (hz : ∀ i, i < ps.length → (ps.getD i []).length = sz) (hr : ∀ i, i < ps.length → ∀ j, j < sz → Rep Gg m w' 0 (xs.getD (i * sz + j) undef) ((ps.getD i []).getD j .any)) : Rep Gg m w' k v (.sl ps) := by
  subst hps
  obtain ⟨hx, h | ⟨g, cap, cur, rfl, hB, hg, h1, h2, h3, h4⟩⟩ := ho
  · obtain ⟨rfl, hn⟩ := h
    obtain rfl : ps = [] := List.length_eq_zero_iff.1 hn
    exact .sl k none 0 sz [] (fun _ _ => undef) (Nat.le_refl _) (by decide) (fun i hi => absurd hi (Nat.not_lt_zero _)) (fun h => absurd h (Nat.not_lt_zero _)) (fun i hi => absurd hi (Nat.not_lt_zero _))
  · refine .sl k (some ⟨g, 0, none⟩) cap sz ps (fun i j => xs.getD (i * sz + j) undef) h1 h2 hz (fun _ => ⟨g, 0, rfl, ?_, fun i hi j hj => ?_⟩) hr
    · rw [hG g _ _ _ hB hg, h3, Nat.zero_add]; exact Nat.mul_le_mul_right _ h1
    · have hlt := row_lt hi hj
      have hlt2 : i * sz + j < cur.size := by rw [h3]; exact Nat.lt_of_lt_of_le hlt (Nat.mul_le_mul_right _ h1)
      have e : xs[i * sz + j]? = cur[i * sz + j]? := by rw [← h4, List.getElem?_take, if_pos hlt]; simp
      simp only [World.cell?, hg, Nat.zero_add, Option.isSome_none, Bool.false_eq_true, if_false]
      rw [List.getD_eq_getElem?_getD, e, Array.getElem?_eq_getElem hlt2]; rfl
end
def LexQ (s : ByteArray) (r : PV) : Prop :=
  (∃ er L C, lexOf s = .inl (er, L, C) ∧ er ≠ 0 ∧ r = .tup [.sl [], .agg [.con (.int .i64 er), .con (.int .i64 L), .con (.int .i64 C)]]) ∨
  ∃ ts, lexOf s = .inr ts ∧ r = .tup [.sl ((ts.map tkOf).map tkP), .agg [.con (.int .i64 0), .con (.int .i64 0), .con (.int .i64 0)]]
theorem rep_three {G : Nat → Nat} {m : Nat → Pl} {w : World} {n : Nat} (a b c : Value) : Rep G m w n (.agg #[a, b, c]) (.agg [.con a, .con b, .con c]) :=
  .agg n [a, b, c] [.con a, .con b, .con c] rfl (fun i hi => by
    match i, hi with
    | 0, _ => exact .con _ _
    | 1, _ => exact .con _ _
    | 2, _ => exact .con _ _)
theorem rep_two {G : Nat → Nat} {m : Nat → Pl} {w : World} {n : Nat} {a b : Value} {p q : PV} (h1 : Rep G m w n a p) (h2 : Rep G m w n b q) : Rep G m w n (.tuple #[a, b]) (.tup [p, q]) :=
  .tup n [a, b] [p, q] rfl (fun i hi => by
    match i, hi with
    | 0, _ => exact h1
    | 1, _ => exact h2)
theorem lex_c (s : ByteArray) (hs : s.size ≤ 9223372036854775807) : ACalls Tryz.prog 56 [.con (.string s)] [] fun r h' => h' = [] ∧ LexQ s r := by
  intro G m w vs hS ha
  obtain rfl : vs = #[.string s] := by
    obtain ⟨h1, h2⟩ := ha
    have h3 := (h2 0 (Nat.succ_pos _)).con_eq
    apply Array.ext
    · simpa using h1
    · intro i hi _
      have : i = 0 := by simp at h1; omega
      subst this
      simp only [Array.getD_eq_getD_getElem?, Array.getElem?_eq_getElem hi, Option.getD_some] at h3
      simpa using h3
  refine (lex_raw s hs w).mono ?_
  rintro e w' (⟨er, L, C, hl, hne, rfl, hb⟩ | ⟨A, n, c, ps, hl, rfl, rfl, ht, hb⟩)
  · obtain ⟨h1, h2⟩ := new_goes hS hb
    refine ⟨_, _, [], _, m, rfl, ⟨rfl, .inl ⟨er, L, C, hl, hne, rfl⟩⟩, rep_two ?_ (rep_three _ _ _), h1, h2⟩
    exact .sl _ none 0 0 [] (fun _ _ => undef) (Nat.le_refl _) (by decide) (fun i hi => absurd hi (Nat.not_lt_zero _)) (fun h => absurd h (Nat.not_lt_zero _)) (fun i hi => absurd hi (Nat.not_lt_zero _))
  · obtain ⟨h1, h2⟩ := new_goes hS hb
    have hG : ∀ g cs e z, w.heap.size ≤ g → w'.heap[g]? = some (.cells cs e z) → Gn G w w' g = cs.size := fun g cs e z hB hg => by
      simp only [Gn, if_neg (Nat.not_lt.2 hB), hg]
    refine ⟨_, _, [], _, m, rfl, ⟨rfl, .inr ⟨_, hl, rfl⟩⟩, rep_two ?_ (rep_three _ _ _), h1, h2⟩
    refine row_sl ht.own hG _ _ (by simp) (fun i hi => ?_) (fun i hi j hj => ?_)
    · simp only [List.length_map] at hi
      simp [List.getD_eq_getElem?_getD, hi, tkP]
    · simp only [List.length_map] at hi
      have hp : ps[i]? = some ps[i] := List.getElem?_eq_getElem hi
      have e1 : (((ps.map (·.1)).map tkOf).map tkP).getD i [] = tkP (tkOf ps[i].1) := by simp [List.getD_eq_getElem?_getD, hi]
      have e2 : (allCells ps).getD (i * 6 + j) undef = (tokCells ps[i].1 ps[i].2).getD j undef := by
        rw [List.getD_eq_getElem?_getD, cells_of ps i _ hp j hj, List.getD_eq_getElem?_getD]
      rw [e1, e2]
      obtain ⟨Ab, nb, cb, hv, hob⟩ := ht.bytes ps[i] (List.getElem_mem hi)
      match j, hj with
      | 0, _ => exact .con _ _
      | 1, _ => exact .con _ _
      | 2, _ => exact .con _ _
      | 4, _ => exact .con _ _
      | 5, _ => exact .con _ _
      | 3, _ =>
        show Rep _ _ _ _ ps[i].2 (.sl (byP ps[i].1.bytes))
        refine row_sl hob hG _ _ (by simp [byP]) (fun q hq => ?_) (fun q hq q2 hq2 => ?_)
        · simp only [byP, List.length_map] at hq
          simp [byP, List.getD_eq_getElem?_getD, hq]
        · simp only [byP, List.length_map] at hq
          obtain rfl : q2 = 0 := by omega
          simp only [byP, Lib.byteCells, List.getD_eq_getElem?_getD, List.getElem?_map, Nat.mul_one, Nat.add_zero, List.getElem?_eq_getElem hq, Option.map_some, Option.getD_some, List.getElem?_cons_zero]
          exact .con _ _
end Go.Proofs.YtjhnmikciejekaaGreat.Deep
