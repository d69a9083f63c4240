/-
  Texts of one proof, in their order. No condition.
-/
import Derived.Test.YtjhnmikciejekaaGreatPqLex
namespace Go.Proofs.YtjhnmikciejekaaGreat
open Go.ChangeShapes Go.WideShapes Go.ChangeAt Go.RowKit
set_option linter.unusedVariables false
theorem listCells_at (l : List Ent) : ∀ (k : Nat) (e : Ent), l[k]? = some e → (listCells l)[k * 4]? = some (.int .i32 e.1) ∧ (listCells l)[k * 4 + 1]? = some (.int .i64 (e.2.1 : Int)) ∧ (listCells l)[k * 4 + 2]? = some (.int .i64 e.2.2.1) ∧ (listCells l)[k * 4 + 3]? = some (.int .i64 e.2.2.2) := by
  induction l with
  | nil => intro k e h; cases h
  | cons d t ih =>
    intro k e h
    have hc : listCells (d :: t) = entCells d ++ listCells t := rfl
    have h4 : (entCells d).length = 4 := rfl
    cases k with
    | zero =>
      simp only [List.getElem?_cons_zero, Option.some.injEq] at h
      subst h
      exact ⟨rfl, rfl, rfl, rfl⟩
    | succ k =>
      rw [List.getElem?_cons_succ] at h
      obtain ⟨h0, h1, h2, h3⟩ := ih k e h
      rw [hc]
      refine ⟨?_, ?_, ?_, ?_⟩
      · rw [List.getElem?_append_right (by omega), h4, show (k + 1) * 4 - 4 = k * 4 by omega]; exact h0
      · rw [List.getElem?_append_right (by omega), h4, show (k + 1) * 4 + 1 - 4 = k * 4 + 1 by omega]; exact h1
      · rw [List.getElem?_append_right (by omega), h4, show (k + 1) * 4 + 2 - 4 = k * 4 + 2 by omega]; exact h2
      · rw [List.getElem?_append_right (by omega), h4, show (k + 1) * 4 + 3 - 4 = k * 4 + 3 by omega]; exact h3
theorem owns_cell {w : World} {B : Nat} {A : Option Addr} {n c : Nat} {l : List Ent} (h : w.ownsRow B 111 4 (.slice A n c) n (listCells l)) (hn : 0 < n) :
    ∃ g, A = some ⟨g, 0, none⟩ ∧ B ≤ g ∧ g < w.heap.size ∧ n ≤ c ∧ ∀ j u, (listCells l)[j]? = some u → w.cell? ⟨g, j, none⟩ = some u := by
  rcases h.2 with ⟨_, h0⟩ | ⟨g, cap, cur, hv, hB, hg, hc, _⟩
  · omega
  · injection hv with h1 h2 h3
    subst h1 h3
    refine ⟨g, rfl, hB, (Array.getElem?_eq_some_iff.1 hg).1, hc, fun j u hu => ?_⟩
    have := h.cells (g := g) rfl j u hu
    have e : (⟨g, 0, none⟩ : Addr).add j = ⟨g, j, none⟩ := by unfold Addr.add; split <;> simp_all
    rw [e] at this; exact this
theorem RowAt.of_owns {w : World} {B R : Nat} {A : Option Addr} {c : Nat} {rs : List Ent} (h : w.ownsRow B 111 4 (.slice A rs.length c) rs.length (listCells rs)) (hR : w.heap.size ≤ R) : RowAt R A c rs w := by
  refine ⟨?_, fun h0 => ?_⟩
  · rcases h.2 with ⟨_, h0⟩ | ⟨g, cap, cur, hv, hB, hg, hc, _⟩
    · omega
    · injection hv with h1 h2 h3
      omega
  · obtain ⟨g, hA, _, hg, _, hx⟩ := owns_cell h h0
    refine ⟨g, hA, by omega, hg, fun k e he => ?_⟩
    obtain ⟨x0, x1, x2, x3⟩ := listCells_at rs k e he
    exact ⟨hx _ _ x0, hx _ _ x1, hx _ _ x2, hx _ _ x3⟩
theorem runesOf_len (s : ByteArray) : (runesOf s).length ≤ s.size := runesF_len s s.size 0 1 1
theorem runesOf_ok (s : ByteArray) : ∀ e ∈ runesOf s, validB e.1 = true := fun e he => (runesF_bd s s.size 0 1 1 e he (by omega) (by omega) (by omega) (by omega)).1
theorem tokF_place {k : Nat} {L C : Int} {l : List Int} {t : Tok} {k' : Nat} (h : tokF k L C l = .inr (t, k')) : t.line = L ∧ t.col = C := by
  cases l with
  | nil => rw [tokF_end rfl] at h; cases h; exact ⟨rfl, rfl⟩
  | cons c r =>
    by_cases h1 : lowB c = true ∨ upB c = true
    · rw [tokF_name h1] at h
      split at h
      · cases h
      · cases h; exact ⟨rfl, rfl⟩
    by_cases h2 : digB c = true
    · cases hn : numF 0 k (c :: r) with
      | none => rw [tokF_num_no h1 h2 hn] at h; cases h
      | some p => obtain ⟨n, j⟩ := p
                  rw [tokF_num h1 h2 hn] at h; cases h; exact ⟨rfl, rfl⟩
    by_cases h3 : c = 34
    · subst h3
      cases hn : textF [] (k + 1) r with
      | none => rw [tokF_text_no hn] at h; cases h
      | some p => obtain ⟨b, j⟩ := p
                  rw [tokF_text hn] at h
                  split at h
                  · cases h
                  · cases h; exact ⟨rfl, rfl⟩
    · rw [tokF_sign h1 h2 h3] at h
      split at h
      · cases h
      · cases h; exact ⟨rfl, rfl⟩
theorem oneF_place {rs : List Ent} {eL eC : Int} {k : Nat} {t : Tok} {k' : Nat} (h : oneF rs eL eC k = .inr (t, k')) : t.line = lineAt rs eL (passF rs k) ∧ t.col = colAt rs eC (passF rs k) := tokF_place h
structure LexI (R : Nat) (A : Option Addr) (c : Nat) (rs : List Ent) (eL eC : Int) (U : Nat) (W0 : World) (T : Sum (Int × Int × Int) (List Tok)) (k f : Nat) (ps : List (Tok × Value)) (v : Value) (W : World) : Prop where
  grown : W0.grownBy W (some R)
  rd : Rd R A c rs eL eC k W
  fault : W.heap[U]? = some (.cells #[.int .i64 0, .int .i64 0, .int .i64 0] 40 (0, 0))
  toks : Toks W W0.heap.size v ps
  rest : restF rs eL eC f k (ps.map (·.1)) = T
  fuel : rs.length < k + f
  many : ps.length ≤ 4096
def LexRel (R : Nat) (A : Option Addr) (c : Nat) (rs : List Ent) (eL eC : Int) (U : Nat) (W0 : World) (T : Sum (Int × Int × Int) (List Tok)) (v : Value) (W : World) : Prop := ∃ k f ps, LexI R A c rs eL eC U W0 T k f ps v W
theorem Toks.wide {W : World} {B B' : Nat} {v : Value} {ps : List (Tok × Value)} (h : Toks W B v ps) (hb : B' ≤ B) : Toks W B' v ps :=
  ⟨owns_wide h.own hb, fun p hp => by obtain ⟨A, n, c, h1, h2⟩ := h.bytes p hp; exact ⟨A, n, c, h1, owns_wide h2 hb⟩⟩
theorem Toks.two {W F : World} {B U : Nat} {v : Value} {ps : List (Tok × Value)} (h : Toks W B v ps) (h2 : Two W F U U) (hU : U < B) : Toks F B v ps :=
  ⟨h2.owns h.own (fun e => by have := (h.own.lt U e.symm).1; omega) (fun e => by have := (h.own.lt U e.symm).1; omega), h.bytes.keep (fun i _ _ hB _ => h2.block i (by omega) (by omega))⟩
theorem below_of_grown {w W0 W : World} {R : Nat} (hb : Below w.heap.size w W0) (hg : W0.grownBy W (some R)) (hR : w.heap.size ≤ R) : Below w.heap.size w W :=
  ⟨hg.os.trans hb.os, hg.tape.trans hb.tape, hg.output.trans hb.output, Nat.le_trans hb.size hg.size, fun i hi => (hg.block i (Nat.lt_of_lt_of_le hi hb.size) (by simp; omega)).trans (hb.block i hi)⟩
set_option maxRecDepth 100000 in
set_option maxHeartbeats 4000000 in
theorem lex_ok (s : ByteArray) (hs : s.size ≤ 16384) (hbad : badOf s = none) (w : World) : Calls Tryz.prog 56 #[.string s] w (LexTells s w) := by
  obtain ⟨i0, hi, hz0, hz1', hz2⟩ := info_parts Tryz.info59
  have hlex : lexOf s = restF (runesOf s) (placeOf s s.size).1 (placeOf s s.size).2 ((runesOf s).length + 1) 0 [] := by
    rw [lexOf, if_neg (by omega), hbad]
    simp only [restF, List.length_nil, List.nil_append]
    cases lexF (runesOf s) (placeOf s s.size).1 (placeOf s s.size).2 ((runesOf s).length + 1) 0 0 <;> rfl
  have hrl := runesOf_len s
  have hrok := runesOf_ok s
  have HS : Hid (∀ w, Calls Tryz.prog 100 #[.string s] w fun e w' => ∃ A c, e = .returned (.tuple #[.slice A (runesOf s).length c, .agg #[.int .i64 0, .int .i64 0, .int .i64 0]]) ∧ w'.ownsRow w.heap.size 111 4 (.slice A (runesOf s).length c) (runesOf s).length (listCells (runesOf s)) ∧ Below w.heap.size w w') := Lib.hid (fun w => by
    refine (split_any s hs w).mono ?_
    rintro e w' (⟨L, C, hb, _⟩ | ⟨_, A, n, c, he, rfl, ho, hb⟩)
    · rw [hbad] at hb; cases hb
    · exact ⟨A, c, he, ho, hb⟩)
  have HP : Hid (∀ w, Calls Tryz.prog 101 #[.string s, .int .i64 (s.size : Int)] w (PlaceTells s (s.size : Int) w)) := Lib.hid (fun w => place_any s s.size hs w)
  obtain ⟨T, hT⟩ : ∃ T, lexOf s = T := ⟨_, rfl⟩
  rw [hT] at hlex
  obtain ⟨rs, hrs⟩ : ∃ rs, runesOf s = rs := ⟨_, rfl⟩
  obtain ⟨eL, heL⟩ : ∃ eL, (placeOf s s.size).1 = eL := ⟨_, rfl⟩
  obtain ⟨eC, heC⟩ : ∃ eC, (placeOf s s.size).2 = eC := ⟨_, rfl⟩
  unfold PlaceTells at HP
  rw [heL, heC] at hlex HP
  rw [hrs] at hlex hrl hrok HS
  have HT := Lib.hid hT
  have Hlex := Lib.hid hlex
  have Hrok := Lib.hid hrok
  clear hT hlex hrs heL heC hbad hrok
  go_enter Tryz.func56, Tryz.ntmps56
  go_wp2_with fail
  refine (HS.out _).mono ?_
  rintro e w1 ⟨A, c, rfl, hown, hb1⟩
  have hz1 := hb1.size
  rw [World.size_alloc] at hz1
  have hF1 : w1.heap[w.heap.size]? = some (.cells #[.int .i64 0, .int .i64 0, .int .i64 0] 40 (0, 0)) := (hb1.block _ (by simp)).trans (heap_alloc_new w _)
  have hbw1 : Below w.heap.size w w1 := ((Below.refl _ _).alloc (Nat.le_refl _) _).trans (hb1.mono (by simp))
  go_wp2_with fail
  refine (HP.out _).mono ?_
  rintro e w3 ⟨rfl, hb3⟩
  have hz3 := hb3.size
  rw [World.size_alloc] at hz3
  have hF3 : w3.heap[w.heap.size]? = some (.cells #[.int .i64 0, .int .i64 0, .int .i64 0] 40 (0, 0)) := (hb3.block _ (by simp; omega)).trans ((Below.heap_alloc _ _ _ (by omega)).trans hF1)
  have hbw3 : Below w.heap.size w w3 := (hbw1.alloc (by omega) _).trans (hb3.mono (by simp; omega))
  have hown3 : w3.ownsRow (w.alloc (.cells #[.int .i64 0, .int .i64 0, .int .i64 0] 40)).heap.size 111 4 (.slice A rs.length c) rs.length (listCells rs) := owns_below (hown.alloc _) hb3
  obtain ⟨R, hR⟩ : ∃ R, w3.heap.size = R := ⟨_, rfl⟩
  obtain ⟨W0, hW0⟩ : ∃ W0, w3.alloc (.cells #[.slice A rs.length c, .int .i64 0, .int .i64 eL, .int .i64 eC] 149) = W0 := ⟨_, rfl⟩
  have hsz0 : W0.heap.size = R + 1 := by rw [← hW0, ← hR]; simp
  have hrd0 : Rd R A c rs eL eC 0 W0 := by
    refine ⟨by rw [← hW0, ← hR]; exact heap_alloc_new w3 _, ?_, by omega, by omega, Hrok.out⟩
    rw [← hW0]
    exact (RowAt.of_owns hown3 (by omega)).grown (.inl rfl) (grown_alloc _ _ _)
  have hF0 : W0.heap[w.heap.size]? = some (.cells #[.int .i64 0, .int .i64 0, .int .i64 0] 40 (0, 0)) := by rw [← hW0]; exact (Below.heap_alloc _ _ _ (by omega)).trans hF3
  have hbw0 : Below w.heap.size w W0 := by rw [← hW0]; exact hbw3.alloc (by omega) _
  have hUR : w.heap.size < R := by omega
  have HW0 := Lib.hid hW0
  have HbW := Lib.hid hbw0
  have Hr0 := Lib.hid hrd0
  have HF0 := Lib.hid hF0
  clear hF1 hbw1 hF3 hbw3 hown3 hown hb1 hb3 hbw0 hrd0 hF0
  go_wp2_with fail
  have hRW : R < W0.heap.size := by omega
  clear hW0 hR hsz0
  go_loopw [7] (fun v wr => LexRel R A c rs eL eC w.heap.size W0 T v wr) (fun _ wr => rs.length - atOf R wr)
  case atStart =>
    exact ⟨0, rs.length + 1, [], ⟨rfl, rfl, rfl, Nat.le_refl _, fun _ _ _ => rfl⟩, Hr0.out, HF0.out, ⟨World.ownsRow_nil _ _ _ _, fun p hp => by cases hp⟩, Hlex.out.symm, by omega, by simp⟩
  case round =>
    obtain ⟨k, f, ps, I⟩ := hrel
    obtain ⟨f, rfl⟩ : ∃ g, f = g + 1 := ⟨f - 1, by have := I.fuel; have := I.rd.le; omega⟩
    have hwz := I.grown.size
    have hat := I.rd.atOf
    have Hat := Lib.hid hat
    clear hat
    go_wp2_with fail
    refine (token_any _ I.rd).mono ?_
    rintro e W1 ⟨hg1, hE⟩
    have hg01 := grown_trans I.grown hg1
    have hF1 : W1.heap[w.heap.size]? = some (.cells #[.int .i64 0, .int .i64 0, .int .i64 0] 40 (0, 0)) := (hg1.block _ (Array.getElem?_eq_some_iff.1 I.fault).1 (by simp; omega)).trans I.fault
    have hz1 := hg1.size
    have hbw : Below w.heap.size w W1 := below_of_grown HbW.out hg01 (by omega)
    have hlen := I.many
    rcases hE with ⟨er, a, b, n, A', n', c', j, ho, her, rfl, hr1⟩ | ⟨t, k', A', n', c', ho, rfl, hby, hr1⟩
    · have hR1 := restF_fault (f := f) (l := ps.map (·.1)) ho
      rw [I.rest] at hR1
      obtain ⟨L, hL⟩ : ∃ L, lineAt rs eL (passF rs k) = L := ⟨_, rfl⟩
      obtain ⟨C, hC⟩ : ∃ C, colAt rs eC (passF rs k) = C := ⟨_, rfl⟩
      rw [hL, hC] at hR1 ⊢
      have HR1 := Lib.hid hR1
      have e0 : (er == 0) = false := by simpa using her
      have e1 : (er != 0) = true := by simpa using her
      clear hR1 hL hC ho
      have hF2 : (W1.alloc (.cells #[.int .i64 a, .string b, .int .i64 n, .slice A' n' c', .int .i64 L, .int .i64 C] 59)).heap[w.heap.size]? = some (.cells #[.int .i64 0, .int .i64 0, .int .i64 0] 40 (0, 0)) := (Below.heap_alloc _ _ _ (by omega)).trans hF1
      obtain ⟨f0, f1, f2, ff⟩ := three_cells hF2
      have Hb2 := Lib.hid (hbw.alloc (o := .cells #[.int .i64 a, .string b, .int .i64 n, .slice A' n' c', .int .i64 L, .int .i64 C] 59) (by omega))
      have HF2 := Lib.hid hF2
      clear hF1 hF2 hbw
      go_wp2
      go_region
      go_wp2
      exact lex_end (W := (W1.alloc (.cells #[.int .i64 a, .string b, .int .i64 n, .slice A' n' c', .int .i64 L, .int .i64 C] 59)).drew) HF2.out rfl rfl (fun F h2 => .inl ⟨er, L, C, HT.out.trans HR1.out, her, rfl, h2.below Hb2.out.drew (Nat.le_refl _)⟩)
    · have htk := I.toks.grown hg1 (by omega)
      obtain ⟨Av, cv, rfl⟩ := owns_form I.toks.own
      by_cases h4 : ps.length = 4096
      · have hR1 := restF_many (f := f) (l := ps.map (·.1)) ho (by simpa using h4)
        rw [I.rest] at hR1
        have hLC : t.line = lineAt rs eL (passF rs k) ∧ t.col = colAt rs eC (passF rs k) := oneF_place ho
        rw [← hLC.1, ← hLC.2] at hR1
        have HR1 := Lib.hid hR1
        have q1 : ((ps.length : Int) == 4096) = true := by simp; omega
        have q2 : (ps.length == 4096) = true := by simpa using h4
        clear hR1 hLC ho h4
        have hF2 : (W1.alloc (.cells #[.int .i64 t.kind, .string ⟨t.text.toArray⟩, .int .i64 t.num, .slice A' n' c', .int .i64 t.line, .int .i64 t.col] 59)).heap[w.heap.size]? = some (.cells #[.int .i64 0, .int .i64 0, .int .i64 0] 40 (0, 0)) := (Below.heap_alloc _ _ _ (by omega)).trans hF1
        obtain ⟨f0, f1, f2, ff⟩ := three_cells hF2
        have Hb2 := Lib.hid (hbw.alloc (o := .cells #[.int .i64 t.kind, .string ⟨t.text.toArray⟩, .int .i64 t.num, .slice A' n' c', .int .i64 t.line, .int .i64 t.col] 59) (by omega))
        have HF2 := Lib.hid hF2
        clear hF1 hF2 hbw
        go_wp2
        go_region
        go_wp2
        exact lex_end (W := (W1.alloc (.cells #[.int .i64 t.kind, .string ⟨t.text.toArray⟩, .int .i64 t.num, .slice A' n' c', .int .i64 t.line, .int .i64 t.col] 59)).drew) HF2.out rfl rfl (fun F h2 => .inl ⟨27, t.line, t.col, HT.out.trans HR1.out, by decide, rfl, h2.below Hb2.out.drew (Nat.le_refl _)⟩)
      · have q1 : ((ps.length : Int) == 4096) = false := by simp; omega
        have q2 : (ps.length == 4096) = false := by simpa using h4
        have hps : (ps.map (·.1)).length ≠ 4096 := by simpa using h4
        obtain ⟨V, hV⟩ : ∃ V, W1.alloc (.cells #[.int .i64 t.kind, .string ⟨t.text.toArray⟩, .int .i64 t.num, .slice A' n' c', .int .i64 t.line, .int .i64 t.col] 59) = V := ⟨_, rfl⟩
        have hVz : V.heap.size = W1.heap.size + 1 := by rw [← hV]; simp
        have hgV : W1.grownBy V none := by rw [← hV]; exact grown_alloc _ _ _
        have hTk : TkAt V W1.heap.size (.int .i64 t.kind) (.string ⟨t.text.toArray⟩) (.int .i64 t.num) (.slice A' n' c') (.int .i64 t.line) (.int .i64 t.col) := by rw [← hV]; exact heap_alloc_new W1 _
        have hbV : Below W1.heap.size W1 V := by rw [← hV]; exact (Below.refl _ _).alloc (Nat.le_refl _) _
        have htkV := htk.below hbV
        have hbyV : V.ownsRow W0.heap.size 5 1 (.slice A' n' c') t.bytes.length (Lib.byteCells t.bytes) := owns_below (owns_wide hby hwz) hbV
        have hrV := hr1.quiet hgV
        have hFV : V.heap[w.heap.size]? = some (.cells #[.int .i64 0, .int .i64 0, .int .i64 0] 40 (0, 0)) := (hgV.block _ (by omega) (by simp)).trans hF1
        obtain ⟨t0, t1, t2, t3, t4, t5⟩ := hTk.cells
        obtain ⟨f0, f1, f2, ff⟩ := three_cells hFV
        have hgW : W0.grownBy V (some R) := grown_trans hg01 (grown_quiet hgV)
        have hbwV : Below w.heap.size w V := below_of_grown HbW.out hgW (by omega)
        have Hps := Lib.hid hps
        have Ho := Lib.hid ho
        have hVz1 : W1.heap.size < V.heap.size := by omega
        have hVz2 : W0.heap.size ≤ V.heap.size := by omega
        have hne26 : some W1.heap.size ≠ (Value.slice Av ps.length cv).ownBlock := fun e => by have := (htk.own.lt _ e.symm).2; omega
        have Hne26 := Lib.hid hne26
        clear hps ho h4 hF1 hbw htk hVz hne26
        go_wp2_with (at_builtin; refine wpList_append_own _ rfl _ _ 54 rfl W0.heap.size 59 i0 (.agg #[.int .i64 0, .string ⟨#[]⟩, .int .i64 0, .slice none 0 0, .int .i64 0, .int .i64 0]) 6 72 Tryz.underlying54 hi hz0 hz1' hz2 rfl (by decide) _ _ _ rfl (htkV.own.alloc _) ⟨V.heap.size, 0, none⟩ 1 1 (tokCells t (.slice A' n' c')) rfl rfl ?c1 ?c2 ?c3 ?c4 ?c5 ?_)
        case c1 =>
          intro j u hj
          match j, hj with
          | 0, hj => simp [tokCells] at hj; subst hj; simp [Addr.add]
          | 1, hj => simp [tokCells] at hj; subst hj; simp [Addr.add]
          | 2, hj => simp [tokCells] at hj; subst hj; simp [Addr.add]
          | 3, hj => simp [tokCells] at hj; subst hj; simp [Addr.add]
          | 4, hj => simp [tokCells] at hj; subst hj; simp [Addr.add]
          | 5, hj => simp [tokCells] at hj; subst hj; simp [Addr.add]
          | (j + 6), hj => simp [tokCells] at hj
        case c2 => intro u hu; simp [tokCells] at hu; rcases hu with rfl | rfl | rfl | rfl | rfl | rfl <;> rfl
        case c3 => unfold maxLen; omega
        case c4 => omega
        case c5 => simp; omega
        intro v' w2 hown' hgrow _
        have hput := htkV.put (t := t) ⟨A', n', c', rfl⟩ hbyV hown' hgrow
        have hnw : ∀ (i : Nat) (cs : Array Value) (tt : TypeId), V.heap[i]? = some (Obj.cells cs tt (0, 0)) → tt ≠ 59 → w2.heap[i]? = some (Obj.cells cs tt (0, 0)) := fun i cs tt hc hne => by
          rw [hgrow.block i (by have := (Array.getElem?_eq_some_iff.1 hc).1; simp; omega) (not_own htkV.own hc hne), Below.heap_alloc _ _ _ (Array.getElem?_eq_some_iff.1 hc).1]; exact hc
        have hlow : ∀ i, i < W0.heap.size → w2.heap[i]? = V.heap[i]? := fun i hi => by
          rw [hgrow.block i (by simp; omega) (fun e => by have := (htkV.own.lt i e.symm).1; omega), Below.heap_alloc _ _ _ (by omega)]
        have hz2 := hgrow.size
        rw [World.size_alloc] at hz2
        have hg2 : W0.grownBy w2 (some R) := ⟨hgrow.os.trans hgW.os, hgrow.tape.trans hgW.tape, hgrow.output.trans hgW.output, by omega, fun i hi hn => (hlow i hi).trans (hgW.block i hi hn)⟩
        have hr2 : Rd R A c rs eL eC k' w2 := Hr0.out.later hg2 ((hlow R (by omega)).trans hrV.blk) hrV.le
        have hF2 := hnw _ _ _ hFV (by decide)
        have hT2 : TkAt w2 W1.heap.size (.int .i64 t.kind) (.string ⟨t.text.toArray⟩) (.int .i64 t.num) (.slice A' n' c') (.int .i64 t.line) (.int .i64 t.col) := by
          have e : w2.heap[W1.heap.size]? = V.heap[W1.heap.size]? := by rw [hgrow.block _ (by simp; omega) Hne26.out, Below.heap_alloc _ _ _ hVz1]
          exact e.trans hTk
        have hk0 := hT2.cells.1
        obtain ⟨g0, g1, g2, gf⟩ := three_cells hF2
        have hbw2 : Below w.heap.size w w2 := below_of_grown HbW.out hg2 (by omega)
        obtain ⟨A2, c2, rfl⟩ := owns_form hown'
        have Hput := Lib.hid hput
        have Hr2 := Lib.hid hr2
        have Hg2 := Lib.hid hg2
        have HF2 := Lib.hid hF2
        have Hb2 := Lib.hid hbw2
        clear hput hr2 hg2 hF2 hbw2 hown' hgrow hnw hlow hT2 hTk t0 t1 t2 t3 t4 t5 f0 f1 f2 ff hFV
        by_cases hk : t.kind = 0
        · have hR1 := restF_end (f := f) (l := ps.map (·.1)) Ho.out Hps.out hk
          rw [I.rest] at hR1
          have HR1 := Lib.hid hR1
          have q3 : (t.kind == 0) = true := by simpa using hk
          clear hR1 hk
          go_wp2
          refine lex_end HF2.out rfl rfl (fun F h2 => .inr ⟨A2, _, c2, ps ++ [(t, .slice A' n' c')], ?_, by simp, rfl, ?_, h2.below Hb2.out (Nat.le_refl _)⟩)
          · rw [HT.out, HR1.out]; simp
          · exact (Hput.out.two h2 (by omega)).wide (by omega)
        · have hR1 := restF_on (f := f) (l := ps.map (·.1)) Ho.out Hps.out hk
          rw [I.rest] at hR1
          have HR1 := Lib.hid hR1
          have hgt := oneF_gt Ho.out hk
          have q3 : (t.kind == 0) = false := by simpa using hk
          clear hR1 hk
          go_wp2
          refine ⟨⟨k', f, ps ++ [(t, .slice A' n' c')], Hg2.out, Hr2.out, HF2.out, Hput.out, ?_, ?_, ?_⟩, ?_⟩
          · rw [HR1.out]; simp
          · have := I.fuel; omega
          · simp; simp at q2; omega
          · rw [Hr2.out.atOf, Hat.out]
            have := Hr2.out.le
            omega
end Go.Proofs.YtjhnmikciejekaaGreat
