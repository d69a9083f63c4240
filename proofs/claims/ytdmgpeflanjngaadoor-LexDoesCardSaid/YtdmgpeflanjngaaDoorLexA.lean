/-
  What the document's own one and Lex tell: the token at a text and at any place; the tokens of a text of at most 3000 bytes, or of one that is too long.
-/
import Derived.Test.YtdmgpeflanjngaaDoorRefJ
import Derived.Test.YtdmgpeflanjngaaDoorRefQ
import Derived.Test.YtdmgpeflanjngaaDoorRefI
import Derived.Test.YtdmgpeflanjngaaDoorRefK
import Derived.Test.YtdmgpeflanjngaaDoorRefD
namespace Go.Proofs.YtdmgpeflanjngaaDoor
open Go.ChangeShapes Go.WideShapes Go.ChangeAt Go.RowKit
set_option linter.unusedVariables false

/-- The token that a text is. -/
def tokText (L C : Int) : Option (List UInt8 × Nat) → Sum Int (Tok × Nat)
  | none => .inl 4
  | some (b, k') => if 64 < b.length then .inl 5 else .inr (⟨4, [], 0, b, L, C⟩, k')
theorem tokText_at {i : Nat} {L C : Int} {r : List Int} : tokF i L C (34 :: r) = tokText L C (textF [] (i + 1) r) := by
  cases h : textF [] (i + 1) r with
  | none => rw [tokF_text_no h]; rfl
  | some p => obtain ⟨b, k'⟩ := p; rw [tokF_text h]; rfl
set_option maxRecDepth 100000 in
set_option maxHeartbeats 40000000 in
theorem rone_text (A : Option Addr) (m : Nat) (rs : List Ent) (i : Nat) (w : World) (h : RRow w A rs.length m rs) (hi : i < rs.length) (hn : rs.length ≤ 16384) (hqt : runeAt rs i = 34) (HQ : ∀ W, Below w.heap.size w W → Calls Tryd.prog 49 #[.slice A rs.length m, .int .i64 (i : Int)] W (QuotTells i (textF [] (i + 1) ((runesI rs).drop (i + 1))) W)) : Calls Tryd.prog 23 #[.slice A rs.length m, .int .i64 (i : Int)] w (OneTells rs i (lineAt rs 0 i) (colAt rs 0 i) w) := by
  have HN := Lib.hid HQ
  clear HQ
  obtain ⟨g, rfl, hg, hx⟩ := h.at' (by omega)
  have hcap := h.cap
  obtain ⟨e, he⟩ : ∃ e, rs[i]? = some e := ⟨rs[i], List.getElem?_eq_getElem hi⟩
  obtain ⟨x0, -, x2, x3⟩ := hx i e he
  have hL : e.2.2.1 = lineAt rs 0 i := by simp [lineAt, he]
  have hC : e.2.2.2 = colAt rs 0 i := by simp [colAt, he]
  rw [← rune_of he] at x0
  rw [hL] at x2
  rw [hC] at x3
  obtain ⟨L, hL'⟩ : ∃ L, lineAt rs 0 i = L := ⟨_, rfl⟩
  obtain ⟨C, hC'⟩ : ∃ L, colAt rs 0 i = L := ⟨_, rfl⟩
  have hdr := drop_at hi
  obtain ⟨c, hc⟩ : ∃ c, runeAt rs i = c := ⟨_, rfl⟩
  rw [hc] at hdr x0 hqt
  subst hqt
  rw [hL'] at x2 ⊢
  rw [hC'] at x3 ⊢
  have hlt' : (i : Int) < rs.length := by omega
  obtain ⟨TT, hTT⟩ : ∃ TT, textF [] (i + 1) ((runesI rs).drop (i + 1)) = TT := ⟨_, rfl⟩
  have htok : Hid (tokF i L C ((runesI rs).drop i) = tokText L C TT) := Lib.hid (by rw [hdr, tokText_at, hTT])
  rw [hTT] at HN
  have bl : lowB 34 = false := by decide
  have bu : upB 34 = false := by decide
  have bd : digB 34 = false := by decide
  have HL := Lib.hid (fun w => bl ▸ rlow_any 34 w)
  have HU := Lib.hid (fun w => bu ▸ rup_any 34 w)
  have HD := Lib.hid (fun w => bd ▸ rdig_any 34 w)
  obtain ⟨W2, hW2⟩ : ∃ W2, (w.alloc (.cells #[.int .i64 0, .string ⟨#[]⟩, .int .i64 0, .slice none 0 0, .int .i64 0, .int .i64 0] 26)).alloc (.cells #[.int .i64 0, .string ⟨#[]⟩, .int .i64 0, .slice none 0 0, .int .i64 L, .int .i64 C] 26) = W2 := ⟨_, rfl⟩
  have hB2 : Below w.heap.size w W2 := by rw [← hW2]; exact ((Below.refl _ _).alloc (Nat.le_refl _) _).alloc (by simp) _
  have hz2 : W2.heap.size = w.heap.size + 2 := by rw [← hW2]; simp
  have hU2 : TkAt W2 w.heap.size (.int .i64 0) (.string ⟨#[]⟩) (.int .i64 0) (.slice none 0 0) (.int .i64 0) (.int .i64 0) := by rw [← hW2]; exact (heap_two w _ _).1
  have hT2 : TkAt W2 (w.heap.size + 1) (.int .i64 0) (.string ⟨#[]⟩) (.int .i64 0) (.slice none 0 0) (.int .i64 L) (.int .i64 C) := by rw [← hW2]; exact (heap_two w _ _).2
  obtain ⟨T, hTe⟩ : ∃ T, w.heap.size + 1 = T := ⟨_, rfl⟩
  have hwT : w.heap.size < T := by omega
  rw [hTe] at hT2
  clear hL hC hL' hC' hTT hdr he hx h hc bl bu bd
  go_enter Tryd.func23, Tryd.ntmps23
  go_wp2_with (first | (go_at_call 31; ((with_reducible refine (HL.out _).mono ?_); rintro e w' ⟨rfl, rfl⟩)) | (go_at_call 30; ((with_reducible refine (HU.out _).mono ?_); rintro e w' ⟨rfl, rfl⟩)) | (go_at_call 48; ((with_reducible refine (HD.out _).mono ?_); rintro e w' ⟨rfl, rfl⟩)))
  refine (HN.out _ hB2).mono ?_
  rintro e w3 ⟨hb3, hcs⟩
  have hU3 : TkAt w3 w.heap.size (.int .i64 0) (.string ⟨#[]⟩) (.int .i64 0) (.slice none 0 0) (.int .i64 0) (.int .i64 0) := (hb3.block _ hU2.lt).trans hU2
  have hT3 : TkAt w3 T (.int .i64 0) (.string ⟨#[]⟩) (.int .i64 0) (.slice none 0 0) (.int .i64 L) (.int .i64 C) := (hb3.block _ hT2.lt).trans hT2
  have hB3 := hB2.trans (hb3.mono (by omega))
  have hz3 := hb3.size
  have hBw : w.heap.size ≤ W2.heap.size := by omega
  obtain ⟨t0, t1, t2, t3, t4, t5⟩ := hT3.cells
  have fT := hT3.free
  obtain ⟨u0, u1, u2, u3, u4, u5⟩ := hU3.cells
  have fU := hU3.free
  clear hb3 hT2 hU2 hT3
  rcases hcs with ⟨hTT, rfl⟩ | ⟨b, k', hTT, h64, rfl⟩ | ⟨b, k', A3, n3, c3, hTT, h64, rfl, hown⟩
  · have HO : Hid (tokF i L C ((runesI rs).drop i) = .inl 4) := Lib.hid (by rw [htok.out, hTT]; rfl)
    clear htok hTT
    go_wp2
    refine one_end (a := .int .i64 0) (b := .string ⟨#[]⟩) (n := .int .i64 0) (s := .slice none 0 0) (l := .int .i64 0) (c := .int .i64 0) ?hU rfl rfl rfl (fun F hF h2 => ?_)
    case hU => repeat (first | exact hU3 | (refine TkAt.other ?_ (by omega) _))
    have h2' : Two w3 F T w.heap.size := by
      refine Two.trans ?_ h2
      repeat (first | exact Two.refl _ _ _ | (refine Two.set ?_ (.inl rfl) _))
    exact ⟨⟨h2'.os.trans hB3.os, h2'.tape.trans hB3.tape, h2'.output.trans hB3.output, by rw [h2'.size]; exact hB3.size, fun q hq => (h2'.block q (by omega) (by omega)).trans (hB3.block q hq)⟩, .inl ⟨4, _, _, _, none, 0, 0, _, HO.out, by decide, rfl⟩⟩
  · have HO : Hid (tokF i L C ((runesI rs).drop i) = .inl 5) := Lib.hid (by rw [htok.out, hTT, tokText, if_pos h64])
    clear htok hTT
    go_wp2
    refine one_end (a := .int .i64 0) (b := .string ⟨#[]⟩) (n := .int .i64 0) (s := .slice none 0 0) (l := .int .i64 0) (c := .int .i64 0) ?hU rfl rfl rfl (fun F hF h2 => ?_)
    case hU => repeat (first | exact hU3 | (refine TkAt.other ?_ (by omega) _))
    have h2' : Two w3 F T w.heap.size := by
      refine Two.trans ?_ h2
      repeat (first | exact Two.refl _ _ _ | (refine Two.set ?_ (.inl rfl) _))
    exact ⟨⟨h2'.os.trans hB3.os, h2'.tape.trans hB3.tape, h2'.output.trans hB3.output, by rw [h2'.size]; exact hB3.size, fun q hq => (h2'.block q (by omega) (by omega)).trans (hB3.block q hq)⟩, .inl ⟨5, _, _, _, none, 0, 0, _, HO.out, by decide, rfl⟩⟩
  · have HO : Hid (tokF i L C ((runesI rs).drop i) = .inr (⟨4, [], 0, b, L, C⟩, k')) := Lib.hid (by rw [htok.out, hTT, tokText, if_neg (by omega)])
    have Hown := Lib.hid hown
    clear htok hTT hown
    go_wp2
    refine one_end (a := .int .i64 0) (b := .string ⟨#[]⟩) (n := .int .i64 0) (s := .slice none 0 0) (l := .int .i64 0) (c := .int .i64 0) ?hU rfl rfl rfl (fun F hF h2 => ?_)
    case hU => repeat (first | exact hU3 | (refine TkAt.other ?_ (by omega) _))
    have h2' : Two w3 F T w.heap.size := by
      refine Two.trans ?_ h2
      repeat (first | exact Two.refl _ _ _ | (refine Two.set ?_ (.inl rfl) _))
    refine ⟨⟨h2'.os.trans hB3.os, h2'.tape.trans hB3.tape, h2'.output.trans hB3.output, by rw [h2'.size]; exact hB3.size, fun q hq => (h2'.block q (by omega) (by omega)).trans (hB3.block q hq)⟩, .inr ⟨_, _, A3, n3, c3, HO.out, rfl, ?_⟩⟩
    refine h2'.owns (owns_wide Hown.out hBw) (fun e => ?_) (fun e => ?_)
    · have := (Hown.out.lt _ e.symm).1; omega
    · have := (Hown.out.lt _ e.symm).1; omega
end Go.Proofs.YtdmgpeflanjngaaDoor

namespace Go.Proofs.YtdmgpeflanjngaaDoor
open Go.ChangeShapes Go.WideShapes Go.ChangeAt Go.RowKit
set_option linter.unusedVariables false

theorem rone_any (A : Option Addr) (m : Nat) (rs : List Ent) (i : Nat) (w : World) (h : RRow w A rs.length m rs) (hi : i < rs.length) (hn : rs.length ≤ 16384) (HQ : ∀ W, Below w.heap.size w W → Calls Tryd.prog 49 #[.slice A rs.length m, .int .i64 (i : Int)] W (QuotTells i (textF [] (i + 1) ((runesI rs).drop (i + 1))) W)) : Calls Tryd.prog 23 #[.slice A rs.length m, .int .i64 (i : Int)] w (OneTells rs i (lineAt rs 0 i) (colAt rs 0 i) w) := by
  by_cases h1 : lowB (runeAt rs i) = true ∨ upB (runeAt rs i) = true
  · exact rone_name A m rs i w h hi hn h1
  by_cases h2 : digB (runeAt rs i) = true
  · exact rone_num A m rs i w h hi hn h1 h2
  by_cases h3 : runeAt rs i = 34
  · exact rone_text A m rs i w h hi hn h3 HQ
  · exact rone_sign A m rs i w h hi hn h1 h2 h3
/-- A blank passed over changes nothing of what is told from there on. -/
theorem one_blank {rs : List Ent} {eL eC : Int} {k : Nat} (h : k < rs.length) (hb : blankB (runeAt rs k) = true) : passF rs k = passF rs (k + 1) := by
  unfold passF
  rw [drop_at h, skipF, if_pos hb]
theorem oneF_of_pass {rs : List Ent} {eL eC : Int} {k j : Nat} (h : passF rs k = passF rs j) : oneF rs eL eC k = oneF rs eL eC j := by
  unfold oneF; rw [h]
theorem lexF_of_pass {rs : List Ent} {eL eC : Int} {f k j cnt : Nat} (h : passF rs k = passF rs j) : lexF rs eL eC f k cnt = lexF rs eL eC f j cnt := by
  cases f with
  | zero => rfl
  | succ f => rw [lexF, lexF, oneF_of_pass h, h]
theorem restF_of_pass {rs : List Ent} {eL eC : Int} {f k j : Nat} {l : List Tok} (h : passF rs k = passF rs j) : restF rs eL eC f k l = restF rs eL eC f j l := by
  unfold restF; rw [lexF_of_pass h]
/-- A remark begins at k; j is a place in it. -/
structure RemAt (rs : List Ent) (k j : Nat) : Prop where
  le : j ≤ rs.length
  pass : passF rs k = skipF true j ((runesI rs).drop j)
theorem RemAt.start {rs : List Ent} {k : Nat} (h : k < rs.length) (hr : runeAt rs k = 35) : RemAt rs k k := by
  refine ⟨by omega, ?_⟩
  unfold passF
  rw [drop_at h, hr, skipF, if_neg (by decide), if_pos rfl, skipF, if_neg (by decide)]
theorem RemAt.on {rs : List Ent} {k j : Nat} (h : RemAt rs k j) (hl : j < rs.length) (hr : runeAt rs j ≠ 10) : RemAt rs k (j + 1) := by
  refine ⟨by omega, ?_⟩
  rw [h.pass, drop_at hl, skipF, if_neg hr]
theorem RemAt.done {rs : List Ent} {k j : Nat} (h : RemAt rs k j) (he : j < rs.length → runeAt rs j = 10) : passF rs k = passF rs j := by
  rw [h.pass]
  unfold passF
  by_cases hl : j < rs.length
  · rw [drop_at hl, he hl]
    have e1 : skipF true j (10 :: (runesI rs).drop (j + 1)) = skipF false (j + 1) ((runesI rs).drop (j + 1)) := by rw [skipF, if_pos rfl]
    have e2 : skipF false j (10 :: (runesI rs).drop (j + 1)) = skipF false (j + 1) ((runesI rs).drop (j + 1)) := by rw [skipF, if_pos (by decide)]
    rw [e1, e2]
  · rw [drop_end (by omega)]; simp [skipF]
/-- Neither a blank nor a remark: the token begins just there. -/
theorem pass_here {rs : List Ent} {k : Nat} (h : rs.length ≤ k ∨ (blankB (runeAt rs k) = false ∧ runeAt rs k ≠ 35)) : passF rs k = k := by
  unfold passF
  by_cases hl : k < rs.length
  · rcases h with h | ⟨h1, h2⟩
    · omega
    · rw [drop_at hl, skipF, if_neg (by simp [h1]), if_neg h2]
  · rw [drop_end (by omega)]; simp [skipF]
end Go.Proofs.YtdmgpeflanjngaaDoor

namespace Go.Proofs.YtdmgpeflanjngaaDoor
open Go.ChangeShapes Go.WideShapes Go.ChangeAt Go.RowKit
set_option linter.unusedVariables false

theorem tokF_upto {k : Nat} {L C : Int} {l : List Int} {t : Tok} {j : Nat} (h : tokF k L C l = .inr (t, j)) : j ≤ k + l.length := by
  cases l with
  | nil => rw [tokF_end rfl] at h; cases h; simp
  | cons c r =>
    by_cases h1 : lowB c = true ∨ upB c = true
    · rw [tokF_name h1] at h
      split at h
      · cases h
      · cases h
        have := (List.takeWhile_sublist nameB (l := c :: r)).length_le
        unfold namB; omega
    by_cases h2 : digB c = true
    · cases hn : numF 0 k (c :: r) with
      | none => rw [tokF_num_no h1 h2 hn] at h; cases h
      | some p => obtain ⟨n, j'⟩ := p
                  have := numF_le _ _ _ _ _ hn
                  rw [tokF_num h1 h2 hn] at h; cases h; omega
    by_cases h3 : c = 34
    · subst h3
      cases hn : textF [] (k + 1) r with
      | none => rw [tokF_text_no hn] at h; cases h
      | some p => obtain ⟨b, j'⟩ := p
                  have := txtF_le _ _ _ _ _ _ hn
                  rw [tokF_text hn] at h
                  split at h
                  · cases h
                  · cases h; rw [List.length_cons]; omega
    · rw [tokF_sign h1 h2 h3] at h
      split at h
      · cases h
      · cases h
        have := signF_le c _ r rfl
        omega
theorem tokF_some {k : Nat} {L C : Int} {c : Int} {r : List Int} {t : Tok} {j : Nat} (h : tokF k L C (c :: r) = .inr (t, j)) : t.kind ≠ 0 := by
  by_cases h1 : lowB c = true ∨ upB c = true
  · rw [tokF_name h1] at h
    split at h
    · cases h
    · cases h
      show kindF _ c ≠ 0
      unfold kindF
      split
      · decide
      · split <;> decide
  by_cases h2 : digB c = true
  · cases hn : numF 0 k (c :: r) with
    | none => rw [tokF_num_no h1 h2 hn] at h; cases h
    | some p => obtain ⟨n, j'⟩ := p
                rw [tokF_num h1 h2 hn] at h; cases h; exact (by decide : (3 : Int) ≠ 0)
  by_cases h3 : c = 34
  · subst h3
    cases hn : textF [] (k + 1) r with
    | none => rw [tokF_text_no hn] at h; cases h
    | some p => obtain ⟨b, j'⟩ := p
                rw [tokF_text hn] at h
                split at h
                · cases h
                · cases h; exact (by decide : (4 : Int) ≠ 0)
  · rw [tokF_sign h1 h2 h3] at h
    split at h
    · cases h
    · cases h; exact (by decide : (6 : Int) ≠ 0)
theorem oneF_here {rs : List Ent} {eL eC : Int} {k : Nat} (hk : k < rs.length) (h1 : blankB (runeAt rs k) = false) (h2 : runeAt rs k ≠ 35) :
    oneF rs eL eC k = tokF k (lineAt rs 0 k) (colAt rs 0 k) ((runesI rs).drop k) ∧ lineAt rs eL (passF rs k) = lineAt rs 0 k ∧ colAt rs eC (passF rs k) = colAt rs 0 k := by
  have hp := pass_here (rs := rs) (k := k) (.inr ⟨h1, h2⟩)
  have e1 : lineAt rs eL k = lineAt rs 0 k := by simp [lineAt, List.getElem?_eq_getElem hk]
  have e2 : colAt rs eC k = colAt rs 0 k := by simp [colAt, List.getElem?_eq_getElem hk]
  unfold oneF
  rw [hp, e1, e2]
  exact ⟨rfl, rfl, rfl⟩
theorem oneF_last (rs : List Ent) (eL eC : Int) : oneF rs eL eC rs.length = .inr (⟨0, [], 0, [], eL, eC⟩, rs.length) := by
  have hp := pass_here (rs := rs) (k := rs.length) (.inl (Nat.le_refl _))
  unfold oneF
  rw [hp, drop_end (Nat.le_refl _), tokF_end rfl]
  simp [lineAt, colAt]

/-- The fault is laid into the result's block, and told. -/
theorem rlex_end {W : World} {U : Nat} {a b c x0 x1 x2 tv : Value} {tmps : Array Value} {Q : Ending → World → Prop} (hU : W.heap[U]? = some (.cells #[a, b, c] 31 (0, 0))) (t3 : tmps[3]?.getD undef = .pointer (some ⟨U, 0, none⟩)) (t2 : tmps[2]?.getD undef = tv)
    (hQ : ∀ F, Two W F U U → Q (.returned (.tuple #[tv, .agg #[x0, x1, x2]])) F) :
    bodyPost Tryd.prog Tryd.f9 Q .ret { tmps := tmps, defers := [] } (((W.setCell ⟨U, 0, none⟩ x0).setCell ⟨U, 1, none⟩ x1).setCell ⟨U, 2, none⟩ x2) := by
  have hF : (((W.setCell ⟨U, 0, none⟩ x0).setCell ⟨U, 1, none⟩ x1).setCell ⟨U, 2, none⟩ x2).heap[U]? = some (.cells #[x0, x1, x2] 31 (0, 0)) := by
    simp [World.setCell, Array.getElem?_modify, hU]
  have h2 : Two W (((W.setCell ⟨U, 0, none⟩ x0).setCell ⟨U, 1, none⟩ x1).setCell ⟨U, 2, none⟩ x2) U U := (((Two.refl W U U).set (.inl rfl) _).set (.inl rfl) _).set (.inl rfl) _
  generalize (((W.setCell ⟨U, 0, none⟩ x0).setCell ⟨U, 1, none⟩ x1).setCell ⟨U, 2, none⟩ x2) = F at hF h2
  obtain ⟨c0, c1, c2, _⟩ := three_cells hF
  refine bodyPost_ret (v := .tuple #[tv, .agg #[x0, x1, x2]]) ?_ rfl (hQ F h2)
  simp [results, Tryd.results9, go_sem, t2, t3, c0, c1, c2]

set_option maxRecDepth 100000 in
set_option maxHeartbeats 2000000 in
theorem rlex_fault (s : ByteArray) (er L C : Int) (w : World) (her : er ≠ 0) (hl : lexOf s = .inl (er, L, C)) (HS : ∀ w, Calls Tryd.prog 21 #[.string s] w fun e w' => e = .returned (.tuple #[.slice none 0 0, .agg #[.int .i64 er, .int .i64 L, .int .i64 C]]) ∧ Below w.heap.size w w') :
    Calls Tryd.prog 9 #[.string s] w (LexTells s w) := by
  have H := Lib.hid HS
  have Hl := Lib.hid hl
  have hne : (er != 0) = true := by simpa using her
  clear HS hl
  go_enter Tryd.func9, Tryd.ntmps9
  go_wp2_with fail
  refine (H.out _).mono ?_
  rintro e w1 ⟨rfl, hb⟩
  have hz := hb.size
  rw [World.size_alloc] at hz
  have hF1 : w1.heap[w.heap.size]? = some (.cells #[.int .i64 0, .int .i64 0, .int .i64 0] 31 (0, 0)) := (hb.block _ (by simp)).trans (heap_alloc_new w _)
  have hF2 : (w1.alloc (.cells #[.int .i64 er, .int .i64 L, .int .i64 C] 31)).heap[w.heap.size]? = some (.cells #[.int .i64 0, .int .i64 0, .int .i64 0] 31 (0, 0)) := (Below.heap_alloc _ _ _ (by omega)).trans hF1
  obtain ⟨f0, f1, f2, ff⟩ := three_cells hF2
  have hbw : Below w.heap.size w (w1.alloc (.cells #[.int .i64 er, .int .i64 L, .int .i64 C] 31)) := (((Below.refl _ _).alloc (Nat.le_refl _) _).trans (hb.mono (by simp))).alloc (by omega) _
  have Hbw := Lib.hid hbw
  have HF2 := Lib.hid hF2
  clear hb hF1 hbw hF2
  go_wp2
  go_region
  go_wp2
  refine rlex_end (W := (w1.alloc (.cells #[.int .i64 er, .int .i64 L, .int .i64 C] 31)).drew) HF2.out rfl rfl (fun F h2 => .inl ⟨er, L, C, Hl.out, her, rfl, h2.below Hbw.out.drew (Nat.le_refl _)⟩)

structure RLexI (rs : List Ent) (eL eC : Int) (W0 : World) (T : Sum (Int × Int × Int) (List Tok)) (k f : Nat) (ps : List (Tok × Value)) (v : Value) (W : World) : Prop where
  below : Below W0.heap.size W0 W
  toks : Toks W W0.heap.size v ps
  rest : restF rs eL eC f k (ps.map (·.1)) = T
  fuel : rs.length < k + f
  le : k ≤ rs.length
  many : ps.length ≤ k
def RLexRel (rs : List Ent) (eL eC : Int) (W0 : World) (T : Sum (Int × Int × Int) (List Tok)) (v i : Value) (W : World) : Prop := ∃ (k f : Nat) (ps : List (Tok × Value)), i = .int .i64 (k : Int) ∧ RLexI rs eL eC W0 T k f ps v W
theorem RLexI.on {rs : List Ent} {eL eC : Int} {W0 : World} {T : Sum (Int × Int × Int) (List Tok)} {k j f : Nat} {ps : List (Tok × Value)} {v : Value} {W : World} (I : RLexI rs eL eC W0 T k f ps v W) (hp : passF rs k = passF rs j) (hkj : k ≤ j) (hj : j ≤ rs.length) : RLexI rs eL eC W0 T j f ps v W :=
  ⟨I.below, I.toks, by rw [← I.rest]; exact (restF_of_pass hp).symm, by have := I.fuel; omega, hj, by have := I.many; omega⟩
end Go.Proofs.YtdmgpeflanjngaaDoor

namespace Go.Proofs.YtdmgpeflanjngaaDoor
open Go.ChangeShapes Go.WideShapes Go.ChangeAt Go.RowKit
set_option linter.unusedVariables false
set_option linter.unusedSimpArgs false

/-- The last token is put behind the others. -/
theorem rlex_last {w W0 W w2 : World} {N : Nat} {v v' : Value} {ps : List (Tok × Value)} {t : Tok} {tmp : Obj} (hU : w.heap.size < N) (hN : N + 2 ≤ W0.heap.size) (hz : W0.heap.size ≤ W.heap.size) (hT : Toks W W0.heap.size v ps) (hF : W.heap[w.heap.size]? = some (.cells #[.int .i64 0, .int .i64 0, .int .i64 0] 31 (0, 0))) (hb : Below w.heap.size w W)
    (hown : w2.ownsRow W0.heap.size 26 6 v' (ps.length + 1) (allCells ps ++ tokCells ⟨0, [], 0, [], t.line, t.col⟩ (.slice none 0 0))) (hg : (W.alloc tmp).grownBy w2 v.ownBlock) :
    (∃ A c, v' = .slice A (ps.length + 1) c) ∧ Toks w2 W0.heap.size v' (ps ++ [(⟨0, [], 0, [], t.line, t.col⟩, .slice none 0 0)]) ∧ w2.heap[w.heap.size]? = some (.cells #[.int .i64 0, .int .i64 0, .int .i64 0] 31 (0, 0)) ∧ Below w.heap.size w w2 := by
  have hlow : ∀ i, i < W0.heap.size → w2.heap[i]? = W.heap[i]? := fun i hi => by
    rw [hg.block i (by simp; omega) (fun e => by have := (hT.own.lt i e.symm).1; omega), Below.heap_alloc _ _ _ (by omega)]
  have hz2 := hg.size
  rw [World.size_alloc] at hz2
  refine ⟨owns_form hown, hT.put ⟨none, 0, 0, rfl⟩ (World.ownsRow_nil _ _ _ _) hown hg, (hlow _ (by omega)).trans hF, ⟨hg.os.trans hb.os, hg.tape.trans hb.tape, hg.output.trans hb.output, by have := hb.size; omega, fun i hi => (hlow i (by omega)).trans (hb.block i hi)⟩⟩
set_option maxRecDepth 100000 in
set_option maxHeartbeats 8000000 in
theorem rlex_ok (s : ByteArray) (hs : s.size ≤ 3000) (hbad : badOf s = none) (w : World) : Calls Tryd.prog 9 #[.string s] w (LexTells s w) := by
  obtain ⟨i0, hi, hz0, hz1', hz2⟩ := info_parts Tryd.info26
  have hlex : lexOf s = restF (runesOf s) (placeOf s s.size).1 (placeOf s s.size).2 ((runesOf s).length + 1) 0 [] := by
    rw [lexOf, if_neg (by omega), hbad]
    simp only [restF, List.length_nil, List.nil_append]
    cases lexF (runesOf s) (placeOf s s.size).1 (placeOf s s.size).2 ((runesOf s).length + 1) 0 0 <;> rfl
  have hrl := runesOf_len s
  have hrok := runesOf_ok s
  have HS : Hid (∀ w, Calls Tryd.prog 21 #[.string s] w fun e w' => ∃ A c, e = .returned (.tuple #[.slice A (runesOf s).length c, .agg #[.int .i64 0, .int .i64 0, .int .i64 0]]) ∧ w'.ownsRow w.heap.size 52 4 (.slice A (runesOf s).length c) (runesOf s).length (listCells (runesOf s)) ∧ Below w.heap.size w w') := Lib.hid (fun w => by
    refine (rsplit_any s (by omega) w).mono ?_
    rintro e w' (⟨L, C, hb, _⟩ | ⟨_, A, n, c, he, rfl, ho, hb⟩)
    · rw [hbad] at hb; cases hb
    · exact ⟨A, c, he, ho, hb⟩)
  have HP : Hid (∀ w, Calls Tryd.prog 24 #[.string s, .int .i64 (s.size : Int)] w (PlaceTells s (s.size : Int) w)) := Lib.hid (fun w => rplace_any s s.size (by omega) w)
  have hpl : s.size = 0 → (placeOf s s.size).1 = 1 ∧ (placeOf s s.size).2 = 1 := fun h => by
    unfold placeOf
    rw [h, placeF_end s _ _ 0 1 1 (by omega)]
    exact ⟨rfl, rfl⟩
  obtain ⟨T, hT⟩ : ∃ T, lexOf s = T := ⟨_, rfl⟩
  rw [hT] at hlex
  obtain ⟨rs, hrs⟩ : ∃ rs, runesOf s = rs := ⟨_, rfl⟩
  obtain ⟨eL, heL⟩ : ∃ eL, (placeOf s s.size).1 = eL := ⟨_, rfl⟩
  obtain ⟨eC, heC⟩ : ∃ eC, (placeOf s s.size).2 = eC := ⟨_, rfl⟩
  unfold PlaceTells at HP
  rw [heL, heC] at hlex HP hpl
  rw [hrs] at hlex hrl hrok HS
  have HT := Lib.hid hT
  have Hlex := Lib.hid hlex
  have Hrok := Lib.hid hrok
  have Hpl := Lib.hid hpl
  clear hT hlex hrs heL heC hbad hrok hpl
  go_enter Tryd.func9, Tryd.ntmps9
  go_wp2_with fail
  refine (HS.out _).mono ?_
  rintro e w1 ⟨A, c, rfl, hown, hb1⟩
  have hz1 := hb1.size
  rw [World.size_alloc] at hz1
  have hF1 : w1.heap[w.heap.size]? = some (.cells #[.int .i64 0, .int .i64 0, .int .i64 0] 31 (0, 0)) := (hb1.block _ (by simp)).trans (heap_alloc_new w _)
  have hbw1 : Below w.heap.size w w1 := ((Below.refl _ _).alloc (Nat.le_refl _) _).trans (hb1.mono (by simp))
  obtain ⟨N, hN⟩ : ∃ N, w1.heap.size = N := ⟨_, rfl⟩
  obtain ⟨W0, hW0⟩ : ∃ W0, (w1.alloc (.cells #[.int .i64 0, .int .i64 0, .int .i64 0] 31)).alloc (.cells #[.int .i64 1, .int .i64 1] 24) = W0 := ⟨_, rfl⟩
  have hsz0 : W0.heap.size = N + 2 := by rw [← hW0, ← hN]; simp
  have hb10 : Below w1.heap.size w1 W0 := by rw [← hW0]; exact ((Below.refl _ _).alloc (Nat.le_refl _) _).alloc (by simp) _
  have hrow0 : RRow W0 A rs.length c rs := (RRow.of_owns rfl hown).below hb10
  have hF0 : W0.heap[w.heap.size]? = some (.cells #[.int .i64 0, .int .i64 0, .int .i64 0] 31 (0, 0)) := (hb10.block _ (by omega)).trans hF1
  have hP0 : W0.heap[N + 1]? = some (.cells #[.int .i64 1, .int .i64 1] 24 (0, 0)) := by rw [← hW0, ← hN]; exact (heap_two w1 _ _).2
  have hbw0 : Below w.heap.size w W0 := hbw1.trans (hb10.mono (by omega))
  have hcap := hrow0.cap
  have hUN : w.heap.size < N := by omega
  have hN2 : N + 2 ≤ W0.heap.size := by omega
  have HbW := Lib.hid hbw0
  have Hrow := Lib.hid hrow0
  have HF0 := Lib.hid hF0
  have HP0 := Lib.hid hP0
  clear hF1 hbw1 hown hb1 hb10 hbw0 hrow0 hF0 hP0
  go_wp2_with fail
  clear hW0 hN hsz0
  go_loopw [6, 8] (fun v i wr => RLexRel rs eL eC W0 T v i wr) (fun _ i _ => rs.length - (intOf i).toNat)
  case atStart =>
    exact ⟨0, rs.length + 1, [], rfl, ⟨Below.refl _ _, ⟨World.ownsRow_nil _ _ _ _, fun p hp => by cases hp⟩, Hlex.out.symm, by omega, by omega, by simp⟩⟩
  case round =>
    obtain ⟨k, f, ps, rfl, I⟩ := hrel
    obtain ⟨f, rfl⟩ : ∃ g, f = g + 1 := ⟨f - 1, by have := I.fuel; have := I.le; omega⟩
    have hwz := I.below.size
    have hle := I.le
    have hmany := I.many
    by_cases hk : k < rs.length
    · have hk' : (k : Int) < rs.length := by omega
      have hrow := Hrow.out.below I.below
      obtain ⟨g, rfl, hg, hx⟩ := Hrow.out.at' (by omega)
      obtain ⟨e, he⟩ : ∃ e, rs[k]? = some e := ⟨rs[k], List.getElem?_eq_getElem hk⟩
      obtain ⟨x0, -, x2, x3⟩ := hx k e he
      replace x0 := cell_kept I.below hg x0
      replace x2 := cell_kept I.below hg x2
      replace x3 := cell_kept I.below hg x3
      rw [← rune_of he] at x0
      rw [show e.2.2.1 = lineAt rs 0 k by simp [lineAt, he]] at x2
      rw [show e.2.2.2 = colAt rs 0 k by simp [colAt, he]] at x3
      obtain ⟨cc, hc⟩ : ∃ cc, runeAt rs k = cc := ⟨_, rfl⟩
      rw [hc] at x0
      have Hc := Lib.hid hc
      have Hx := Lib.hid hx
      have Hw := Lib.hid hrow
      clear he hc hx hrow
      cases hb : blankB cc
      · by_cases h35 : cc = 35
        · subst h35
          have HB : Hid (∀ w, Calls Tryd.prog 22 #[.int .i32 35] w fun e w' => e = .returned (.bool false) ∧ w = w') := Lib.hid (fun w => hb ▸ rblank_any 35 w)
          have HX : Hid (∀ j (h : j < rs.length), wr.cell? ⟨g, j * 4, none⟩ = some (.int .i32 (runeAt rs j))) := Lib.hid (fun j h => by
            have := (Hx.out j _ (List.getElem?_eq_getElem h)).1
            rw [rune_of (List.getElem?_eq_getElem h)]
            exact cell_kept I.below hg this)
          have HI := Lib.hid I
          clear hb x2 x3 I
          go_wp2_with (go_at_call 22; ((with_reducible refine (HB.out _).mono ?_); rintro e w' ⟨rfl, rfl⟩))
          obtain ⟨wo, rfl⟩ : ∃ wo : World, wo = wr := ⟨_, rfl⟩
          clear x0
          go_loop [8] (fun i => ∃ j : Nat, RemAt rs k j ∧ k ≤ j ∧ i = .int .i64 (j : Int)) (fun i => rs.length - (intOf i).toNat)
          case atStart => exact ⟨k, RemAt.start hk Hc.out, Nat.le_refl _, rfl⟩
          case round =>
            obtain ⟨j, hr, hkj, rfl⟩ := hrel
            have hjl := hr.le
            by_cases hj : j < rs.length
            · have xj := HX.out j hj
              obtain ⟨cj, hcj⟩ : ∃ cj, runeAt rs j = cj := ⟨_, rfl⟩
              rw [hcj] at xj
              by_cases h10 : cj = 10
              · subst h10
                have hne : k ≠ j := fun e => by subst e; rw [Hc.out] at hcj; cases hcj
                have J := HI.out.on (j := j) (hr.done (fun _ => hcj)) hkj hjl
                have HJ := Lib.hid J
                clear J hr hcj
                go_wp2
                refine ⟨⟨j, f + 1, ps, rfl, HJ.out⟩, ?_⟩
                simp [intOf]; omega
              · have hr' := hr.on hj (by rw [hcj]; exact h10)
                have HR := Lib.hid hr'
                have q1 : (cj != 10) = true := by simpa using h10
                clear hr hr' hcj h10
                go_wp2
                go_round
                case rel => exact ⟨j + 1, HR.out, by omega, by go_num⟩
                case measure => simp [intOf]; omega
            · have hne : k ≠ j := by omega
              have J := HI.out.on (j := j) (hr.done (fun h => absurd h hj)) hkj hjl
              have HJ := Lib.hid J
              have hj' : (rs.length : Int) ≤ j := by omega
              clear J hr
              go_wp2
              refine ⟨⟨j, f + 1, ps, rfl, HJ.out⟩, ?_⟩
              simp [intOf]; omega
        · have HB : Hid (∀ w, Calls Tryd.prog 22 #[.int .i32 cc] w fun e w' => e = .returned (.bool false) ∧ w = w') := Lib.hid (fun w => hb ▸ rblank_any cc w)
          have q35 : (cc == 35) = false := by simpa using h35
          obtain ⟨hone, hoL, hoC⟩ := oneF_here (eL := eL) (eC := eC) hk (by rw [Hc.out]; exact hb) (by rw [Hc.out]; exact h35)
          have HO : Hid (Calls Tryd.prog 23 #[.slice (some ⟨g, 0, none⟩) rs.length c, .int .i64 (k : Int)] wr (OneTells rs k (lineAt rs 0 k) (colAt rs 0 k) wr)) := Lib.hid (rone_any _ c rs k wr Hw.out hk (by omega) (fun W hbW => rquoted_any _ c rs k W (Hw.out.below hbW) Hrok.out hk (by omega)))
          obtain ⟨L, hL⟩ : ∃ L, lineAt rs 0 k = L := ⟨_, rfl⟩
          obtain ⟨C, hC⟩ : ∃ C, colAt rs 0 k = C := ⟨_, rfl⟩
          rw [hL, hC] at HO hone
          rw [hL] at hoL x2
          rw [hC] at hoC x3
          have HL := Lib.hid hoL
          have HC := Lib.hid hoC
          have Hone := Lib.hid hone
          have HI := Lib.hid I
          clear hb h35 hL hC hoL hoC hone I
          go_wp2_with (go_at_call 22; ((with_reducible refine (HB.out _).mono ?_); rintro e w' ⟨rfl, rfl⟩))
          refine HO.out.mono ?_
          rintro e W1 ⟨hb1, hE⟩
          have hzq := hb1.size
          have hbl : Below W0.heap.size W0 W1 := HI.out.below.trans (hb1.mono hwz)
          have hF1 : W1.heap[w.heap.size]? = some (.cells #[.int .i64 0, .int .i64 0, .int .i64 0] 31 (0, 0)) := (hbl.block _ (by omega)).trans HF0.out
          have hbw : Below w.heap.size w W1 := HbW.out.trans (hbl.mono HbW.out.size)
          replace x2 := cell_kept hb1 (Nat.lt_of_lt_of_le hg hwz) x2
          replace x3 := cell_kept hb1 (Nat.lt_of_lt_of_le hg hwz) x3
          have hg1 : g < W1.heap.size := by omega
          rcases hE with ⟨er, a, b, n, A', n', c', j, ho, her, rfl⟩ | ⟨t, k', A', n', c', ho, rfl, hby⟩
          · have hR1 := restF_fault (f := f) (l := ps.map (·.1)) (Hone.out.trans ho)
            rw [HI.out.rest, HL.out, HC.out] at hR1
            have HR1 := Lib.hid hR1
            have e0 : (er == 0) = false := by simpa using her
            have e1 : (er != 0) = true := by simpa using her
            clear hR1 ho
            have hF2 : (W1.alloc (.cells #[.int .i64 a, .string b, .int .i64 n, .slice A' n' c', .int .i64 L, .int .i64 C] 26)).heap[w.heap.size]? = some (.cells #[.int .i64 0, .int .i64 0, .int .i64 0] 31 (0, 0)) := (Below.heap_alloc _ _ _ (by omega)).trans hF1
            obtain ⟨f0, f1, f2, ff⟩ := three_cells hF2
            have hbV := (Below.refl W1.heap.size W1).alloc (Nat.le_refl _) (.cells #[.int .i64 a, .string b, .int .i64 n, .slice A' n' c', .int .i64 L, .int .i64 C] 26)
            replace x2 := cell_kept hbV hg1 x2
            replace x3 := cell_kept hbV hg1 x3
            have Hb2 := Lib.hid (hbw.alloc (o := .cells #[.int .i64 a, .string b, .int .i64 n, .slice A' n' c', .int .i64 L, .int .i64 C] 26) (by omega))
            have HF2 := Lib.hid hF2
            clear hF1 hF2 hbw hbl hb1 hbV x0
            go_wp2
            go_region
            go_wp2
            exact rlex_end (W := (W1.alloc (.cells #[.int .i64 a, .string b, .int .i64 n, .slice A' n' c', .int .i64 L, .int .i64 C] 26)).drew) HF2.out rfl rfl (fun F h2 => .inl ⟨er, L, C, HT.out.trans HR1.out, her, rfl, h2.below Hb2.out.drew (Nat.le_refl _)⟩)
          · have hkd : t.kind ≠ 0 := by rw [drop_at hk] at ho; exact tokF_some ho
            have hup := tokF_upto ho
            have hgt := tokF_gt ho hkd
            have hdl : ((runesI rs).drop k).length = rs.length - k := by simp [runesI]
            rw [hdl] at hup
            have hps : (ps.map (·.1)).length ≠ 4096 := by simp; omega
            have hR1 := restF_on (f := f) (l := ps.map (·.1)) (Hone.out.trans ho) hps hkd
            rw [HI.out.rest] at hR1
            have HR1 := Lib.hid hR1
            have htk := (HI.out.toks.below hb1)
            have hfu := HI.out.fuel
            obtain ⟨Av, cv, rfl⟩ := owns_form HI.out.toks.own
            have q1 : decide (4096 ≤ ps.length) = false := by simp; omega
            obtain ⟨V, hV⟩ : ∃ V, W1.alloc (.cells #[.int .i64 t.kind, .string ⟨t.text.toArray⟩, .int .i64 t.num, .slice A' n' c', .int .i64 t.line, .int .i64 t.col] 26) = V := ⟨_, rfl⟩
            have hVz : V.heap.size = W1.heap.size + 1 := by rw [← hV]; simp
            have hTk : TkAt V W1.heap.size (.int .i64 t.kind) (.string ⟨t.text.toArray⟩) (.int .i64 t.num) (.slice A' n' c') (.int .i64 t.line) (.int .i64 t.col) := by rw [← hV]; exact heap_alloc_new W1 _
            have hbV : Below W1.heap.size W1 V := by rw [← hV]; exact (Below.refl _ _).alloc (Nat.le_refl _) _
            have htkV := htk.below hbV
            have hbyV : V.ownsRow W0.heap.size 5 1 (.slice A' n' c') t.bytes.length (Lib.byteCells t.bytes) := owns_below (owns_wide hby hwz) hbV
            obtain ⟨t0, t1, t2, t3, t4, t5⟩ := hTk.cells
            have hblV : Below W0.heap.size W0 V := hbl.trans (hbV.mono (by omega))
            have hVz2 : W0.heap.size ≤ V.heap.size := by omega
            have Htk := Lib.hid htkV
            have Hby := Lib.hid hbyV
            have HbV := Lib.hid hblV
            have hVz1 : W1.heap.size < V.heap.size := by omega
            clear hR1 ho hkd hps hdl hbl hb1 hbV hblV hF1 hbw htk hTk x0 x2 x3 hby htkV hbyV hVz
            go_wp2_with (at_builtin; refine wpList_append_own _ rfl _ _ 28 rfl W0.heap.size 26 i0 (.agg #[.int .i64 0, .string ⟨#[]⟩, .int .i64 0, .slice none 0 0, .int .i64 0, .int .i64 0]) 6 72 Tryd.underlying28 hi hz0 hz1' hz2 rfl (by decide) _ _ _ rfl (Htk.out.own.alloc _) ⟨V.heap.size, 0, none⟩ 1 1 (tokCells t (.slice A' n' c')) rfl rfl ?c1 ?c2 ?c3 ?c4 ?c5 ?_)
            case c1 =>
              intro j u hj
              match j, hj with
              | 0, hj => simp [tokCells] at hj; subst hj; simp [Addr.add]
              | 1, hj => simp [tokCells] at hj; subst hj; simp [Addr.add]
              | 2, hj => simp [tokCells] at hj; subst hj; simp [Addr.add]
              | 3, hj => simp [tokCells] at hj; subst hj; simp [Addr.add]
              | 4, hj => simp [tokCells] at hj; subst hj; simp [Addr.add]
              | 5, hj => simp [tokCells] at hj; subst hj; simp [Addr.add]
              | (j + 6), hj => simp [tokCells] at hj
            case c2 => intro u hu; simp [tokCells] at hu; rcases hu with rfl | rfl | rfl | rfl | rfl | rfl <;> rfl
            case c3 => unfold maxLen; omega
            case c4 => omega
            case c5 => simp; omega
            intro v' w2 hown' hgrow _
            have hput := Htk.out.put (t := t) ⟨A', n', c', rfl⟩ Hby.out hown' hgrow
            have hlow : ∀ i, i < W0.heap.size → w2.heap[i]? = V.heap[i]? := fun i hi => by
              rw [hgrow.block i (by simp; omega) (fun e => by have := (Htk.out.own.lt i e.symm).1; omega), Below.heap_alloc _ _ _ (by omega)]
            have hz2' := hgrow.size
            rw [World.size_alloc] at hz2'
            have hb2 : Below W0.heap.size W0 w2 := ⟨hgrow.os.trans HbV.out.os, hgrow.tape.trans HbV.out.tape, hgrow.output.trans HbV.out.output, by omega, fun i hi => (hlow i hi).trans (HbV.out.block i hi)⟩
            obtain ⟨A2, c2, rfl⟩ := owns_form hown'
            have Hput := Lib.hid hput
            have Hb2 := Lib.hid hb2
            clear hput hb2 hown' hgrow hlow
            go_wp2
            refine ⟨⟨k', f, ps ++ [(t, .slice A' n' c')], ?_, ⟨Hb2.out, Hput.out, ?_, by omega, by omega, by simp; omega⟩⟩, ?_⟩
            · congr 1; omega
            · rw [HR1.out]; simp
            · simp [intOf]; omega
      · have HB : Hid (∀ w, Calls Tryd.prog 22 #[.int .i32 cc] w fun e w' => e = .returned (.bool true) ∧ w = w') := Lib.hid (fun w => hb ▸ rblank_any cc w)
        have J := I.on (j := k + 1) (one_blank (eL := eL) (eC := eC) hk (by rw [Hc.out]; exact hb)) (by omega) (by omega)
        have HJ := Lib.hid J
        clear hb x2 x3 J
        go_wp2_with (go_at_call 22; ((with_reducible refine (HB.out _).mono ?_); rintro e w' ⟨rfl, rfl⟩))
        refine ⟨⟨k + 1, f + 1, ps, by go_num, HJ.out⟩, ?_⟩
        simp [intOf]; omega
    · obtain rfl : k = rs.length := by omega
      have hps : (ps.map (·.1)).length ≠ 4096 := by simp; omega
      have hR1 := restF_end (f := f) (l := ps.map (·.1)) (oneF_last rs eL eC) hps rfl
      rw [I.rest] at hR1
      have HR1 := Lib.hid hR1
      have HI := Lib.hid I
      have hzw : w.heap.size < wr.heap.size := by omega
      have hF1 : wr.heap[w.heap.size]? = some (.cells #[.int .i64 0, .int .i64 0, .int .i64 0] 31 (0, 0)) := (I.below.block _ (by omega)).trans HF0.out
      have hP1 : wr.heap[N + 1]? = some (.cells #[.int .i64 1, .int .i64 1] 24 (0, 0)) := (I.below.block _ (by omega)).trans HP0.out
      have hbw : Below w.heap.size w wr := HbW.out.trans (I.below.mono HbW.out.size)
      obtain ⟨Av, cv, rfl⟩ := owns_form I.toks.own
      have q1 : decide (4096 ≤ ps.length) = false := by simp; omega
      have HF1 := Lib.hid hF1
      have HP1 := Lib.hid hP1
      have Hbw := Lib.hid hbw
      clear hps hR1 I hF1 hP1 hbw hk
      have HT5 := Lib.hid HI.out.toks
      have hz5 := HI.out.below.size
      by_cases hs0 : s.size = 0
      · obtain ⟨rfl, rfl⟩ := Hpl.out hs0
        obtain ⟨W5, rfl⟩ : ∃ W5 : World, W5 = wr := ⟨_, rfl⟩
        have hF5 := HF1.out
        have hP5 := HP1.out
        have Hb5 := Lib.hid Hbw.out
        obtain ⟨f0, f1, f2, ff⟩ := three_cells hF5
        have p0 := cell_of_row W5 (N + 1) 0 _ 24 (0, 0) hP5
        have p1 := cell_of_row W5 (N + 1) 1 _ 24 (0, 0) hP5
        have HF5 := Lib.hid hF5
        clear hF5 hP5
        go_wp2_with (at_builtin; refine wpList_append_own _ rfl _ _ 28 rfl W0.heap.size 26 i0 (.agg #[.int .i64 0, .string ⟨#[]⟩, .int .i64 0, .slice none 0 0, .int .i64 0, .int .i64 0]) 6 72 Tryd.underlying28 hi hz0 hz1' hz2 rfl (by decide) _ _ _ rfl (HT5.out.own.alloc _) ⟨W5.heap.size, 0, none⟩ 1 1 (tokCells ⟨0, [], 0, [], 1, 1⟩ (.slice none 0 0)) rfl rfl ?d1 ?d2 ?d3 ?d4 ?d5 ?_)
        case d1 =>
          intro j u hj
          match j, hj with
          | 0, hj => simp [tokCells] at hj; subst hj; simp [Addr.add]
          | 1, hj => simp [tokCells] at hj; subst hj; simp [Addr.add]
          | 2, hj => simp [tokCells] at hj; subst hj; simp [Addr.add]
          | 3, hj => simp [tokCells] at hj; subst hj; simp [Addr.add]
          | 4, hj => simp [tokCells] at hj; subst hj; simp [Addr.add]
          | 5, hj => simp [tokCells] at hj; subst hj; simp [Addr.add]
          | (j + 6), hj => simp [tokCells] at hj
        case d2 => intro u hu; simp [tokCells] at hu; rcases hu with rfl | rfl | rfl | rfl | rfl | rfl <;> rfl
        case d3 => unfold maxLen; omega
        case d4 => omega
        case d5 => first | omega | (simp; omega)
        intro v' w2 hown' hgrow _
        have E5 := rlex_last (t := ⟨0, [], 0, [], 1, 1⟩) (N := N) hUN hN2 hz5 HT5.out HF5.out Hb5.out hown' hgrow
        obtain ⟨⟨A2, c2, rfl⟩, hput, hF2, hbw2⟩ := E5
        obtain ⟨g0, g1, g2, gf⟩ := three_cells hF2
        have Hput := Lib.hid hput
        have HF2 := Lib.hid hF2
        have Hb2 := Lib.hid hbw2
        clear hput hF2 hbw2 hown' hgrow
        go_wp2
        refine rlex_end HF2.out rfl rfl (fun F h2 => .inr ⟨A2, _, c2, ps ++ [(⟨0, [], 0, [], 1, 1⟩, .slice none 0 0)], ?_, by simp, rfl, ?_, h2.below Hb2.out (Nat.le_refl _)⟩)
        · rw [HT.out, HR1.out]; simp
        · exact (Hput.out.two h2 (by omega)).wide (by omega)
      · have hs1 : (0 : Int) < s.size := by omega
        go_wp2_with fail
        refine (HP.out _).mono ?_
        rintro e W3 ⟨rfl, hb3⟩
        have hz3 := hb3.size
        have hP3 : W3.heap[N + 1]? = some (.cells #[.int .i64 1, .int .i64 1] 24 (0, 0)) := (hb3.block _ (by omega)).trans HP1.out
        have hF3 : W3.heap[w.heap.size]? = some (.cells #[.int .i64 0, .int .i64 0, .int .i64 0] 31 (0, 0)) := (hb3.block _ (by omega)).trans HF1.out
        have p0 := cell_of_row W3 (N + 1) 0 _ 24 (0, 0) hP3
        have p1 := cell_of_row W3 (N + 1) 1 _ 24 (0, 0) hP3
        have pf : ∀ i, W3.frozen? ⟨N + 1, i, none⟩ = false := fun i => by simp [World.frozen?, hP3]
        obtain ⟨W5, hW5⟩ : ∃ W5, (W3.setCell ⟨N + 1, 0, none⟩ (.int .i64 eL)).setCell ⟨N + 1, 1, none⟩ (.int .i64 eC) = W5 := ⟨_, rfl⟩
        have h35 : Two W3 W5 (N + 1) (N + 1) := by rw [← hW5]; exact ((Two.refl W3 _ _).set (.inl rfl) _).set (.inl rfl) _
        have hP5 : W5.heap[N + 1]? = some (.cells #[.int .i64 eL, .int .i64 eC] 24 (0, 0)) := by rw [← hW5]; simp [World.setCell, Array.getElem?_modify, hP3]
        have hF5 : W5.heap[w.heap.size]? = some (.cells #[.int .i64 0, .int .i64 0, .int .i64 0] 31 (0, 0)) := (h35.block _ (by omega) (by omega)).trans hF3
        have HT6 := Lib.hid ((HT5.out.below hb3).two h35 (by omega))
        have hz6 : W0.heap.size ≤ W5.heap.size := by rw [h35.size]; omega
        have Hb5 := Lib.hid (h35.below (Hbw.out.trans (hb3.mono (by omega))) (by omega))
        obtain ⟨f0, f1, f2, ff⟩ := three_cells hF5
        have e0 := cell_of_row W5 (N + 1) 0 _ 24 (0, 0) hP5
        have e1 := cell_of_row W5 (N + 1) 1 _ 24 (0, 0) hP5
        have HF5 := Lib.hid hF5
        clear hF5 hP5 hP3 hF3 h35 hb3
        go_wp2_with (at_builtin; refine wpList_append_own _ rfl _ _ 28 rfl W0.heap.size 26 i0 (.agg #[.int .i64 0, .string ⟨#[]⟩, .int .i64 0, .slice none 0 0, .int .i64 0, .int .i64 0]) 6 72 Tryd.underlying28 hi hz0 hz1' hz2 rfl (by decide) _ _ _ rfl (HT6.out.own.alloc _) ⟨W5.heap.size, 0, none⟩ 1 1 (tokCells ⟨0, [], 0, [], eL, eC⟩ (.slice none 0 0)) rfl rfl ?f1 ?f2 ?f3 ?f4 ?f5 ?_)
        case f1 =>
          intro j u hj
          match j, hj with
          | 0, hj => simp [tokCells] at hj; subst hj; simp [Addr.add]
          | 1, hj => simp [tokCells] at hj; subst hj; simp [Addr.add]
          | 2, hj => simp [tokCells] at hj; subst hj; simp [Addr.add]
          | 3, hj => simp [tokCells] at hj; subst hj; simp [Addr.add]
          | 4, hj => simp [tokCells] at hj; subst hj; simp [Addr.add]
          | 5, hj => simp [tokCells] at hj; subst hj; simp [Addr.add]
          | (j + 6), hj => simp [tokCells] at hj
        case f2 => intro u hu; simp [tokCells] at hu; rcases hu with rfl | rfl | rfl | rfl | rfl | rfl <;> rfl
        case f3 => unfold maxLen; omega
        case f4 => omega
        case f5 => first | omega | (simp; omega)
        intro v' w2 hown' hgrow _
        have E5 := rlex_last (t := ⟨0, [], 0, [], eL, eC⟩) (N := N) hUN hN2 hz6 HT6.out HF5.out Hb5.out hown' hgrow
        obtain ⟨⟨A2, c2, rfl⟩, hput, hF2, hbw2⟩ := E5
        obtain ⟨g0, g1, g2, gf⟩ := three_cells hF2
        have Hput := Lib.hid hput
        have HF2 := Lib.hid hF2
        have Hb2 := Lib.hid hbw2
        clear hput hF2 hbw2 hown' hgrow
        go_wp2
        refine rlex_end HF2.out rfl rfl (fun F h2 => .inr ⟨A2, _, c2, ps ++ [(⟨0, [], 0, [], eL, eC⟩, .slice none 0 0)], ?_, by simp, rfl, ?_, h2.below Hb2.out (Nat.le_refl _)⟩)
        · rw [HT.out, HR1.out]; simp
        · exact (Hput.out.two h2 (by omega)).wide (by omega)
end Go.Proofs.YtdmgpeflanjngaaDoor
