/-
  What the document's own one tells where a name begins. No condition but that the row lies in memory.
-/
import Derived.Test.YtdmgpeflanjngaaDoorRefIH
namespace Go.Proofs.YtdmgpeflanjngaaDoor
open Go.ChangeShapes Go.WideShapes Go.ChangeAt Go.RowKit
set_option linter.unusedVariables false

set_option maxRecDepth 100000 in
set_option maxHeartbeats 40000000 in
theorem rone_name (A : Option Addr) (m : Nat) (rs : List Ent) (i : Nat) (w : World) (h : RRow w A rs.length m rs) (hi : i < rs.length) (hn : rs.length ≤ 16384) (hnm : lowB (runeAt rs i) = true ∨ upB (runeAt rs i) = true) : Calls Tryd.prog 23 #[.slice A rs.length m, .int .i64 (i : Int)] w (OneTells rs i (lineAt rs 0 i) (colAt rs 0 i) w) := by
  have HN := Lib.hid (fun W (hb : Below w.heap.size w W) => rname_any A rs.length m rs i W (h.below hb) hi hn)
  obtain ⟨g, rfl, hg, hx⟩ := h.at' (by omega)
  have hcap := h.cap
  obtain ⟨e, he⟩ : ∃ e, rs[i]? = some e := ⟨rs[i], List.getElem?_eq_getElem hi⟩
  obtain ⟨x0, -, x2, x3⟩ := hx i e he
  have hL : e.2.2.1 = lineAt rs 0 i := by simp [lineAt, he]
  have hC : e.2.2.2 = colAt rs 0 i := by simp [colAt, he]
  rw [← rune_of he] at x0
  rw [hL] at x2
  rw [hC] at x3
  obtain ⟨L, hL'⟩ : ∃ L, lineAt rs 0 i = L := ⟨_, rfl⟩
  obtain ⟨C, hC'⟩ : ∃ L, colAt rs 0 i = L := ⟨_, rfl⟩
  have hdr := drop_at hi
  obtain ⟨c, hc⟩ : ∃ c, runeAt rs i = c := ⟨_, rfl⟩
  rw [hc] at hnm hdr x0
  rw [hL'] at x2 ⊢
  rw [hC'] at x3 ⊢
  have hlt' : (i : Int) < rs.length := by omega
  have htok : Hid (tokF i L C ((runesI rs).drop i) = if 24 < (namB ((runesI rs).drop i)).length then .inl 5 else .inr (⟨kindF ((namB ((runesI rs).drop i)).flatMap enc) c, (namB ((runesI rs).drop i)).flatMap enc, 0, [], L, C⟩, i + (namB ((runesI rs).drop i)).length)) := Lib.hid (by rw [hdr, tokF_name hnm])
  obtain ⟨nl, hnl⟩ : ∃ nl, (namB ((runesI rs).drop i)).length = nl := ⟨_, rfl⟩
  obtain ⟨nt, hnt⟩ : ∃ nt, (namB ((runesI rs).drop i)).flatMap enc = nt := ⟨_, rfl⟩
  rw [hnl, hnt] at htok HN
  obtain ⟨bl, hbl⟩ : ∃ b, lowB c = b := ⟨_, rfl⟩
  obtain ⟨bu, hbu⟩ : ∃ b, upB c = b := ⟨_, rfl⟩
  have HL := Lib.hid (fun w => hbl ▸ rlow_any c w)
  have HU := Lib.hid (fun w => hbu ▸ rup_any c w)
  obtain ⟨bw, hbw⟩ : ∃ b, wordB nt = b := ⟨_, rfl⟩
  have HW := Lib.hid (fun w => (show wordB (⟨nt.toArray⟩ : ByteArray).data.toList = bw from by simpa using hbw) ▸ rword_any ⟨nt.toArray⟩ w)
  have hkind : Hid (kindF nt c = if bw then 5 else if bu then 2 else 1) := Lib.hid (by rw [kindF, hbw, hbu])
  have hnm' : bl = true ∨ (bl = false ∧ bu = true) := by
    rw [hbl, hbu] at hnm
    cases bl
    · right; exact ⟨rfl, by simpa using hnm⟩
    · left; rfl
  obtain ⟨W2, hW2⟩ : ∃ W2, (w.alloc (.cells #[.int .i64 0, .string ⟨#[]⟩, .int .i64 0, .slice none 0 0, .int .i64 0, .int .i64 0] 26)).alloc (.cells #[.int .i64 0, .string ⟨#[]⟩, .int .i64 0, .slice none 0 0, .int .i64 L, .int .i64 C] 26) = W2 := ⟨_, rfl⟩
  have hB2 : Below w.heap.size w W2 := by rw [← hW2]; exact ((Below.refl _ _).alloc (Nat.le_refl _) _).alloc (by simp) _
  have hz2 : W2.heap.size = w.heap.size + 2 := by rw [← hW2]; simp
  have hU2 : TkAt W2 w.heap.size (.int .i64 0) (.string ⟨#[]⟩) (.int .i64 0) (.slice none 0 0) (.int .i64 0) (.int .i64 0) := by rw [← hW2]; exact (heap_two w _ _).1
  have hT2 : TkAt W2 (w.heap.size + 1) (.int .i64 0) (.string ⟨#[]⟩) (.int .i64 0) (.slice none 0 0) (.int .i64 L) (.int .i64 C) := by rw [← hW2]; exact (heap_two w _ _).2
  obtain ⟨T, hTe⟩ : ∃ T, w.heap.size + 1 = T := ⟨_, rfl⟩
  have hwT : w.heap.size < T := by omega
  rw [hTe] at hT2
  clear hL hC hL' hC' hnl hnt hbl hbu hbw hnm hdr he hx h hc
  go_enter Tryd.func23, Tryd.ntmps23
  rcases hnm' with rfl | ⟨rfl, rfl⟩
  all_goals
    go_wp2_with (first | (go_at_call 31; ((with_reducible refine (HL.out _).mono ?_); rintro e w' ⟨rfl, rfl⟩)) | (go_at_call 30; ((with_reducible refine (HU.out _).mono ?_); rintro e w' ⟨rfl, rfl⟩)) | (go_at_call 14; ((with_reducible refine (HW.out _).mono ?_); rintro e w' ⟨rfl, rfl⟩)))
    refine (HN.out _ hB2).mono ?_
    rintro e w3 ⟨rfl, hb3⟩
    have hU3 := (hb3.block _ hU2.lt).trans hU2
    have hT3 := (hb3.block _ hT2.lt).trans hT2
    have hB3 := hB2.trans (hb3.mono (by omega))
    have hz3 := hb3.size
    replace hU3 : TkAt w3 w.heap.size (.int .i64 0) (.string ⟨#[]⟩) (.int .i64 0) (.slice none 0 0) (.int .i64 0) (.int .i64 0) := hU3
    replace hT3 : TkAt w3 T (.int .i64 0) (.string ⟨#[]⟩) (.int .i64 0) (.slice none 0 0) (.int .i64 L) (.int .i64 C) := hT3
    obtain ⟨t0, t1, t2, t3, t4, t5⟩ := hT3.cells
    obtain ⟨u0, u1, u2, u3, u4, u5⟩ := hU3.cells
    have fT := hT3.free
    have fU := hU3.free
    have hM := hT3.set1 (.string ⟨nt.toArray⟩)
    have z2 : ∀ x y : Value, (((w3.setCell ⟨T, 1, none⟩ (.string ⟨nt.toArray⟩)).setCell ⟨T, 0, none⟩ x).setCell ⟨T, 0, none⟩ y).cell? ⟨T, 0, none⟩ = some y := fun x y => ((hM.set0 x).set0 y).cells.1
    have z3 : ∀ x y z : Value, ((((w3.setCell ⟨T, 1, none⟩ (.string ⟨nt.toArray⟩)).setCell ⟨T, 0, none⟩ x).setCell ⟨T, 0, none⟩ y).setCell ⟨T, 0, none⟩ z).cell? ⟨T, 0, none⟩ = some z := fun x y z => (((hM.set0 x).set0 y).set0 z).cells.1
    clear hb3 hT2 hU2 hT3 hM
    by_cases h24 : 24 < nl
    · have h24' : (24 : Int) < (nl : Int) := by omega
      have HO : Hid (tokF i L C ((runesI rs).drop i) = .inl 5) := Lib.hid (by rw [htok.out, if_pos h24])
      clear htok hkind h24
      cases bw <;> (try cases bu)
      all_goals
        go_wp2_with (first | (go_at_call 31; ((with_reducible refine (HL.out _).mono ?_); rintro e w' ⟨rfl, rfl⟩)) | (go_at_call 30; ((with_reducible refine (HU.out _).mono ?_); rintro e w' ⟨rfl, rfl⟩)) | (go_at_call 14; ((with_reducible refine (HW.out _).mono ?_); rintro e w' ⟨rfl, rfl⟩)))
        refine one_end (a := .int .i64 0) (b := .string ⟨#[]⟩) (n := .int .i64 0) (s := .slice none 0 0) (l := .int .i64 0) (c := .int .i64 0) ?hU rfl rfl rfl (fun F hF h2 => ?_)
        case hU => repeat (first | exact hU3 | (refine TkAt.other ?_ (by omega) _))
        have h2' : Two w3 F T w.heap.size := by
          refine Two.trans ?_ h2
          repeat (first | exact Two.refl _ _ _ | (refine Two.set ?_ (.inl rfl) _))
        exact ⟨⟨h2'.os.trans hB3.os, h2'.tape.trans hB3.tape, h2'.output.trans hB3.output, by rw [h2'.size]; exact hB3.size, fun q hq => (h2'.block q (by omega) (by omega)).trans (hB3.block q hq)⟩, .inl ⟨5, _, _, _, none, 0, 0, _, HO.out, by decide, rfl⟩⟩
    · have h24' : (nl : Int) ≤ 24 := by omega
      have HO : Hid (tokF i L C ((runesI rs).drop i) = .inr (⟨kindF nt c, nt, 0, [], L, C⟩, i + nl)) := Lib.hid (by rw [htok.out, if_neg h24])
      clear htok h24
      cases bw <;> (try cases bu)
      all_goals
        go_wp2_with (first | (go_at_call 31; ((with_reducible refine (HL.out _).mono ?_); rintro e w' ⟨rfl, rfl⟩)) | (go_at_call 30; ((with_reducible refine (HU.out _).mono ?_); rintro e w' ⟨rfl, rfl⟩)) | (go_at_call 14; ((with_reducible refine (HW.out _).mono ?_); rintro e w' ⟨rfl, rfl⟩)))
        refine one_end (a := .int .i64 0) (b := .string ⟨#[]⟩) (n := .int .i64 0) (s := .slice none 0 0) (l := .int .i64 0) (c := .int .i64 0) ?hU rfl rfl rfl (fun F hF h2 => ?_)
        case hU => repeat (first | exact hU3 | (refine TkAt.other ?_ (by omega) _))
        have h2' : Two w3 F T w.heap.size := by
          refine Two.trans ?_ h2
          repeat (first | exact Two.refl _ _ _ | (refine Two.set ?_ (.inl rfl) _))
        refine ⟨⟨h2'.os.trans hB3.os, h2'.tape.trans hB3.tape, h2'.output.trans hB3.output, by rw [h2'.size]; exact hB3.size, fun q hq => (h2'.block q (by omega) (by omega)).trans (hB3.block q hq)⟩, .inr ⟨_, _, none, 0, 0, HO.out, ?_, World.ownsRow_nil _ _ _ _⟩⟩
        rw [hkind.out]
        simp <;> omega
end Go.Proofs.YtdmgpeflanjngaaDoor
