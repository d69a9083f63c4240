/-
  What the document's own one tells where a number begins. No condition but that the row lies in memory.
-/
import Derived.Test.YtdmgpeflanjngaaDoorRefJ
import Derived.BigRegion
namespace Go.Proofs.YtdmgpeflanjngaaDoor
open Go.ChangeShapes Go.WideShapes Go.ChangeAt Go.RowKit
set_option linter.unusedVariables false

/-- Between two rounds: q digits have been read. -/
structure RNumI (rs : List Ent) (i q : Nat) (v : Int) : Prop where
  le : i + q ≤ rs.length
  rng : 0 ≤ v ∧ v ≤ 4611686018427387903
  rest : numF 0 i ((runesI rs).drop i) = numF v (i + q) ((runesI rs).drop (i + q))
theorem RNumI.stop {rs : List Ent} {i q : Nat} {v : Int} (h : RNumI rs i q v) (he : i + q < rs.length → digB (runeAt rs (i + q)) = false) : numF 0 i ((runesI rs).drop i) = some (v, i + q) := by
  rw [h.rest]
  by_cases hl : i + q < rs.length
  · rw [drop_at hl, numF, if_neg (by simp [he hl])]
  · rw [drop_end (by omega), numF]
theorem RNumI.big {rs : List Ent} {i q : Nat} {v : Int} (h : RNumI rs i q v) (hl : i + q < rs.length) (hd : digB (runeAt rs (i + q)) = true) (hb : 461168601842738790 < v ∨ 4611686018427387903 < v * 10 + (runeAt rs (i + q) - 48)) : numF 0 i ((runesI rs).drop i) = none := by
  rw [h.rest, drop_at hl, numF, if_pos hd]
  have hd' : 48 ≤ runeAt rs (i + q) ∧ runeAt rs (i + q) ≤ 57 := by simpa [digB] using hd
  rw [if_pos (by omega)]
theorem RNumI.on {rs : List Ent} {i q : Nat} {v : Int} (h : RNumI rs i q v) (hl : i + q < rs.length) (hd : digB (runeAt rs (i + q)) = true) (hb : v * 10 + (runeAt rs (i + q) - 48) ≤ 4611686018427387903) : RNumI rs i (q + 1) (v * 10 + (runeAt rs (i + q) - 48)) := by
  have hd' : 48 ≤ runeAt rs (i + q) ∧ runeAt rs (i + q) ≤ 57 := by simpa [digB] using hd
  have h0 := h.rng.1
  refine ⟨by omega, by omega, ?_⟩
  rw [h.rest, drop_at hl, numF, if_pos hd, if_neg (by omega)]
  congr 1
  omega
theorem TkAt.set2 {W : World} {U : Nat} {a b n s l c : Value} (h : TkAt W U a b n s l c) (x : Value) : TkAt (W.setCell ⟨U, 2, none⟩ x) U a b x s l c := by
  have : W.heap[U]? = _ := h
  simp [TkAt, World.setCell, Array.getElem?_modify, this]
set_option maxRecDepth 100000 in
set_option maxHeartbeats 40000000 in
theorem rone_num (A : Option Addr) (m : Nat) (rs : List Ent) (i : Nat) (w : World) (h : RRow w A rs.length m rs) (hi : i < rs.length) (hn : rs.length ≤ 16384) (hnm : ¬ (lowB (runeAt rs i) = true ∨ upB (runeAt rs i) = true)) (hdg : digB (runeAt rs i) = true) : Calls Tryd.prog 23 #[.slice A rs.length m, .int .i64 (i : Int)] w (OneTells rs i (lineAt rs 0 i) (colAt rs 0 i) w) := by
  obtain ⟨g, rfl, hg, hx⟩ := h.at' (by omega)
  have hcap := h.cap
  obtain ⟨e, he⟩ : ∃ e, rs[i]? = some e := ⟨rs[i], List.getElem?_eq_getElem hi⟩
  obtain ⟨x0, -, x2, x3⟩ := hx i e he
  have hL : e.2.2.1 = lineAt rs 0 i := by simp [lineAt, he]
  have hC : e.2.2.2 = colAt rs 0 i := by simp [colAt, he]
  rw [← rune_of he] at x0
  rw [hL] at x2
  rw [hC] at x3
  obtain ⟨L, hL'⟩ : ∃ L, lineAt rs 0 i = L := ⟨_, rfl⟩
  obtain ⟨C, hC'⟩ : ∃ L, colAt rs 0 i = L := ⟨_, rfl⟩
  have hdr := drop_at hi
  obtain ⟨c, hc⟩ : ∃ c, runeAt rs i = c := ⟨_, rfl⟩
  rw [hc] at hnm hdr x0 hdg
  rw [hL'] at x2 ⊢
  rw [hC'] at x3 ⊢
  have hlt' : (i : Int) < rs.length := by omega
  have htok : Hid (tokF i L C ((runesI rs).drop i) = match numF 0 i ((runesI rs).drop i) with | none => .inl 3 | some (n, k') => .inr (⟨3, [], n, [], L, C⟩, k')) := Lib.hid (by rw [hdr]; cases hnn : numF 0 i (c :: (runesI rs).drop (i + 1)) with | none => rw [tokF_num_no hnm hdg hnn] | some p => obtain ⟨n, k'⟩ := p; rw [tokF_num hnm hdg hnn])
  have bl : lowB c = false := by cases h : lowB c <;> simp_all
  have bu : upB c = false := by cases h : upB c <;> simp_all
  have bd : digB c = true := hdg
  have HL := Lib.hid (fun w => bl ▸ rlow_any c w)
  have HU := Lib.hid (fun w => bu ▸ rup_any c w)
  have HD := Lib.hid (fun w => bd ▸ rdig_any c w)
  obtain ⟨W2, hW2⟩ : ∃ W2, (w.alloc (.cells #[.int .i64 0, .string ⟨#[]⟩, .int .i64 0, .slice none 0 0, .int .i64 0, .int .i64 0] 26)).alloc (.cells #[.int .i64 0, .string ⟨#[]⟩, .int .i64 0, .slice none 0 0, .int .i64 L, .int .i64 C] 26) = W2 := ⟨_, rfl⟩
  have hB2 : Below w.heap.size w W2 := by rw [← hW2]; exact ((Below.refl _ _).alloc (Nat.le_refl _) _).alloc (by simp) _
  have hz2 : W2.heap.size = w.heap.size + 2 := by rw [← hW2]; simp
  have hU2 : TkAt W2 w.heap.size (.int .i64 0) (.string ⟨#[]⟩) (.int .i64 0) (.slice none 0 0) (.int .i64 0) (.int .i64 0) := by rw [← hW2]; exact (heap_two w _ _).1
  have hT2 : TkAt W2 (w.heap.size + 1) (.int .i64 0) (.string ⟨#[]⟩) (.int .i64 0) (.slice none 0 0) (.int .i64 L) (.int .i64 C) := by rw [← hW2]; exact (heap_two w _ _).2
  obtain ⟨T, hTe⟩ : ∃ T, w.heap.size + 1 = T := ⟨_, rfl⟩
  have hwT : w.heap.size < T := by omega
  rw [hTe] at hT2
  have Hx := Lib.hid hx
  clear hL hC hL' hC' hnm hdg hdr he hx h hc bl bu bd
  obtain ⟨t0, t1, t2, t3, t4, t5⟩ := hT2.cells
  have fT := hT2.free
  have hsT := hT2.set0 (.int .i64 3)
  have hB3 : Below w.heap.size w (W2.setCell ⟨T, 0, none⟩ (.int .i64 3)) := hB2.setCell (by simp; omega) _
  have hU3 := hU2.other (T := T) (o := 0) (by omega) (.int .i64 3)
  obtain ⟨W3, hW3⟩ : ∃ W3, W2.setCell ⟨T, 0, none⟩ (.int .i64 3) = W3 := ⟨_, rfl⟩
  have hT3 : TkAt W3 T (.int .i64 3) (.string ⟨#[]⟩) (.int .i64 0) (.slice none 0 0) (.int .i64 L) (.int .i64 C) := by rw [← hW3]; exact hsT
  rw [hW3] at hB3 hU3
  clear hsT
  have hI0 : RNumI rs i 0 0 := ⟨by omega, ⟨by omega, by omega⟩, rfl⟩
  go_enter Tryd.func23, Tryd.ntmps23
  go_wp2_with (first | (go_at_call 31; ((with_reducible refine (HL.out _).mono ?_); rintro e w' ⟨rfl, rfl⟩)) | (go_at_call 30; ((with_reducible refine (HU.out _).mono ?_); rintro e w' ⟨rfl, rfl⟩)) | (go_at_call 48; ((with_reducible refine (HD.out _).mono ?_); rintro e w' ⟨rfl, rfl⟩)))
  go_loopw [11] (fun kq wr => ∃ (q : Nat) (v : Int), kq = .int .i64 (q : Int) ∧ RNumI rs i q v ∧ TkAt wr T (.int .i64 3) (.string ⟨#[]⟩) (.int .i64 v) (.slice none 0 0) (.int .i64 L) (.int .i64 C) ∧ TkAt wr w.heap.size (.int .i64 0) (.string ⟨#[]⟩) (.int .i64 0) (.slice none 0 0) (.int .i64 0) (.int .i64 0) ∧ Below w.heap.size w wr) (fun kq _ => rs.length - (intOf kq).toNat)
  case atStart => exact ⟨0, 0, rfl, hI0, hT3, hU3, hB3⟩
  case round =>
    obtain ⟨q, v, rfl, hI, hTr, hUr, hB⟩ := hrel
    obtain ⟨t0, t1, t2, t3, t4, t5⟩ := hTr.cells
    have fT := hTr.free
    obtain ⟨u0, u1, u2, u3, u4, u5⟩ := hUr.cells
    have fU := hUr.free
    have hle := hI.le
    have hrng := hI.rng
    by_cases hlt : i + q < rs.length
    · have hlt' : (i : Int) + (q : Int) < rs.length := by omega
      obtain ⟨e, he⟩ : ∃ e, rs[i + q]? = some e := ⟨rs[i + q], List.getElem?_eq_getElem hlt⟩
      obtain ⟨x0, -⟩ := Hx.out (i + q) e he
      have y0 := cell_kept hB hg x0
      rw [← rune_of he] at y0
      obtain ⟨d, hd⟩ : ∃ d, runeAt rs (i + q) = d := ⟨_, rfl⟩
      rw [hd] at y0
      clear x0 he
      cases hdb : digB d
      · have HD2 := Lib.hid (fun w => hdb ▸ rdig_any d w)
        have hstop := hI.stop (fun _ => by rw [hd]; exact hdb)
        have HO : Hid (tokF i L C ((runesI rs).drop i) = .inr (⟨3, [], v, [], L, C⟩, i + q)) := Lib.hid (by rw [htok.out, hstop])
        clear hI hstop htok
        go_wp2_with (first | (go_at_call 48; ((with_reducible refine (HD2.out _).mono ?_); rintro e w' ⟨rfl, rfl⟩)))
        refine one_end (a := .int .i64 0) (b := .string ⟨#[]⟩) (n := .int .i64 0) (s := .slice none 0 0) (l := .int .i64 0) (c := .int .i64 0) ?hU rfl rfl rfl (fun F hF h2 => ?_)
        case hU => repeat (first | exact hUr | (refine TkAt.other ?_ (by omega) _))
        have h2' : Two wr F T w.heap.size := by
          refine Two.trans ?_ h2
          repeat (first | exact Two.refl _ _ _ | (refine Two.set ?_ (.inl rfl) _))
        exact ⟨⟨h2'.os.trans hB.os, h2'.tape.trans hB.tape, h2'.output.trans hB.output, by rw [h2'.size]; exact hB.size, fun q hq => (h2'.block q (by omega) (by omega)).trans (hB.block q hq)⟩, .inr ⟨_, _, none, 0, 0, HO.out, by congr 3; simp; omega, World.ownsRow_nil _ _ _ _⟩⟩
      · have HD2 := Lib.hid (fun w => hdb ▸ rdig_any d w)
        have hd' : 48 ≤ d ∧ d ≤ 57 := by simpa [digB] using hdb
        obtain ⟨d1, d2⟩ := hd'
        by_cases hbig : 461168601842738790 < v
        · have hno := hI.big hlt (by rw [hd]; exact hdb) (.inl hbig)
          have HO : Hid (tokF i L C ((runesI rs).drop i) = .inl 3) := Lib.hid (by rw [htok.out, hno])
          clear hI hno htok
          go_wp2_with (first | (go_at_call 48; ((with_reducible refine (HD2.out _).mono ?_); rintro e w' ⟨rfl, rfl⟩)))
          refine one_end (a := .int .i64 0) (b := .string ⟨#[]⟩) (n := .int .i64 0) (s := .slice none 0 0) (l := .int .i64 0) (c := .int .i64 0) ?hU rfl rfl rfl (fun F hF h2 => ?_)
          case hU => repeat (first | exact hUr | (refine TkAt.other ?_ (by omega) _))
          have h2' : Two wr F T w.heap.size := by
            refine Two.trans ?_ h2
            repeat (first | exact Two.refl _ _ _ | (refine Two.set ?_ (.inl rfl) _))
          exact ⟨⟨h2'.os.trans hB.os, h2'.tape.trans hB.tape, h2'.output.trans hB.output, by rw [h2'.size]; exact hB.size, fun q hq => (h2'.block q (by omega) (by omega)).trans (hB.block q hq)⟩, .inl ⟨3, _, _, _, none, 0, 0, _, HO.out, by decide, rfl⟩⟩
        have hsm : v ≤ 461168601842738790 := by omega
        go_wp2_with (first | (go_at_call 48; ((with_reducible refine (HD2.out _).mono ?_); rintro e w' ⟨rfl, rfl⟩)))
        obtain ⟨nv, hnv⟩ : ∃ nv, v * 10 + (d - 48) = nv := ⟨_, rfl⟩
        have hT2r := (hTr.set2 (.int .i64 nv))
        have m2 := hT2r.cells.2.2.1
        have hnvb : 0 ≤ nv ∧ nv ≤ 4611686018427387909 := by omega
        have hT4 : TkAt (wr.setCell ⟨T, 2, none⟩ (.int .i64 nv)).drew T (.int .i64 3) (.string ⟨#[]⟩) (.int .i64 nv) (.slice none 0 0) (.int .i64 L) (.int .i64 C) := hT2r
        have hU4 : TkAt (wr.setCell ⟨T, 2, none⟩ (.int .i64 nv)).drew w.heap.size (.int .i64 0) (.string ⟨#[]⟩) (.int .i64 0) (.slice none 0 0) (.int .i64 0) (.int .i64 0) := hUr.other (T := T) (o := 2) (by omega) (.int .i64 nv)
        have hB4 : Below w.heap.size w (wr.setCell ⟨T, 2, none⟩ (.int .i64 nv)).drew := (hB.setCell (p := ⟨T, 2, none⟩) (by simp; omega) (.int .i64 nv)).drew
        go_region
        obtain ⟨wr2, hwr2⟩ : ∃ wr2, (wr.setCell ⟨T, 2, none⟩ (.int .i64 nv)).drew = wr2 := ⟨_, rfl⟩
        rw [hwr2] at hT4 hU4 hB4 ⊢
        clear t0 t1 t2 t3 t4 t5 fT u0 u1 u2 u3 u4 u5 fU m2 hT2r hwr2 hTr hUr
        obtain ⟨t0, t1, t2, t3, t4, t5⟩ := hT4.cells
        have fT := hT4.free
        obtain ⟨u0, u1, u2, u3, u4, u5⟩ := hU4.cells
        have fU := hU4.free
        by_cases hb2 : 4611686018427387903 < nv
        · have hno := hI.big hlt (by rw [hd]; exact hdb) (.inr (by rw [hd, hnv]; exact hb2))
          have HO : Hid (tokF i L C ((runesI rs).drop i) = .inl 3) := Lib.hid (by rw [htok.out, hno])
          clear hI hno htok hnv
          go_wp2
          refine one_end (a := .int .i64 0) (b := .string ⟨#[]⟩) (n := .int .i64 0) (s := .slice none 0 0) (l := .int .i64 0) (c := .int .i64 0) ?hU rfl rfl rfl (fun F hF h2 => ?_)
          case hU => repeat (first | exact hU4 | (refine TkAt.other ?_ (by omega) _))
          have h2' : Two wr2 F T w.heap.size := by
            refine Two.trans ?_ h2
            repeat (first | exact Two.refl _ _ _ | (refine Two.set ?_ (.inl rfl) _))
          exact ⟨⟨h2'.os.trans hB4.os, h2'.tape.trans hB4.tape, h2'.output.trans hB4.output, by rw [h2'.size]; exact hB4.size, fun q hq => (h2'.block q (by omega) (by omega)).trans (hB4.block q hq)⟩, .inl ⟨3, _, _, _, none, 0, 0, _, HO.out, by decide, rfl⟩⟩
        · have hon := hI.on hlt (by rw [hd]; exact hdb) (by rw [hd, hnv]; omega)
          rw [hd, hnv] at hon
          have Hon := Lib.hid hon
          have hb3 : nv ≤ 4611686018427387903 := by omega
          clear hI hon hnv
          go_wp2
          refine ⟨⟨q + 1, nv, by go_num, Hon.out, hT4, hU4, hB4⟩, ?_⟩
          simp [intOf]; omega
    · have hge : (rs.length : Int) ≤ (i : Int) + (q : Int) := by omega
      have hstop := hI.stop (fun h => absurd h hlt)
      have HO : Hid (tokF i L C ((runesI rs).drop i) = .inr (⟨3, [], v, [], L, C⟩, i + q)) := Lib.hid (by rw [htok.out, hstop])
      clear hI hstop htok
      go_wp2_with fail
      refine one_end (a := .int .i64 0) (b := .string ⟨#[]⟩) (n := .int .i64 0) (s := .slice none 0 0) (l := .int .i64 0) (c := .int .i64 0) ?hU rfl rfl rfl (fun F hF h2 => ?_)
      case hU => repeat (first | exact hUr | (refine TkAt.other ?_ (by omega) _))
      have h2' : Two wr F T w.heap.size := by
        refine Two.trans ?_ h2
        repeat (first | exact Two.refl _ _ _ | (refine Two.set ?_ (.inl rfl) _))
      exact ⟨⟨h2'.os.trans hB.os, h2'.tape.trans hB.tape, h2'.output.trans hB.output, by rw [h2'.size]; exact hB.size, fun q hq => (h2'.block q (by omega) (by omega)).trans (hB.block q hq)⟩, .inr ⟨_, _, none, 0, 0, HO.out, by congr 3; simp; omega, World.ownsRow_nil _ _ _ _⟩⟩
end Go.Proofs.YtdmgpeflanjngaaDoor
