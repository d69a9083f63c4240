/-
  What the document's own one tells where a sign, or nothing that is a token, begins. No condition but that the row lies in memory.
-/
import Derived.Test.YtdmgpeflanjngaaDoorRefIH
namespace Go.Proofs.YtdmgpeflanjngaaDoor
open Go.ChangeShapes Go.WideShapes Go.ChangeAt Go.RowKit
set_option linter.unusedVariables false

theorem signF_two' (c d : Int) : (signF c d).length ≤ 2 := by
  unfold signF
  repeat' split
  all_goals simp
/-- The same, where the last store lay in a region that drew its order. -/
theorem one_endd {W : World} {U : Nat} {a b n s l c x0 x1 x2 x3 x4 x5 k er : Value} {tmps : Array Value} {Q : Ending → World → Prop} (hU : TkAt W U a b n s l c) (t4 : tmps[4]?.getD undef = .pointer (some ⟨U, 0, none⟩)) (t5 : tmps[5]?.getD undef = k) (t6 : tmps[6]?.getD undef = er)
    (hQ : ∀ F, TkAt F U x0 x1 x2 x3 x4 x5 → Two W F U U → Q (.returned (.tuple #[.agg #[x0, x1, x2, x3, x4, x5], k, er])) F) :
    bodyPost Tryd.prog Tryd.f23 Q .ret { tmps := tmps, defers := [] } ((((((W.setCell ⟨U, 0, none⟩ x0).setCell ⟨U, 1, none⟩ x1).setCell ⟨U, 2, none⟩ x2).setCell ⟨U, 3, none⟩ x3).setCell ⟨U, 4, none⟩ x4).setCell ⟨U, 5, none⟩ x5).drew := by
  have hF := hU.fill x0 x1 x2 x3 x4 x5
  have h2 : Two W ((((((W.setCell ⟨U, 0, none⟩ x0).setCell ⟨U, 1, none⟩ x1).setCell ⟨U, 2, none⟩ x2).setCell ⟨U, 3, none⟩ x3).setCell ⟨U, 4, none⟩ x4).setCell ⟨U, 5, none⟩ x5) U U :=
    ((((((Two.refl W U U).set (.inl rfl) _).set (.inl rfl) _).set (.inl rfl) _).set (.inl rfl) _).set (.inl rfl) _).set (.inl rfl) _
  generalize ((((((W.setCell ⟨U, 0, none⟩ x0).setCell ⟨U, 1, none⟩ x1).setCell ⟨U, 2, none⟩ x2).setCell ⟨U, 3, none⟩ x3).setCell ⟨U, 4, none⟩ x4).setCell ⟨U, 5, none⟩ x5) = F at hF h2
  have hF' : TkAt F.drew U x0 x1 x2 x3 x4 x5 := hF
  have h2' : Two W F.drew U U := ⟨h2.os, h2.tape, h2.output, h2.size, h2.block⟩
  obtain ⟨c0, c1, c2, c3, c4, c5⟩ := hF'.cells
  refine bodyPost_ret (v := .tuple #[.agg #[x0, x1, x2, x3, x4, x5], k, er]) ?_ rfl (hQ _ hF' h2')
  simp only [World.cell?_drew] at c0 c1 c2 c3 c4 c5
  simp [results, Tryd.results23, go_sem, t4, t5, t6, c0, c1, c2, c3, c4, c5]
set_option maxRecDepth 100000 in
set_option maxHeartbeats 40000000 in
theorem rone_sign (A : Option Addr) (m : Nat) (rs : List Ent) (i : Nat) (w : World) (h : RRow w A rs.length m rs) (hi : i < rs.length) (hn : rs.length ≤ 16384) (hnm : ¬ (lowB (runeAt rs i) = true ∨ upB (runeAt rs i) = true)) (hdg : ¬ digB (runeAt rs i) = true) (hqt : runeAt rs i ≠ 34) : Calls Tryd.prog 23 #[.slice A rs.length m, .int .i64 (i : Int)] w (OneTells rs i (lineAt rs 0 i) (colAt rs 0 i) w) := by
  have HN := Lib.hid (fun W (hb : Below w.heap.size w W) => rsign_any A rs.length m rs i W (h.below hb) hi hn)
  obtain ⟨g, rfl, hg, hx⟩ := h.at' (by omega)
  have hcap := h.cap
  obtain ⟨e, he⟩ : ∃ e, rs[i]? = some e := ⟨rs[i], List.getElem?_eq_getElem hi⟩
  obtain ⟨x0, -, x2, x3⟩ := hx i e he
  have hL : e.2.2.1 = lineAt rs 0 i := by simp [lineAt, he]
  have hC : e.2.2.2 = colAt rs 0 i := by simp [colAt, he]
  rw [← rune_of he] at x0
  rw [hL] at x2
  rw [hC] at x3
  obtain ⟨L, hL'⟩ : ∃ L, lineAt rs 0 i = L := ⟨_, rfl⟩
  obtain ⟨C, hC'⟩ : ∃ L, colAt rs 0 i = L := ⟨_, rfl⟩
  have hdr := drop_at hi
  obtain ⟨c, hc⟩ : ∃ c, runeAt rs i = c := ⟨_, rfl⟩
  rw [hc] at hnm hdr x0 hdg hqt HN
  rw [hL'] at x2 ⊢
  rw [hC'] at x3 ⊢
  have hlt' : (i : Int) < rs.length := by omega
  obtain ⟨sg, hsg⟩ : ∃ sg, signF c (runeAt rs (i + 1)) = sg := ⟨_, rfl⟩
  rw [hsg] at HN
  have htok : Hid (tokF i L C ((runesI rs).drop i) = if sg = [] then .inl 2 else .inr (⟨6, sg, 0, [], L, C⟩, i + sg.length)) := Lib.hid (by rw [hdr, tokF_sign hnm hdg hqt, headD_at, hsg])
  have hsl : sg.length ≤ 2 := by rw [← hsg]; exact signF_two' _ _
  have bl : lowB c = false := by cases h : lowB c <;> simp_all
  have bu : upB c = false := by cases h : upB c <;> simp_all
  have bd : digB c = false := by cases h : digB c <;> simp_all
  have q34 : (c == 34) = false := by simpa using hqt
  have HL := Lib.hid (fun w => bl ▸ rlow_any c w)
  have HU := Lib.hid (fun w => bu ▸ rup_any c w)
  have HD := Lib.hid (fun w => bd ▸ rdig_any c w)
  obtain ⟨W2, hW2⟩ : ∃ W2, (w.alloc (.cells #[.int .i64 0, .string ⟨#[]⟩, .int .i64 0, .slice none 0 0, .int .i64 0, .int .i64 0] 26)).alloc (.cells #[.int .i64 0, .string ⟨#[]⟩, .int .i64 0, .slice none 0 0, .int .i64 L, .int .i64 C] 26) = W2 := ⟨_, rfl⟩
  have hB2 : Below w.heap.size w W2 := by rw [← hW2]; exact ((Below.refl _ _).alloc (Nat.le_refl _) _).alloc (by simp) _
  have hz2 : W2.heap.size = w.heap.size + 2 := by rw [← hW2]; simp
  have hU2 : TkAt W2 w.heap.size (.int .i64 0) (.string ⟨#[]⟩) (.int .i64 0) (.slice none 0 0) (.int .i64 0) (.int .i64 0) := by rw [← hW2]; exact (heap_two w _ _).1
  have hT2 : TkAt W2 (w.heap.size + 1) (.int .i64 0) (.string ⟨#[]⟩) (.int .i64 0) (.slice none 0 0) (.int .i64 L) (.int .i64 C) := by rw [← hW2]; exact (heap_two w _ _).2
  obtain ⟨T, hTe⟩ : ∃ T, w.heap.size + 1 = T := ⟨_, rfl⟩
  have hwT : w.heap.size < T := by omega
  rw [hTe] at hT2
  clear hL hC hL' hC' hsg hnm hdg hqt hdr he hx h hc bl bu bd
  obtain ⟨t0, t1, t2, t3, t4, t5⟩ := hT2.cells
  have fT := hT2.free
  have hsT := hT2.set0 (.int .i64 6)
  have HsT := Lib.hid hsT
  clear hsT
  go_enter Tryd.func23, Tryd.ntmps23
  go_wp2_with (first | (go_at_call 31; ((with_reducible refine (HL.out _).mono ?_); rintro e w' ⟨rfl, rfl⟩)) | (go_at_call 30; ((with_reducible refine (HU.out _).mono ?_); rintro e w' ⟨rfl, rfl⟩)) | (go_at_call 48; ((with_reducible refine (HD.out _).mono ?_); rintro e w' ⟨rfl, rfl⟩)))
  have hB2' : Below w.heap.size w (W2.setCell ⟨T, 0, none⟩ (.int .i64 6)) := ⟨hB2.os, hB2.tape, hB2.output, by simpa [World.setCell] using hB2.size, fun q hq => (Below.heap_setCell _ _ _ _ (by simp; omega)).trans (hB2.block q hq)⟩
  have hU2' := hU2.other (T := T) (o := 0) (by omega) (.int .i64 6)
  have hzz : (W2.setCell ⟨T, 0, none⟩ (.int .i64 6)).heap.size = w.heap.size + 2 := by rw [← hz2]; simp [World.setCell]
  refine (HN.out _ hB2').mono ?_
  rintro e w3 ⟨rfl, hb3⟩
  have hU3 : TkAt w3 w.heap.size (.int .i64 0) (.string ⟨#[]⟩) (.int .i64 0) (.slice none 0 0) (.int .i64 0) (.int .i64 0) := (hb3.block _ hU2'.lt).trans hU2'
  have hT3 : TkAt w3 T (.int .i64 6) (.string ⟨#[]⟩) (.int .i64 0) (.slice none 0 0) (.int .i64 L) (.int .i64 C) := (hb3.block _ HsT.out.lt).trans HsT.out
  have hB3 := hB2'.trans (hb3.mono (by omega))
  have hz3 := hb3.size
  rw [hzz] at hz3
  obtain ⟨tx, htx⟩ : ∃ tx : ByteArray, ⟨sg.toArray⟩ = tx := ⟨_, rfl⟩
  have htl : tx.toList = sg := by rw [← htx, Lib.toList_data]
  have htz : tx.size = sg.length := by rw [← htx]; show sg.toArray.size = _; simp
  rw [htx]
  have hM := hT3.set1 (.string tx)
  clear t0 t1 t2 t3 t4 t5 fT
  obtain ⟨t0, t1, t2, t3, t4, t5⟩ := hT3.cells
  have fT := hT3.free
  obtain ⟨u0, u1, u2, u3, u4, u5⟩ := hU3.cells
  have fU := hU3.free
  have m1 := hM.cells.2.1
  clear hb3 hU2 hU2' hT2 HsT hB2' hzz
  by_cases hs0 : sg = []
  · have HO : Hid (tokF i L C ((runesI rs).drop i) = .inl 2) := Lib.hid (by rw [htok.out, if_pos hs0])
    have he : (tx.toList == []) = true := by rw [htl, hs0]; rfl
    clear htok
    go_wp2_with (first | (go_at_call 31; ((with_reducible refine (HL.out _).mono ?_); rintro e w' ⟨rfl, rfl⟩)) | (go_at_call 30; ((with_reducible refine (HU.out _).mono ?_); rintro e w' ⟨rfl, rfl⟩)) | (go_at_call 48; ((with_reducible refine (HD.out _).mono ?_); rintro e w' ⟨rfl, rfl⟩)))
    refine one_end (a := .int .i64 0) (b := .string ⟨#[]⟩) (n := .int .i64 0) (s := .slice none 0 0) (l := .int .i64 0) (c := .int .i64 0) ?hU rfl rfl rfl (fun F hF h2 => ?_)
    case hU => repeat (first | exact hU3 | (refine TkAt.other ?_ (by omega) _))
    have h2' : Two w3 F T w.heap.size := by
      refine Two.trans ?_ h2
      repeat (first | exact Two.refl _ _ _ | (refine Two.set ?_ (.inl rfl) _))
    exact ⟨⟨h2'.os.trans hB3.os, h2'.tape.trans hB3.tape, h2'.output.trans hB3.output, by rw [h2'.size]; exact hB3.size, fun q hq => (h2'.block q (by omega) (by omega)).trans (hB3.block q hq)⟩, .inl ⟨2, _, _, _, none, 0, 0, _, HO.out, by decide, rfl⟩⟩
  · have HO : Hid (tokF i L C ((runesI rs).drop i) = .inr (⟨6, sg, 0, [], L, C⟩, i + sg.length)) := Lib.hid (by rw [htok.out, if_neg hs0])
    have he : sg.isEmpty = false := by simpa using hs0
    clear htok
    go_wp2_with (first | (go_at_call 31; ((with_reducible refine (HL.out _).mono ?_); rintro e w' ⟨rfl, rfl⟩)) | (go_at_call 30; ((with_reducible refine (HU.out _).mono ?_); rintro e w' ⟨rfl, rfl⟩)) | (go_at_call 48; ((with_reducible refine (HD.out _).mono ?_); rintro e w' ⟨rfl, rfl⟩)))
    go_region
    go_wp2
    refine one_endd (a := .int .i64 0) (b := .string ⟨#[]⟩) (n := .int .i64 0) (s := .slice none 0 0) (l := .int .i64 0) (c := .int .i64 0) ?hU rfl rfl rfl (fun F hF h2 => ?_)
    case hU => repeat (first | exact hU3 | (refine TkAt.other ?_ (by omega) _))
    have h2' : Two w3 F T w.heap.size := by
      refine Two.trans ?_ h2
      repeat (first | exact Two.refl _ _ _ | (refine Two.set ?_ (.inl rfl) _))
    refine ⟨⟨h2'.os.trans hB3.os, h2'.tape.trans hB3.tape, h2'.output.trans hB3.output, by rw [h2'.size]; exact hB3.size, fun q hq => (h2'.block q (by omega) (by omega)).trans (hB3.block q hq)⟩, .inr ⟨_, _, none, 0, 0, HO.out, ?_, World.ownsRow_nil _ _ _ _⟩⟩
    rw [htx]
    congr 3
    simp; omega
end Go.Proofs.YtdmgpeflanjngaaDoor
