/-
  Texts of one proof, in their order. No condition.
-/
import Derived.Test.YtjhnmikciejekaaGreatPqWhere
namespace Go.Proofs.YtjhnmikciejekaaGreat
open Go.ChangeShapes Go.WideShapes Go.ChangeAt Go.RowKit
set_option linter.unusedVariables false
def TokTells (R : Nat) (A : Option Addr) (c : Nat) (rs : List Ent) (eL eC : Int) (k : Nat) (w : World) (e : Ending) (w' : World) : Prop :=
  w.grownBy w' (some R) ∧ ((∃ er a b n A' n' c' j, oneF rs eL eC k = .inl er ∧ er ≠ 0 ∧ e = .returned (.tuple #[.agg #[.int .i64 a, .string b, .int .i64 n, .slice A' n' c', .int .i64 (lineAt rs eL (passF rs k)), .int .i64 (colAt rs eC (passF rs k))], .int .i64 er]) ∧ Rd R A c rs eL eC j w') ∨
    (∃ t k' A' n' c', oneF rs eL eC k = .inr (t, k') ∧ e = .returned (.tuple #[.agg #[.int .i64 t.kind, .string ⟨t.text.toArray⟩, .int .i64 t.num, .slice A' n' c', .int .i64 t.line, .int .i64 t.col], .int .i64 0]) ∧ w'.ownsRow w.heap.size 5 1 (.slice A' n' c') t.bytes.length (Lib.byteCells t.bytes) ∧ Rd R A c rs eL eC k' w'))
def TkAt (W : World) (T : Nat) (a b n s l c : Value) : Prop := W.heap[T]? = some (.cells #[a, b, n, s, l, c] 59 (0, 0))
section
variable {W W' : World} {T : Nat} {a b n s l c : Value}
theorem TkAt.lt (h : TkAt W T a b n s l c) : T < W.heap.size := (Array.getElem?_eq_some_iff.1 h).1
theorem TkAt.cells (h : TkAt W T a b n s l c) : W.cell? ⟨T, 0, none⟩ = some a ∧ W.cell? ⟨T, 1, none⟩ = some b ∧ W.cell? ⟨T, 2, none⟩ = some n ∧ W.cell? ⟨T, 3, none⟩ = some s ∧ W.cell? ⟨T, 4, none⟩ = some l ∧ W.cell? ⟨T, 5, none⟩ = some c :=
  ⟨cell_of_row W T 0 _ 59 (0, 0) h, cell_of_row W T 1 _ 59 (0, 0) h, cell_of_row W T 2 _ 59 (0, 0) h, cell_of_row W T 3 _ 59 (0, 0) h, cell_of_row W T 4 _ 59 (0, 0) h, cell_of_row W T 5 _ 59 (0, 0) h⟩
theorem TkAt.free (h : TkAt W T a b n s l c) (i : Nat) : W.frozen? ⟨T, i, none⟩ = false := by
  have : W.heap[T]? = _ := h
  simp [World.frozen?, this]
theorem TkAt.kept {row : Option Nat} (h : TkAt W T a b n s l c) (hg : W.grownBy W' row) (hne : some T ≠ row) : TkAt W' T a b n s l c := (hg.block T h.lt hne).trans h
end
structure Two (W W' : World) (T U : Nat) : Prop where
  os : W'.os = W.os
  tape : W'.tape = W.tape
  output : W'.output = W.output
  size : W'.heap.size = W.heap.size
  block : ∀ i, i ≠ T → i ≠ U → W'.heap[i]? = W.heap[i]?
theorem Two.refl (W : World) (T U : Nat) : Two W W T U := ⟨rfl, rfl, rfl, rfl, fun _ _ _ => rfl⟩
theorem Two.set {W W' : World} {T U i o : Nat} (h : Two W W' T U) (hi : i = T ∨ i = U) (v : Value) : Two W (W'.setCell ⟨i, o, none⟩ v) T U :=
  ⟨h.os, h.tape, h.output, by rw [← h.size]; simp [World.setCell], fun j h1 h2 => (Below.heap_setCell _ _ _ _ (by simp; omega)).trans (h.block j h1 h2)⟩
theorem Two.grown {w W W' : World} {T U R : Nat} (h : Two W W' T U) (hg : w.grownBy W (some R)) (hT : w.heap.size ≤ T) (hU : w.heap.size ≤ U) : w.grownBy W' (some R) :=
  ⟨h.os.trans hg.os, h.tape.trans hg.tape, h.output.trans hg.output, by rw [h.size]; exact hg.size, fun i hi hn => (h.block i (by omega) (by omega)).trans (hg.block i hi hn)⟩
theorem Two.rd {w W W' : World} {T U R : Nat} {A : Option Addr} {c : Nat} {rs : List Ent} {eL eC : Int} {k j : Nat} (h : Two W W' T U) (h0 : Rd R A c rs eL eC k w) (hg : w.grownBy W (some R)) (hr : Rd R A c rs eL eC j W) (hT : w.heap.size ≤ T) (hU : w.heap.size ≤ U) : Rd R A c rs eL eC j W' :=
  h0.later (h.grown hg hT hU) ((h.block R (by have := h0.lt; omega) (by have := h0.lt; omega)).trans hr.blk) hr.le
theorem Two.owns {W W' : World} {T U base e k size : Nat} {v : Value} {xs : List Value} (h : Two W W' T U) (ho : W.ownsRow base e size v k xs) (hT : some T ≠ v.ownBlock) (hU : some U ≠ v.ownBlock) : W'.ownsRow base e size v k xs := by
  refine ⟨ho.1, ?_⟩
  rcases ho.2 with hn | ⟨g, cap, cur, hv, hb, hg, rest⟩
  · exact .inl hn
  · subst hv
    exact .inr ⟨g, cap, cur, rfl, hb, (h.block g (fun e => hT (by rw [e]; rfl)) (fun e => hU (by rw [e]; rfl))).trans hg, rest⟩
theorem owns_wide {W : World} {b b' e k size : Nat} {v : Value} {xs : List Value} (h : W.ownsRow b e size v k xs) (hb : b' ≤ b) : W.ownsRow b' e size v k xs := by
  refine ⟨h.1, ?_⟩
  rcases h.2 with hn | ⟨g, cap, cur, hv, hb2, rest⟩
  · exact .inl hn
  · exact .inr ⟨g, cap, cur, hv, by omega, rest⟩
theorem Two.trans {W W' W'' : World} {T U : Nat} (h : Two W W' T U) (k : Two W' W'' U U) : Two W W'' T U :=
  ⟨k.os.trans h.os, k.tape.trans h.tape, k.output.trans h.output, k.size.trans h.size, fun i h1 h2 => (k.block i h2 h2).trans (h.block i h1 h2)⟩
theorem TkAt.fill {W : World} {U : Nat} {a b n s l c : Value} (h : TkAt W U a b n s l c) (x0 x1 x2 x3 x4 x5 : Value) : TkAt ((((((W.setCell ⟨U, 0, none⟩ x0).setCell ⟨U, 1, none⟩ x1).setCell ⟨U, 2, none⟩ x2).setCell ⟨U, 3, none⟩ x3).setCell ⟨U, 4, none⟩ x4).setCell ⟨U, 5, none⟩ x5) U x0 x1 x2 x3 x4 x5 := by
  have : W.heap[U]? = _ := h
  simp [TkAt, World.setCell, Array.getElem?_modify, this]
theorem TkAt.other {W : World} {U : Nat} {a b n s l c : Value} (h : TkAt W U a b n s l c) {T o : Nat} (hne : U ≠ T) (v : Value) : TkAt (W.setCell ⟨T, o, none⟩ v) U a b n s l c :=
  (Below.heap_setCell _ _ _ _ (by simpa using hne)).trans h
theorem TkAt.set0 {W : World} {U : Nat} {a b n s l c : Value} (h : TkAt W U a b n s l c) (x : Value) : TkAt (W.setCell ⟨U, 0, none⟩ x) U x b n s l c := by
  have : W.heap[U]? = _ := h
  simp [TkAt, World.setCell, Array.getElem?_modify, this]
theorem tok_end {W : World} {U : Nat} {a b n s l c x0 x1 x2 x3 x4 x5 er : Value} {tmps : Array Value} {Q : Ending → World → Prop} (hU : TkAt W U a b n s l c) (t2 : tmps[2]?.getD undef = .pointer (some ⟨U, 0, none⟩)) (t3 : tmps[3]?.getD undef = er)
    (hQ : ∀ F, TkAt F U x0 x1 x2 x3 x4 x5 → Two W F U U → Q (.returned (.tuple #[.agg #[x0, x1, x2, x3, x4, x5], er])) F) :
    bodyPost Tryz.prog Tryz.f102 Q .ret { tmps := tmps, defers := [] } ((((((W.setCell ⟨U, 0, none⟩ x0).setCell ⟨U, 1, none⟩ x1).setCell ⟨U, 2, none⟩ x2).setCell ⟨U, 3, none⟩ x3).setCell ⟨U, 4, none⟩ x4).setCell ⟨U, 5, none⟩ x5) := by
  have hF := hU.fill x0 x1 x2 x3 x4 x5
  have h2 : Two W ((((((W.setCell ⟨U, 0, none⟩ x0).setCell ⟨U, 1, none⟩ x1).setCell ⟨U, 2, none⟩ x2).setCell ⟨U, 3, none⟩ x3).setCell ⟨U, 4, none⟩ x4).setCell ⟨U, 5, none⟩ x5) U U :=
    ((((((Two.refl W U U).set (.inl rfl) _).set (.inl rfl) _).set (.inl rfl) _).set (.inl rfl) _).set (.inl rfl) _).set (.inl rfl) _
  generalize ((((((W.setCell ⟨U, 0, none⟩ x0).setCell ⟨U, 1, none⟩ x1).setCell ⟨U, 2, none⟩ x2).setCell ⟨U, 3, none⟩ x3).setCell ⟨U, 4, none⟩ x4).setCell ⟨U, 5, none⟩ x5) = F at hF h2
  obtain ⟨c0, c1, c2, c3, c4, c5⟩ := hF.cells
  refine bodyPost_ret (v := .tuple #[.agg #[x0, x1, x2, x3, x4, x5], er]) ?_ rfl (hQ F hF h2)
  simp [results, Tryz.results102, go_sem, t2, t3, c0, c1, c2, c3, c4, c5]
theorem tokF_num {k : Nat} {L C : Int} {c : Int} {t : List Int} (h1 : ¬ (lowB c = true ∨ upB c = true)) (h2 : digB c = true) {n : Int} {k' : Nat} (h : numF 0 k (c :: t) = some (n, k')) : tokF k L C (c :: t) = .inr (⟨3, [], n, [], L, C⟩, k') := by
  rw [tokF, if_neg h1, if_pos h2, h]
theorem tokF_num_no {k : Nat} {L C : Int} {c : Int} {t : List Int} (h1 : ¬ (lowB c = true ∨ upB c = true)) (h2 : digB c = true) (h : numF 0 k (c :: t) = none) : tokF k L C (c :: t) = .inl 3 := by
  rw [tokF, if_neg h1, if_pos h2, h]
theorem tokF_text {k : Nat} {L C : Int} {t : List Int} {b : List UInt8} {k' : Nat} (h : textF [] (k + 1) t = some (b, k')) : tokF k L C (34 :: t) = if 64 < b.length then .inl 5 else .inr (⟨4, [], 0, b, L, C⟩, k') := by
  rw [tokF, if_neg (by decide), if_neg (by decide), if_pos rfl, h]
theorem tokF_text_no {k : Nat} {L C : Int} {t : List Int} (h : textF [] (k + 1) t = none) : tokF k L C (34 :: t) = .inl 4 := by
  rw [tokF, if_neg (by decide), if_neg (by decide), if_pos rfl, h]
theorem tokF_sign {k : Nat} {L C : Int} {c : Int} {t : List Int} (h1 : ¬ (lowB c = true ∨ upB c = true)) (h2 : ¬ digB c = true) (h3 : c ≠ 34) : tokF k L C (c :: t) = if signF c (t.headD (-1)) = [] then .inl 2 else .inr (⟨6, signF c (t.headD (-1)), 0, [], L, C⟩, k + (signF c (t.headD (-1))).length) := by
  rw [tokF, if_neg h1, if_neg h2, if_neg h3]
theorem tokF_end {k : Nat} {L C : Int} {l : List Int} (h : l = []) : tokF k L C l = .inr (⟨0, [], 0, [], L, C⟩, k) := by subst h; rfl
theorem tokF_name {k : Nat} {L C : Int} {c : Int} {t : List Int} (h : lowB c = true ∨ upB c = true) : tokF k L C (c :: t) = if 24 < (namB (c :: t)).length then .inl 5 else .inr (⟨kindF ((namB (c :: t)).flatMap enc) c, (namB (c :: t)).flatMap enc, 0, [], L, C⟩, k + (namB (c :: t)).length) := by
  rw [tokF, if_pos h]
section
variable {R : Nat} {A : Option Addr} {c : Nat} {rs : List Ent} {eL eC : Int} {k : Nat}
set_option maxRecDepth 100000 in
set_option maxHeartbeats 4000000 in
theorem token_any (w : World) (h : Rd R A c rs eL eC k w) : Calls Tryz.prog 102 #[.pointer (some ⟨R, 0, none⟩)] w (TokTells R A c rs eL eC k w) := by
  have hR := h.lt
  obtain ⟨W0, hW0⟩ : ∃ W0, w.alloc (.cells #[.int .i64 0, .string ⟨#[]⟩, .int .i64 0, .slice none 0 0, .int .i64 0, .int .i64 0] 59) = W0 := ⟨_, rfl⟩
  have hU0 : TkAt W0 w.heap.size (.int .i64 0) (.string ⟨#[]⟩) (.int .i64 0) (.slice none 0 0) (.int .i64 0) (.int .i64 0) := by rw [← hW0]; exact heap_alloc_new w _
  have hg0 : w.grownBy W0 none := by rw [← hW0]; exact grown_alloc _ _ _
  have hr0 := h.quiet hg0
  obtain ⟨L, hL⟩ : ∃ L, lineAt rs eL (passF rs k) = L := ⟨_, rfl⟩
  obtain ⟨C, hC⟩ : ∃ C, colAt rs eC (passF rs k) = C := ⟨_, rfl⟩
  have hone : oneF rs eL eC k = tokF (passF rs k) L C ((runesI rs).drop (passF rs k)) := by rw [oneF, hL, hC]
  have hpl : Hid (∀ w, Rd R A c rs eL eC (passF rs k) w → Calls Tryz.prog 144 #[.pointer (some ⟨R, 0, none⟩)] w fun e w' => e = .returned (.agg #[.int .i64 L, .int .i64 C]) ∧ Below w.heap.size w w') := Lib.hid (fun w h => by rw [← hL, ← hC]; exact where_any w h)
  have hps := Lib.hid (fun w (h : Rd R A c rs eL eC k w) => pass_any w h)
  have hT1 : Hid (∀ er a b n A' n' c' j w', er ≠ 0 → oneF rs eL eC k = .inl er → w.grownBy w' (some R) → Rd R A c rs eL eC j w' → TokTells R A c rs eL eC k w (.returned (.tuple #[.agg #[.int .i64 a, .string b, .int .i64 n, .slice A' n' c', .int .i64 L, .int .i64 C], .int .i64 er])) w') :=
    Lib.hid (fun er a b n A' n' c' j w' h0 h1 h2 h3 => ⟨h2, .inl ⟨er, a, b, n, A', n', c', j, h1, h0, by rw [hL, hC], h3⟩⟩)
  obtain ⟨kp, hkp⟩ : ∃ kp, passF rs k = kp := ⟨_, rfl⟩
  rw [hkp] at hone hpl hps
  have Hone := Lib.hid hone
  clear hone hL hC hkp
  go_enter Tryz.func102, Tryz.ntmps102
  go_wp2_with fail
  refine (hps.out _ hr0).mono ?_
  rintro e W1 ⟨⟨v1, rfl⟩, hg1, hr1⟩
  have hU1 := hU0.kept hg1 (by simp; omega)
  go_wp2_with fail
  refine (hpl.out _ hr1).mono ?_
  rintro e W2 ⟨rfl, hb2⟩
  have hr2 := hr1.quiet (below_grown hb2)
  have hU2 := hU1.kept (below_grown hb2) (by simp)
  have hsz : w.heap.size + 1 ≤ W2.heap.size := by have h1 := hg1.size; have h2 := hb2.size; have h3 : W0.heap.size = w.heap.size + 1 := (by rw [← hW0]; simp); omega
  have hgw2 : w.grownBy W2 (some R) := grown_trans (grown_trans (grown_quiet hg0) hg1) (grown_quiet (below_grown hb2))
  obtain ⟨W3, hW3⟩ : ∃ W3, W2.alloc (.cells #[.int .i64 0, .string ⟨#[]⟩, .int .i64 0, .slice none 0 0, .int .i64 L, .int .i64 C] 59) = W3 := ⟨_, rfl⟩
  obtain ⟨T, hT⟩ : ∃ T, W2.heap.size = T := ⟨_, rfl⟩
  have hT3 : TkAt W3 T (.int .i64 0) (.string ⟨#[]⟩) (.int .i64 0) (.slice none 0 0) (.int .i64 L) (.int .i64 C) := by rw [← hW3, ← hT]; exact heap_alloc_new W2 _
  have hU3 : TkAt W3 w.heap.size (.int .i64 0) (.string ⟨#[]⟩) (.int .i64 0) (.slice none 0 0) (.int .i64 0) (.int .i64 0) := by rw [← hW3]; exact hU2.kept (grown_alloc _ _ none) (by simp)
  have hr3 : Rd R A c rs eL eC kp W3 := by rw [← hW3]; exact hr2.quiet (grown_alloc _ _ none)
  have hgw3 : w.grownBy W3 (some R) := by rw [← hW3]; exact grown_trans hgw2 (grown_alloc _ _ _)
  rw [hT] at hsz
  obtain ⟨ch, hch⟩ : ∃ ch, runeAt rs kp = ch := ⟨_, rfl⟩
  have ha : Hid (∀ w, Rd R A c rs eL eC kp w → Calls Tryz.prog 145 #[.pointer (some ⟨R, 0, none⟩), .int .i64 0] w fun e w' => e = .returned (.int .i32 ch) ∧ ∃ n, w' = w.drewN n) := Lib.hid (fun w h => hch ▸ ahead0 w h)
  clear hU0 hU1 hU2 hr0 hr1 hr2 hg1 hg0 hb2 hgw2
  go_wp2_with fail
  refine (ha.out _ hr3).mono ?_
  rintro e W4 ⟨rfl, nq, rfl⟩
  have hr4 := hr3.quiet (drewN_grown W3 nq)
  have hT4 := hT3.kept (drewN_grown W3 nq) (by simp)
  have hU4 := hU3.kept (drewN_grown W3 nq) (by simp)
  have hgw4 : w.grownBy (W3.drewN nq) (some R) := grown_trans hgw3 (grown_quiet (drewN_grown W3 nq))
  clear hr3 hT3 hU3 hgw3
  obtain ⟨W4, hW4⟩ : ∃ W4, W3.drewN nq = W4 := ⟨_, rfl⟩
  rw [hW4] at hr4 hT4 hU4 hgw4 ⊢
  clear hW3 hW4
  obtain ⟨t0, t1, t2, t3, t4, t5⟩ := hT4.cells
  obtain ⟨u0, u1, u2, u3, u4, u5⟩ := hU4.cells
  have fT := hT4.free
  have fU := hU4.free
  by_cases hend : ch = -1
  · subst hend
    have hkl : rs.length ≤ kp := by
      apply Classical.byContradiction; intro hn
      have := (hr4.rune_in kp (by omega)).1
      rw [hch] at this; omega
    have ho := Hone.out
    rw [tokF_end (drop_end hkl)] at ho
    have Ho := Lib.hid ho
    clear ho hch
    go_wp2
    refine tok_end (hU4.other (by omega) _) rfl rfl (fun F hF h2 => ?_)
    have h2' : Two W4 F T w.heap.size := ((Two.refl W4 T w.heap.size).set (.inl rfl) _).trans h2
    exact ⟨h2'.grown hgw4 (by omega) (Nat.le_refl _), .inr ⟨_, kp, none, 0, 0, Ho.out, rfl, World.ownsRow_nil _ _ _ _, h2'.rd h hgw4 hr4 (by omega) (Nat.le_refl _)⟩⟩
  have hkl : kp < rs.length := in_of (by rw [hch]; exact hend)
  have hdr := drop_at hkl
  rw [hch] at hdr
  have hne1 : (ch == -1) = false := by simpa using hend
  have Hdr := Lib.hid hdr
  have Hch := Lib.hid hch
  have hval := hr4.rune_in kp hkl
  rw [hch] at hval
  clear hdr hch hend
  by_cases hnm : lowB ch = true ∨ upB ch = true
  · have HN := Lib.hid (name_any W4 hr4)
    have HO : Hid (oneF rs eL eC k = if 24 < (namB ((runesI rs).drop kp)).length then .inl 5 else .inr (⟨kindF ((namB ((runesI rs).drop kp)).flatMap enc) ch, (namB ((runesI rs).drop kp)).flatMap enc, 0, [], L, C⟩, kp + (namB ((runesI rs).drop kp)).length)) := Lib.hid (by rw [Hone.out, Hdr.out, tokF_name hnm])
    have hlb : Hid ((lowB ch || upB ch) = true) := Lib.hid (by simpa using hnm)
    obtain ⟨bl, hbl⟩ : ∃ b, lowB ch = b := ⟨_, rfl⟩
    obtain ⟨bu, hbu⟩ : ∃ b, upB ch = b := ⟨_, rfl⟩
    have HL := Lib.hid (fun w => hbl ▸ low_any ch w)
    have HU := Lib.hid (fun w => hbu ▸ up_any ch w)
    rw [hbl, hbu] at hlb
    obtain ⟨nm, hnmq⟩ : ∃ nm, nameT ((runesI rs).drop kp) = nm := ⟨_, rfl⟩
    obtain ⟨ne, hneq⟩ : ∃ ne, nameE ((runesI rs).drop kp) = ne := ⟨_, rfl⟩
    rw [hnmq, hneq] at HN
    have Hnm := Lib.hid hnmq
    have Hne := Lib.hid hneq
    have hfin : Hid (∀ (W5 F : World), W4.grownBy W5 (some R) → Rd R A c rs eL eC (kp + (namB ((runesI rs).drop kp)).length) W5 → Two W5 F T w.heap.size → TokTells R A c rs eL eC k w (.returned (.tuple #[.agg #[.int .i64 (kindF nm ch), .string ⟨nm.toArray⟩, .int .i64 0, .slice none 0 0, .int .i64 L, .int .i64 C], .int .i64 ne])) F) := Lib.hid (by
      intro W5 F hg5 hr5 h2
      have hgw5 := grown_trans hgw4 hg5
      have o := HO.out
      have e1 := Hnm.out
      have e2 := Hne.out
      unfold nameT at e1
      unfold nameE at e2
      by_cases h24 : 24 < (namB ((runesI rs).drop kp)).length
      · rw [if_pos h24] at o e1 e2
        subst e1 e2
        exact hT1.out 5 _ _ _ _ _ _ _ F (by decide) o (h2.grown hgw5 (by omega) (Nat.le_refl _)) (h2.rd h hgw5 hr5 (by omega) (Nat.le_refl _))
      · rw [if_neg h24] at o e1 e2
        subst e1 e2
        exact ⟨h2.grown hgw5 (by omega) (Nat.le_refl _), .inr ⟨_, _, none, 0, 0, o, rfl, World.ownsRow_nil _ _ _ _, h2.rd h hgw5 hr5 (by omega) (Nat.le_refl _)⟩⟩)
    clear hnm hbl hbu hnmq hneq
    have hkd := Lib.hid (fun w => kind_any ⟨nm.toArray⟩ ch w)
    cases bl
    · cases bu
      · exact absurd hlb.out (by simp)
      · go_wp2_with (first | (go_at_call 146; ((with_reducible refine (HL.out _).mono ?_); rintro e w' ⟨rfl, rfl⟩)) | (go_at_call 147; ((with_reducible refine (HU.out _).mono ?_); rintro e w' ⟨rfl, rfl⟩)))
        refine (HN.out).mono ?_
        rintro e W5 ⟨rfl, hg5, hr5⟩
        have hT5 := hT4.kept hg5 (by simp; omega)
        have hU5 := hU4.kept hg5 (by simp; omega)
        obtain ⟨t0, t1, t2, t3, t4, t5⟩ := hT5.cells
        obtain ⟨u0, u1, u2, u3, u4, u5⟩ := hU5.cells
        have fT := hT5.free
        have fU := hU5.free
        go_wp2_with (go_at_call 149; ((with_reducible refine (hkd.out _).mono ?_); rintro e w' ⟨rfl, rfl⟩))
        refine tok_end ((hU5.other (by omega) _).other (by omega) _) rfl rfl (fun F hF h2 => ?_)
        exact hfin.out W5 F hg5 hr5 ((((Two.refl W5 T w.heap.size).set (.inl rfl) _).set (.inl rfl) _).trans h2)
    · go_wp2_with (first | (go_at_call 146; ((with_reducible refine (HL.out _).mono ?_); rintro e w' ⟨rfl, rfl⟩)) | (go_at_call 147; ((with_reducible refine (HU.out _).mono ?_); rintro e w' ⟨rfl, rfl⟩)))
      refine (HN.out).mono ?_
      rintro e W5 ⟨rfl, hg5, hr5⟩
      have hT5 := hT4.kept hg5 (by simp; omega)
      have hU5 := hU4.kept hg5 (by simp; omega)
      obtain ⟨t0, t1, t2, t3, t4, t5⟩ := hT5.cells
      obtain ⟨u0, u1, u2, u3, u4, u5⟩ := hU5.cells
      have fT := hT5.free
      have fU := hU5.free
      go_wp2_with (go_at_call 149; ((with_reducible refine (hkd.out _).mono ?_); rintro e w' ⟨rfl, rfl⟩))
      refine tok_end ((hU5.other (by omega) _).other (by omega) _) rfl rfl (fun F hF h2 => ?_)
      exact hfin.out W5 F hg5 hr5 ((((Two.refl W5 T w.heap.size).set (.inl rfl) _).set (.inl rfl) _).trans h2)
  obtain ⟨hl0, hu0⟩ : lowB ch = false ∧ upB ch = false := by
    cases e1 : lowB ch <;> cases e2 : upB ch <;> simp_all
  have HL := Lib.hid (fun w => hl0 ▸ low_any ch w)
  have HU := Lib.hid (fun w => hu0 ▸ up_any ch w)
  have Hnm := Lib.hid hnm
  clear hl0 hu0 hnm
  cases hdg : digB ch
  · have HD := Lib.hid (fun w => hdg ▸ dig_any ch w)
    have Hdg := Lib.hid hdg
    clear hdg
    by_cases h34 : ch = 34
    · subst h34
      have hV : Two W4 (W4.setCell ⟨T, 0, none⟩ (.int .i64 4)) T w.heap.size := (Two.refl W4 T w.heap.size).set (.inl rfl) _
      have hrV := hV.rd h hgw4 hr4 (by omega) (Nat.le_refl _)
      have hgV := hV.grown hgw4 (by omega) (Nat.le_refl _)
      have hTV := hT4.set0 (.int .i64 4)
      have hUV : TkAt (W4.setCell ⟨T, 0, none⟩ (.int .i64 4)) w.heap.size _ _ _ _ _ _ := hU4.other (by omega) _
      have HX := Lib.hid (text_any _ hrV Hch.out)
      go_wp2_with (first | (go_at_call 146; ((with_reducible refine (HL.out _).mono ?_); rintro e w' ⟨rfl, rfl⟩)) | (go_at_call 147; ((with_reducible refine (HU.out _).mono ?_); rintro e w' ⟨rfl, rfl⟩)) | (go_at_call 150; ((with_reducible refine (HD.out _).mono ?_); rintro e w' ⟨rfl, rfl⟩)))
      refine (HX.out).mono ?_
      rintro e W5 ⟨hg5, hE⟩
      have hT5 := hTV.kept hg5 (by simp; omega)
      have hU5 := hUV.kept hg5 (by simp; omega)
      have hgw5 := grown_trans hgV hg5
      obtain ⟨t0, t1, t2, t3, t4, t5⟩ := hT5.cells
      obtain ⟨u0, u1, u2, u3, u4, u5⟩ := hU5.cells
      have fT := hT5.free
      have fU := hU5.free
      have hsV : w.heap.size ≤ (W4.setCell ⟨T, 0, none⟩ (.int .i64 4)).heap.size := hgV.size
      rcases hE with ⟨b, k', A', n', c', hb, hb64, rfl, hown, hr5⟩ | ⟨b, k', hb, hb64, rfl, hr5⟩ | ⟨hb, rfl, j, hr5⟩
      · have HO : Hid (oneF rs eL eC k = .inr (⟨4, [], 0, b, L, C⟩, k')) := Lib.hid (by rw [Hone.out, Hdr.out, tokF_text hb, if_neg (by omega)])
        clear hb
        go_wp2
        refine tok_end (hU5.other (by omega) _) rfl rfl (fun F hF h2 => ?_)
        have h2' : Two W5 F T w.heap.size := ((Two.refl W5 T w.heap.size).set (.inl rfl) _).trans h2
        exact ⟨h2'.grown hgw5 (by omega) (Nat.le_refl _), .inr ⟨_, k', A', n', c', HO.out, rfl, h2'.owns (owns_wide hown hsV) (not_own hown hT5 (by decide)) (not_own hown hU5 (by decide)), h2'.rd h hgw5 hr5 (by omega) (Nat.le_refl _)⟩⟩
      · have HO : Hid (oneF rs eL eC k = .inl 5) := Lib.hid (by rw [Hone.out, Hdr.out, tokF_text hb, if_pos hb64])
        clear hb
        go_wp2
        refine tok_end (hU5.other (by omega) _) rfl rfl (fun F hF h2 => ?_)
        have h2' : Two W5 F T w.heap.size := ((Two.refl W5 T w.heap.size).set (.inl rfl) _).trans h2
        exact hT1.out 5 _ _ _ _ _ _ _ F (by decide) HO.out (h2'.grown hgw5 (by omega) (Nat.le_refl _)) (h2'.rd h hgw5 hr5 (by omega) (Nat.le_refl _))
      · have HO : Hid (oneF rs eL eC k = .inl 4) := Lib.hid (by rw [Hone.out, Hdr.out, tokF_text_no hb])
        clear hb
        go_wp2
        refine tok_end (hU5.other (by omega) _) rfl rfl (fun F hF h2 => ?_)
        have h2' : Two W5 F T w.heap.size := ((Two.refl W5 T w.heap.size).set (.inl rfl) _).trans h2
        exact hT1.out 4 _ _ _ _ _ _ _ F (by decide) HO.out (h2'.grown hgw5 (by omega) (Nat.le_refl _)) (h2'.rd h hgw5 hr5 (by omega) (Nat.le_refl _))
    · have hn34 : (ch == 34) = false := by simpa using h34
      have hV : Two W4 (W4.setCell ⟨T, 0, none⟩ (.int .i64 6)) T w.heap.size := (Two.refl W4 T w.heap.size).set (.inl rfl) _
      have hrV := hV.rd h hgw4 hr4 (by omega) (Nat.le_refl _)
      have hgV := hV.grown hgw4 (by omega) (Nat.le_refl _)
      have hTV := hT4.set0 (.int .i64 6)
      have hUV : TkAt (W4.setCell ⟨T, 0, none⟩ (.int .i64 6)) w.heap.size _ _ _ _ _ _ := hU4.other (by omega) _
      have HS := Lib.hid (sign_any _ hrV)
      have HO : Hid (oneF rs eL eC k = if signF ch (runeAt rs (kp + 1)) = [] then .inl 2 else .inr (⟨6, signF ch (runeAt rs (kp + 1)), 0, [], L, C⟩, kp + (signF ch (runeAt rs (kp + 1))).length)) := Lib.hid (by rw [Hone.out, Hdr.out, tokF_sign Hnm.out (by rw [Hdg.out]; decide) h34, headD_at])
      obtain ⟨sg, hsg⟩ : ∃ sg, signF ch (runeAt rs (kp + 1)) = sg := ⟨_, rfl⟩
      have hS' : Hid (Calls Tryz.prog 153 #[.pointer (some ⟨R, 0, none⟩)] (W4.setCell ⟨T, 0, none⟩ (.int .i64 6)) fun e w' => (W4.setCell ⟨T, 0, none⟩ (.int .i64 6)).grownBy w' (some R) ∧ e = .returned (.tuple #[.string ⟨sg.toArray⟩, .int .i64 (if sg = [] then 2 else 0)]) ∧ Rd R A c rs eL eC (kp + sg.length) w') := Lib.hid (by
        refine (HS.out).mono ?_
        intro e w' hh
        unfold SignTells at hh
        rw [Hch.out, hsg] at hh
        exact hh)
      rw [hsg] at HO
      obtain ⟨se, hse⟩ : ∃ se : Int, (if sg = [] then 2 else 0) = se := ⟨_, rfl⟩
      rw [hse] at hS'
      have Hse := Lib.hid hse
      clear hsg hse h34
      go_wp2_with (first | (go_at_call 146; ((with_reducible refine (HL.out _).mono ?_); rintro e w' ⟨rfl, rfl⟩)) | (go_at_call 147; ((with_reducible refine (HU.out _).mono ?_); rintro e w' ⟨rfl, rfl⟩)) | (go_at_call 150; ((with_reducible refine (HD.out _).mono ?_); rintro e w' ⟨rfl, rfl⟩)))
      refine (hS'.out).mono ?_
      rintro e W5 ⟨hg5, rfl, hr5⟩
      have hT5 := hTV.kept hg5 (by simp; omega)
      have hU5 := hUV.kept hg5 (by simp; omega)
      have hgw5 := grown_trans hgV hg5
      obtain ⟨t0, t1, t2, t3, t4, t5⟩ := hT5.cells
      obtain ⟨u0, u1, u2, u3, u4, u5⟩ := hU5.cells
      have fT := hT5.free
      have fU := hU5.free
      go_wp2
      refine tok_end (hU5.other (by omega) _) rfl rfl (fun F hF h2 => ?_)
      have h2' : Two W5 F T w.heap.size := ((Two.refl W5 T w.heap.size).set (.inl rfl) _).trans h2
      have o := HO.out
      have e1 := Hse.out
      by_cases hsn : sg = []
      · rw [if_pos hsn] at o e1
        subst e1
        exact hT1.out 2 _ _ _ _ _ _ _ F (by decide) o (h2'.grown hgw5 (by omega) (Nat.le_refl _)) (h2'.rd h hgw5 hr5 (by omega) (Nat.le_refl _))
      · rw [if_neg hsn] at o e1
        subst e1
        exact ⟨h2'.grown hgw5 (by omega) (Nat.le_refl _), .inr ⟨_, _, none, 0, 0, o, rfl, World.ownsRow_nil _ _ _ _, h2'.rd h hgw5 hr5 (by omega) (Nat.le_refl _)⟩⟩
  · have HD := Lib.hid (fun w => hdg ▸ dig_any ch w)
    have Hdg := Lib.hid hdg
    clear hdg
    have hV : Two W4 (W4.setCell ⟨T, 0, none⟩ (.int .i64 3)) T w.heap.size := (Two.refl W4 T w.heap.size).set (.inl rfl) _
    have hrV := hV.rd h hgw4 hr4 (by omega) (Nat.le_refl _)
    have hgV := hV.grown hgw4 (by omega) (Nat.le_refl _)
    have hTV := hT4.set0 (.int .i64 3)
    have hUV : TkAt (W4.setCell ⟨T, 0, none⟩ (.int .i64 3)) w.heap.size _ _ _ _ _ _ := hU4.other (by omega) _
    have HX := Lib.hid (number_any _ hrV)
    go_wp2_with (first | (go_at_call 146; ((with_reducible refine (HL.out _).mono ?_); rintro e w' ⟨rfl, rfl⟩)) | (go_at_call 147; ((with_reducible refine (HU.out _).mono ?_); rintro e w' ⟨rfl, rfl⟩)) | (go_at_call 150; ((with_reducible refine (HD.out _).mono ?_); rintro e w' ⟨rfl, rfl⟩)))
    refine (HX.out).mono ?_
    rintro e W5 ⟨hg5, hE⟩
    have hT5 := hTV.kept hg5 (by simp; omega)
    have hU5 := hUV.kept hg5 (by simp; omega)
    have hgw5 := grown_trans hgV hg5
    obtain ⟨t0, t1, t2, t3, t4, t5⟩ := hT5.cells
    obtain ⟨u0, u1, u2, u3, u4, u5⟩ := hU5.cells
    have fT := hT5.free
    have fU := hU5.free
    rcases hE with ⟨n, k', hb, rfl, hr5⟩ | ⟨hb, rfl, j, hr5⟩
    · have HO : Hid (oneF rs eL eC k = .inr (⟨3, [], n, [], L, C⟩, k')) := Lib.hid (by rw [Hdr.out] at hb; rw [Hone.out, Hdr.out, tokF_num Hnm.out Hdg.out hb])
      clear hb
      go_wp2
      refine tok_end (hU5.other (by omega) _) rfl rfl (fun F hF h2 => ?_)
      have h2' : Two W5 F T w.heap.size := ((Two.refl W5 T w.heap.size).set (.inl rfl) _).trans h2
      exact ⟨h2'.grown hgw5 (by omega) (Nat.le_refl _), .inr ⟨_, k', none, 0, 0, HO.out, rfl, World.ownsRow_nil _ _ _ _, h2'.rd h hgw5 hr5 (by omega) (Nat.le_refl _)⟩⟩
    · have HO : Hid (oneF rs eL eC k = .inl 3) := Lib.hid (by rw [Hdr.out] at hb; rw [Hone.out, Hdr.out, tokF_num_no Hnm.out Hdg.out hb])
      clear hb
      go_wp2
      refine tok_end (hU5.other (by omega) _) rfl rfl (fun F hF h2 => ?_)
      have h2' : Two W5 F T w.heap.size := ((Two.refl W5 T w.heap.size).set (.inl rfl) _).trans h2
      exact hT1.out 3 _ _ _ _ _ _ _ F (by decide) HO.out (h2'.grown hgw5 (by omega) (Nat.le_refl _)) (h2'.rd h hgw5 hr5 (by omega) (Nat.le_refl _))
end
end Go.Proofs.YtjhnmikciejekaaGreat
