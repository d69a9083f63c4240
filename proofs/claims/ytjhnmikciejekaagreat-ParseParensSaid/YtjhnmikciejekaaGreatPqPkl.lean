/-
  Texts of one proof, in their order. No condition.
-/
import Derived.Test.YtjhnmikciejekaaGreatPqPkk
set_option linter.unusedSectionVars false
set_option linter.unusedSimpArgs false
set_option linter.unusedVariables false
namespace Go.Proofs.YtjhnmikciejekaaGreat.Deep
open Go.RowKit Go.ChangeShapes Go.WideShapes Go.ChangeAt
set_option linter.unusedVariables false
set_option linter.unusedSimpArgs false
def zeroP : PV := .agg [.sl [], .sl [], .con (.int .i64 0), .con (.int .i64 0), .con (.int .i64 0), .con (.string e0), .sl [], .con (.int .i64 0), .con (.int .i64 0), .con (.int .i64 0), .con (.int .i64 0), .con (.int .i64 0), .sl [], .con (.string e0), .sl [], .sl [], .sl []]
theorem rep_zeroP {G : Nat → Nat} {m : Nat → Pl} {w : World} {n : Nat} : Rep G m w n (.agg #[.slice none 0 0, .slice none 0 0, .int .i64 0, .int .i64 0, .int .i64 0, .string ⟨#[]⟩, .slice none 0 0, .int .i64 0, .int .i64 0, .int .i64 0, .int .i64 0, .int .i64 0, .slice none 0 0, .string ⟨#[]⟩, .slice none 0 0, .slice none 0 0, .slice none 0 0]) zeroP :=
  .agg n [.slice none 0 0, .slice none 0 0, .int .i64 0, .int .i64 0, .int .i64 0, .string ⟨#[]⟩, .slice none 0 0, .int .i64 0, .int .i64 0, .int .i64 0, .int .i64 0, .int .i64 0, .slice none 0 0, .string ⟨#[]⟩, .slice none 0 0, .slice none 0 0, .slice none 0 0] [.sl [], .sl [], .con (.int .i64 0), .con (.int .i64 0), .con (.int .i64 0), .con (.string e0), .sl [], .con (.int .i64 0), .con (.int .i64 0), .con (.int .i64 0), .con (.int .i64 0), .con (.int .i64 0), .sl [], .con (.string e0), .sl [], .sl [], .sl []] rfl (fun i hi => by
    match i, hi with
    | 0, _ => exact rep_nil _
    | 1, _ => exact rep_nil _
    | 2, _ => exact .con _ _
    | 3, _ => exact .con _ _
    | 4, _ => exact .con _ _
    | 5, _ => exact .con _ _
    | 6, _ => exact rep_nil _
    | 7, _ => exact .con _ _
    | 8, _ => exact .con _ _
    | 9, _ => exact .con _ _
    | 10, _ => exact .con _ _
    | 11, _ => exact .con _ _
    | 12, _ => exact rep_nil _
    | 13, _ => exact .con _ _
    | 14, _ => exact rep_nil _
    | 15, _ => exact rep_nil _
    | 16, _ => exact rep_nil _
    | k + 17, h => exact absurd h (Nat.not_lt.2 (Nat.le_add_left 17 k)))
theorem rep_P_out {G : Nat → Nat} {m : Nat → Pl} {w : World} {n : Nat} {v : Value} {t : Pr} (h : Rep G m w n v (.agg (prP t))) : ∃ (p0 : Option Addr) (l0 c0 : Nat) (p1 : Option Addr) (l1 c1 : Nat) (i2 : Int) (i3 : Int) (i4 : Int) (i5 : ByteArray) (p6 : Option Addr) (l6 c6 : Nat) (i7 : Int) (i8 : Int) (i9 : Int) (i10 : Int) (i11 : Int) (p12 : Option Addr) (l12 c12 : Nat) (i13 : ByteArray) (p14 : Option Addr) (l14 c14 : Nat) (p15 : Option Addr) (l15 c15 : Nat) (p16 : Option Addr) (l16 c16 : Nat), v = .agg #[.slice p0 l0 c0, .slice p1 l1 c1, .int .i64 i2, .int .i64 i3, .int .i64 i4, .string i5, .slice p6 l6 c6, .int .i64 i7, .int .i64 i8, .int .i64 i9, .int .i64 i10, .int .i64 i11, .slice p12 l12 c12, .string i13, .slice p14 l14 c14, .slice p15 l15 c15, .slice p16 l16 c16] := by
  obtain ⟨ds, fs, qn, tn, ⟨k0, n0, ks⟩, cap, ⟨k1, li1, co1, m1, y1, nm1, ks1, ps1, bs1⟩, hs⟩ := t
  obtain ⟨vs, rfl, hl, hr⟩ := rep_agg_out h
  match vs, hl with
  | [v0, v1, v2, v3, v4, v5, v6, v7, v8, v9, v10, v11, v12, v13, v14, v15, v16], _ =>
      obtain ⟨p0, l0, c0, q0⟩ := rep_sl_out (hr 0 (by simp [prP, tyP, exP]))
      obtain ⟨p1, l1, c1, q1⟩ := rep_sl_out (hr 1 (by simp [prP, tyP, exP]))
      have q2 := (hr 2 (by simp [prP, tyP, exP])).con_eq
      have q3 := (hr 3 (by simp [prP, tyP, exP])).con_eq
      have q4 := (hr 4 (by simp [prP, tyP, exP])).con_eq
      have q5 := (hr 5 (by simp [prP, tyP, exP])).con_eq
      obtain ⟨p6, l6, c6, q6⟩ := rep_sl_out (hr 6 (by simp [prP, tyP, exP]))
      have q7 := (hr 7 (by simp [prP, tyP, exP])).con_eq
      have q8 := (hr 8 (by simp [prP, tyP, exP])).con_eq
      have q9 := (hr 9 (by simp [prP, tyP, exP])).con_eq
      have q10 := (hr 10 (by simp [prP, tyP, exP])).con_eq
      have q11 := (hr 11 (by simp [prP, tyP, exP])).con_eq
      obtain ⟨p12, l12, c12, q12⟩ := rep_sl_out (hr 12 (by simp [prP, tyP, exP]))
      have q13 := (hr 13 (by simp [prP, tyP, exP])).con_eq
      obtain ⟨p14, l14, c14, q14⟩ := rep_sl_out (hr 14 (by simp [prP, tyP, exP]))
      obtain ⟨p15, l15, c15, q15⟩ := rep_sl_out (hr 15 (by simp [prP, tyP, exP]))
      obtain ⟨p16, l16, c16, q16⟩ := rep_sl_out (hr 16 (by simp [prP, tyP, exP]))
      simp at q0 q1 q2 q3 q4 q5 q6 q7 q8 q9 q10 q11 q12 q13 q14 q15 q16
      subst q0 q1 q2 q3 q4 q5 q6 q7 q8 q9 q10 q11 q12 q13 q14 q15 q16
      exact ⟨_, _, _, _, _, _, _, _, _, _, _, _, _, _, _, _, _, _, _, _, _, _, _, _, _, _, _, _, _, _, _, rfl⟩
def faceP (s : ByteArray) : PV := faceR (fun v => .agg (prP v)) zeroP (faceS (fun z l b => pG z (l.length + 1) l b) s)
theorem door_idle_P {A B : Nat} {tmps : Array Value} {R : Ending → World → Prop} {W : World} {x0 x1 x2 x3 x4 x5 x6 x7 x8 x9 x10 x11 x12 x13 x14 x15 x16 y0 y1 y2 : Value} (hA : W.heap[A]? = some (.cells #[x0, x1, x2, x3, x4, x5, x6, x7, x8, x9, x10, x11, x12, x13, x14, x15, x16] 37 (0, 0))) (hB : W.heap[B]? = some (.cells #[y0, y1, y2] 40 (0, 0)))
    (t4 : tmps[4]?.getD undef = .pointer (some ⟨A, 0, none⟩)) (t5 : tmps[5]?.getD undef = .pointer (some ⟨B, 0, none⟩)) (hR : R (.returned (.tuple #[.agg #[x0, x1, x2, x3, x4, x5, x6, x7, x8, x9, x10, x11, x12, x13, x14, x15, x16], .agg #[y0, y1, y2]])) W) :
    Leaves Tryz.prog Tryz.f25 tmps R [{ target := .fn (.func 55) #[.pointer (some ⟨A, 0, none⟩), .pointer (some ⟨B, 0, none⟩)], args := #[] }] .returning W := by
  refine leaves_cons (f := 55) (args := #[.pointer (some ⟨A, 0, none⟩), .pointer (some ⟨B, 0, none⟩)]) (by simp) (by simp [go_sem]) ?_
  refine (idle_P _ _ _).mono ?_
  rintro e u' w'' ⟨rfl, rfl, rfl⟩
  refine ⟨_, ?_, hR⟩
  have a0 : w''.cell? ⟨A, 0, none⟩ = some (x0) := cell_of_row _ A 0 _ _ (0, 0) hA
  have a1 : w''.cell? ⟨A, 1, none⟩ = some (x1) := cell_of_row _ A 1 _ _ (0, 0) hA
  have a2 : w''.cell? ⟨A, 2, none⟩ = some (x2) := cell_of_row _ A 2 _ _ (0, 0) hA
  have a3 : w''.cell? ⟨A, 3, none⟩ = some (x3) := cell_of_row _ A 3 _ _ (0, 0) hA
  have a4 : w''.cell? ⟨A, 4, none⟩ = some (x4) := cell_of_row _ A 4 _ _ (0, 0) hA
  have a5 : w''.cell? ⟨A, 5, none⟩ = some (x5) := cell_of_row _ A 5 _ _ (0, 0) hA
  have a6 : w''.cell? ⟨A, 6, none⟩ = some (x6) := cell_of_row _ A 6 _ _ (0, 0) hA
  have a7 : w''.cell? ⟨A, 7, none⟩ = some (x7) := cell_of_row _ A 7 _ _ (0, 0) hA
  have a8 : w''.cell? ⟨A, 8, none⟩ = some (x8) := cell_of_row _ A 8 _ _ (0, 0) hA
  have a9 : w''.cell? ⟨A, 9, none⟩ = some (x9) := cell_of_row _ A 9 _ _ (0, 0) hA
  have a10 : w''.cell? ⟨A, 10, none⟩ = some (x10) := cell_of_row _ A 10 _ _ (0, 0) hA
  have a11 : w''.cell? ⟨A, 11, none⟩ = some (x11) := cell_of_row _ A 11 _ _ (0, 0) hA
  have a12 : w''.cell? ⟨A, 12, none⟩ = some (x12) := cell_of_row _ A 12 _ _ (0, 0) hA
  have a13 : w''.cell? ⟨A, 13, none⟩ = some (x13) := cell_of_row _ A 13 _ _ (0, 0) hA
  have a14 : w''.cell? ⟨A, 14, none⟩ = some (x14) := cell_of_row _ A 14 _ _ (0, 0) hA
  have a15 : w''.cell? ⟨A, 15, none⟩ = some (x15) := cell_of_row _ A 15 _ _ (0, 0) hA
  have a16 : w''.cell? ⟨A, 16, none⟩ = some (x16) := cell_of_row _ A 16 _ _ (0, 0) hA
  have b0 : w''.cell? ⟨B, 0, none⟩ = some (y0) := cell_of_row _ B 0 _ _ (0, 0) hB
  have b1 : w''.cell? ⟨B, 1, none⟩ = some (y1) := cell_of_row _ B 1 _ _ (0, 0) hB
  have b2 : w''.cell? ⟨B, 2, none⟩ = some (y2) := cell_of_row _ B 2 _ _ (0, 0) hB
  simp [results, Tryz.results25, go_sem, t4, t5, a0, a1, a2, a3, a4, a5, a6, a7, a8, a9, a10, a11, a12, a13, a14, a15, a16, b0, b1, b2]
theorem door_catch_P {A B : Nat} {tmps : Array Value} {R : Ending → World → Prop} {W : World} {x0 x1 x2 x3 x4 x5 x6 x7 x8 x9 x10 x11 x12 x13 x14 x15 x16 y0 y1 y2 : Value} {ft : Flt} (hA : W.heap[A]? = some (.cells #[x0, x1, x2, x3, x4, x5, x6, x7, x8, x9, x10, x11, x12, x13, x14, x15, x16] 37 (0, 0))) (hB : W.heap[B]? = some (.cells #[y0, y1, y2] 40 (0, 0))) (hAB : A ≠ B)
    (t4 : tmps[4]?.getD undef = .pointer (some ⟨A, 0, none⟩)) (t5 : tmps[5]?.getD undef = .pointer (some ⟨B, 0, none⟩)) (hR : ∀ W', Caught W W' A B 37 #[.slice none 0 0, .slice none 0 0, .int .i64 0, .int .i64 0, .int .i64 0, .string ⟨#[]⟩, .slice none 0 0, .int .i64 0, .int .i64 0, .int .i64 0, .int .i64 0, .int .i64 0, .slice none 0 0, .string ⟨#[]⟩, .slice none 0 0, .slice none 0 0, .slice none 0 0] ft.e ft.li ft.co → R (.returned (.tuple #[.agg #[.slice none 0 0, .slice none 0 0, .int .i64 0, .int .i64 0, .int .i64 0, .string ⟨#[]⟩, .slice none 0 0, .int .i64 0, .int .i64 0, .int .i64 0, .int .i64 0, .int .i64 0, .slice none 0 0, .string ⟨#[]⟩, .slice none 0 0, .slice none 0 0, .slice none 0 0], .agg #[.int .i64 ft.e, .int .i64 ft.li, .int .i64 ft.co]])) W') :
    Leaves Tryz.prog Tryz.f25 tmps R [{ target := .fn (.func 55) #[.pointer (some ⟨A, 0, none⟩), .pointer (some ⟨B, 0, none⟩)], args := #[] }] (.panicking [{ v := fltV ft, recovered := false }]) W := by
  refine leaves_cons (f := 55) (args := #[.pointer (some ⟨A, 0, none⟩), .pointer (some ⟨B, 0, none⟩)]) (by simp) (by simp [go_sem]) ?_
  refine (catch_P A B x0 x1 x2 x3 x4 x5 x6 x7 x8 x9 x10 x11 x12 x13 x14 x15 x16 y0 y1 y2 ft.e ft.li ft.co W hA hB hAB).mono ?_
  rintro e u' w'' ⟨rfl, rfl, hc⟩
  refine ⟨_, ?_, hR w'' hc⟩
  have hA := hc.first
  have hB := hc.second
  have a0 : w''.cell? ⟨A, 0, none⟩ = some (.slice none 0 0) := cell_of_row _ A 0 _ _ (0, 0) hA
  have a1 : w''.cell? ⟨A, 1, none⟩ = some (.slice none 0 0) := cell_of_row _ A 1 _ _ (0, 0) hA
  have a2 : w''.cell? ⟨A, 2, none⟩ = some (.int .i64 0) := cell_of_row _ A 2 _ _ (0, 0) hA
  have a3 : w''.cell? ⟨A, 3, none⟩ = some (.int .i64 0) := cell_of_row _ A 3 _ _ (0, 0) hA
  have a4 : w''.cell? ⟨A, 4, none⟩ = some (.int .i64 0) := cell_of_row _ A 4 _ _ (0, 0) hA
  have a5 : w''.cell? ⟨A, 5, none⟩ = some (.string ⟨#[]⟩) := cell_of_row _ A 5 _ _ (0, 0) hA
  have a6 : w''.cell? ⟨A, 6, none⟩ = some (.slice none 0 0) := cell_of_row _ A 6 _ _ (0, 0) hA
  have a7 : w''.cell? ⟨A, 7, none⟩ = some (.int .i64 0) := cell_of_row _ A 7 _ _ (0, 0) hA
  have a8 : w''.cell? ⟨A, 8, none⟩ = some (.int .i64 0) := cell_of_row _ A 8 _ _ (0, 0) hA
  have a9 : w''.cell? ⟨A, 9, none⟩ = some (.int .i64 0) := cell_of_row _ A 9 _ _ (0, 0) hA
  have a10 : w''.cell? ⟨A, 10, none⟩ = some (.int .i64 0) := cell_of_row _ A 10 _ _ (0, 0) hA
  have a11 : w''.cell? ⟨A, 11, none⟩ = some (.int .i64 0) := cell_of_row _ A 11 _ _ (0, 0) hA
  have a12 : w''.cell? ⟨A, 12, none⟩ = some (.slice none 0 0) := cell_of_row _ A 12 _ _ (0, 0) hA
  have a13 : w''.cell? ⟨A, 13, none⟩ = some (.string ⟨#[]⟩) := cell_of_row _ A 13 _ _ (0, 0) hA
  have a14 : w''.cell? ⟨A, 14, none⟩ = some (.slice none 0 0) := cell_of_row _ A 14 _ _ (0, 0) hA
  have a15 : w''.cell? ⟨A, 15, none⟩ = some (.slice none 0 0) := cell_of_row _ A 15 _ _ (0, 0) hA
  have a16 : w''.cell? ⟨A, 16, none⟩ = some (.slice none 0 0) := cell_of_row _ A 16 _ _ (0, 0) hA
  have b0 : w''.cell? ⟨B, 0, none⟩ = some (.int .i64 ft.e) := cell_of_row _ B 0 _ _ (0, 0) hB
  have b1 : w''.cell? ⟨B, 1, none⟩ = some (.int .i64 ft.li) := cell_of_row _ B 1 _ _ (0, 0) hB
  have b2 : w''.cell? ⟨B, 2, none⟩ = some (.int .i64 ft.co) := cell_of_row _ B 2 _ _ (0, 0) hB
  simp [results, Tryz.results25, go_sem, t4, t5, a0, a1, a2, a3, a4, a5, a6, a7, a8, a9, a10, a11, a12, a13, a14, a15, a16, b0, b1, b2]
set_option maxRecDepth 100000 in
set_option maxHeartbeats 4000000 in
theorem read_P_no (s : ByteArray) (hs : s.size ≤ 9223372036854775807) (f0 : Flt) (h0 : lexK s = .error f0) : ACalls Tryz.prog 25 [.con (.string s), .fn 26 []] [] fun r h' => h' = [] ∧ r = faceP s := by
  intro G m w vs hS ha
  obtain rfl : vs = #[.string s, .func (.func 26) #[] #[]] := by
    obtain ⟨h1, h2⟩ := ha
    have h3 := (h2 0 (by simp)).con_eq
    have h4 := h2 1 (by simp)
    have e2 : vs.getD 1 undef = .func (.func 26) #[] #[] := by
      generalize vs.getD 1 undef = v at h4
      cases h4 with
      | fn n f us cs hl hr => cases us with | nil => rfl | cons a t => simp at hl
    have hsz : vs.size = 2 := by simpa using h1
    apply Array.ext
    · simpa using hsz
    · intro i hi _
      simp only [Array.getD_eq_getD_getElem?] at h3 e2
      rw [Array.getElem?_eq_getElem (by omega)] at h3 e2
      have : i = 0 ∨ i = 1 := by omega
      rcases this with rfl | rfl
      · simpa using h3
      · simpa using e2
  have hmf : ∀ (fn : Fn) (first cap : Array Value) (w : World), (Instr.makeFunc fn first cap).run Tryz.prog w = .ok (.func fn first cap) w := fun _ _ _ _ => rfl
  have HS0 := Lib.hid hS
  have HL : Hid (∀ W, Below w.heap.size w W → Calls Tryz.prog 56 #[.string s] W fun e w' => ∃ v r G' m', e = .returned v ∧ LexQ s r ∧ Rep G' m' w' 0 v r ∧ HS Tryz.prog G' m' w' [] ∧ Goes G m W [] G' m' w' []) := Lib.hid (fun W hb => by
    refine (lex_c s hs G m W #[.string s] (hS.later hb).1 ⟨rfl, fun i hi => ?_⟩).mono ?_
    · match i, hi with
      | 0, _ => exact .con _ _
    · rintro e w' ⟨v, r, h', G', m', rfl, ⟨rfl, hq⟩, hr, hs', hg⟩
      exact ⟨v, r, G', m', rfl, hq, hr, hs', hg⟩)
  clear hS ha
  go_enter_defers Tryz.func25, Tryz.ntmps25
  go_wp2_with fail
  have hb2 : Below w.heap.size w ((w.alloc (.cells #[.slice none 0 0, .slice none 0 0, .int .i64 0, .int .i64 0, .int .i64 0, .string ⟨#[]⟩, .slice none 0 0, .int .i64 0, .int .i64 0, .int .i64 0, .int .i64 0, .int .i64 0, .slice none 0 0, .string ⟨#[]⟩, .slice none 0 0, .slice none 0 0, .slice none 0 0] 37)).alloc (.cells #[.int .i64 0, .int .i64 0, .int .i64 0] 40)) := ((Below.refl _ _).alloc (Nat.le_refl _) _).alloc (by simp) _
  refine (HL.out _ hb2).mono ?_
  rintro e w3 ⟨v, r, G3, m3, rfl, hq, hrep, hs3, hg3⟩
  have hA2 : ((w.alloc (.cells #[.slice none 0 0, .slice none 0 0, .int .i64 0, .int .i64 0, .int .i64 0, .string ⟨#[]⟩, .slice none 0 0, .int .i64 0, .int .i64 0, .int .i64 0, .int .i64 0, .int .i64 0, .slice none 0 0, .string ⟨#[]⟩, .slice none 0 0, .slice none 0 0, .slice none 0 0] 37)).alloc (.cells #[.int .i64 0, .int .i64 0, .int .i64 0] 40)).heap[w.heap.size]? = some (.cells #[.slice none 0 0, .slice none 0 0, .int .i64 0, .int .i64 0, .int .i64 0, .string ⟨#[]⟩, .slice none 0 0, .int .i64 0, .int .i64 0, .int .i64 0, .int .i64 0, .int .i64 0, .slice none 0 0, .string ⟨#[]⟩, .slice none 0 0, .slice none 0 0, .slice none 0 0] 37 (0, 0)) := (Below.heap_alloc _ _ _ (by simp)).trans (heap_alloc_new w _)
  have hB2 : ((w.alloc (.cells #[.slice none 0 0, .slice none 0 0, .int .i64 0, .int .i64 0, .int .i64 0, .string ⟨#[]⟩, .slice none 0 0, .int .i64 0, .int .i64 0, .int .i64 0, .int .i64 0, .int .i64 0, .slice none 0 0, .string ⟨#[]⟩, .slice none 0 0, .slice none 0 0, .slice none 0 0] 37)).alloc (.cells #[.int .i64 0, .int .i64 0, .int .i64 0] 40)).heap[w.heap.size + 1]? = some (.cells #[.int .i64 0, .int .i64 0, .int .i64 0] 40 (0, 0)) := by
    have := heap_alloc_new (w.alloc (.cells #[.slice none 0 0, .slice none 0 0, .int .i64 0, .int .i64 0, .int .i64 0, .string ⟨#[]⟩, .slice none 0 0, .int .i64 0, .int .i64 0, .int .i64 0, .int .i64 0, .int .i64 0, .slice none 0 0, .string ⟨#[]⟩, .slice none 0 0, .slice none 0 0, .slice none 0 0] 37)) (.cells #[.int .i64 0, .int .i64 0, .int .i64 0] 40)
    rwa [World.size_alloc] at this
  have hz2 : ((w.alloc (.cells #[.slice none 0 0, .slice none 0 0, .int .i64 0, .int .i64 0, .int .i64 0, .string ⟨#[]⟩, .slice none 0 0, .int .i64 0, .int .i64 0, .int .i64 0, .int .i64 0, .int .i64 0, .slice none 0 0, .string ⟨#[]⟩, .slice none 0 0, .slice none 0 0, .slice none 0 0] 37)).alloc (.cells #[.int .i64 0, .int .i64 0, .int .i64 0] 40)).heap.size = w.heap.size + 2 := by simp
  generalize ((w.alloc (.cells #[.slice none 0 0, .slice none 0 0, .int .i64 0, .int .i64 0, .int .i64 0, .string ⟨#[]⟩, .slice none 0 0, .int .i64 0, .int .i64 0, .int .i64 0, .int .i64 0, .int .i64 0, .slice none 0 0, .string ⟨#[]⟩, .slice none 0 0, .slice none 0 0, .slice none 0 0] 37)).alloc (.cells #[.int .i64 0, .int .i64 0, .int .i64 0] 40)) = w2 at *
  have hb3 := hg3.below
  have hw3 : Below w.heap.size w w3 := hb2.trans (hb3.mono (by omega))
  have hA3 := (hb3.block w.heap.size (by omega)).trans hA2
  have hB3 := (hb3.block (w.heap.size + 1) (by omega)).trans hB2
  have hGA : G3 w.heap.size = 0 := by
    rw [(hg3.rest w.heap.size (by omega) (fun b hb => absurd hb (Nat.not_lt_zero _))).2]
    apply Classical.byContradiction
    intro hn
    exact absurd (HS0.out.old _ hn) (Nat.lt_irrefl _)
  have hGB : G3 (w.heap.size + 1) = 0 := by
    rw [(hg3.rest (w.heap.size + 1) (by omega) (fun b hb => absurd hb (Nat.not_lt_zero _))).2]
    apply Classical.byContradiction
    intro hn
    have := HS0.out.old _ hn
    omega
  have hGk : ∀ k, k < w.heap.size → G3 k = G k := fun k hk => (hg3.rest k (by omega) (fun b hb => absurd hb (Nat.not_lt_zero _))).2
  have hz3 := hb3.size
  rcases lexQ_out hq with ⟨ft, hk, hne, rfl⟩ | ⟨l, z, hk, hz, hn, rfl⟩
  · obtain ⟨a, b, rfl, ra, rb⟩ := rep_two_out hrep
    obtain rfl := rep_flt_out rb
    obtain ⟨p, q, c, rfl⟩ := rep_sl_out ra
    have HSw := Lib.hid hs3
    have HG := Lib.hid hg3
    have HW := Lib.hid hw3
    have HA := Lib.hid hA3
    have HB := Lib.hid hB3
    have qe : (ft.e != 0) = true := by simpa using hne
    have a0 : w3.cell? ⟨w.heap.size, 0, none⟩ = some (.slice none 0 0) := cell_of_row _ _ 0 _ _ (0, 0) hA3
    have a1 : w3.cell? ⟨w.heap.size, 1, none⟩ = some (.slice none 0 0) := cell_of_row _ _ 1 _ _ (0, 0) hA3
    have a2 : w3.cell? ⟨w.heap.size, 2, none⟩ = some (.int .i64 0) := cell_of_row _ _ 2 _ _ (0, 0) hA3
    have a3 : w3.cell? ⟨w.heap.size, 3, none⟩ = some (.int .i64 0) := cell_of_row _ _ 3 _ _ (0, 0) hA3
    have a4 : w3.cell? ⟨w.heap.size, 4, none⟩ = some (.int .i64 0) := cell_of_row _ _ 4 _ _ (0, 0) hA3
    have a5 : w3.cell? ⟨w.heap.size, 5, none⟩ = some (.string ⟨#[]⟩) := cell_of_row _ _ 5 _ _ (0, 0) hA3
    have a6 : w3.cell? ⟨w.heap.size, 6, none⟩ = some (.slice none 0 0) := cell_of_row _ _ 6 _ _ (0, 0) hA3
    have a7 : w3.cell? ⟨w.heap.size, 7, none⟩ = some (.int .i64 0) := cell_of_row _ _ 7 _ _ (0, 0) hA3
    have a8 : w3.cell? ⟨w.heap.size, 8, none⟩ = some (.int .i64 0) := cell_of_row _ _ 8 _ _ (0, 0) hA3
    have a9 : w3.cell? ⟨w.heap.size, 9, none⟩ = some (.int .i64 0) := cell_of_row _ _ 9 _ _ (0, 0) hA3
    have a10 : w3.cell? ⟨w.heap.size, 10, none⟩ = some (.int .i64 0) := cell_of_row _ _ 10 _ _ (0, 0) hA3
    have a11 : w3.cell? ⟨w.heap.size, 11, none⟩ = some (.int .i64 0) := cell_of_row _ _ 11 _ _ (0, 0) hA3
    have a12 : w3.cell? ⟨w.heap.size, 12, none⟩ = some (.slice none 0 0) := cell_of_row _ _ 12 _ _ (0, 0) hA3
    have a13 : w3.cell? ⟨w.heap.size, 13, none⟩ = some (.string ⟨#[]⟩) := cell_of_row _ _ 13 _ _ (0, 0) hA3
    have a14 : w3.cell? ⟨w.heap.size, 14, none⟩ = some (.slice none 0 0) := cell_of_row _ _ 14 _ _ (0, 0) hA3
    have a15 : w3.cell? ⟨w.heap.size, 15, none⟩ = some (.slice none 0 0) := cell_of_row _ _ 15 _ _ (0, 0) hA3
    have a16 : w3.cell? ⟨w.heap.size, 16, none⟩ = some (.slice none 0 0) := cell_of_row _ _ 16 _ _ (0, 0) hA3
    have b0 : w3.cell? ⟨w.heap.size + 1, 0, none⟩ = some (.int .i64 0) := cell_of_row _ _ 0 _ _ (0, 0) hB3
    have b1 : w3.cell? ⟨w.heap.size + 1, 1, none⟩ = some (.int .i64 0) := cell_of_row _ _ 1 _ _ (0, 0) hB3
    have b2 : w3.cell? ⟨w.heap.size + 1, 2, none⟩ = some (.int .i64 0) := cell_of_row _ _ 2 _ _ (0, 0) hB3
    have fa : ∀ i, w3.frozen? ⟨w.heap.size, i, none⟩ = false := fun i => by simp [World.frozen?, hA3]
    have fb : ∀ i, w3.frozen? ⟨w.heap.size + 1, i, none⟩ = false := fun i => by simp [World.frozen?, hB3]
    clear hA2 hB2 hA3 hB3 hg3 hw3 hs3 hb2 hb3 hrep ra rb hq
    go_wp2
    go_region
    go_wp2
    refine at_rows (rows_bab (w := w3) HA.out HB.out (by omega) [.slice none 0 0, .slice none 0 0, .int .i64 0, .int .i64 0, .int .i64 0, .string ⟨#[]⟩, .slice none 0 0, .int .i64 0, .int .i64 0, .int .i64 0, .int .i64 0, .int .i64 0, .slice none 0 0, .string ⟨#[]⟩, .slice none 0 0, .slice none 0 0, .slice none 0 0] [.int .i64 ft.e, .int .i64 ft.li, .int .i64 ft.co] rfl rfl) (fun W9 r9 => ?_)
    refine door_idle_P (A := w.heap.size) (B := w.heap.size + 1) (x0 := .slice none 0 0) (x1 := .slice none 0 0) (x2 := .int .i64 0) (x3 := .int .i64 0) (x4 := .int .i64 0) (x5 := .string ⟨#[]⟩) (x6 := .slice none 0 0) (x7 := .int .i64 0) (x8 := .int .i64 0) (x9 := .int .i64 0) (x10 := .int .i64 0) (x11 := .int .i64 0) (x12 := .slice none 0 0) (x13 := .string ⟨#[]⟩) (x14 := .slice none 0 0) (x15 := .slice none 0 0) (x16 := .slice none 0 0) (y0 := .int .i64 ft.e) (y1 := .int .i64 ft.li) (y2 := .int .i64 ft.co) r9.first r9.second rfl rfl ?_
    exact face_fin (m' := m) HS0.out (r9.below HW.out (Nat.le_refl _) (by omega)) hGk (fun g hg => by rw [r9.size]; exact HSw.out.old g hg) (rep_two rep_zeroP (rep_three _ _ _)) (by simp only [faceP, faceS, hk, faceR, fltP])
  · rw [h0] at hk; cases hk
end Go.Proofs.YtjhnmikciejekaaGreat.Deep
