/-
  Texts of one proof, in their order. No condition.
-/
import Derived.Test.YtjhnmikciejekaaGreatPqPkh
set_option linter.unusedSectionVars false
set_option linter.unusedSimpArgs false
set_option linter.unusedVariables false
namespace Go.Proofs.YtjhnmikciejekaaGreat.Deep
open Go.RowKit Go.ChangeShapes Go.WideShapes Go.ChangeAt
set_option linter.unusedVariables false
set_option linter.unusedSimpArgs false
def zeroE : PV := .agg [.con (.int .i64 0), .con (.int .i64 0), .con (.int .i64 0), .con (.int .i64 0), .sl [], .con (.string e0), .sl [], .sl []]
theorem rep_zeroE {G : Nat → Nat} {m : Nat → Pl} {w : World} {n : Nat} : Rep G m w n (.agg #[.int .i64 0, .int .i64 0, .int .i64 0, .int .i64 0, .slice none 0 0, .string ⟨#[]⟩, .slice none 0 0, .slice none 0 0]) zeroE :=
  .agg n [.int .i64 0, .int .i64 0, .int .i64 0, .int .i64 0, .slice none 0 0, .string ⟨#[]⟩, .slice none 0 0, .slice none 0 0] [.con (.int .i64 0), .con (.int .i64 0), .con (.int .i64 0), .con (.int .i64 0), .sl [], .con (.string e0), .sl [], .sl []] rfl (fun i hi => by
    match i, hi with
    | 0, _ => exact .con _ _
    | 1, _ => exact .con _ _
    | 2, _ => exact .con _ _
    | 3, _ => exact .con _ _
    | 4, _ => exact rep_nil _
    | 5, _ => exact .con _ _
    | 6, _ => exact rep_nil _
    | 7, _ => exact rep_nil _)
theorem rep_E_out {G : Nat → Nat} {m : Nat → Pl} {w : World} {n : Nat} {v : Value} {t : Ex} (h : Rep G m w n v (.agg (exP t))) : ∃ (i0 : Int) (i1 : Int) (i2 : Int) (i3 : Int) (p4 : Option Addr) (l4 c4 : Nat) (i5 : ByteArray) (p6 : Option Addr) (l6 c6 : Nat) (p7 : Option Addr) (l7 c7 : Nat), v = .agg #[.int .i64 i0, .int .i64 i1, .int .i64 i2, .int .i64 i3, .slice p4 l4 c4, .string i5, .slice p6 l6 c6, .slice p7 l7 c7] := by
  cases t
  obtain ⟨vs, rfl, hl, hr⟩ := rep_agg_out h
  match vs, hl with
  | [v0, v1, v2, v3, v4, v5, v6, v7], _ =>
      have q0 := (hr 0 (by simp [exP])).con_eq
      have q1 := (hr 1 (by simp [exP])).con_eq
      have q2 := (hr 2 (by simp [exP])).con_eq
      have q3 := (hr 3 (by simp [exP])).con_eq
      obtain ⟨p4, l4, c4, q4⟩ := rep_sl_out (hr 4 (by simp [exP]))
      have q5 := (hr 5 (by simp [exP])).con_eq
      obtain ⟨p6, l6, c6, q6⟩ := rep_sl_out (hr 6 (by simp [exP]))
      obtain ⟨p7, l7, c7, q7⟩ := rep_sl_out (hr 7 (by simp [exP]))
      simp at q0 q1 q2 q3 q4 q5 q6 q7
      subst q0 q1 q2 q3 q4 q5 q6 q7
      exact ⟨_, _, _, _, _, _, _, _, _, _, _, _, _, _, rfl⟩
def faceE (s : ByteArray) : PV := faceR (fun v => .agg (exP v)) zeroE (faceS (fun z l b => pE z (l.length + 1) l b) s)
theorem door_idle_E {A B : Nat} {tmps : Array Value} {R : Ending → World → Prop} {W : World} {x0 x1 x2 x3 x4 x5 x6 x7 y0 y1 y2 : Value} (hA : W.heap[A]? = some (.cells #[x0, x1, x2, x3, x4, x5, x6, x7] 34 (0, 0))) (hB : W.heap[B]? = some (.cells #[y0, y1, y2] 40 (0, 0)))
    (t4 : tmps[4]?.getD undef = .pointer (some ⟨A, 0, none⟩)) (t5 : tmps[5]?.getD undef = .pointer (some ⟨B, 0, none⟩)) (hR : R (.returned (.tuple #[.agg #[x0, x1, x2, x3, x4, x5, x6, x7], .agg #[y0, y1, y2]])) W) :
    Leaves Tryz.prog Tryz.f31 tmps R [{ target := .fn (.func 70) #[.pointer (some ⟨A, 0, none⟩), .pointer (some ⟨B, 0, none⟩)], args := #[] }] .returning W := by
  refine leaves_cons (f := 70) (args := #[.pointer (some ⟨A, 0, none⟩), .pointer (some ⟨B, 0, none⟩)]) (by simp) (by simp [go_sem]) ?_
  refine (idle_E _ _ _).mono ?_
  rintro e u' w'' ⟨rfl, rfl, rfl⟩
  refine ⟨_, ?_, hR⟩
  have a0 : w''.cell? ⟨A, 0, none⟩ = some (x0) := cell_of_row _ A 0 _ _ (0, 0) hA
  have a1 : w''.cell? ⟨A, 1, none⟩ = some (x1) := cell_of_row _ A 1 _ _ (0, 0) hA
  have a2 : w''.cell? ⟨A, 2, none⟩ = some (x2) := cell_of_row _ A 2 _ _ (0, 0) hA
  have a3 : w''.cell? ⟨A, 3, none⟩ = some (x3) := cell_of_row _ A 3 _ _ (0, 0) hA
  have a4 : w''.cell? ⟨A, 4, none⟩ = some (x4) := cell_of_row _ A 4 _ _ (0, 0) hA
  have a5 : w''.cell? ⟨A, 5, none⟩ = some (x5) := cell_of_row _ A 5 _ _ (0, 0) hA
  have a6 : w''.cell? ⟨A, 6, none⟩ = some (x6) := cell_of_row _ A 6 _ _ (0, 0) hA
  have a7 : w''.cell? ⟨A, 7, none⟩ = some (x7) := cell_of_row _ A 7 _ _ (0, 0) hA
  have b0 : w''.cell? ⟨B, 0, none⟩ = some (y0) := cell_of_row _ B 0 _ _ (0, 0) hB
  have b1 : w''.cell? ⟨B, 1, none⟩ = some (y1) := cell_of_row _ B 1 _ _ (0, 0) hB
  have b2 : w''.cell? ⟨B, 2, none⟩ = some (y2) := cell_of_row _ B 2 _ _ (0, 0) hB
  simp [results, Tryz.results31, go_sem, t4, t5, a0, a1, a2, a3, a4, a5, a6, a7, b0, b1, b2]
theorem door_catch_E {A B : Nat} {tmps : Array Value} {R : Ending → World → Prop} {W : World} {x0 x1 x2 x3 x4 x5 x6 x7 y0 y1 y2 : Value} {ft : Flt} (hA : W.heap[A]? = some (.cells #[x0, x1, x2, x3, x4, x5, x6, x7] 34 (0, 0))) (hB : W.heap[B]? = some (.cells #[y0, y1, y2] 40 (0, 0))) (hAB : A ≠ B)
    (t4 : tmps[4]?.getD undef = .pointer (some ⟨A, 0, none⟩)) (t5 : tmps[5]?.getD undef = .pointer (some ⟨B, 0, none⟩)) (hR : ∀ W', Caught W W' A B 34 #[.int .i64 0, .int .i64 0, .int .i64 0, .int .i64 0, .slice none 0 0, .string ⟨#[]⟩, .slice none 0 0, .slice none 0 0] ft.e ft.li ft.co → R (.returned (.tuple #[.agg #[.int .i64 0, .int .i64 0, .int .i64 0, .int .i64 0, .slice none 0 0, .string ⟨#[]⟩, .slice none 0 0, .slice none 0 0], .agg #[.int .i64 ft.e, .int .i64 ft.li, .int .i64 ft.co]])) W') :
    Leaves Tryz.prog Tryz.f31 tmps R [{ target := .fn (.func 70) #[.pointer (some ⟨A, 0, none⟩), .pointer (some ⟨B, 0, none⟩)], args := #[] }] (.panicking [{ v := fltV ft, recovered := false }]) W := by
  refine leaves_cons (f := 70) (args := #[.pointer (some ⟨A, 0, none⟩), .pointer (some ⟨B, 0, none⟩)]) (by simp) (by simp [go_sem]) ?_
  refine (catch_E A B x0 x1 x2 x3 x4 x5 x6 x7 y0 y1 y2 ft.e ft.li ft.co W hA hB hAB).mono ?_
  rintro e u' w'' ⟨rfl, rfl, hc⟩
  refine ⟨_, ?_, hR w'' hc⟩
  have hA := hc.first
  have hB := hc.second
  have a0 : w''.cell? ⟨A, 0, none⟩ = some (.int .i64 0) := cell_of_row _ A 0 _ _ (0, 0) hA
  have a1 : w''.cell? ⟨A, 1, none⟩ = some (.int .i64 0) := cell_of_row _ A 1 _ _ (0, 0) hA
  have a2 : w''.cell? ⟨A, 2, none⟩ = some (.int .i64 0) := cell_of_row _ A 2 _ _ (0, 0) hA
  have a3 : w''.cell? ⟨A, 3, none⟩ = some (.int .i64 0) := cell_of_row _ A 3 _ _ (0, 0) hA
  have a4 : w''.cell? ⟨A, 4, none⟩ = some (.slice none 0 0) := cell_of_row _ A 4 _ _ (0, 0) hA
  have a5 : w''.cell? ⟨A, 5, none⟩ = some (.string ⟨#[]⟩) := cell_of_row _ A 5 _ _ (0, 0) hA
  have a6 : w''.cell? ⟨A, 6, none⟩ = some (.slice none 0 0) := cell_of_row _ A 6 _ _ (0, 0) hA
  have a7 : w''.cell? ⟨A, 7, none⟩ = some (.slice none 0 0) := cell_of_row _ A 7 _ _ (0, 0) hA
  have b0 : w''.cell? ⟨B, 0, none⟩ = some (.int .i64 ft.e) := cell_of_row _ B 0 _ _ (0, 0) hB
  have b1 : w''.cell? ⟨B, 1, none⟩ = some (.int .i64 ft.li) := cell_of_row _ B 1 _ _ (0, 0) hB
  have b2 : w''.cell? ⟨B, 2, none⟩ = some (.int .i64 ft.co) := cell_of_row _ B 2 _ _ (0, 0) hB
  simp [results, Tryz.results31, go_sem, t4, t5, a0, a1, a2, a3, a4, a5, a6, a7, b0, b1, b2]
set_option maxRecDepth 100000 in
set_option maxHeartbeats 4000000 in
theorem read_E (s : ByteArray) (hs : s.size ≤ 9223372036854775807) : ACalls Tryz.prog 31 [.con (.string s), .fn 32 []] [] fun r h' => h' = [] ∧ r = faceE s := by
  intro G m w vs hS ha
  obtain rfl : vs = #[.string s, .func (.func 32) #[] #[]] := by
    obtain ⟨h1, h2⟩ := ha
    have h3 := (h2 0 (by simp)).con_eq
    have h4 := h2 1 (by simp)
    have e2 : vs.getD 1 undef = .func (.func 32) #[] #[] := by
      generalize vs.getD 1 undef = v at h4
      cases h4 with
      | fn n f us cs hl hr => cases us with | nil => rfl | cons a t => simp at hl
    have hsz : vs.size = 2 := by simpa using h1
    apply Array.ext
    · simpa using hsz
    · intro i hi _
      simp only [Array.getD_eq_getD_getElem?] at h3 e2
      rw [Array.getElem?_eq_getElem (by omega)] at h3 e2
      have : i = 0 ∨ i = 1 := by omega
      rcases this with rfl | rfl
      · simpa using h3
      · simpa using e2
  have hmf : ∀ (fn : Fn) (first cap : Array Value) (w : World), (Instr.makeFunc fn first cap).run Tryz.prog w = .ok (.func fn first cap) w := fun _ _ _ _ => rfl
  have HS0 := Lib.hid hS
  have HL : Hid (∀ W, Below w.heap.size w W → Calls Tryz.prog 56 #[.string s] W fun e w' => ∃ v r G' m', e = .returned v ∧ LexQ s r ∧ Rep G' m' w' 0 v r ∧ HS Tryz.prog G' m' w' [] ∧ Goes G m W [] G' m' w' []) := Lib.hid (fun W hb => by
    refine (lex_c s hs G m W #[.string s] (hS.later hb).1 ⟨rfl, fun i hi => ?_⟩).mono ?_
    · match i, hi with
      | 0, _ => exact .con _ _
    · rintro e w' ⟨v, r, h', G', m', rfl, ⟨rfl, hq⟩, hr, hs', hg⟩
      exact ⟨v, r, G', m', rfl, hq, hr, hs', hg⟩)
  clear hS ha
  go_enter_defers Tryz.func31, Tryz.ntmps31
  go_wp2_with fail
  have hb2 : Below w.heap.size w ((w.alloc (.cells #[.int .i64 0, .int .i64 0, .int .i64 0, .int .i64 0, .slice none 0 0, .string ⟨#[]⟩, .slice none 0 0, .slice none 0 0] 34)).alloc (.cells #[.int .i64 0, .int .i64 0, .int .i64 0] 40)) := ((Below.refl _ _).alloc (Nat.le_refl _) _).alloc (by simp) _
  refine (HL.out _ hb2).mono ?_
  rintro e w3 ⟨v, r, G3, m3, rfl, hq, hrep, hs3, hg3⟩
  have hA2 : ((w.alloc (.cells #[.int .i64 0, .int .i64 0, .int .i64 0, .int .i64 0, .slice none 0 0, .string ⟨#[]⟩, .slice none 0 0, .slice none 0 0] 34)).alloc (.cells #[.int .i64 0, .int .i64 0, .int .i64 0] 40)).heap[w.heap.size]? = some (.cells #[.int .i64 0, .int .i64 0, .int .i64 0, .int .i64 0, .slice none 0 0, .string ⟨#[]⟩, .slice none 0 0, .slice none 0 0] 34 (0, 0)) := (Below.heap_alloc _ _ _ (by simp)).trans (heap_alloc_new w _)
  have hB2 : ((w.alloc (.cells #[.int .i64 0, .int .i64 0, .int .i64 0, .int .i64 0, .slice none 0 0, .string ⟨#[]⟩, .slice none 0 0, .slice none 0 0] 34)).alloc (.cells #[.int .i64 0, .int .i64 0, .int .i64 0] 40)).heap[w.heap.size + 1]? = some (.cells #[.int .i64 0, .int .i64 0, .int .i64 0] 40 (0, 0)) := by
    have := heap_alloc_new (w.alloc (.cells #[.int .i64 0, .int .i64 0, .int .i64 0, .int .i64 0, .slice none 0 0, .string ⟨#[]⟩, .slice none 0 0, .slice none 0 0] 34)) (.cells #[.int .i64 0, .int .i64 0, .int .i64 0] 40)
    rwa [World.size_alloc] at this
  have hz2 : ((w.alloc (.cells #[.int .i64 0, .int .i64 0, .int .i64 0, .int .i64 0, .slice none 0 0, .string ⟨#[]⟩, .slice none 0 0, .slice none 0 0] 34)).alloc (.cells #[.int .i64 0, .int .i64 0, .int .i64 0] 40)).heap.size = w.heap.size + 2 := by simp
  generalize ((w.alloc (.cells #[.int .i64 0, .int .i64 0, .int .i64 0, .int .i64 0, .slice none 0 0, .string ⟨#[]⟩, .slice none 0 0, .slice none 0 0] 34)).alloc (.cells #[.int .i64 0, .int .i64 0, .int .i64 0] 40)) = w2 at *
  have hb3 := hg3.below
  have hw3 : Below w.heap.size w w3 := hb2.trans (hb3.mono (by omega))
  have hA3 := (hb3.block w.heap.size (by omega)).trans hA2
  have hB3 := (hb3.block (w.heap.size + 1) (by omega)).trans hB2
  have hGA : G3 w.heap.size = 0 := by
    rw [(hg3.rest w.heap.size (by omega) (fun b hb => absurd hb (Nat.not_lt_zero _))).2]
    apply Classical.byContradiction
    intro hn
    exact absurd (HS0.out.old _ hn) (Nat.lt_irrefl _)
  have hGB : G3 (w.heap.size + 1) = 0 := by
    rw [(hg3.rest (w.heap.size + 1) (by omega) (fun b hb => absurd hb (Nat.not_lt_zero _))).2]
    apply Classical.byContradiction
    intro hn
    have := HS0.out.old _ hn
    omega
  have hGk : ∀ k, k < w.heap.size → G3 k = G k := fun k hk => (hg3.rest k (by omega) (fun b hb => absurd hb (Nat.not_lt_zero _))).2
  have hz3 := hb3.size
  rcases lexQ_out hq with ⟨ft, hk, hne, rfl⟩ | ⟨l, z, hk, hz, hn, rfl⟩
  · obtain ⟨a, b, rfl, ra, rb⟩ := rep_two_out hrep
    obtain rfl := rep_flt_out rb
    obtain ⟨p, q, c, rfl⟩ := rep_sl_out ra
    have HSw := Lib.hid hs3
    have HG := Lib.hid hg3
    have HW := Lib.hid hw3
    have HA := Lib.hid hA3
    have HB := Lib.hid hB3
    have qe : (ft.e != 0) = true := by simpa using hne
    have a0 : w3.cell? ⟨w.heap.size, 0, none⟩ = some (.int .i64 0) := cell_of_row _ _ 0 _ _ (0, 0) hA3
    have a1 : w3.cell? ⟨w.heap.size, 1, none⟩ = some (.int .i64 0) := cell_of_row _ _ 1 _ _ (0, 0) hA3
    have a2 : w3.cell? ⟨w.heap.size, 2, none⟩ = some (.int .i64 0) := cell_of_row _ _ 2 _ _ (0, 0) hA3
    have a3 : w3.cell? ⟨w.heap.size, 3, none⟩ = some (.int .i64 0) := cell_of_row _ _ 3 _ _ (0, 0) hA3
    have a4 : w3.cell? ⟨w.heap.size, 4, none⟩ = some (.slice none 0 0) := cell_of_row _ _ 4 _ _ (0, 0) hA3
    have a5 : w3.cell? ⟨w.heap.size, 5, none⟩ = some (.string ⟨#[]⟩) := cell_of_row _ _ 5 _ _ (0, 0) hA3
    have a6 : w3.cell? ⟨w.heap.size, 6, none⟩ = some (.slice none 0 0) := cell_of_row _ _ 6 _ _ (0, 0) hA3
    have a7 : w3.cell? ⟨w.heap.size, 7, none⟩ = some (.slice none 0 0) := cell_of_row _ _ 7 _ _ (0, 0) hA3
    have b0 : w3.cell? ⟨w.heap.size + 1, 0, none⟩ = some (.int .i64 0) := cell_of_row _ _ 0 _ _ (0, 0) hB3
    have b1 : w3.cell? ⟨w.heap.size + 1, 1, none⟩ = some (.int .i64 0) := cell_of_row _ _ 1 _ _ (0, 0) hB3
    have b2 : w3.cell? ⟨w.heap.size + 1, 2, none⟩ = some (.int .i64 0) := cell_of_row _ _ 2 _ _ (0, 0) hB3
    have fa : ∀ i, w3.frozen? ⟨w.heap.size, i, none⟩ = false := fun i => by simp [World.frozen?, hA3]
    have fb : ∀ i, w3.frozen? ⟨w.heap.size + 1, i, none⟩ = false := fun i => by simp [World.frozen?, hB3]
    clear hA2 hB2 hA3 hB3 hg3 hw3 hs3 hb2 hb3 hrep ra rb hq
    go_wp2
    go_region
    go_wp2
    refine at_rows (rows_bab (w := w3) HA.out HB.out (by omega) [.int .i64 0, .int .i64 0, .int .i64 0, .int .i64 0, .slice none 0 0, .string ⟨#[]⟩, .slice none 0 0, .slice none 0 0] [.int .i64 ft.e, .int .i64 ft.li, .int .i64 ft.co] rfl rfl) (fun W9 r9 => ?_)
    refine door_idle_E (A := w.heap.size) (B := w.heap.size + 1) (x0 := .int .i64 0) (x1 := .int .i64 0) (x2 := .int .i64 0) (x3 := .int .i64 0) (x4 := .slice none 0 0) (x5 := .string ⟨#[]⟩) (x6 := .slice none 0 0) (x7 := .slice none 0 0) (y0 := .int .i64 ft.e) (y1 := .int .i64 ft.li) (y2 := .int .i64 ft.co) r9.first r9.second rfl rfl ?_
    exact face_fin (m' := m) HS0.out (r9.below HW.out (Nat.le_refl _) (by omega)) hGk (fun g hg => by rw [r9.size]; exact HSw.out.old g hg) (rep_two rep_zeroE (rep_three _ _ _)) (by simp only [faceE, faceS, hk, faceR, fltP])
  · obtain ⟨a, b, rfl, ra, rb⟩ := rep_two_out hrep
    obtain rfl := rep_flt_out rb
    obtain ⟨p, q, c, rfl⟩ := rep_sl_out ra
    have HSw := Lib.hid hs3
    have HG := Lib.hid hg3
    have HW := Lib.hid hw3
    have HA := Lib.hid hA3
    have HB := Lib.hid hB3
    have HGA := Lib.hid hGA
    have HGB := Lib.hid hGB
    have HGk := Lib.hid hGk
    have Hra := Lib.hid ra
    have Hz := Lib.hid hz
    have Hk := Lib.hid hk
    have Hn := Lib.hid hn
    have a0 : w3.cell? ⟨w.heap.size, 0, none⟩ = some (.int .i64 0) := cell_of_row _ _ 0 _ _ (0, 0) hA3
    have a1 : w3.cell? ⟨w.heap.size, 1, none⟩ = some (.int .i64 0) := cell_of_row _ _ 1 _ _ (0, 0) hA3
    have a2 : w3.cell? ⟨w.heap.size, 2, none⟩ = some (.int .i64 0) := cell_of_row _ _ 2 _ _ (0, 0) hA3
    have a3 : w3.cell? ⟨w.heap.size, 3, none⟩ = some (.int .i64 0) := cell_of_row _ _ 3 _ _ (0, 0) hA3
    have a4 : w3.cell? ⟨w.heap.size, 4, none⟩ = some (.slice none 0 0) := cell_of_row _ _ 4 _ _ (0, 0) hA3
    have a5 : w3.cell? ⟨w.heap.size, 5, none⟩ = some (.string ⟨#[]⟩) := cell_of_row _ _ 5 _ _ (0, 0) hA3
    have a6 : w3.cell? ⟨w.heap.size, 6, none⟩ = some (.slice none 0 0) := cell_of_row _ _ 6 _ _ (0, 0) hA3
    have a7 : w3.cell? ⟨w.heap.size, 7, none⟩ = some (.slice none 0 0) := cell_of_row _ _ 7 _ _ (0, 0) hA3
    have b0 : w3.cell? ⟨w.heap.size + 1, 0, none⟩ = some (.int .i64 0) := cell_of_row _ _ 0 _ _ (0, 0) hB3
    have b1 : w3.cell? ⟨w.heap.size + 1, 1, none⟩ = some (.int .i64 0) := cell_of_row _ _ 1 _ _ (0, 0) hB3
    have b2 : w3.cell? ⟨w.heap.size + 1, 2, none⟩ = some (.int .i64 0) := cell_of_row _ _ 2 _ _ (0, 0) hB3
    have fa : ∀ i, w3.frozen? ⟨w.heap.size, i, none⟩ = false := fun i => by simp [World.frozen?, hA3]
    have fb : ∀ i, w3.frozen? ⟨w.heap.size + 1, i, none⟩ = false := fun i => by simp [World.frozen?, hB3]
    clear hA2 hB2 hA3 hB3 hg3 hw3 hs3 hb2 hb3 hrep ra rb hq hGA hGB hGk hz hk hn
    go_wp2_with fail
    have h4A : (((w3.setCell ⟨w.heap.size + 1, 0, none⟩ (.int .i64 0)).setCell ⟨w.heap.size + 1, 1, none⟩ (.int .i64 0)).setCell ⟨w.heap.size + 1, 2, none⟩ (.int .i64 0)).heap[w.heap.size]? = some (.cells #[.int .i64 0, .int .i64 0, .int .i64 0, .int .i64 0, .slice none 0 0, .string ⟨#[]⟩, .slice none 0 0, .slice none 0 0] 34 (0, 0)) := by simp [World.setCell, Array.getElem?_modify, HA.out]
    have h4B : (((w3.setCell ⟨w.heap.size + 1, 0, none⟩ (.int .i64 0)).setCell ⟨w.heap.size + 1, 1, none⟩ (.int .i64 0)).setCell ⟨w.heap.size + 1, 2, none⟩ (.int .i64 0)).heap[w.heap.size + 1]? = some (.cells #[.int .i64 0, .int .i64 0, .int .i64 0] 40 (0, 0)) := by simp [World.setCell, Array.getElem?_modify, HB.out]
    have h4o : ∀ g, g ≠ w.heap.size + 1 → (((w3.setCell ⟨w.heap.size + 1, 0, none⟩ (.int .i64 0)).setCell ⟨w.heap.size + 1, 1, none⟩ (.int .i64 0)).setCell ⟨w.heap.size + 1, 2, none⟩ (.int .i64 0)).heap[g]? = w3.heap[g]? := fun g hg => by
      have : ¬ w.heap.size + 1 = g := fun h => hg h.symm
      simp only [World.setCell, Array.getElem?_modify, this, if_false]
    have h4z : (((w3.setCell ⟨w.heap.size + 1, 0, none⟩ (.int .i64 0)).setCell ⟨w.heap.size + 1, 1, none⟩ (.int .i64 0)).setCell ⟨w.heap.size + 1, 2, none⟩ (.int .i64 0)).heap.size = w3.heap.size := by simp only [World.setCell, Array.size_modify]
    have h4b : Below w.heap.size w (((w3.setCell ⟨w.heap.size + 1, 0, none⟩ (.int .i64 0)).setCell ⟨w.heap.size + 1, 1, none⟩ (.int .i64 0)).setCell ⟨w.heap.size + 1, 2, none⟩ (.int .i64 0)) := by
      refine two_below HW.out ⟨?_, ?_, ?_, ?_, fun k hk => ?_⟩
      · simp only [World.drew, World.setCell]
      · simp only [World.drew, World.setCell]
      · simp only [World.drew, World.setCell]
      · simp only [World.drew, World.setCell, Array.size_modify]
      · have m1 : ¬ w.heap.size = k := by omega
        have m2 : ¬ w.heap.size + 1 = k := by omega
        simp only [World.drew, World.setCell, Array.getElem?_modify, m1, m2, if_false]
    generalize (((w3.setCell ⟨w.heap.size + 1, 0, none⟩ (.int .i64 0)).setCell ⟨w.heap.size + 1, 1, none⟩ (.int .i64 0)).setCell ⟨w.heap.size + 1, 2, none⟩ (.int .i64 0)) = W4 at h4A h4B h4o h4z h4b ⊢
    obtain ⟨hs4, ks4⟩ := off_hs HSw.out (A := w.heap.size + 1) HGB.out (fun b hb => absurd hb (Nat.not_lt_zero _)) h4o h4z HB.out h4B rfl
    obtain ⟨G5, m5, hat, hs5, hg5⟩ := HS.push hs4 [.slice p q c, .bool false] [.sl (tksP z l), .con (.bool false)] 122 (.inl rfl) rfl (fun j hj => by
      match j, hj with
      | 0, _ => exact Hra.out.keep (Nat.le_refl _) ks4
      | 1, _ => exact .con _ _)
    have hat5 : (m5 0).at' = w3.heap.size := hat.trans h4z
    have hG5 : ∀ k, k < w3.heap.size → G5 k = G3 k := fun k hk => (hg5.rest k (by omega) (fun b hb => absurd hb (Nat.not_lt_zero _))).2
    have h5b : ∀ k, k < w3.heap.size → (W4.alloc (.cells #[.slice p q c, .bool false] 122)).heap[k]? = W4.heap[k]? := fun k hk => Below.heap_alloc _ _ _ (by omega)
    have h5z : (W4.alloc (.cells #[.slice p q c, .bool false] 122)).heap.size = w3.heap.size + 1 := by rw [World.size_alloc, h4z]
    have h5w : Below w.heap.size w (W4.alloc (.cells #[.slice p q c, .bool false] 122)) := h4b.alloc (by omega) _
    refine (face_call (z := z) (l := l) (b := false) (expr_c Hz.out (l.length + 1) (by have := Hn.out; omega) l false (Nat.lt_succ_self _)) hs5 hat5).mono ?_
    rintro e w6 (⟨v, ve, l', b', G6, m6, hx, rfl, hr6, hs6, hat6, ks6, af6⟩ | ⟨ft, G6, hx, rfl, af6⟩)
    · obtain ⟨i0, i1, i2, i3, p4, l4, c4, i5, p6, l6, c6, p7, l7, c7, rfl⟩ := rep_E_out hr6
      have h6A : w6.heap[w.heap.size]? = _ := ((af6.rest w.heap.size (by omega) (by omega)).1.trans (h5b _ (by omega))).trans h4A
      have h6B : w6.heap[w.heap.size + 1]? = _ := ((af6.rest (w.heap.size + 1) (by omega) (by omega)).1.trans (h5b _ (by omega))).trans h4B
      have h6GA : G6 w.heap.size = 0 := ((af6.rest w.heap.size (by omega) (by omega)).2.trans (hG5 _ (by omega))).trans HGA.out
      have h6GB : G6 (w.heap.size + 1) = 0 := ((af6.rest (w.heap.size + 1) (by omega) (by omega)).2.trans (hG5 _ (by omega))).trans HGB.out
      have h6G : ∀ k, k < w.heap.size → G6 k = G k := fun k hk => ((af6.rest k (by omega) (by omega)).2.trans (hG5 _ (by omega))).trans (HGk.out k hk)
      have h6b : Below w.heap.size w w6 := h5w.trans (af6.below (by omega) (by omega))
      have h6z := af6.size
      clear a0 a1 a2 a3 a4 a5 a6 a7 b0 b1 b2 fa fb
      have a0 : w6.cell? ⟨w.heap.size, 0, none⟩ = some (.int .i64 0) := cell_of_row _ _ 0 _ _ (0, 0) h6A
      have a1 : w6.cell? ⟨w.heap.size, 1, none⟩ = some (.int .i64 0) := cell_of_row _ _ 1 _ _ (0, 0) h6A
      have a2 : w6.cell? ⟨w.heap.size, 2, none⟩ = some (.int .i64 0) := cell_of_row _ _ 2 _ _ (0, 0) h6A
      have a3 : w6.cell? ⟨w.heap.size, 3, none⟩ = some (.int .i64 0) := cell_of_row _ _ 3 _ _ (0, 0) h6A
      have a4 : w6.cell? ⟨w.heap.size, 4, none⟩ = some (.slice none 0 0) := cell_of_row _ _ 4 _ _ (0, 0) h6A
      have a5 : w6.cell? ⟨w.heap.size, 5, none⟩ = some (.string ⟨#[]⟩) := cell_of_row _ _ 5 _ _ (0, 0) h6A
      have a6 : w6.cell? ⟨w.heap.size, 6, none⟩ = some (.slice none 0 0) := cell_of_row _ _ 6 _ _ (0, 0) h6A
      have a7 : w6.cell? ⟨w.heap.size, 7, none⟩ = some (.slice none 0 0) := cell_of_row _ _ 7 _ _ (0, 0) h6A
      have fa : ∀ i, w6.frozen? ⟨w.heap.size, i, none⟩ = false := fun i => by simp [World.frozen?, h6A]
      have H6A := Lib.hid h6A
      have H6B := Lib.hid h6B
      have H6b := Lib.hid h6b
      have H6G := Lib.hid h6G
      have Hhs6 := Lib.hid hs6
      have Hr6 := Lib.hid hr6
      have Hx := Lib.hid hx
      have Hat6 := Lib.hid hat6
      clear h6A h6B h6b h6G hs6 hr6 hx hat6 ks6 af6 hs5 hg5 hat hat5 hG5 h5b h5w h4A h4B h4o h4b hs4 ks4
      go_wp2_with fail
      refine calls_row (row_one (w := w6) H6A.out [.int .i64 i0, .int .i64 i1, .int .i64 i2, .int .i64 i3, .slice p4 l4 c4, .string i5, .slice p6 l6 c6, .slice p7 l7 c7] rfl) (fun W7 r7 => ?_)
      have h7A := r7.first
      have h7o := r7.rest
      have h7z := r7.size
      have h7b : Below w.heap.size w W7 := two_below H6b.out ⟨r7.os, r7.tape, r7.output, r7.size, fun k hk => r7.rest k (by omega)⟩
      obtain ⟨hs7, ks7⟩ := off_hs Hhs6.out (A := w.heap.size) h6GA (fun b hb => by
        have : b = 0 := by simpa using hb
        subst this; rw [Hat6.out]; omega) h7o h7z H6A.out h7A rfl
      refine (face_call (z := z) (wantEnd_c l' b') hs7 Hat6.out).mono ?_
      rintro e w8 (⟨v8, ve8, l8, b8, G8, m8, hw, rfl, hr8, hs8, hat8, ks8, af8⟩ | ⟨ft, G8, hw, rfl, af8⟩)
      · have h8A : w8.heap[w.heap.size]? = _ := (af8.rest w.heap.size (by omega) (by omega)).1.trans h7A
        have h8B : w8.heap[w.heap.size + 1]? = _ := (af8.rest (w.heap.size + 1) (by omega) (by omega)).1.trans ((h7o _ (by omega)).trans H6B.out)
        have h8GA : G8 w.heap.size = 0 := (af8.rest w.heap.size (by omega) (by omega)).2.trans h6GA
        have h8GB : G8 (w.heap.size + 1) = 0 := (af8.rest (w.heap.size + 1) (by omega) (by omega)).2.trans h6GB
        have h8G : ∀ k, k < w.heap.size → G8 k = G k := fun k hk => (af8.rest k (by omega) (by omega)).2.trans (H6G.out k hk)
        have h8b : Below w.heap.size w w8 := h7b.trans (af8.below (by omega) (by omega))
        have hrf : Rep G8 m8 w8 0 _ (.agg (exP ve)) := ((Hr6.out.lower (d := 0) (by cases ve; rfl)).keep (Nat.le_refl _) (ks7.zero _)).keep (Nat.le_refl _) ks8
        clear a0 a1 a2 a3 a4 a5 a6 a7 fa
        have a0 : w8.cell? ⟨w.heap.size, 0, none⟩ = some (.int .i64 i0) := cell_of_row _ _ 0 _ _ (0, 0) h8A
        have a1 : w8.cell? ⟨w.heap.size, 1, none⟩ = some (.int .i64 i1) := cell_of_row _ _ 1 _ _ (0, 0) h8A
        have a2 : w8.cell? ⟨w.heap.size, 2, none⟩ = some (.int .i64 i2) := cell_of_row _ _ 2 _ _ (0, 0) h8A
        have a3 : w8.cell? ⟨w.heap.size, 3, none⟩ = some (.int .i64 i3) := cell_of_row _ _ 3 _ _ (0, 0) h8A
        have a4 : w8.cell? ⟨w.heap.size, 4, none⟩ = some (.slice p4 l4 c4) := cell_of_row _ _ 4 _ _ (0, 0) h8A
        have a5 : w8.cell? ⟨w.heap.size, 5, none⟩ = some (.string i5) := cell_of_row _ _ 5 _ _ (0, 0) h8A
        have a6 : w8.cell? ⟨w.heap.size, 6, none⟩ = some (.slice p6 l6 c6) := cell_of_row _ _ 6 _ _ (0, 0) h8A
        have a7 : w8.cell? ⟨w.heap.size, 7, none⟩ = some (.slice p7 l7 c7) := cell_of_row _ _ 7 _ _ (0, 0) h8A
        have b0 : w8.cell? ⟨w.heap.size + 1, 0, none⟩ = some (.int .i64 0) := cell_of_row _ _ 0 _ _ (0, 0) h8B
        have b1 : w8.cell? ⟨w.heap.size + 1, 1, none⟩ = some (.int .i64 0) := cell_of_row _ _ 1 _ _ (0, 0) h8B
        have b2 : w8.cell? ⟨w.heap.size + 1, 2, none⟩ = some (.int .i64 0) := cell_of_row _ _ 2 _ _ (0, 0) h8B
        have fa : ∀ i, w8.frozen? ⟨w.heap.size, i, none⟩ = false := fun i => by simp [World.frozen?, h8A]
        have fb : ∀ i, w8.frozen? ⟨w.heap.size + 1, i, none⟩ = false := fun i => by simp [World.frozen?, h8B]
        have H8A := Lib.hid h8A
        have H8B := Lib.hid h8B
        have H8b := Lib.hid h8b
        have H8G := Lib.hid h8G
        have Hrf := Lib.hid hrf
        have Hold := Lib.hid hs8.old
        have Hw := Lib.hid hw
        clear h8A h8B h8b h8G hrf hs8 hr8 ks8 af8 hat8 hw hs7 ks7 h7A h7o h7b
        rename_i Q2 K1 hK1 K0 hK0
        show K0 _ _
        refine hK0 _ _ ?_
        show K1 _ _
        refine hK1 _ _ ?_
        refine face_tail (zs := #[.int .i64 0, .int .i64 0, .int .i64 0]) rfl rfl rfl rfl rfl rfl rfl rfl rfl rfl rfl rfl H8A.out H8B.out (by omega) Tryz.underlying34 rfl (by kernel_rfl) (fun w => by kernel_rfl) (by kernel_rfl) rfl (by simp [Value.oneCell']) (by simp [Value.oneCell']) (fun W9 r9 => ?_)
        refine door_idle_E (A := w.heap.size) (B := w.heap.size + 1) (x0 := .int .i64 i0) (x1 := .int .i64 i1) (x2 := .int .i64 i2) (x3 := .int .i64 i3) (x4 := .slice p4 l4 c4) (x5 := .string i5) (x6 := .slice p6 l6 c6) (x7 := .slice p7 l7 c7) (y0 := .int .i64 0) (y1 := .int .i64 0) (y2 := .int .i64 0) r9.first r9.second rfl rfl ?_
        exact face_fin HS0.out (r9.below H8b.out (Nat.le_refl _) (by omega)) H8G.out (fun g hg => by rw [r9.size]; exact Hold.out g hg) (rep_two (Hrf.out.keep (Nat.le_refl _) (r9.keeps h8GA h8GB H8A.out H8B.out rfl rfl 0)) (rep_three _ _ _)) (by simp only [faceE, faceS, Hk.out, Hx.out, Hw.out, faceR, fltP])
      · have h8A : w8.heap[w.heap.size]? = _ := (af8.rest w.heap.size (by omega) (by omega)).1.trans h7A
        have h8B : w8.heap[w.heap.size + 1]? = _ := (af8.rest (w.heap.size + 1) (by omega) (by omega)).1.trans ((h7o _ (by omega)).trans H6B.out)
        have h8G : ∀ k, k < w.heap.size → G8 k = G k := fun k hk => (af8.rest k (by omega) (by omega)).2.trans (H6G.out k hk)
        have h8b : Below w.heap.size w w8 := h7b.trans (af8.below (by omega) (by omega))
        refine door_catch_E (A := w.heap.size) (B := w.heap.size + 1) (ft := ft) h8A h8B (by omega) rfl rfl (fun W' hc => ?_)
        exact face_fin (G' := G8) (m' := m) HS0.out (caught_below hc h8b (Nat.le_refl _) (by omega)) h8G (fun g hg => Nat.lt_of_lt_of_le (af8.old g hg) hc.size) (rep_two rep_zeroE (rep_three _ _ _)) (by simp only [faceE, faceS, Hk.out, Hx.out, hw, faceR, fltP])
    · have h6A : w6.heap[w.heap.size]? = _ := ((af6.rest w.heap.size (by omega) (by omega)).1.trans (h5b _ (by omega))).trans h4A
      have h6B : w6.heap[w.heap.size + 1]? = _ := ((af6.rest (w.heap.size + 1) (by omega) (by omega)).1.trans (h5b _ (by omega))).trans h4B
      have h6G : ∀ k, k < w.heap.size → G6 k = G k := fun k hk => ((af6.rest k (by omega) (by omega)).2.trans (hG5 _ (by omega))).trans (HGk.out k hk)
      have h6b : Below w.heap.size w w6 := h5w.trans (af6.below (by omega) (by omega))
      refine door_catch_E (A := w.heap.size) (B := w.heap.size + 1) (ft := ft) h6A h6B (by omega) rfl rfl (fun W' hc => ?_)
      exact face_fin (G' := G6) (m' := m) HS0.out (caught_below hc h6b (Nat.le_refl _) (by omega)) h6G (fun g hg => Nat.lt_of_lt_of_le (af6.old g hg) hc.size) (rep_two rep_zeroE (rep_three _ _ _)) (by simp only [faceE, faceS, Hk.out, hx, faceR, fltP])
end Go.Proofs.YtjhnmikciejekaaGreat.Deep
