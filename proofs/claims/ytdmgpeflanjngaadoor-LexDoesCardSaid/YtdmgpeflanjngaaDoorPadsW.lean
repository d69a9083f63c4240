/-
  For any two texts of few bytes the Go function LexPads of the statements on package lex returns true. No condition.
-/
import Derived.Test.YtdmgpeflanjngaaDoorPads
import Derived.Test.YtdmgpeflanjngaaDoorNamesO
import Derived.Lib.QuietBelow
namespace Go.Proofs.YtdmgpeflanjngaaDoor
open Go.ChangeShapes Go.WideShapes Go.ChangeAt Go.RowKit
set_option linter.unusedVariables false

/-- What Lex tells of a text: a fault and no tokens, or its tokens. -/
def Gives (s : ByteArray) (er : Int) (ps : List (Tok × Value)) : Prop := (er ≠ 0 ∧ ps = [] ∧ bareS (lexOf s) = .inl er) ∨ (er = 0 ∧ bareS (lexOf s) = .inr (ps.map (fun p => bare p.1)))
theorem lex_gives (s : ByteArray) (hs : s.size ≤ 9223372036854775807) (w : World) : Calls Tryd.prog 8 #[.string s] w fun e w' => ∃ er L C A n c ps, e = .returned (.tuple #[.slice A n c, .agg #[.int .i64 er, .int .i64 L, .int .i64 C]]) ∧ n = ps.length ∧ Gives s er ps ∧ TRow w' A n c ps ∧ Below w.heap.size w w' := by
  refine (lex_any s hs w).mono ?_
  rintro e w1 (⟨er, L, C, h1, her, rfl, hb⟩ | ⟨A, n, c, ps, h1, hn, rfl, ht, hb⟩)
  · exact ⟨er, L, C, none, 0, 0, [], rfl, rfl, .inl ⟨her, rfl, by rw [h1]; rfl⟩, trow_nil _, hb⟩
  · refine ⟨0, 0, 0, A, n, c, ps, rfl, hn, .inr ⟨rfl, by rw [h1]; simp [bareS]⟩, TRow.of_toks ht hn, hb⟩
theorem gives_same {s t : ByteArray} {er er' : Int} {ps qs : List (Tok × Value)} (h : Gives s er ps) (h' : Gives t er' qs) (e : bareS (lexOf t) = bareS (lexOf s)) : er' = er ∧ qs.length = ps.length ∧ SameToks false ps qs := by
  rcases h with ⟨h0, rfl, h1⟩ | ⟨rfl, h1⟩ <;> rcases h' with ⟨h0', rfl, h1'⟩ | ⟨rfl, h1'⟩
  · rw [h1, h1'] at e; cases e; exact ⟨rfl, rfl, fun k p q hp => by cases hp⟩
  · rw [h1, h1'] at e; cases e
  · rw [h1, h1'] at e; cases e
  · rw [h1, h1'] at e
    have e := Sum.inr.inj e
    have hl : qs.length = ps.length := by have := congrArg List.length e; simpa using this
    refine ⟨rfl, hl, fun k p q hp hq => ?_⟩
    have e2 := congrArg (fun l => l[k]?) e
    simp only [List.getElem?_map, hp, hq, Option.map_some, Option.some.injEq] at e2
    exact ⟨(congrArg (·.kind) e2).symm, (congrArg (·.text) e2).symm, (congrArg (·.num) e2).symm, (congrArg (·.bytes) e2).symm, fun h => by cases h⟩
/-- A fault's block. -/
structure FB (W : World) (b : Nat) (er L C : Int) : Prop where
  lt : b < W.heap.size
  c0 : W.cell? ⟨b, 0, none⟩ = some (.int .i64 er)
  c1 : W.cell? ⟨b, 1, none⟩ = some (.int .i64 L)
  c2 : W.cell? ⟨b, 2, none⟩ = some (.int .i64 C)
theorem FB.below {W W' : World} {b : Nat} {er L C : Int} (h : FB W b er L C) (hb : Below W.heap.size W W') : FB W' b er L C :=
  ⟨Nat.lt_of_lt_of_le h.lt hb.size, cell_kept hb h.lt h.c0, cell_kept hb h.lt h.c1, cell_kept hb h.lt h.c2⟩
theorem FB.new (w : World) (er L C : Int) : FB (w.alloc (.cells #[.int .i64 er, .int .i64 L, .int .i64 C] 31)) w.heap.size er L C := ⟨by simp, by simp, by simp, by simp⟩

theorem TRow.take {W : World} {A : Option Addr} {n c : Nat} {ps : List (Tok × Value)} (h : TRow W A n c ps) {j : Nat} (hj : j ≤ n) : TRow W A j c (ps.take j) := by
  refine ⟨by have := h.len; simp; omega, by have := h.cap; omega, fun h0 => ?_, fun p hp => h.bytes p (List.mem_of_mem_take hp)⟩
  obtain ⟨g, o, hA, hg, hx⟩ := h.at' (by omega)
  refine ⟨g, o, hA, hg, fun k p hp => hx k p ?_⟩
  rw [List.getElem?_take] at hp
  split at hp
  · exact hp
  · cases hp
theorem TRow.drop {W : World} {g o n c : Nat} {ps : List (Tok × Value)} (h : TRow W (some ⟨g, o, none⟩) n c ps) {j : Nat} (hj : j ≤ n) : TRow W (some ⟨g, o + j * 6, none⟩) (n - j) (c - j) (ps.drop j) := by
  refine ⟨by have := h.len; simp; omega, by have := h.cap; omega, fun h0 => ?_, fun p hp => h.bytes p (List.mem_of_mem_drop hp)⟩
  obtain ⟨g', o', hA, hg, hx⟩ := h.at' (by omega)
  cases hA
  refine ⟨g, o + j * 6, rfl, hg, fun k p hp => ?_⟩
  rw [List.getElem?_drop] at hp
  have := hx (j + k) p hp
  rwa [show o + (j + k) * 6 = o + j * 6 + k * 6 by omega] at this
theorem utf8_yes (e1 L1 C1 L2 C2 : Int) (h : e1 ≠ 1) (w : World) : Calls Tryd.prog 17 #[.agg #[.int .i64 e1, .int .i64 L1, .int .i64 C1], .agg #[.int .i64 1, .int .i64 L2, .int .i64 C2]] w fun e w' => e = .returned (.bool true) ∧ Below w.heap.size w w' := by
  have q : (e1 == 1) = false := by simpa using h
  go_enter Tryd.func17, Tryd.ntmps17
  go_wp2
  go_ret
  exact ⟨rfl, by repeat (first | exact Below.refl _ _ | refine Below.alloc ?_ ?_ _ | simp)⟩

theorem Gives.err {s : ByteArray} {er : Int} {ps : List (Tok × Value)} (h : Gives s er ps) (h0 : er ≠ 0) : bareS (lexOf s) = .inl er := by
  rcases h with ⟨_, _, h1⟩ | ⟨h1, _⟩
  · exact h1
  · exact absurd h1 h0
theorem Gives.ok {s : ByteArray} {ps : List (Tok × Value)} (h : Gives s 0 ps) : bareS (lexOf s) = .inr (ps.map (fun p => bare p.1)) := by
  rcases h with ⟨h1, _⟩ | ⟨_, h1⟩
  · exact absurd rfl h1
  · exact h1
theorem Gives.er_of {s : ByteArray} {er e : Int} {ps : List (Tok × Value)} (h : Gives s er ps) (h1 : bareS (lexOf s) = .inl e) : er = e ∧ er ≠ 0 := by
  rcases h with ⟨h0, _, h2⟩ | ⟨_, h2⟩
  · rw [h2] at h1; cases h1; exact ⟨rfl, h0⟩
  · rw [h2] at h1; cases h1
theorem Gives.few {s : ByteArray} (hs : s.size ≤ 800) {er : Int} {ps : List (Tok × Value)} (h : Gives s er ps) : ps.length ≤ 801 := by
  rcases h with ⟨_, rfl, _⟩ | ⟨_, h⟩
  · simp
  · cases hb : badOf s with
    | some p => rw [bare_fault (by omega) hb] at h; cases h
    | none =>
      obtain ⟨v, tx⟩ := sound_runes hb
      obtain ⟨a, b⟩ := bare_sound (by omega) v tx
      rw [a] at h
      have hl := (lexP_again _ _ _ (by omega) v h).2.2.2
      have := enc_len_pos v
      have hz := size_len s
      rw [tx] at hz
      simp at hl; omega
/-- Both are told: what is told of the two with a line's end between. -/
theorem gives_cat {s t X : ByteArray} (hs : s.size ≤ 800) (ht : t.size ≤ 800) {er : Int} {ps rs us : List (Tok × Value)} (hcat : (bareS (lexOf X) = catS (bareS (lexOf s)) (bareS (lexOf t))) ∨ (bareS (lexOf X) = .inl 1 ∧ bareS (lexOf t) = .inl 1 ∧ ∃ e, bareS (lexOf s) = .inl e))
    (h1 : Gives s 0 ps) (h2 : Gives t 0 rs) (h3 : Gives X er us) : er = 0 ∧ ∃ j, ps.length = j + 1 ∧ 0 < rs.length ∧ us.length = j + rs.length ∧ SameToks false (ps.take j) (us.take j) ∧ SameToks false rs (us.drop j) := by
  have a1 := h1.ok
  have a2 := h2.ok
  rw [a1, a2] at hcat
  rcases hcat with h | ⟨_, h, _⟩
  · rcases h3 with ⟨_, _, h3⟩ | ⟨h0, h3⟩
    · rw [h3] at h; cases h
    · rw [h3] at h
      have e := Sum.inr.inj h
      obtain ⟨U, hU⟩ := ends_of hs a1
      obtain ⟨V, hV⟩ := ends_of ht a2
      have hl1 : ps.length = U.length + 1 := by have := congrArg List.length hU; simpa using this
      have hl2 : rs.length = V.length + 1 := by have := congrArg List.length hV; simpa using this
      have hj : ((ps.map (fun p => bare p.1)).dropLast).length = U.length := by rw [hU]; simp
      have hl3 : us.length = U.length + rs.length := by have := congrArg List.length e; rw [List.length_append, hj] at this; simpa using this
      refine ⟨h0, U.length, hl1, by omega, hl3, fun k p q hp hq => ?_, fun k p q hp hq => ?_⟩
      · rw [List.getElem?_take] at hp hq
        split at hp
        · rename_i hk
          rw [if_pos hk] at hq
          have e2 := congrArg (fun l => l[k]?) e
          simp only [List.getElem?_map, hq, Option.map_some] at e2
          rw [List.getElem?_append_left (by omega), List.dropLast_eq_take, List.getElem?_take, if_pos (by simp; omega)] at e2
          simp only [List.getElem?_map, hp, Option.map_some, Option.some.injEq] at e2
          exact ⟨(congrArg (·.kind) e2).symm, (congrArg (·.text) e2).symm, (congrArg (·.num) e2).symm, (congrArg (·.bytes) e2).symm, fun h => by cases h⟩
        · cases hp
      · rw [List.getElem?_drop] at hq
        have e2 := congrArg (fun l => l[U.length + k]?) e
        simp only [List.getElem?_map, hq, Option.map_some] at e2
        rw [List.getElem?_append_right (by omega), hj, Nat.add_sub_cancel_left] at e2
        simp only [List.getElem?_map, hp, Option.map_some, Option.some.injEq] at e2
        exact ⟨(congrArg (·.kind) e2).symm, (congrArg (·.text) e2).symm, (congrArg (·.num) e2).symm, (congrArg (·.bytes) e2).symm, fun h => by cases h⟩
  · cases h
theorem regrown_call {P : Program} {f : FuncId} {args : Array Value} {w : World} {v : Value} (h : ∀ W, Below w.heap.size w W → Calls P f args W fun e w' => e = .returned v ∧ Below W.heap.size W w') : ∀ (d : Nat) (os : Array Obj), Calls P f args (Go.Sort.grow (Go.redrawn w d) os) fun e w' => e = .returned v ∧ ∃ p : Go.Regrown, w' = Go.Sort.grow (Go.redrawn w p.d) p.os :=
  fun d os => Calls.regrown_of (h _ (below_regrown w d os))
set_option maxRecDepth 100000 in
set_option maxHeartbeats 8000000 in
theorem pads_mid (s t : ByteArray) (m : Int) (k : Nat) (hs : s.size ≤ 800) (ht : t.size ≤ 800) (h0 : 0 ≤ m) (h1 : m ≤ 255) (hm : Int.tmod m 4 = k) (hk : k < 4) (w : World) : Calls Tryd.prog 5 #[.string s, .string t, .int .u8 m] w fun e w' => e = .returned (.bool true) ∧ Below w.heap.size w w' := by
  have HLs := Lib.hid (fun w => lex_gives s (by omega) w)
  have HLt := Lib.hid (fun w => lex_gives t (by omega) w)
  go_enter Tryd.func5, Tryd.ntmps5
  have hfst : k = 0 ∨ k = 1 ∨ k = 2 ∨ k = 3 := by omega
  clear hk
  rcases hfst with rfl | rfl | rfl | rfl
  all_goals
    go_wp2_with fail
    refine (HLs.out _).mono ?_
    rintro e w1 ⟨er, L, C, A, n, c, ps, rfl, rfl, g1, r1, hb1⟩
    have hB1 : Below w.heap.size w (w1.alloc (.cells #[.int .i64 er, .int .i64 L, .int .i64 C] 31)) := ((((Below.refl _ _).alloc (Nat.le_refl _) _).trans (hb1.mono (by simp))).alloc (by have := hb1.size; simp at this; omega) _)
    have F1 := FB.new w1 er L C
    have R1 := r1.below ((Below.refl _ w1).alloc (Nat.le_refl _) (.cells #[.int .i64 er, .int .i64 L, .int .i64 C] 31))
    have G1 := Lib.hid g1
    clear hb1 r1 g1
    go_wp2_with fail
    refine (lex_gives _ (by simp only [ByteArray.size_append]; simp only [show ∀ a : Array UInt8, (⟨a⟩ : ByteArray).size = a.size from fun _ => rfl]; simp; omega) _).mono ?_
    rintro e w2 ⟨er2, L2, C2, A2, n2, c2, qs, rfl, rfl, g2, r2, hb2⟩
    have hcmp := gives_same G1.out g2 (by first | (refine pads_same 0 hs ?_; simp [ByteArray.data_append, padsL]; done) | (refine pads_same 1 hs ?_; simp [ByteArray.data_append, padsL]; done) | (refine pads_same 2 hs ?_; simp [ByteArray.data_append, padsL]; done) | (refine pads_same 3 hs ?_; simp [ByteArray.data_append, padsL]; done))
    obtain ⟨rfl, hl2, hsm2⟩ := hcmp
    have hz2 := hb2.size
    rw [World.size_alloc] at hz2
    have hb2' := hb2.alloc (o := .cells #[.int .i64 er2, .int .i64 L2, .int .i64 C2] 31) hb2.size
    replace F1 := F1.below hb2'
    replace R1 := R1.below hb2'
    have F2 := FB.new w2 er2 L2 C2
    have R2 := r2.below ((Below.refl _ w2).alloc (Nat.le_refl _) (.cells #[.int .i64 er2, .int .i64 L2, .int .i64 C2] 31))
    have hB2 := hB1.trans (hb2'.mono hB1.size)
    rw [hl2] at R2 ⊢
    clear hb2 hb2' r2 g2 hB1
    go_wp2_with fail
    refine (HLt.out _).mono ?_
    rintro e w3 ⟨er3, L3, C3, A3, n3, c3, rs, rfl, rfl, g3, r3, hb3⟩
    have hz3 := hb3.size
    rw [World.size_alloc] at hz3
    have hb3' := hb3.alloc (o := .cells #[.int .i64 er3, .int .i64 L3, .int .i64 C3] 31) hb3.size
    replace F1 := F1.below hb3'
    replace R1 := R1.below hb3'
    replace F2 := F2.below hb3'
    replace R2 := R2.below hb3'
    have F3 := FB.new w3 er3 L3 C3
    have R3 := r3.below ((Below.refl _ w3).alloc (Nat.le_refl _) (.cells #[.int .i64 er3, .int .i64 L3, .int .i64 C3] 31))
    have hB3 := hB2.trans (hb3'.mono hB2.size)
    have G3 := Lib.hid g3
    clear hb3 hb3' r3 g3 hB2
    go_wp2_with fail
    refine (lex_gives _ (by simp only [ByteArray.size_append]; simp only [show ∀ a : Array UInt8, (⟨a⟩ : ByteArray).size = a.size from fun _ => rfl]; simp; omega) _).mono ?_
    rintro e w4 ⟨er4, L4, C4, A4, n4, c4, us, rfl, rfl, g4, r4, hb4⟩
    have hcat := cat_same hs (t := t) (by omega) (X := s ++ ⟨#[10]⟩ ++ t) (by simp [ByteArray.data_append])
    have hz4 := hb4.size
    rw [World.size_alloc] at hz4
    have hb4' := hb4.alloc (o := .cells #[.int .i64 er4, .int .i64 L4, .int .i64 C4] 31) hb4.size
    replace F1 := F1.below hb4'
    replace R1 := R1.below hb4'
    replace F2 := F2.below hb4'
    replace R2 := R2.below hb4'
    replace F3 := F3.below hb4'
    replace R3 := R3.below hb4'
    have F4 := FB.new w4 er4 L4 C4
    have R4 := r4.below ((Below.refl _ w4).alloc (Nat.le_refl _) (.cells #[.int .i64 er4, .int .i64 L4, .int .i64 C4] 31))
    have hB4 := hB3.trans (hb4'.mono hB3.size)
    have G4 := Lib.hid g4
    clear hb4 hb4' r4 g4 hB3
    have hfew : ps.length ≤ 801 := G1.out.few hs
    have HS := Lib.hid (same_yes false A A2 ps.length c c2 ps qs (by omega) hsm2 _ R1 R2)
    have Fa := F1.c0
    have Fb := F2.c0
    go_wp2_with fail
    refine HS.out.mono ?_
    rintro e w5 ⟨rfl, hb5⟩
    replace F1 := F1.below hb5
    replace R1 := R1.below hb5
    replace F3 := F3.below hb5
    replace R3 := R3.below hb5
    replace F4 := F4.below hb5
    replace R4 := R4.below hb5
    have hB5 := hB4.trans (hb5.mono hB4.size)
    clear hb5 R2 F2 Fa Fb HS hsm2 hB4
    by_cases q2 : er2 = 0
    · subst q2
      by_cases q3 : er3 = 0
      · subst q3
        obtain ⟨rfl, j, hlj, hlr, hlu, hst, hsd⟩ := gives_cat hs ht hcat G1.out G3.out G4.out
        have Fa := F1.c0
        have Fc := F3.c0
        have hfew3 := G3.out.few ht
        have T1 := R1.take (j := j) (by omega)
        have T4 := R4.take (j := j) (by omega)
        obtain ⟨g, o, hA4, -, -⟩ := R4.at' (by omega)
        subst hA4
        have D4 := R4.drop (j := j) (by omega)
        rw [show us.length - j = rs.length by omega] at D4
        have cS1 := Lib.hid (regrown_call (w := w5) (fun W hb => same_yes false _ _ j c c4 _ _ (by omega) hst W (T1.below hb) (T4.below hb)))
        have cS2 := Lib.hid (regrown_call (w := w5) (fun W hb => same_yes false _ _ rs.length c3 (c4 - j) _ _ (by omega) hsd W (R3.below hb) (D4.below hb)))
        have cA := Lib.hid (regrown_call (w := w5) (fun W hb => awake_any W))
        have hcap1 := R1.cap
        have hcap4 := R4.cap
        rw [hlj] at hcap1 ⊢
        rw [hlu] at hcap4 ⊢
        clear hcat hst hsd T1 T4 D4 R1 R3 R4 F1 F3 F4
        go_wp2_with fail
        refine wp_region_quiet_below (by kernel_rfl) (by kernel_rfl) ?_
        repeat (go_big_quiet_step (with_reducible (first | exact cS1.out _ _ | exact cS2.out _ _ | exact cA.out _ _)))
        refine wpQuiet_nil ?_
        intro w6 hw6
        have hb6 : Below w5.heap.size w5 w6 := by obtain ⟨p, rfl⟩ := hw6; exact below_regrown _ _ _
        have hB6 := hB5.trans (hb6.mono hB5.size)
        clear hw6 hb6
        go_wp2_with fail
        go_ret
        exact ⟨rfl, hB6⟩
      · have h4 : er4 = er3 := by
          rcases hcat with h | ⟨h, h', _⟩
          · rw [G1.out.ok, G3.out.err q3] at h; exact (G4.out.er_of h).1
          · rw [(G4.out.er_of h).1, (G3.out.er_of h').1]
        subst h4
        have k3 : (er4 != 0) = true := by simpa using q3
        have k4 : (er4 == 0) = false := by simpa using q3
        have Fa := F1.c0
        have Fc := F3.c0
        have Fd := F4.c0
        clear hcat
        go_wp2_with fail
        go_ret
        exact ⟨rfl, hB5⟩
    · have k2 : (er2 != 0) = true := by simpa using q2
      have Fa := F1.c0
      have Fd := F4.c0
      by_cases h4 : er4 = er2
      · subst h4
        clear hcat
        go_wp2_with fail
        go_ret
        exact ⟨rfl, hB5⟩
      · have h5 : er4 = 1 ∧ er3 = 1 := by
          rcases hcat with h | ⟨h, h', _⟩
          · rw [G1.out.err q2] at h; exact absurd (G4.out.er_of h).1 h4
          · exact ⟨(G4.out.er_of h).1, (G3.out.er_of h').1⟩
        obtain ⟨rfl, rfl⟩ := h5
        have k4 : (1 == er2) = false := by simpa using h4
        have k5 : (er2 == 0) = false := by simpa using q2
        have Fa1 := F1.c1
        have Fa2 := F1.c2
        have Fc := F3.c0
        have Fc1 := F3.c1
        have Fc2 := F3.c2
        have HU := Lib.hid (fun w => utf8_yes er2 L C L3 C3 (fun e => h4 e.symm) w)
        clear hcat
        go_wp2_with fail
        refine (HU.out _).mono ?_
        rintro e w6 ⟨rfl, hb6⟩
        have hB6 := hB5.trans (hb6.mono hB5.size)
        clear hb6
        go_wp2_with (go_at_call 7; ((with_reducible refine (awake_any _).mono ?_); rintro e w7 ⟨rfl, hb7⟩))
        go_ret
        exact ⟨rfl, hB6.trans (hb7.mono hB6.size)⟩
set_option maxRecDepth 100000 in
/-- For any texts. -/
theorem pads_walk (s t : ByteArray) (m : Int) (hs : s.size ≤ 9223372036854775807) (ht : t.size ≤ 9223372036854775807) (h0 : 0 ≤ m) (h1 : m ≤ 255) (w : World) : Calls Tryd.prog 5 #[.string s, .string t, .int .u8 m] w fun e w' => e = .returned (.bool true) ∧ Below w.heap.size w w' := by
  by_cases hg : 800 < s.size
  · go_enter Tryd.func5, Tryd.ntmps5
    go_wp2_with (go_at_call 7; ((with_reducible refine (awake_any _).mono ?_); rintro e w9 ⟨rfl, hb9⟩))
    go_ret
    exact ⟨rfl, hb9⟩
  by_cases hg2 : 800 < t.size
  · go_enter Tryd.func5, Tryd.ntmps5
    go_wp2_with (go_at_call 7; ((with_reducible refine (awake_any _).mono ?_); rintro e w9 ⟨rfl, hb9⟩))
    go_ret
    exact ⟨rfl, hb9⟩
  · have e : Int.tmod m 4 = m % 4 := Int.tmod_eq_emod_of_nonneg h0
    have hk : (Int.tmod m 4).toNat < 4 := by omega
    exact pads_mid s t m (Int.tmod m 4).toNat (by omega) (by omega) h0 h1 (by omega) hk w
end Go.Proofs.YtdmgpeflanjngaaDoor
