/-
  What the document's own name tells of a row of runes from some place on. No condition but that the row lies in memory.
-/
import Derived.Test.YtdmgpeflanjngaaDoorRefA
namespace Go.Proofs.YtdmgpeflanjngaaDoor
open Go.ChangeShapes Go.WideShapes Go.ChangeAt Go.RowKit
set_option linter.unusedVariables false

/-- k runes of a name have been read from place i on. -/
structure RNameI (rs : List Ent) (i k : Nat) (s : List UInt8) : Prop where
  le : i + k ≤ rs.length
  text : s = ((runesI rs).drop i |>.take k).flatMap enc
  all : ∀ c ∈ ((runesI rs).drop i).take k, nameB c = true
theorem take_next {rs : List Ent} {i k : Nat} (h : i + k < rs.length) : ((runesI rs).drop i).take (k + 1) = ((runesI rs).drop i).take k ++ [runeAt rs (i + k)] := by
  have hl : k < ((runesI rs).drop i).length := by simp [runesI]; omega
  rw [List.take_succ_eq_append_getElem hl]
  congr 2
  rw [List.getElem_drop, runesI_at, List.getElem?_eq_getElem (by simpa [runesI] using h)]; rfl
theorem RNameI.on {rs : List Ent} {i k : Nat} {s : List UInt8} (h : RNameI rs i k s) (hk : i + k < rs.length) (hn : nameB (runeAt rs (i + k)) = true) : RNameI rs i (k + 1) (s ++ enc (runeAt rs (i + k))) := by
  refine ⟨by omega, ?_, fun c hc => ?_⟩
  · rw [take_next hk, List.flatMap_append, h.text]; simp
  · rw [take_next hk] at hc
    rcases List.mem_append.1 hc with hc | hc
    · exact h.all c hc
    · simp at hc; subst hc; exact hn
theorem takeWhile_of {p : Int → Bool} : ∀ (l : List Int) (k : Nat), (∀ c ∈ l.take k, p c = true) → k ≤ l.length → (k < l.length → p (l.getD k 0) = false) → l.takeWhile p = l.take k := by
  intro l
  induction l with
  | nil => intro k _ _ _; simp
  | cons a t ih =>
    intro k h hk he
    cases k with
    | zero => have := he (by simp); simp at this; simp [this]
    | succ k =>
      have ha := h a (by simp)
      rw [List.takeWhile_cons, if_pos ha, List.take_succ_cons, ih k (fun c hc => h c (by simp [hc])) (by simpa using hk) (fun hlt => by have := he (by simpa using hlt); simpa using this)]
theorem RNameI.done {rs : List Ent} {i k : Nat} {s : List UInt8} (h : RNameI rs i k s) (he : i + k < rs.length → nameB (runeAt rs (i + k)) = false) : namB ((runesI rs).drop i) = ((runesI rs).drop i).take k ∧ s = (namB ((runesI rs).drop i)).flatMap enc ∧ (namB ((runesI rs).drop i)).length = k := by
  have hle := h.le
  have hl : ((runesI rs).drop i).length = rs.length - i := by simp [runesI]
  have e : namB ((runesI rs).drop i) = ((runesI rs).drop i).take k := by
    refine takeWhile_of _ k h.all (by omega) (fun hlt => ?_)
    have hk : i + k < rs.length := by omega
    have := he hk
    rw [List.getD_eq_getElem?_getD, List.getElem?_drop, List.getElem?_eq_getElem (by simpa [runesI] using hk)]
    rw [runesI_at, List.getElem?_eq_getElem (by simpa [runesI] using hk)] at this
    exact this
  refine ⟨e, by rw [e]; exact h.text, by rw [e, List.length_take]; omega⟩
theorem RNameI.len {rs : List Ent} {i k : Nat} {s : List UInt8} (h : RNameI rs i k s) : s.length ≤ 4 * k := by
  rw [h.text]
  have := flat_enc_le (((runesI rs).drop i).take k)
  have h2 : (((runesI rs).drop i).take k).length ≤ k := by rw [List.length_take]; omega
  omega
theorem conv_slice {w : World} {A : Option Addr} {n c : Nat} {l : List UInt8} (h : Row w A n l) : (convert 22 9 (.slice A n c)).run Tryd.prog w = .ok (.string ⟨l.toArray⟩) w := h.conv c
set_option maxRecDepth 100000 in
set_option maxHeartbeats 2000000 in
theorem rname_any (A : Option Addr) (n m : Nat) (rs : List Ent) (i : Nat) (w : World) (h : RRow w A n m rs) (hi : i < n) (hn : n ≤ 16384) : Calls Tryd.prog 47 #[.slice A n m, .int .i64 (i : Int)] w fun e w' => e = .returned (.tuple #[.string ⟨((namB ((runesI rs).drop i)).flatMap enc).toArray⟩, .int .i64 ((namB ((runesI rs).drop i)).length : Int)]) ∧ Below w.heap.size w w' := by
  obtain ⟨g, rfl, hg, hx⟩ := h.at' (by omega)
  have hcap := h.cap
  obtain rfl := h.len
  have Hx := Lib.hid hx
  clear hx h
  go_enter Tryd.func47, Tryd.ntmps47
  go_wp2_with fail
  go_loopw [6, 7, 8] (fun s k j wr => ∃ (q : Nat) (l : List UInt8), s = .string ⟨l.toArray⟩ ∧ k = .int .i64 (q : Int) ∧ j = .int .i64 ((i + q : Nat) : Int) ∧ RNameI rs i q l ∧ Below w.heap.size w wr) (fun _ k _ _ => rs.length - (intOf k).toNat)
  case atStart => exact ⟨0, [], rfl, rfl, rfl, ⟨by omega, by simp, by simp⟩, Below.refl _ _⟩
  case round =>
    obtain ⟨q, l, rfl, rfl, rfl, hI, hB⟩ := hrel
    have hz := hB.size
    have hll := hI.len
    have hle := hI.le
    by_cases hlt : i + q < rs.length
    · have hlt' : ((i + q : Nat) : Int) < rs.length := by omega
      obtain ⟨e, he⟩ : ∃ e, rs[i + q]? = some e := ⟨rs[i + q], List.getElem?_eq_getElem hlt⟩
      obtain ⟨x0, -⟩ := Hx.out (i + q) e he
      have hc := rune_of he
      have y0 := cell_kept hB hg x0
      rw [← hc] at y0
      obtain ⟨c, hcc⟩ : ∃ c, runeAt rs (i + q) = c := ⟨_, rfl⟩
      rw [hcc] at y0
      have Hcc := Lib.hid hcc
      have HI := Lib.hid hI
      cases hn2 : nameB c
      · have HP := Lib.hid (fun w => hn2 ▸ part_any c w)
        have hdone := Lib.hid (hI.done (fun _ => by rw [hcc]; exact hn2))
        clear hc hcc he x0 hI hn2
        go_wp2_with (go_at_call 29; ((with_reducible refine (HP.out _).mono ?_); rintro e w' ⟨rfl, rfl⟩))
        go_ret2
        exact ⟨by rw [← hdone.out.2.1, hdone.out.2.2]; rfl, hB⟩
      · have HP := Lib.hid (fun w => hn2 ▸ part_any c w)
        have hon := Lib.hid (hI.on hlt (by rw [hcc]; exact hn2))
        rw [hcc] at hon
        have hel : (enc c).length ≤ 4 := by
          cases hv : validB c
          · rw [enc_no hv]; simp
          · exact (enc_len c hv).2
        clear hc hcc he x0 hI hn2
        go_wp2_with (go_at_call 29; ((with_reducible refine (HP.out _).mono ?_); rintro e w' ⟨rfl, rfl⟩))
        refine (rput_any _ _).mono ?_
        rintro e w2 ⟨A2, n2, c2, rfl, hr2, hb2⟩
        have hcv := conv_slice (c := c2) hr2
        have hB2 := hB.trans (hb2.mono hz)
        obtain ⟨en, hen⟩ : ∃ en, enc c = en := ⟨_, rfl⟩
        rw [hen] at hcv hon hel
        clear hr2 hb2 hen
        have hbd : l.length + en.length ≤ 100000 := by omega
        go_wp2_with fail
        refine ⟨⟨q + 1, l ++ en, ?_, by go_num, by go_num, hon.out, hB2⟩, ?_⟩
        · congr 1
        · simp [intOf]; omega
    · have hge : (rs.length : Int) ≤ ((i + q : Nat) : Int) := by omega
      have hdone := Lib.hid (hI.done (fun h => absurd h hlt))
      clear hI
      go_wp2_with fail
      go_ret2
      exact ⟨by rw [← hdone.out.2.1, hdone.out.2.2]; rfl, hB⟩
end Go.Proofs.YtdmgpeflanjngaaDoor
