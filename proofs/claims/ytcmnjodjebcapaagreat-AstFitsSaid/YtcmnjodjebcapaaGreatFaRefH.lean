/-
  Texts of one proof, in the order in which they lean on one another. No condition.
-/
import Derived.Test.YtcmnjodjebcapaaGreatFaRefG
namespace Go.Proofs.YtcmnjodjebcapaaGreat
open Go.ChangeShapes Go.WideShapes Go.ChangeAt Go.RowKit
set_option linter.unusedVariables false
structure NmdI (s : ByteArray) (up : Bool) (q i : Nat) : Prop where
  le : i ≤ s.size
  few : q ≤ 24
  rest : ∃ f L C pre, s.size ≤ i + f ∧ badF s f i L C = badOf s ∧ runesI (runesOf s) = pre ++ runesI (runesF s f i L C) ∧ pre.length = q ∧ pre.all nameB = true ∧ (0 < q → firstB up (pre.headD 0) = true)
theorem NmdI.start (s : ByteArray) (up : Bool) : NmdI s up 0 0 := ⟨Nat.zero_le _, by omega, s.size, 1, 1, [], by omega, rfl, rfl, rfl, rfl, fun h => by omega⟩
theorem NmdI.bad {s : ByteArray} {up : Bool} {q i : Nat} (h : NmdI s up q i) (hi : i < s.size) (hb : badAt s i = true) : rnamedB s up = false := by
  obtain ⟨f, L, C, pre, hf, hbad, _⟩ := h.rest
  obtain ⟨f, rfl⟩ : ∃ f', f = f' + 1 := ⟨f - 1, by omega⟩
  rw [badF_bad s f i L C hi hb] at hbad
  rw [rnamedB, ← hbad]; rfl
theorem NmdI.next {s : ByteArray} {up : Bool} {q i : Nat} (h : NmdI s up q i) (hi : i < s.size) (hb : badAt s i = false) :
    (nameB ((Utf8.decode s i).1 : Int) = false → rnamedB s up = false) ∧ (q = 0 → firstB up ((Utf8.decode s i).1 : Int) = false → rnamedB s up = false) ∧ (24 ≤ q → rnamedB s up = false) ∧
    (nameB ((Utf8.decode s i).1 : Int) = true → (q = 0 → firstB up ((Utf8.decode s i).1 : Int) = true) → q < 24 → NmdI s up (q + 1) (i + (Utf8.decode s i).2)) := by
  obtain ⟨f, L, C, pre, hf, hbad, hr, hl, ha, h0⟩ := h.rest
  obtain ⟨f, rfl⟩ : ∃ f', f = f' + 1 := ⟨f - 1, by omega⟩
  have hw := dec_width s i hi
  rw [runesF_good s f i L C hi hb] at hr
  rw [badF_good s f i L C hi hb] at hbad
  have hr2 : runesI (runesOf s) = pre ++ (((Utf8.decode s i).1 : Int) :: runesI (runesF s f (i + (Utf8.decode s i).2) (nlL (Utf8.decode s i).1 L) (nlC (Utf8.decode s i).1 C))) := hr
  have no : nameRunes up (runesI (runesOf s)) = false → rnamedB s up = false := fun e => by rw [rnamedB, e]; simp
  refine ⟨fun e => no ?_, fun eq e => no ?_, fun e => no ?_, fun e1 e2 e3 => ⟨by omega, by omega, f, _, _, pre ++ [((Utf8.decode s i).1 : Int)], by omega, hbad, by rw [hr2]; simp, by simp [hl], by simp [ha, e1], fun _ => ?_⟩⟩
  · rw [nameRunes, hr2]; simp [e]
  · subst eq
    have : pre = [] := List.eq_nil_of_length_eq_zero hl
    rw [nameRunes, hr2, this]; simp only [List.nil_append, List.headD_cons, e, Bool.and_false]
  · rw [nameRunes, hr2]
    have : ¬ ((pre ++ (((Utf8.decode s i).1 : Int) :: runesI (runesF s f (i + (Utf8.decode s i).2) (nlL (Utf8.decode s i).1 L) (nlC (Utf8.decode s i).1 C)))).length ≤ 24) := by simp; omega
    simp only [this, and_false, decide_false, Bool.false_and]
  · cases pre with
    | nil => exact e2 (by simpa using hl.symm)
    | cons a t => exact h0 (by simp at hl; omega)
theorem NmdI.done {s : ByteArray} {up : Bool} {q i : Nat} (h : NmdI s up q i) (hi : s.size ≤ i) : rnamedB s up = (decide (0 < q) && !wordB s.data.toList) := by
  obtain ⟨f, L, C, pre, hf, hbad, hr, hl, ha, h0⟩ := h.rest
  have hfew := h.few
  rw [runesF_end s f i L C (by omega)] at hr
  rw [badF_end s f i L C (by omega)] at hbad
  have hr2 : runesI (runesOf s) = pre := by rw [hr]; simp [runesI]
  rw [rnamedB, ← hbad, hr2, nameRunes, ha, hl]
  by_cases hq : 0 < q
  · rw [h0 hq]; simp [hq, hfew]
  · simp [hq]
set_option maxRecDepth 100000 in
set_option maxHeartbeats 4000000 in
theorem rnamed_any (s : ByteArray) (up : Bool) (hs : s.size ≤ 16384) (w : World) : Calls Tryz.prog 43 #[.string s, .bool up] w fun e w' => e = .returned (.bool (rnamedB s up)) ∧ Below w.heap.size w w' := by
  have HW := Lib.hid (fun w => rword_any s w)
  go_enter Tryz.func43, Tryz.ntmps43
  go_wp2_with fail
  go_loopw [5, 6] (fun n i wr => ∃ q p : Nat, n = .int .i64 (q : Int) ∧ i = .int .i64 (p : Int) ∧ NmdI s up q p ∧ wr = w) (fun _ i _ => s.size - (intOf i).toNat)
  case atStart => exact ⟨0, 0, rfl, rfl, NmdI.start s up, rfl⟩
  case round =>
    obtain ⟨q, p, rfl, rfl, hI, rfl⟩ := hrel
    have hle := hI.le
    have hfew := hI.few
    by_cases hlt : p < s.size
    · have hlt' : (p : Int) < s.size := by omega
      cases hb : badAt s p
      · have hn := hI.next hlt hb
        have hw := dec_width s p hlt
        have HO := Lib.hid (fun w => one_yes s p hs hlt hb w)
        obtain ⟨c, hc⟩ : ∃ c : Int, ((Utf8.decode s p).1 : Int) = c := ⟨_, rfl⟩
        obtain ⟨dw, hdw⟩ : ∃ c : Nat, (Utf8.decode s p).2 = c := ⟨_, rfl⟩
        rw [hc, hdw] at HO hn
        rw [hdw] at hw
        have hd0 : ((dw : Int) == 0) = false := by simp; omega
        have Hn := Lib.hid hn
        clear hn hI hb hc hdw
        cases hnb : nameB c
        · have HP := Lib.hid (fun w => hnb ▸ part_any c w)
          have hf := Lib.hid (Hn.out.1 hnb)
          go_wp2_with (first | (go_at_call 95; ((with_reducible refine (HO.out _).mono ?_); rintro e w' ⟨rfl, rfl⟩)) | (go_at_call 96; ((with_reducible refine (HP.out _).mono ?_); rintro e w' ⟨rfl, rfl⟩)))
          go_ret
          exact ⟨ret_bool hf.out.symm, Below.refl _ _⟩
        · have HP := Lib.hid (fun w => hnb ▸ part_any c w)
          obtain ⟨bl, hbl⟩ : ∃ b, lowB c = b := ⟨_, rfl⟩
          obtain ⟨bu, hbu⟩ : ∃ b, upB c = b := ⟨_, rfl⟩
          have HL := Lib.hid (fun w => hbl ▸ rlow_any c w)
          have HU := Lib.hid (fun w => hbu ▸ rup_any c w)
          have hfb : firstB up c = if up then bu else bl := by rw [firstB, hbl, hbu]
          clear hbl hbu
          by_cases hq0 : q = 0
          · subst hq0
            cases hfv : firstB up c
            · have hf := Lib.hid (Hn.out.2.1 rfl hfv)
              rw [hfb] at hfv
              clear hfb
              cases up
              · obtain rfl : bl = false := by simpa using hfv
                clear hfv
                go_wp2_with (first | (go_at_call 95; ((with_reducible refine (HO.out _).mono ?_); rintro e w' ⟨rfl, rfl⟩)) | (go_at_call 96; ((with_reducible refine (HP.out _).mono ?_); rintro e w' ⟨rfl, rfl⟩)) | (go_at_call 97; ((with_reducible refine (HU.out _).mono ?_); rintro e w' ⟨rfl, rfl⟩)) | (go_at_call 98; ((with_reducible refine (HL.out _).mono ?_); rintro e w' ⟨rfl, rfl⟩)))
                go_ret
                exact ⟨ret_bool hf.out.symm, Below.refl _ _⟩
              · obtain rfl : bu = false := by simpa using hfv
                clear hfv
                go_wp2_with (first | (go_at_call 95; ((with_reducible refine (HO.out _).mono ?_); rintro e w' ⟨rfl, rfl⟩)) | (go_at_call 96; ((with_reducible refine (HP.out _).mono ?_); rintro e w' ⟨rfl, rfl⟩)) | (go_at_call 97; ((with_reducible refine (HU.out _).mono ?_); rintro e w' ⟨rfl, rfl⟩)) | (go_at_call 98; ((with_reducible refine (HL.out _).mono ?_); rintro e w' ⟨rfl, rfl⟩)))
                go_ret
                exact ⟨ret_bool hf.out.symm, Below.refl _ _⟩
            · have hon := Lib.hid (Hn.out.2.2.2 hnb (fun _ => hfv) (by omega))
              rw [hfb] at hfv
              clear hfb
              cases up
              · obtain rfl : bl = true := by simpa using hfv
                clear hfv
                go_wp2_with (first | (go_at_call 95; ((with_reducible refine (HO.out _).mono ?_); rintro e w' ⟨rfl, rfl⟩)) | (go_at_call 96; ((with_reducible refine (HP.out _).mono ?_); rintro e w' ⟨rfl, rfl⟩)) | (go_at_call 97; ((with_reducible refine (HU.out _).mono ?_); rintro e w' ⟨rfl, rfl⟩)) | (go_at_call 98; ((with_reducible refine (HL.out _).mono ?_); rintro e w' ⟨rfl, rfl⟩)))
                refine ⟨⟨1, p + dw, by go_num, by go_num, hon.out, trivial⟩, ?_⟩
                simp [intOf]; omega
              · obtain rfl : bu = true := by simpa using hfv
                clear hfv
                go_wp2_with (first | (go_at_call 95; ((with_reducible refine (HO.out _).mono ?_); rintro e w' ⟨rfl, rfl⟩)) | (go_at_call 96; ((with_reducible refine (HP.out _).mono ?_); rintro e w' ⟨rfl, rfl⟩)) | (go_at_call 97; ((with_reducible refine (HU.out _).mono ?_); rintro e w' ⟨rfl, rfl⟩)) | (go_at_call 98; ((with_reducible refine (HL.out _).mono ?_); rintro e w' ⟨rfl, rfl⟩)))
                refine ⟨⟨1, p + dw, by go_num, by go_num, hon.out, trivial⟩, ?_⟩
                simp [intOf]; omega
          · have q0 : ((q : Int) == 0) = false := by simp; omega
            clear hfb
            by_cases h24 : 24 ≤ q
            · have hf := Lib.hid (Hn.out.2.2.1 h24)
              have h24' : (24 : Int) ≤ (q : Int) := by omega
              go_wp2_with (first | (go_at_call 95; ((with_reducible refine (HO.out _).mono ?_); rintro e w' ⟨rfl, rfl⟩)) | (go_at_call 96; ((with_reducible refine (HP.out _).mono ?_); rintro e w' ⟨rfl, rfl⟩)) | (go_at_call 97; ((with_reducible refine (HU.out _).mono ?_); rintro e w' ⟨rfl, rfl⟩)) | (go_at_call 98; ((with_reducible refine (HL.out _).mono ?_); rintro e w' ⟨rfl, rfl⟩)))
              go_ret
              exact ⟨ret_bool hf.out.symm, Below.refl _ _⟩
            · have hon := Lib.hid (Hn.out.2.2.2 hnb (fun e => absurd e hq0) (by omega))
              have h24' : (q : Int) < 24 := by omega
              go_wp2_with (first | (go_at_call 95; ((with_reducible refine (HO.out _).mono ?_); rintro e w' ⟨rfl, rfl⟩)) | (go_at_call 96; ((with_reducible refine (HP.out _).mono ?_); rintro e w' ⟨rfl, rfl⟩)) | (go_at_call 97; ((with_reducible refine (HU.out _).mono ?_); rintro e w' ⟨rfl, rfl⟩)) | (go_at_call 98; ((with_reducible refine (HL.out _).mono ?_); rintro e w' ⟨rfl, rfl⟩)))
              refine ⟨⟨q + 1, p + dw, by go_num, by go_num, hon.out, trivial⟩, ?_⟩
              simp [intOf]; omega
      · have HO := Lib.hid (fun w => one_no s p hs hlt hb w)
        have hf := Lib.hid (hI.bad hlt hb)
        clear hI hb
        go_wp2_with (go_at_call 95; ((with_reducible refine (HO.out _).mono ?_); rintro e w' ⟨rfl, rfl⟩))
        go_ret
        exact ⟨ret_bool hf.out.symm, Below.refl _ _⟩
    · have hge : (s.size : Int) ≤ p := by omega
      have hf := Lib.hid (hI.done (by omega))
      clear hI
      cases hwb : wordB s.data.toList
      all_goals
        have HW2 := Lib.hid (fun w => hwb ▸ HW.out w)
        rw [hwb] at hf
        by_cases hq : 0 < q
        · have hq' : 0 < (q : Int) := by omega
          go_wp2_with (go_at_call 99; ((with_reducible refine (HW2.out _).mono ?_); rintro e w' ⟨rfl, rfl⟩))
          go_ret
          exact ⟨ret_bool (by rw [hf.out]; simp [hq]), Below.refl _ _⟩
        · obtain rfl : q = 0 := by omega
          go_wp2_with (go_at_call 99; ((with_reducible refine (HW2.out _).mono ?_); rintro e w' ⟨rfl, rfl⟩))
          go_ret
          exact ⟨ret_bool (by rw [hf.out]; simp), Below.refl _ _⟩
end Go.Proofs.YtcmnjodjebcapaaGreat
