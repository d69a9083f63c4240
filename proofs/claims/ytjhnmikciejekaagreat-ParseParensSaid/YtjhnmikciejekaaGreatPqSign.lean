/-
  Texts of one proof, in their order. No condition.
-/
import Derived.Test.YtjhnmikciejekaaGreatPqPass
namespace Go.Proofs.YtjhnmikciejekaaGreat
open Go.ChangeShapes Go.WideShapes Go.ChangeAt Go.RowKit
set_option linter.unusedVariables false
theorem below_grown {w w' : World} (h : Below w.heap.size w w') : w.grownBy w' none := ⟨h.os, h.tape, h.output, h.size, fun i hi _ => h.block i hi⟩
theorem conv_two (a b : Int) (w : World) : (convert 202 9 (.slice (some ⟨w.heap.size, 0, none⟩) 2 2)).run Tryz.prog (w.alloc (.cells #[.int .i32 a, .int .i32 b] 21)) = .ok (.string (runesBytes [a, b])) (w.alloc (.cells #[.int .i32 a, .int .i32 b] 21)) := by
  have := run_convert_runes (P := Tryz.prog) (w.alloc (.cells #[.int .i32 a, .int .i32 b] 21)) 202 9 21 ⟨w.heap.size, 0, none⟩ 2 2 [a, b] (Nat.le_refl _) Tryz.underlying202 Tryz.underlying21 Tryz.underlying9 (fun j hj => by
    have hj' : j = 0 ∨ j = 1 := by simp at hj; omega
    rcases hj' with rfl | rfl <;> simp [Addr.add])
  exact this
theorem enc_one {d : Int} {x : UInt8} (h : (Utf8.encode d).data.toList = [x]) : d = x.toNat := by
  by_cases hv : Utf8.valid d = true
  · have hv' : validB d = true := by
      rw [validB_iff]
      simp [Utf8.valid] at hv
      omega
    rw [utf8_enc hv', enc_yes hv'] at h
    rw [validB_iff] at hv'
    by_cases c0 : d ≤ 127
    · rw [encodeRune_of (Lib.encodeRuneZ_one (by omega) c0)] at h
      simp at h
      rw [← h]; simp; omega
    by_cases c1 : d ≤ 2047
    · rw [encodeRune_of (Lib.encodeRuneZ_two (by omega) c1)] at h; simp at h
    by_cases c2 : d ≤ 65535
    · rw [encodeRune_of (Lib.encodeRuneZ_three (by omega))] at h; simp at h
    · rw [encodeRune_of (Lib.encodeRuneZ_four (by omega) (by omega))] at h; simp at h
  · have : Utf8.encode d = ⟨#[239, 191, 189]⟩ := by
      unfold Utf8.encode
      simp [hv, Utf8.runeError]
    rw [this] at h; simp at h
theorem two_not {c d : Int} {x y : UInt8} (hc : validB c = true) (hx : enc c = [x]) (h : d ≠ y.toNat) : ((runesBytes [c, d]).toList == [x, y]) = false := by
  rw [beq_eq_false_iff_ne, Lib.toList_data]
  intro e1
  simp only [runesBytes, List.foldl_cons, List.foldl_nil, ByteArray.data_append, Array.toList_append] at e1
  rw [utf8_enc hc, hx] at e1
  simp at e1
  exact h (enc_one (by rw [e1]))
theorem two_other {c d : Int} {x z y : UInt8} (hc : validB c = true) (hx : enc c = [x]) (h : x ≠ z) : ((runesBytes [c, d]).toList == [z, y]) = false := by
  rw [beq_eq_false_iff_ne, Lib.toList_data]
  intro e1
  simp only [runesBytes, List.foldl_cons, List.foldl_nil, ByteArray.data_append, Array.toList_append] at e1
  rw [utf8_enc hc, hx] at e1
  simp at e1
  exact h e1.1
set_option maxRecDepth 100000 in
set_option maxHeartbeats 2000000 in
theorem signOf_two (c d : Int) (x y : UInt8) (h : (c = 45 ∧ d = 62 ∧ x = 45 ∧ y = 62) ∨ (c = 60 ∧ d = 61 ∧ x = 60 ∧ y = 61) ∨ (c = 61 ∧ d = 61 ∧ x = 61 ∧ y = 61)) (w : World) : Calls Tryz.prog 183 #[.int .i32 c, .int .i32 d] w fun e w' => e = .returned (.string ⟨#[x, y]⟩) ∧ Below w.heap.size w w' := by
  have hcv := conv_two c d w
  rcases h with ⟨rfl, rfl, rfl, rfl⟩ | ⟨rfl, rfl, rfl, rfl⟩ | ⟨rfl, rfl, rfl, rfl⟩
  · rw [show runesBytes [45, 62] = ⟨#[45, 62]⟩ from by decide +kernel] at hcv
    go_enter Tryz.func183, Tryz.ntmps183
    go_wp2
    go_ret
    exact ⟨rfl, (Below.refl _ _).alloc (Nat.le_refl _) _⟩
  · rw [show runesBytes [60, 61] = ⟨#[60, 61]⟩ from by decide +kernel] at hcv
    go_enter Tryz.func183, Tryz.ntmps183
    go_wp2
    go_ret
    exact ⟨rfl, (Below.refl _ _).alloc (Nat.le_refl _) _⟩
  · rw [show runesBytes [61, 61] = ⟨#[61, 61]⟩ from by decide +kernel] at hcv
    go_enter Tryz.func183, Tryz.ntmps183
    go_wp2
    go_ret
    exact ⟨rfl, (Below.refl _ _).alloc (Nat.le_refl _) _⟩
set_option maxRecDepth 100000 in
set_option maxHeartbeats 2000000 in
theorem signOf_one (c d : Int) (x : UInt8) (h : (c = 45 ∧ d ≠ 62 ∧ x = 45) ∨ (c = 60 ∧ d ≠ 61 ∧ x = 60) ∨ (c = 61 ∧ d ≠ 61 ∧ x = 61)) (w : World) : Calls Tryz.prog 183 #[.int .i32 c, .int .i32 d] w fun e w' => e = .returned (.string ⟨#[x]⟩) ∧ Below w.heap.size w w' := by
  have hcv := conv_two c d w
  obtain ⟨s, hs⟩ : ∃ s, runesBytes [c, d] = s := ⟨_, rfl⟩
  rcases h with ⟨rfl, hd, rfl⟩ | ⟨rfl, hd, rfl⟩ | ⟨rfl, hd, rfl⟩
  · have e1 := two_not (c := 45) (d := d) (x := 45) (y := 62) (by decide) (by decide +kernel) hd
    have e2 := two_other (c := 45) (d := d) (x := 45) (z := 60) (y := 61) (by decide) (by decide +kernel) (by decide)
    have e3 := two_other (c := 45) (d := d) (x := 45) (z := 61) (y := 61) (by decide) (by decide +kernel) (by decide)
    have e4 : Utf8.encode 45 = ⟨#[45]⟩ := by decide +kernel
    rw [hs] at e1 e2 e3 hcv
    clear hs hd
    go_enter Tryz.func183, Tryz.ntmps183
    go_wp2
    go_ret
    exact ⟨rfl, (Below.refl _ _).alloc (Nat.le_refl _) _⟩
  · have e1 := two_not (c := 60) (d := d) (x := 60) (y := 61) (by decide) (by decide +kernel) hd
    have e2 := two_other (c := 60) (d := d) (x := 60) (z := 45) (y := 62) (by decide) (by decide +kernel) (by decide)
    have e3 := two_other (c := 60) (d := d) (x := 60) (z := 61) (y := 61) (by decide) (by decide +kernel) (by decide)
    have e4 : Utf8.encode 60 = ⟨#[60]⟩ := by decide +kernel
    rw [hs] at e1 e2 e3 hcv
    clear hs hd
    go_enter Tryz.func183, Tryz.ntmps183
    go_wp2
    go_ret
    exact ⟨rfl, (Below.refl _ _).alloc (Nat.le_refl _) _⟩
  · have e1 := two_not (c := 61) (d := d) (x := 61) (y := 61) (by decide) (by decide +kernel) hd
    have e2 := two_other (c := 61) (d := d) (x := 61) (z := 45) (y := 62) (by decide) (by decide +kernel) (by decide)
    have e3 := two_other (c := 61) (d := d) (x := 61) (z := 60) (y := 61) (by decide) (by decide +kernel) (by decide)
    have e4 : Utf8.encode 61 = ⟨#[61]⟩ := by decide +kernel
    rw [hs] at e1 e2 e3 hcv
    clear hs hd
    go_enter Tryz.func183, Tryz.ntmps183
    go_wp2
    go_ret
    exact ⟨rfl, (Below.refl _ _).alloc (Nat.le_refl _) _⟩
set_option maxRecDepth 100000 in
set_option maxHeartbeats 2000000 in
theorem signOf_sign (c d : Int) (x : UInt8) (h : (c = 40 ∧ x = 40) ∨ (c = 41 ∧ x = 41) ∨ (c = 44 ∧ x = 44) ∨ (c = 124 ∧ x = 124) ∨ (c = 58 ∧ x = 58) ∨ (c = 43 ∧ x = 43) ∨ (c = 42 ∧ x = 42) ∨ (c = 47 ∧ x = 47) ∨ (c = 37 ∧ x = 37) ∨ (c = 95 ∧ x = 95) ∨ (c = 126 ∧ x = 126)) (w : World) : Calls Tryz.prog 183 #[.int .i32 c, .int .i32 d] w fun e w' => e = .returned (.string ⟨#[x]⟩) ∧ Below w.heap.size w w' := by
  have hen : ∀ c : Int, ∀ x : UInt8, Utf8.encode c = ⟨#[x]⟩ → True := fun _ _ _ => trivial
  rcases h with ⟨rfl, rfl⟩ | ⟨rfl, rfl⟩ | ⟨rfl, rfl⟩ | ⟨rfl, rfl⟩ | ⟨rfl, rfl⟩ | ⟨rfl, rfl⟩ | ⟨rfl, rfl⟩ | ⟨rfl, rfl⟩ | ⟨rfl, rfl⟩ | ⟨rfl, rfl⟩ | ⟨rfl, rfl⟩
  all_goals
    clear hen
    go_enter Tryz.func183, Tryz.ntmps183
    go_wp2
    go_ret
    exact ⟨rfl, Below.refl _ _⟩
set_option maxRecDepth 100000 in
set_option maxHeartbeats 2000000 in
theorem signOf_none (c d : Int) (h : ¬ (c = 45 ∨ c = 60 ∨ c = 61 ∨ c = 40 ∨ c = 41 ∨ c = 44 ∨ c = 124 ∨ c = 58 ∨ c = 43 ∨ c = 42 ∨ c = 47 ∨ c = 37 ∨ c = 95 ∨ c = 126)) (w : World) : Calls Tryz.prog 183 #[.int .i32 c, .int .i32 d] w fun e w' => e = .returned (.string ⟨#[]⟩) ∧ Below w.heap.size w w' := by
  have f : ∀ n : Int, c ≠ n → (c == n) = false := fun n hn => by simpa using hn
  have e1 := f 45 (by omega); have e2 := f 60 (by omega); have e3 := f 61 (by omega); have e4 := f 40 (by omega); have e5 := f 41 (by omega); have e6 := f 44 (by omega); have e7 := f 124 (by omega)
  have e8 := f 58 (by omega); have e9 := f 43 (by omega); have e10 := f 42 (by omega); have e11 := f 47 (by omega); have e12 := f 37 (by omega); have e13 := f 95 (by omega); have e14 := f 126 (by omega)
  clear f h
  go_enter Tryz.func183, Tryz.ntmps183
  go_wp2
  go_ret
  exact ⟨rfl, Below.refl _ _⟩
theorem signOf_any (c d : Int) (w : World) : Calls Tryz.prog 183 #[.int .i32 c, .int .i32 d] w fun e w' => e = .returned (.string ⟨(signF c d).toArray⟩) ∧ Below w.heap.size w w' := by
  unfold signF
  by_cases h1 : c = 45 ∧ d = 62
  · rw [if_pos h1]; exact signOf_two c d 45 62 (.inl ⟨h1.1, h1.2, rfl, rfl⟩) w
  rw [if_neg h1]
  by_cases h2 : c = 60 ∧ d = 61
  · rw [if_pos h2]; exact signOf_two c d 60 61 (.inr (.inl ⟨h2.1, h2.2, rfl, rfl⟩)) w
  rw [if_neg h2]
  by_cases h3 : c = 61 ∧ d = 61
  · rw [if_pos h3]; exact signOf_two c d 61 61 (.inr (.inr ⟨h3.1, h3.2, rfl, rfl⟩)) w
  rw [if_neg h3]
  by_cases h : c = 45 ∨ c = 60 ∨ c = 61 ∨ c = 40 ∨ c = 41 ∨ c = 44 ∨ c = 124 ∨ c = 58 ∨ c = 43 ∨ c = 42 ∨ c = 47 ∨ c = 37 ∨ c = 95 ∨ c = 126
  · rw [if_pos h]
    rcases h with rfl | rfl | rfl | h
    · exact signOf_one 45 d 45 (.inl ⟨rfl, fun e => h1 ⟨rfl, e⟩, rfl⟩) w
    · exact signOf_one 60 d 60 (.inr (.inl ⟨rfl, fun e => h2 ⟨rfl, e⟩, rfl⟩)) w
    · exact signOf_one 61 d 61 (.inr (.inr ⟨rfl, fun e => h3 ⟨rfl, e⟩, rfl⟩)) w
    · refine signOf_sign c d _ ?_ w
      rcases h with rfl | rfl | rfl | rfl | rfl | rfl | rfl | rfl | rfl | rfl | rfl <;> simp
  · rw [if_neg h]; exact signOf_none c d h w
theorem signF_form (c d : Int) : signF c d = [] ∨ (∃ x, signF c d = [x] ∧ c ≠ -1) ∨ (∃ x y, signF c d = [x, y] ∧ c ≠ -1 ∧ d ≠ -1) := by
  unfold signF
  split
  · exact .inr (.inr ⟨_, _, rfl, by omega, by omega⟩)
  split
  · exact .inr (.inr ⟨_, _, rfl, by omega, by omega⟩)
  split
  · exact .inr (.inr ⟨_, _, rfl, by omega, by omega⟩)
  split
  · exact .inr (.inl ⟨_, rfl, by omega⟩)
  · exact .inl rfl
def SignTells (R : Nat) (A : Option Addr) (c : Nat) (rs : List Ent) (eL eC : Int) (k : Nat) (w : World) (e : Ending) (w' : World) : Prop :=
  w.grownBy w' (some R) ∧ e = .returned (.tuple #[.string ⟨(signF (runeAt rs k) (runeAt rs (k + 1))).toArray⟩, .int .i64 (if signF (runeAt rs k) (runeAt rs (k + 1)) = [] then 2 else 0)]) ∧ Rd R A c rs eL eC (k + (signF (runeAt rs k) (runeAt rs (k + 1))).length) w'
theorem in_of {rs : List Ent} {k : Nat} (h : runeAt rs k ≠ -1) : k < rs.length := by
  apply Classical.byContradiction; intro hn
  exact h (runeAt_out (by omega))
section
variable {R : Nat} {A : Option Addr} {c : Nat} {rs : List Ent} {eL eC : Int} {k : Nat}
set_option maxRecDepth 100000 in
set_option maxHeartbeats 2000000 in
theorem sign_any (w : World) (h : Rd R A c rs eL eC k w) : Calls Tryz.prog 153 #[.pointer (some ⟨R, 0, none⟩)] w (SignTells R A c rs eL eC k w) := by
  obtain ⟨a, ha⟩ : ∃ a, runeAt rs k = a := ⟨_, rfl⟩
  obtain ⟨b, hb⟩ : ∃ b, runeAt rs (k + 1) = b := ⟨_, rfl⟩
  have h0 : Hid (∀ w, Rd R A c rs eL eC k w → Calls Tryz.prog 145 #[.pointer (some ⟨R, 0, none⟩), .int .i64 0] w fun e w' => e = .returned (.int .i32 a) ∧ ∃ n, w' = w.drewN n) := Lib.hid (fun w h => ha ▸ ahead0 w h)
  have h1 : Hid (∀ w, Rd R A c rs eL eC k w → Calls Tryz.prog 145 #[.pointer (some ⟨R, 0, none⟩), .int .i64 1] w fun e w' => e = .returned (.int .i32 b) ∧ ∃ n, w' = w.drewN n) := Lib.hid (fun w h => hb ▸ ahead1 w h)
  have hS : Hid (∀ e w', w.grownBy w' (some R) → e = .returned (.tuple #[.string ⟨(signF a b).toArray⟩, .int .i64 (if signF a b = [] then 2 else 0)]) → Rd R A c rs eL eC (k + (signF a b).length) w' → SignTells R A c rs eL eC k w e w') := Lib.hid (fun e w' g1 g2 g3 => by rw [← ha, ← hb] at g2 g3; exact ⟨g1, g2, g3⟩)
  have hf := signF_form a b
  have Ha := Lib.hid ha
  have Hb := Lib.hid hb
  have HO := Lib.hid (fun w => signOf_any a b w)
  clear ha hb
  obtain ⟨s, hs⟩ : ∃ s, signF a b = s := ⟨_, rfl⟩
  rw [hs] at hS hf HO
  clear hs
  go_enter Tryz.func153, Tryz.ntmps153
  go_wp2_with fail
  refine (h0.out _ h).mono ?_
  rintro e w1 ⟨rfl, n1, rfl⟩
  have hr1 := h.quiet (drewN_grown w n1)
  go_wp2_with fail
  refine (h1.out _ hr1).mono ?_
  rintro e w2 ⟨rfl, n2, rfl⟩
  have hr2 := h.quiet (drewN_grown w (n1 + n2))
  go_wp2_with fail
  refine (HO.out _).mono ?_
  rintro e w3 ⟨rfl, hb3⟩
  have hr3 := hr2.quiet (below_grown hb3)
  have hg3 : w.grownBy w3 (some R) := grown_quiet (grown_trans (drewN_grown w (n1 + n2)) (below_grown hb3))
  clear hr1 hr2 hb3
  rcases hf with rfl | ⟨x, rfl, hx⟩ | ⟨x, y, rfl, hx, hy⟩
  · go_wp2
    go_ret2
    exact hS.out _ _ hg3 rfl hr3
  · have hk1 := in_of (by rw [Ha.out]; exact hx)
    go_wp2
    go_loopw [14] (fun i wr => ∃ j : Nat, j ≤ 1 ∧ i = .int .i64 (j : Int) ∧ w.grownBy wr (some R) ∧ Rd R A c rs eL eC (k + j) wr) (fun i _ => 1 - (intOf i).toNat)
    case atStart => exact ⟨0, by omega, rfl, hg3, hr3⟩
    case round =>
      obtain ⟨j, hj, rfl, hg, hr⟩ := hrel
      by_cases hlt : j < 1
      · obtain rfl : j = 0 := by omega
        go_wp2_with (go_at_call 179; ((with_reducible refine (step_any _ hr).mono ?_); rintro e w' ⟨rfl, hg', hr'⟩))
        go_roundw
        case rel => exact ⟨1, by omega, rfl, grown_trans hg hg', by rw [show k + 0 = k from rfl, onK_in hk1] at hr'; exact hr'⟩
        case measure => simp [intOf]
      · obtain rfl : j = 1 := by omega
        go_wp2
        go_ret2
        exact hS.out _ _ hg rfl hr
  · have hk1 := in_of (by rw [Ha.out]; exact hx)
    have hk2 := in_of (by rw [Hb.out]; exact hy)
    go_wp2
    go_loopw [14] (fun i wr => ∃ j : Nat, j ≤ 2 ∧ i = .int .i64 (j : Int) ∧ w.grownBy wr (some R) ∧ Rd R A c rs eL eC (k + j) wr) (fun i _ => 2 - (intOf i).toNat)
    case atStart => exact ⟨0, by omega, rfl, hg3, hr3⟩
    case round =>
      obtain ⟨j, hj, rfl, hg, hr⟩ := hrel
      by_cases hlt : j < 2
      · have hkj : k + j < rs.length := by omega
        obtain rfl | rfl : j = 0 ∨ j = 1 := by omega
        · go_wp2_with (go_at_call 179; ((with_reducible refine (step_any _ hr).mono ?_); rintro e w' ⟨rfl, hg', hr'⟩))
          go_roundw
          case rel => exact ⟨1, by omega, rfl, grown_trans hg hg', by rw [onK_in hkj] at hr'; exact hr'⟩
          case measure => simp [intOf]
        · go_wp2_with (go_at_call 179; ((with_reducible refine (step_any _ hr).mono ?_); rintro e w' ⟨rfl, hg', hr'⟩))
          go_roundw
          case rel => exact ⟨2, by omega, rfl, grown_trans hg hg', by rw [onK_in hkj] at hr'; exact hr'⟩
          case measure => simp [intOf]
      · obtain rfl : j = 2 := by omega
        go_wp2
        go_ret2
        exact hS.out _ _ hg rfl hr
end
end Go.Proofs.YtjhnmikciejekaaGreat
