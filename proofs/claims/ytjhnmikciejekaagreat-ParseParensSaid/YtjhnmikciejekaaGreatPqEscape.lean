/-
  Texts of one proof, in their order. No condition.
-/
import Derived.Test.YtjhnmikciejekaaGreatPqNumber
namespace Go.Proofs.YtjhnmikciejekaaGreat
open Go.ChangeShapes Go.WideShapes Go.ChangeAt Go.RowKit
set_option linter.unusedVariables false
theorem hexV_none : hexV (-1) = -1 := by decide
theorem escF_x (rs : List Ent) (k : Nat) (h : runeAt rs k = 120) : escF ((runesI rs).drop k) = if hexV (runeAt rs (k + 1)) < 0 ∨ hexV (runeAt rs (k + 1 + 1)) < 0 then none else some ((16 * hexV (runeAt rs (k + 1)) + hexV (runeAt rs (k + 1 + 1))).toNat.toUInt8, 3) := by
  have hk : k < rs.length := by
    apply Classical.byContradiction; intro hn
    rw [runeAt_out (by omega)] at h; omega
  rw [drop_at hk, h]
  by_cases h1 : k + 1 < rs.length
  · rw [drop_at h1]
    by_cases h2 : k + 1 + 1 < rs.length
    · rw [drop_at h2]; rfl
    · rw [drop_end (rs := rs) (k := k + 1 + 1) (by omega), runeAt_out (rs := rs) (k := k + 1 + 1) (by omega), hexV_none, if_pos (Or.inr (by omega))]; rfl
  · rw [drop_end (rs := rs) (k := k + 1) (by omega), runeAt_out (rs := rs) (k := k + 1) (by omega), hexV_none, if_pos (Or.inl (by omega))]; rfl
theorem escF_none {l : List Int} (h : l = [] ∨ ∃ c t, l = c :: t ∧ c ≠ 120 ∧ c ≠ 34 ∧ c ≠ 92 ∧ c ≠ 110 ∧ c ≠ 116) : escF l = none := by
  rcases h with rfl | ⟨c, t, rfl, h1, h2, h3, h4, h5⟩
  · rfl
  · unfold escF
    split <;> simp_all
theorem onK_in {rs : List Ent} {k : Nat} (h : k < rs.length) : onK rs k = k + 1 := if_pos h
def EscTells (R : Nat) (A : Option Addr) (c : Nat) (rs : List Ent) (eL eC : Int) (k : Nat) (w : World) (e : Ending) (w' : World) : Prop :=
  w.grownBy w' (some R) ∧ ((∃ b m, escF ((runesI rs).drop k) = some (b, m) ∧ e = .returned (.tuple #[.int .u8 (b.toNat : Int), .bool true]) ∧ Rd R A c rs eL eC (k + m) w') ∨ (escF ((runesI rs).drop k) = none ∧ e = .returned (.tuple #[.int .u8 0, .bool false]) ∧ ∃ j, Rd R A c rs eL eC j w'))
section
variable {R : Nat} {A : Option Addr} {c : Nat} {rs : List Ent} {eL eC : Int} {k : Nat}
set_option maxHeartbeats 1000000 in
theorem escape_plain (w : World) (h : Rd R A c rs eL eC k w) (v : Int) (hv : runeAt rs k = v) (hx : v ≠ 120) : Calls Tryz.prog 182 #[.pointer (some ⟨R, 0, none⟩)] w (EscTells R A c rs eL eC k w) := by
  have hin : v = 34 ∨ v = 92 ∨ v = 110 ∨ v = 116 → k < rs.length := fun hh => by
    apply Classical.byContradiction; intro hn
    rw [runeAt_out (by omega)] at hv; omega
  have hs : Hid (∀ w, Rd R A c rs eL eC k w → Calls Tryz.prog 179 #[.pointer (some ⟨R, 0, none⟩)] w fun e w' => e = .returned (.int .i32 v) ∧ w.grownBy w' (some R) ∧ Rd R A c rs eL eC (onK rs k) w') := Lib.hid (fun w h => hv ▸ step_any w h)
  have hb := h.rune_bd k
  rw [hv] at hb
  obtain ⟨hb0, hb1⟩ := hb
  have Hin := Lib.hid hin
  have Hv := Lib.hid hv
  clear hin hv
  by_cases h1 : v = 34
  · subst h1
    go_enter Tryz.func182, Tryz.ntmps182
    go_wp2_with (go_at_call 179; ((with_reducible refine (hs.out _ h).mono ?_); rintro e w' ⟨rfl, hg, hr⟩))
    go_ret2
    have hk := Hin.out (by simp)
    rw [onK_in hk] at hr
    exact ⟨hg, .inl ⟨34, 1, by rw [drop_at hk, Hv.out]; rfl, rfl, hr⟩⟩
  by_cases h2 : v = 92
  · subst h2
    go_enter Tryz.func182, Tryz.ntmps182
    go_wp2_with (go_at_call 179; ((with_reducible refine (hs.out _ h).mono ?_); rintro e w' ⟨rfl, hg, hr⟩))
    go_ret2
    have hk := Hin.out (by simp)
    rw [onK_in hk] at hr
    exact ⟨hg, .inl ⟨92, 1, by rw [drop_at hk, Hv.out]; rfl, rfl, hr⟩⟩
  by_cases h3 : v = 110
  · subst h3
    go_enter Tryz.func182, Tryz.ntmps182
    go_wp2_with (go_at_call 179; ((with_reducible refine (hs.out _ h).mono ?_); rintro e w' ⟨rfl, hg, hr⟩))
    go_ret2
    have hk := Hin.out (by simp)
    rw [onK_in hk] at hr
    exact ⟨hg, .inl ⟨10, 1, by rw [drop_at hk, Hv.out]; rfl, rfl, hr⟩⟩
  by_cases h4 : v = 116
  · subst h4
    go_enter Tryz.func182, Tryz.ntmps182
    go_wp2_with (go_at_call 179; ((with_reducible refine (hs.out _ h).mono ?_); rintro e w' ⟨rfl, hg, hr⟩))
    go_ret2
    have hk := Hin.out (by simp)
    rw [onK_in hk] at hr
    exact ⟨hg, .inl ⟨9, 1, by rw [drop_at hk, Hv.out]; rfl, rfl, hr⟩⟩
  · have e0 : (v == 120) = false := by simpa using hx
    have e1 : (v == 34) = false := by simpa using h1
    have e2 : (v == 92) = false := by simpa using h2
    have e3 : (v == 110) = false := by simpa using h3
    have e4 : (v == 116) = false := by simpa using h4
    have hno : escF ((runesI rs).drop k) = none := by
      apply escF_none
      by_cases hk : k < rs.length
      · right; rw [drop_at hk, Hv.out]; exact ⟨v, _, rfl, hx, h1, h2, h3, h4⟩
      · left; exact drop_end (by omega)
    have Hno := Lib.hid hno
    clear hno hx h1 h2 h3 h4
    go_enter Tryz.func182, Tryz.ntmps182
    go_wp2_with (go_at_call 179; ((with_reducible refine (hs.out _ h).mono ?_); rintro e w' ⟨rfl, hg, hr⟩))
    go_ret2
    exact ⟨hg, .inr ⟨Hno.out, rfl, _, hr⟩⟩
theorem or_hex (a b : Int) (ha : 0 ≤ a ∧ a ≤ 15) (hb : 0 ≤ b ∧ b ≤ 15) : bits .or .i32 (a * 16) b = 16 * a + b := by
  obtain ⟨n, rfl⟩ : ∃ n : Nat, a = n := ⟨a.toNat, by omega⟩
  obtain ⟨m, rfl⟩ : ∃ m : Nat, b = m := ⟨b.toNat, by omega⟩
  have hn : n < 16 := by omega
  have hm : m < 16 := by omega
  have : ∀ x : Fin 16, ∀ y : Fin 16, bits .or .i32 (((x.1 : Nat) : Int) * 16) ((y.1 : Nat) : Int) = 16 * ((x.1 : Nat) : Int) + ((y.1 : Nat) : Int) := by decide +kernel
  exact this ⟨n, hn⟩ ⟨m, hm⟩
theorem esc_ret {a b : Int} (h : a = b) : Ending.returned (.tuple #[.int .u8 a, .bool true]) = .returned (.tuple #[.int .u8 b, .bool true]) := by rw [h]
set_option maxHeartbeats 2000000 in
theorem escape_x (w : World) (h : Rd R A c rs eL eC k w) (hx : runeAt rs k = 120) : Calls Tryz.prog 182 #[.pointer (some ⟨R, 0, none⟩)] w (EscTells R A c rs eL eC k w) := by
  have hk : k < rs.length := by
    apply Classical.byContradiction; intro hn
    rw [runeAt_out (by omega)] at hx; omega
  have hE := escF_x rs k hx
  obtain ⟨a, ha⟩ : ∃ a, runeAt rs (k + 1) = a := ⟨_, rfl⟩
  obtain ⟨b, hb⟩ : ∃ b, runeAt rs (k + 1 + 1) = b := ⟨_, rfl⟩
  have ba := h.rune_bd (k + 1)
  have bb := h.rune_bd (k + 1 + 1)
  have s0 : Hid (∀ w, Rd R A c rs eL eC k w → Calls Tryz.prog 179 #[.pointer (some ⟨R, 0, none⟩)] w fun e w' => e = .returned (.int .i32 120) ∧ w.grownBy w' (some R) ∧ Rd R A c rs eL eC (k + 1) w') := Lib.hid (fun w h => by rw [← onK_in hk, ← hx]; exact step_any w h)
  have s1 : Hid (∀ w, Rd R A c rs eL eC (k + 1) w → Calls Tryz.prog 179 #[.pointer (some ⟨R, 0, none⟩)] w fun e w' => e = .returned (.int .i32 a) ∧ w.grownBy w' (some R) ∧ Rd R A c rs eL eC (onK rs (k + 1)) w') := Lib.hid (fun w h => by rw [← ha]; exact step_any w h)
  have s2 : Hid (∀ w, Rd R A c rs eL eC (onK rs (k + 1)) w → Calls Tryz.prog 179 #[.pointer (some ⟨R, 0, none⟩)] w fun e w' => ∃ b', e = .returned (.int .i32 b') ∧ (k + 1 < rs.length → b' = b ∧ True) ∧ -1 ≤ b' ∧ b' ≤ 1114111 ∧ w.grownBy w' (some R) ∧ ∃ j, Rd R A c rs eL eC j w' ∧ (k + 1 + 1 < rs.length → j = k + 3)) := Lib.hid (fun w h => by
    refine (step_any w h).mono ?_
    rintro e w' ⟨rfl, hg, hr⟩
    have hbd := h.rune_bd (onK rs (k + 1))
    refine ⟨_, rfl, fun hl => ⟨by rw [onK_in hl]; exact hb, trivial⟩, hbd.1, hbd.2, hg, _, hr, fun hl => ?_⟩
    rw [onK_in (show k + 1 < rs.length by omega), onK_in hl])
  rw [ha, hb] at hE
  rw [ha] at ba
  rw [hb] at bb
  obtain ⟨ba0, ba1⟩ := ba
  obtain ⟨bb0, bb1⟩ := bb
  have HE := Lib.hid hE
  have HA := Lib.hid ha
  have HB := Lib.hid hb
  clear hE ha hb hx
  go_enter Tryz.func182, Tryz.ntmps182
  go_wp2_with fail
  refine (s0.out _ h).mono ?_
  rintro e w1 ⟨rfl, hg1, hr1⟩
  go_wp2_with fail
  refine (s1.out _ hr1).mono ?_
  rintro e w2 ⟨rfl, hg2, hr2⟩
  go_wp2_with fail
  refine (half_any a ba0 ba1 _).mono ?_
  rintro e w3 ⟨rfl, rfl⟩
  go_wp2_with fail
  refine (s2.out _ hr2).mono ?_
  rintro e w4 ⟨b', rfl, hb', hb0, hb1, hg3, j, hr3, hj⟩
  have Hb' := Lib.hid hb'
  have Hj := Lib.hid hj
  clear hb' hj
  go_wp2_with fail
  refine (half_any b' hb0 hb1 _).mono ?_
  rintro e w5 ⟨rfl, rfl⟩
  have hg := grown_trans (grown_trans hg1 hg2) hg3
  have HA' := hexV_bd a
  have HB' := hexV_bd b'
  obtain ⟨x, hxa⟩ : ∃ x, hexV a = x := ⟨_, rfl⟩
  obtain ⟨y, hyb⟩ : ∃ y, hexV b' = y := ⟨_, rfl⟩
  have Hx := Lib.hid hxa
  have Hy := Lib.hid hyb
  rw [hxa] at HA' ⊢
  rw [hyb] at HB' ⊢
  clear hxa hyb
  obtain ⟨a0, a1⟩ := HA'
  obtain ⟨y0, y1⟩ := HB'
  by_cases hx0 : x < 0
  · go_wp2
    go_ret2
    refine ⟨hg, .inr ⟨?_, rfl, _, hr3⟩⟩
    rw [HE.out, Hx.out, if_pos (Or.inl hx0)]
  have hx0' : 0 ≤ x := by omega
  have hkl : k + 1 < rs.length := by
    apply Classical.byContradiction; intro hn
    have e1 := HA.out
    rw [runeAt_out (by omega)] at e1
    have e2 := Hx.out
    rw [← e1, hexV_none] at e2
    omega
  obtain ⟨hbb, _⟩ := Hb'.out hkl
  have Hbb := Lib.hid hbb
  clear hbb
  by_cases hy0 : y < 0
  · go_wp2
    go_ret2
    refine ⟨hg, .inr ⟨?_, rfl, _, hr3⟩⟩
    rw [HE.out, ← Hbb.out, Hy.out, if_pos (Or.inr hy0)]
  have hy0' : 0 ≤ y := by omega
  have hkl2 : k + 1 + 1 < rs.length := by
    apply Classical.byContradiction; intro hn
    have e1 := HB.out
    rw [runeAt_out (by omega)] at e1
    have e2 := Hy.out
    rw [Hbb.out, ← e1, hexV_none] at e2
    omega
  have hor := or_hex x y ⟨hx0', a1⟩ ⟨hy0', y1⟩
  have Hor := Lib.hid hor
  have hbt : (!(decide (x < 0) || decide (y < 0))) = true := by simp; omega
  clear hor hx0 hy0
  go_wp2
  go_ret2
  rw [Hj.out hkl2] at hr3
  refine ⟨hg, .inl ⟨(16 * x + y).toNat.toUInt8, 3, ?_, esc_ret ?_, hr3⟩⟩
  · rw [HE.out, ← Hbb.out, Hx.out, Hy.out, if_neg (by omega)]
  · rw [Hor.out]; simp; omega
theorem escape_any (w : World) (h : Rd R A c rs eL eC k w) : Calls Tryz.prog 182 #[.pointer (some ⟨R, 0, none⟩)] w (EscTells R A c rs eL eC k w) := by
  by_cases hx : runeAt rs k = 120
  · exact escape_x w h hx
  · exact escape_plain w h _ rfl hx
end
end Go.Proofs.YtjhnmikciejekaaGreat
