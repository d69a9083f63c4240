/-
  Texts of one proof, in their order. No condition.
-/
import Derived.Deep.QuietTactic
import Derived.BigQuiet
import Derived.Outline
import Derived.Test.YtjhnmikciejekaaGreatPqSplit
import Derived.Test.YtjhnmikciejekaaGreatPqCo
namespace Go.Proofs.YtjhnmikciejekaaGreat
open Go.ChangeShapes Go.WideShapes Go.ChangeAt Go.RowKit
set_option linter.unusedVariables false
def nameB (r : Int) : Bool := decide (lowB r = true ∨ upB r = true ∨ digB r = true ∨ r = 95)
def textB (r : Int) : Bool := decide (r ≠ 34 ∧ r ≠ 10)
def remB (r : Int) : Bool := decide (r ≠ 10)
def passB (r : Int) : Bool := decide (blankB r = true ∨ r = 35)
theorem eq_nameB {a : Bool} {r : Int} (h : a = true ↔ (lowB r = true ∨ upB r = true ∨ digB r = true ∨ r = 95)) : a = nameB r := by
  rw [Bool.eq_iff_iff, h]; simp [nameB]
theorem eq_textB {a : Bool} {r : Int} (h : a = true ↔ (r ≠ 34 ∧ r ≠ 10)) : a = textB r := by
  rw [Bool.eq_iff_iff, h]; simp [textB]
theorem eq_remB {a : Bool} {r : Int} (h : a = true ↔ r ≠ 10) : a = remB r := by
  rw [Bool.eq_iff_iff, h]; simp [remB]
theorem eq_passB {a : Bool} {r : Int} (h : a = true ↔ (blankB r = true ∨ r = 35)) : a = passB r := by
  rw [Bool.eq_iff_iff, h]; simp [passB]
theorem passed_any (r : Int) (w : World) : Calls Tryz.prog 174 #[.int .i32 r] w fun e w' => e = .returned (.bool (passB r)) ∧ w = w' := by
  go_enter Tryz.func174, Tryz.ntmps174
  go_wp2_with (go_at_call 199; ((with_reducible refine (blank_any _ _).mono ?_); rintro e w' ⟨rfl, rfl⟩))
  all_goals (go_ret; exact ⟨ret_bool (eq_passB (by simp <;> simp_all <;> omega)), rfl⟩)
theorem remark_any (r : Int) (w : World) : Calls Tryz.prog 175 #[.int .i32 r] w fun e w' => e = .returned (.bool (remB r)) ∧ w = w' := by
  go_enter Tryz.func175, Tryz.ntmps175
  go_wp2
  all_goals (go_ret; exact ⟨ret_bool (eq_remB (by simp)), rfl⟩)
theorem inText_any (r : Int) (w : World) : Calls Tryz.prog 180 #[.int .i32 r] w fun e w' => e = .returned (.bool (textB r)) ∧ w = w' := by
  go_enter Tryz.func180, Tryz.ntmps180
  go_wp2
  all_goals (go_ret; exact ⟨ret_bool (eq_textB (by simp <;> simp_all <;> omega)), rfl⟩)
theorem inName_any (r : Int) (w : World) : Calls Tryz.prog 177 #[.int .i32 r] w fun e w' => e = .returned (.bool (nameB r)) ∧ w = w' := by
  go_enter Tryz.func177, Tryz.ntmps177
  go_wp2_with (first | (go_at_call 146; ((with_reducible refine (low_any _ _).mono ?_); rintro e w' ⟨rfl, rfl⟩)) | (go_at_call 147; ((with_reducible refine (up_any _ _).mono ?_); rintro e w' ⟨rfl, rfl⟩)) | (go_at_call 150; ((with_reducible refine (dig_any _ _).mono ?_); rintro e w' ⟨rfl, rfl⟩)))
  all_goals (go_ret; exact ⟨ret_bool (eq_nameB (by simp_all)), rfl⟩)
def hexV (r : Int) : Int := if 97 ≤ r ∧ r ≤ 102 then r - 87 else if 48 ≤ r ∧ r ≤ 57 then r - 48 else -1
theorem hexV_bd (r : Int) : -1 ≤ hexV r ∧ hexV r ≤ 15 := by unfold hexV; split <;> (try split) <;> omega
theorem half_any (r : Int) (h0 : -1 ≤ r) (h1 : r ≤ 1114111) (w : World) : Calls Tryz.prog 201 #[.int .i32 r] w fun e w' => e = .returned (.int .i32 (hexV r)) ∧ w = w' := by
  by_cases ha : 97 ≤ r
  · by_cases hb : r ≤ 102
    · have hv : hexV r = r - 87 := if_pos ⟨ha, hb⟩
      rw [hv]; clear hv
      go_enter Tryz.func201, Tryz.ntmps201
      go_wp2
      go_ret
      exact ⟨rfl, rfl⟩
    · have hv : hexV r = -1 := by unfold hexV; rw [if_neg (by omega), if_neg (by omega)]
      have hd : digB r = false := by simp [digB]; omega
      have H := Lib.hid (hd ▸ dig_any r w)
      clear hd
      rw [hv]; clear hv
      go_enter Tryz.func201, Tryz.ntmps201
      go_wp2_with (go_at_call 150; ((with_reducible refine (H.out).mono ?_); rintro e w' ⟨rfl, rfl⟩))
      go_ret
      exact ⟨rfl, rfl⟩
  · by_cases hb : 48 ≤ r ∧ r ≤ 57
    · have hv : hexV r = r - 48 := by unfold hexV; rw [if_neg (by omega), if_pos hb]
      have hd : digB r = true := by simpa [digB] using hb
      have H := Lib.hid (hd ▸ dig_any r w)
      obtain ⟨hb1, hb2⟩ := hb
      clear hd
      rw [hv]; clear hv
      go_enter Tryz.func201, Tryz.ntmps201
      go_wp2_with (go_at_call 150; ((with_reducible refine (H.out).mono ?_); rintro e w' ⟨rfl, rfl⟩))
      go_ret
      exact ⟨rfl, rfl⟩
    · have hv : hexV r = -1 := by unfold hexV; rw [if_neg (by omega), if_neg hb]
      have hd : digB r = false := by simp [digB]; omega
      have H := Lib.hid (hd ▸ dig_any r w)
      clear hd hb
      rw [hv]; clear hv
      go_enter Tryz.func201, Tryz.ntmps201
      go_wp2_with (go_at_call 150; ((with_reducible refine (H.out).mono ?_); rintro e w' ⟨rfl, rfl⟩))
      go_ret
      exact ⟨rfl, rfl⟩
def runeAt (rs : List Ent) (k : Nat) : Int := (rs[k]?.map (fun e => e.1)).getD (-1)
theorem runeAt_in {rs : List Ent} {k : Nat} {e : Ent} (h : rs[k]? = some e) : runeAt rs k = e.1 := by simp [runeAt, h]
theorem runeAt_out {rs : List Ent} {k : Nat} (h : rs.length ≤ k) : runeAt rs k = -1 := by simp [runeAt, List.getElem?_eq_none h]
def RowAt (R : Nat) (A : Option Addr) (c : Nat) (rs : List Ent) (W : World) : Prop :=
  rs.length ≤ c ∧ (0 < rs.length → ∃ g, A = some ⟨g, 0, none⟩ ∧ g ≠ R ∧ g < W.heap.size ∧ ∀ k e, rs[k]? = some e → W.cell? ⟨g, k * 4, none⟩ = some (.int .i32 e.1) ∧ W.cell? ⟨g, k * 4 + 1, none⟩ = some (.int .i64 (e.2.1 : Int)) ∧ W.cell? ⟨g, k * 4 + 2, none⟩ = some (.int .i64 e.2.2.1) ∧ W.cell? ⟨g, k * 4 + 3, none⟩ = some (.int .i64 e.2.2.2))
structure Rd (R : Nat) (A : Option Addr) (c : Nat) (rs : List Ent) (eL eC : Int) (k : Nat) (W : World) : Prop where
  blk : W.heap[R]? = some (.cells #[.slice A rs.length c, .int .i64 (k : Int), .int .i64 eL, .int .i64 eC] 149 (0, 0))
  row : RowAt R A c rs W
  le : k ≤ rs.length
  len : rs.length ≤ 16384
  ok : ∀ e ∈ rs, validB e.1 = true
theorem RowAt.grown {R : Nat} {A : Option Addr} {c : Nat} {rs : List Ent} {W W' : World} (h : RowAt R A c rs W) {row : Option Nat} (hr : row = none ∨ row = some R) (hg : W.grownBy W' row) : RowAt R A c rs W' := by
  refine ⟨h.1, fun h0 => ?_⟩
  obtain ⟨g, hA, hne, hlt, hx⟩ := h.2 h0
  have hb : W'.heap[g]? = W.heap[g]? := hg.block g hlt (by rcases hr with rfl | rfl <;> simp [hne])
  refine ⟨g, hA, hne, Nat.lt_of_lt_of_le hlt hg.size, fun k e he => ?_⟩
  have hc : ∀ o, W'.cell? ⟨g, o, none⟩ = W.cell? ⟨g, o, none⟩ := fun o => World.cell?_of_block hb
  rw [hc, hc, hc, hc]
  exact hx k e he
section
variable {R : Nat} {A : Option Addr} {c : Nat} {rs : List Ent} {eL eC : Int} {k : Nat} {W W' : World}
theorem Rd.lt (h : Rd R A c rs eL eC k W) : R < W.heap.size := (Array.getElem?_eq_some_iff.1 h.blk).1
theorem Rd.quiet (h : Rd R A c rs eL eC k W) (hg : W.grownBy W' none) : Rd R A c rs eL eC k W' :=
  ⟨(hg.block R h.lt (by simp)).trans h.blk, h.row.grown (.inl rfl) hg, h.le, h.len, h.ok⟩
theorem Rd.cell0 (h : Rd R A c rs eL eC k W) : W.cell? ⟨R, 0, none⟩ = some (.slice A rs.length c) := cell_of_row W R 0 _ 149 (0, 0) h.blk
theorem Rd.cell1 (h : Rd R A c rs eL eC k W) : W.cell? ⟨R, 1, none⟩ = some (.int .i64 (k : Int)) := cell_of_row W R 1 _ 149 (0, 0) h.blk
theorem Rd.cell2 (h : Rd R A c rs eL eC k W) : W.cell? ⟨R, 2, none⟩ = some (.int .i64 eL) := cell_of_row W R 2 _ 149 (0, 0) h.blk
theorem Rd.cell3 (h : Rd R A c rs eL eC k W) : W.cell? ⟨R, 3, none⟩ = some (.int .i64 eC) := cell_of_row W R 3 _ 149 (0, 0) h.blk
theorem Rd.free (h : Rd R A c rs eL eC k W) (i : Nat) : W.frozen? ⟨R, i, none⟩ = false := by
  have := h.blk
  simp [World.frozen?, this]
theorem Rd.rune_bd (h : Rd R A c rs eL eC k W) (j : Nat) : -1 ≤ runeAt rs j ∧ runeAt rs j ≤ 1114111 := by
  unfold runeAt
  cases he : rs[j]? with
  | none => simp
  | some e =>
    have hv := h.ok e (List.mem_of_getElem? he)
    rw [validB_iff] at hv
    simp; omega
theorem Rd.rune_in (h : Rd R A c rs eL eC k W) (j : Nat) (hj : j < rs.length) : 0 ≤ runeAt rs j ∧ validB (runeAt rs j) = true := by
  have he := List.getElem?_eq_getElem hj
  rw [runeAt_in he]
  have hv := h.ok _ (List.mem_of_getElem? he)
  exact ⟨by rw [validB_iff] at hv; omega, hv⟩
end
theorem drewN_grown (w : World) (n : Nat) : w.grownBy (w.drewN n) none := ⟨rfl, rfl, rfl, Nat.le_refl _, fun _ _ _ => rfl⟩
set_option maxHeartbeats 1000000 in
theorem ahead_in {R : Nat} {A : Option Addr} {c : Nat} {rs : List Ent} {eL eC : Int} {k : Nat} (j : Nat) (w : World) (h : Rd R A c rs eL eC k w) (hj : k + j < rs.length) :
    Calls Tryz.prog 145 #[.pointer (some ⟨R, 0, none⟩), .int .i64 (j : Int)] w fun e w' => e = .returned (.int .i32 (runeAt rs (k + j))) ∧ ∃ n, w' = w.drewN n := by
  have h0 := h.cell0
  have h1 := h.cell1
  have hl := h.len
  obtain ⟨hcap, hrow⟩ := h.row
  obtain ⟨g, rfl, hne, hlt, hx⟩ := hrow (by omega)
  have he := List.getElem?_eq_getElem hj
  have hc := (hx _ _ he).1
  rw [← runeAt_in he] at hc
  clear hx he hrow h
  have hlt' : (k : Int) + (j : Int) < (rs.length : Int) := by omega
  have hge' : 0 ≤ (k : Int) + (j : Int) := by omega
  have htn : ((k : Int) + (j : Int)).toNat = k + j := by omega
  obtain ⟨v, hv⟩ : ∃ v, runeAt rs (k + j) = v := ⟨_, rfl⟩
  rw [hv] at hc ⊢
  clear hv
  go_enter Tryz.func145, Tryz.ntmps145
  go_wp2
  go_quiet (fail)
  go_wp2
  go_quiet (fail)
  go_wp2
  go_ret
  exact ⟨rfl, _, World.drewN_drewN _ _ _⟩
set_option maxHeartbeats 1000000 in
theorem ahead_out {R : Nat} {A : Option Addr} {c : Nat} {rs : List Ent} {eL eC : Int} {k : Nat} (j : Nat) (w : World) (h : Rd R A c rs eL eC k w) (hj : rs.length ≤ k + j) (hj2 : j ≤ 4) :
    Calls Tryz.prog 145 #[.pointer (some ⟨R, 0, none⟩), .int .i64 (j : Int)] w fun e w' => e = .returned (.int .i32 (-1)) ∧ ∃ n, w' = w.drewN n := by
  have h0 := h.cell0
  have h1 := h.cell1
  have hl := h.len
  have hk := h.le
  clear h
  have hlt' : (rs.length : Int) ≤ (k : Int) + (j : Int) := by omega
  have hw := IntWalk.i64_in ((k : Int) + (j : Int)) (by omega)
  have hd : decide ((k : Int) + (j : Int) < (rs.length : Int)) = false := by simp; omega
  go_enter Tryz.func145, Tryz.ntmps145
  go_wp2
  go_quiet (fail)
  go_wp2
  go_ret
  exact ⟨rfl, _, rfl⟩
theorem ahead_any {R : Nat} {A : Option Addr} {c : Nat} {rs : List Ent} {eL eC : Int} {k : Nat} (j : Nat) (w : World) (h : Rd R A c rs eL eC k w) (hj2 : j ≤ 4) :
    Calls Tryz.prog 145 #[.pointer (some ⟨R, 0, none⟩), .int .i64 (j : Int)] w fun e w' => e = .returned (.int .i32 (runeAt rs (k + j))) ∧ ∃ n, w' = w.drewN n := by
  by_cases hj : k + j < rs.length
  · exact ahead_in j w h hj
  · rw [runeAt_out (by omega)]; exact ahead_out j w h (by omega) hj2
theorem ahead0 {R : Nat} {A : Option Addr} {c : Nat} {rs : List Ent} {eL eC : Int} {k : Nat} (w : World) (h : Rd R A c rs eL eC k w) :
    Calls Tryz.prog 145 #[.pointer (some ⟨R, 0, none⟩), .int .i64 0] w fun e w' => e = .returned (.int .i32 (runeAt rs k)) ∧ ∃ n, w' = w.drewN n :=
  ahead_any 0 w h (by omega)
theorem ahead1 {R : Nat} {A : Option Addr} {c : Nat} {rs : List Ent} {eL eC : Int} {k : Nat} (w : World) (h : Rd R A c rs eL eC k w) :
    Calls Tryz.prog 145 #[.pointer (some ⟨R, 0, none⟩), .int .i64 1] w fun e w' => e = .returned (.int .i32 (runeAt rs (k + 1))) ∧ ∃ n, w' = w.drewN n :=
  ahead_any 1 w h (by omega)
def onK (rs : List Ent) (k : Nat) : Nat := if k < rs.length then k + 1 else k
theorem Rd.set {R : Nat} {A : Option Addr} {c : Nat} {rs : List Ent} {eL eC : Int} {k : Nat} {W : World} (h : Rd R A c rs eL eC k W) (j : Nat) (hj : j ≤ rs.length) : W.grownBy (W.setCell ⟨R, 1, none⟩ (.int .i64 (j : Int))) (some R) ∧ Rd R A c rs eL eC j (W.setCell ⟨R, 1, none⟩ (.int .i64 (j : Int))) := by
  have hg : W.grownBy (W.setCell ⟨R, 1, none⟩ (.int .i64 (j : Int))) (some R) := ⟨rfl, rfl, rfl, by simp [World.setCell], fun i _ hi => Below.heap_setCell _ _ _ _ (by simp at hi ⊢; exact hi)⟩
  refine ⟨hg, ?_, h.row.grown (.inr rfl) hg, hj, h.len, h.ok⟩
  have := h.blk
  simp [World.setCell, Array.getElem?_modify, this]
set_option maxHeartbeats 1000000 in
theorem step_any {R : Nat} {A : Option Addr} {c : Nat} {rs : List Ent} {eL eC : Int} {k : Nat} (w : World) (h : Rd R A c rs eL eC k w) :
    Calls Tryz.prog 179 #[.pointer (some ⟨R, 0, none⟩)] w fun e w' => e = .returned (.int .i32 (runeAt rs k)) ∧ w.grownBy w' (some R) ∧ Rd R A c rs eL eC (onK rs k) w' := by
  have hl := h.len
  have hk := h.le
  by_cases hlt : k < rs.length
  · have hv := h.rune_in k hlt
    have hne : (runeAt rs k != -1) = true := by simp; omega
    have hon : onK rs k = k + 1 := if_pos hlt
    rw [hon]; clear hon
    have H := Lib.hid (ahead0 w h)
    have Hh := Lib.hid h
    obtain ⟨v, hv'⟩ : ∃ v, runeAt rs k = v := ⟨_, rfl⟩
    rw [hv'] at hne H ⊢
    clear hv' hv h
    go_enter Tryz.func179, Tryz.ntmps179
    go_wp2_with fail
    refine (H.out).mono ?_
    rintro e w' ⟨rfl, n, rfl⟩
    have h2 := Hh.out.quiet (drewN_grown w n)
    have h1 := h2.cell1
    have hf := h2.free 1
    have hs := h2.set (k + 1) (by omega)
    have Hs := Lib.hid hs
    clear hs h2
    go_wp2
    go_ret
    have e1 : ((k : Int) + 1) = ((k + 1 : Nat) : Int) := by omega
    rw [e1]
    refine ⟨rfl, ?_, Hs.out.2⟩
    have := Hs.out.1
    exact ⟨this.os, this.tape, this.output, this.size, this.block⟩
  · have hon : onK rs k = k := if_neg hlt
    have hr := runeAt_out (rs := rs) (k := k) (by omega)
    rw [hon]; clear hon
    have H := Lib.hid (ahead0 w h)
    rw [hr] at H ⊢
    have Hh := Lib.hid h
    clear hr h
    go_enter Tryz.func179, Tryz.ntmps179
    go_wp2_with fail
    refine (H.out).mono ?_
    rintro e w' ⟨rfl, n, rfl⟩
    go_wp2
    go_ret
    have hg := drewN_grown w n
    exact ⟨rfl, ⟨hg.os, hg.tape, hg.output, hg.size, fun i hi _ => hg.block i hi (by simp)⟩, Hh.out.quiet hg⟩
end Go.Proofs.YtjhnmikciejekaaGreat
