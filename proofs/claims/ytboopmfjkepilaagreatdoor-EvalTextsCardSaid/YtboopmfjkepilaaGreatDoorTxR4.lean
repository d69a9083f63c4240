/-
  Texts of one proof, in their order. No condition.
-/
import Derived.Lib.SliceRun
import Derived.Test.YtboopmfjkepilaaGreatDoorTxR3
namespace Go.Proofs.YtboopmfjkepilaaGreatDoor.Run
open Go.RowKit
set_option linter.unusedVariables false
set_option linter.unusedSimpArgs false
def natC (x : CV) : Option Nat := match x with
  | .lit (.int _ (.ofNat n)) => nfN n fun n => some n
  | _ => none
theorem natC_run {m : Mp} {v : Value} {x : CV} {n : Nat} (hx : Rp m v x) (hc : natC x = some n) : ∃ k, v = .int k (n : Int) := by
  unfold natC at hc
  split at hc
  · rename_i k n'
    rw [nfN_eq] at hc
    injection hc with hc; subst hc
    exact ⟨k, hx.lit_eq⟩
  · cases hc
def pieceC (b : Pa) (o n sz c : Nat) (x : Bool) (l h : Nat) (mx : Option Nat) : Option CV := match Nat.ble l h && Nat.ble h c with
  | false => none
  | true => match mx with
    | none => some (.sl b (o + l * sz) (h - l) sz (c - l) x)
    | some u => match Nat.ble h u && Nat.ble u c with
      | true => some (.sl b (o + l * sz) (h - l) sz (u - l) true)
      | false => none
variable (P : Program)
def sliceC (ev : Operand → CV) (t : TypeId) (x : Operand) (lo hi mx : Option Operand) : Option CV := match P.underlying t with
  | some .string => match ev x with
    | .lit (.string s) => match mx with
      | some _ => none
      | none => match (match lo with | none => some 0 | some y => natC (ev y)) with
        | none => none
        | some l => match (match hi with | none => some s.size | some y => natC (ev y)) with
          | none => none
          | some h => match Nat.ble l h && Nat.ble h s.size with
            | true => some (.lit (.string (s.extract l h)))
            | false => none
    | _ => none
  | some (.slice e) => match ev x with
    | .sl b o n sz c x => match szT P e with
      | none => none
      | some z => match Nat.beq z sz with
        | false => none
        | true => match (match lo with | none => some 0 | some y => natC (ev y)) with
          | none => none
          | some l => match (match hi with | none => some n | some y => natC (ev y)) with
            | none => none
            | some h => match mx with
              | none => pieceC b o n sz c x l h none
              | some y => match hi with
                | none => none
                | some _ => match natC (ev y) with
                  | none => none
                  | some u => pieceC b o n sz c x l h (some u)
    | .lit (.slice none 0 0) => match mx with
      | some y => (match hi with
        | none => none
        | some y2 => match (match lo with | none => some 0 | some y => natC (ev y)), natC (ev y2), natC (ev y), szT P e with
          | some 0, some 0, some 0, some _ => some (.lit (.slice none 0 0))
          | _, _, _, _ => none)
      | none => match (match lo with | none => some 0 | some y => natC (ev y)) with
        | some 0 => match (match hi with | none => some 0 | some y => natC (ev y)) with
          | some 0 => match szT P e with | some _ => some (.lit (.slice none 0 0)) | none => none
          | _ => none
        | _ => none
    | _ => none
  | _ => none
section
variable {P : Program} {w0 : Bs} {m : Mp} {h : Hp} {w : World} {a : Act} {f : Fr}
theorem piece_rep {b : Pa} {o n sz c : Nat} {x : Bool} {l hh : Nat} {r : CV} {ao : Option Addr} {n' c' : Nat} (hr : Rp m (.slice ao n' c') (.sl b o n sz c x)) (hc : pieceC b o n sz c x l hh none = some r) :
    l ≤ hh ∧ hh ≤ c' ∧ Rp m (.slice (if c' = l then ao else ao.map (·.add (l * sz))) (hh - l) (c' - l)) r := by
  unfold pieceC at hc
  split at hc
  · cases hc
  rename_i hck
  rw [Bool.and_eq_true] at hck
  have h1 := Nat.le_of_ble_eq_true hck.1
  have h2 := Nat.le_of_ble_eq_true hck.2
  injection hc with hc; subst hc
  cases hr with
  | sl _ _ _ _ _ _ c' q p hp hn hcc hx hN hq =>
    refine ⟨h1, by omega, ?_⟩
    have hm : l * sz + (c' - l) * sz = c' * sz := by rw [← Nat.add_mul, Nat.add_sub_cancel' (by omega)]
    by_cases he : c' = l
    · rw [if_pos he]
      exact .sl b _ _ sz _ x (c' - l) q p hp (by omega) (by omega) (fun hx' => by rw [hx hx']) (by omega) (.inr (by omega))
    · rw [if_neg he]
      have : (some (⟨p.r, q, none⟩ : Addr)).map (·.add (l * sz)) = some ⟨p.r, q + l * sz, none⟩ := by simp [Addr.add_mid]
      rw [this]
      exact .sl b _ _ sz _ x (c' - l) _ p hp (by omega) (by omega) (fun hx' => by rw [hx hx']) (by omega) (by omega)
theorem piece_rep3 {b : Pa} {o n sz c : Nat} {x : Bool} {l hh u : Nat} {r : CV} {ao : Option Addr} {n' c' : Nat} (hr : Rp m (.slice ao n' c') (.sl b o n sz c x)) (hc : pieceC b o n sz c x l hh (some u) = some r) :
    l ≤ hh ∧ hh ≤ u ∧ u ≤ c' ∧ Rp m (.slice (if u = l then ao else ao.map (·.add (l * sz))) (hh - l) (u - l)) r := by
  unfold pieceC at hc
  split at hc
  · cases hc
  rename_i hck
  rw [Bool.and_eq_true] at hck
  have h1 := Nat.le_of_ble_eq_true hck.1
  simp only at hc
  split at hc
  case h_2 => cases hc
  rename_i hck2
  rw [Bool.and_eq_true] at hck2
  have h3 := Nat.le_of_ble_eq_true hck2.1
  have h4 := Nat.le_of_ble_eq_true hck2.2
  injection hc with hc; subst hc
  cases hr with
  | sl _ _ _ _ _ _ c' q p hp hn hcc hx hN hq =>
    refine ⟨h1, h3, by omega, ?_⟩
    have hm : l * sz + (u - l) * sz = u * sz := by rw [← Nat.add_mul, Nat.add_sub_cancel' (by omega)]
    have hm2 : u * sz ≤ c' * sz := Nat.mul_le_mul_right _ (by omega)
    by_cases he : u = l
    · rw [if_pos he]
      exact .sl b _ _ sz _ true (u - l) q p hp (by omega) (by omega) (fun _ => rfl) (by omega) (.inr (by omega))
    · rw [if_neg he]
      have : (some (⟨p.r, q, none⟩ : Addr)).map (·.add (l * sz)) = some ⟨p.r, q + l * sz, none⟩ := by simp [Addr.add_mid]
      rw [this]
      exact .sl b _ _ sz _ true (u - l) _ p hp (by omega) (by omega) (fun _ => rfl) (by omega) (by omega)
theorem low_run {ev : Operand → CV} {ρ : Operand → Value} (hev : ∀ x, Rp m (ρ x) (ev x)) {lo : Option Operand} {d l : Nat} (hl : (match lo with | none => some d | some y => natC (ev y)) = some l) : (lo = none ∧ l = d) ∨ ∃ y k, lo = some y ∧ ρ y = .int k (l : Int) := by
  cases lo with
  | none => injection hl with hl; exact .inl ⟨rfl, hl.symm⟩
  | some y => obtain ⟨k, hk⟩ := natC_run (hev y) hl; exact .inr ⟨y, k, rfl, hk⟩
theorem sliceC_run {ev : Operand → CV} {ρ : Operand → Value} (hev : ∀ x, Rp m (ρ x) (ev x)) {t : TypeId} {x : Operand} {lo hi mx : Option Operand} {c : CV} (hc : sliceC P ev t x lo hi mx = some c) :
    ∃ v, Rp m v c ∧ ∀ w, (Instr.sliceAt t (ρ x) (lo.map ρ) (hi.map ρ) (mx.map ρ)).run P w = .ok v w := by
  unfold sliceC at hc
  split at hc
  · rename_i hu
    split at hc
    case h_2 => cases hc
    rename_i s hs
    have hx := hev x
    rw [hs] at hx
    rw [hx.lit_eq]
    split at hc
    · cases hc
    split at hc
    · cases hc
    rename_i l hl
    split at hc
    · cases hc
    rename_i hh hhi
    split at hc
    case h_2 => cases hc
    rename_i hck
    rw [Bool.and_eq_true] at hck
    have h1 := Nat.le_of_ble_eq_true hck.1
    have h2 := Nat.le_of_ble_eq_true hck.2
    injection hc with hc; subst hc
    refine ⟨_, .lit _, fun w => ?_⟩
    have e1 : (0 : Int) ≤ (l : Int) := by omega
    have e2 : (l : Int) ≤ (hh : Int) := by omega
    have e3 : (hh : Int) ≤ (s.size : Int) := by omega
    have e4 : (l : Int) ≤ (s.size : Int) := by omega
    have n1 : ¬ (hh < l) := by omega
    rcases low_run hev hl with ⟨rfl, rfl⟩ | ⟨y, k, rfl, hk⟩ <;> rcases low_run hev hhi with ⟨rfl, rfl⟩ | ⟨y2, k2, rfl, hk2⟩ <;> simp [Instr.sliceAt, Instr.slice, Instr.sliceBounds, Instr.sliceBound, asIntOf, run_underlying hu, *]
  · rename_i e hu
    split at hc
    · rename_i b o n sz cc xx hs
      have hx := hev x
      rw [hs] at hx
      split at hc
      · cases hc
      rename_i z hz
      split at hc
      · cases hc
      rename_i hzz
      have hzz := Nat.eq_of_beq_eq_true hzz
      subst hzz
      split at hc
      · cases hc
      rename_i l hl
      split at hc
      · cases hc
      rename_i hh hhi
      generalize hv : ρ x = v at hx
      cases hx with
      | sl _ _ _ _ _ _ c' q p hp hn hcc hxx hN hq =>
      have hx2 : Rp m (.slice (some ⟨p.r, q, none⟩) n c') (.sl b o n z cc xx) := .sl b o n z cc xx c' q p hp hn hcc hxx hN hq
      split at hc
      · obtain ⟨g1, g2, g3⟩ := piece_rep hx2 hc
        refine ⟨_, g3, fun w => ?_⟩
        have hsz := szT_run hz w
        have e2 : (l : Int) ≤ (hh : Int) := by omega
        have e3 : (hh : Int) ≤ (c' : Int) := by omega
        have e4 : (l : Int) ≤ (c' : Int) := by omega
        have n1 : ¬ (hh < l) := by omega
        rcases low_run hev hl with ⟨rfl, rfl⟩ | ⟨y, k, rfl, hk⟩ <;> rcases low_run hev hhi with ⟨rfl, rfl⟩ | ⟨y2, k2, rfl, hk2⟩ <;> simp [Instr.sliceAt, Instr.slice, Instr.sliceBounds, Instr.sliceBound, asIntOf, run_underlying hu, *]
      · rename_i y
        split at hc
        · cases hc
        rename_i y3
        split at hc
        · cases hc
        rename_i u huu
        obtain ⟨k4, hk4⟩ := natC_run (hev y) huu
        obtain ⟨g1, g2, g4, g3⟩ := piece_rep3 hx2 hc
        refine ⟨_, g3, fun w => ?_⟩
        have hsz := szT_run hz w
        have e2 : (l : Int) ≤ (hh : Int) := by omega
        have e3 : (hh : Int) ≤ (u : Int) := by omega
        have e4 : (u : Int) ≤ (c' : Int) := by omega
        have n1 : ¬ (hh < l) := by omega
        obtain ⟨k2, hk2⟩ := natC_run (hev y3) hhi
        rcases low_run hev hl with ⟨rfl, rfl⟩ | ⟨y, k, rfl, hk⟩ <;> simp [Instr.sliceAt, Instr.slice, Instr.sliceBounds, Instr.sliceBound, asIntOf, run_underlying hu, *]
    · rename_i hs
      have hx := hev x
      rw [hs] at hx
      rw [hx.lit_eq]
      split at hc
      · split at hc
        · cases hc
        rename_i y3 _ y2
        split at hc
        case h_2 => cases hc
        rename_i z hl h2 h3 hz
        injection hc with hc; subst hc
        refine ⟨_, .lit _, fun w => ?_⟩
        have hsz := szT_run hz w
        obtain ⟨k2, hk2⟩ := natC_run (hev y2) h2
        obtain ⟨k3, hk3⟩ := natC_run (hev y3) h3
        rcases low_run hev hl with ⟨rfl, h0⟩ | ⟨y, k, rfl, hk⟩ <;> simp [Instr.sliceAt, Instr.slice, Instr.sliceBounds, Instr.sliceBound, asIntOf, run_underlying hu, *]
      split at hc
      case h_2 => cases hc
      rename_i hl
      split at hc
      case h_2 => cases hc
      rename_i hhi
      split at hc
      case h_2 => cases hc
      rename_i z hz
      injection hc with hc; subst hc
      refine ⟨_, .lit _, fun w => ?_⟩
      have hsz := szT_run hz w
      rcases low_run hev hl with ⟨rfl, h0⟩ | ⟨y, k, rfl, hk⟩ <;> rcases low_run hev hhi with ⟨rfl, h0⟩ | ⟨y2, k2, rfl, hk2⟩ <;> simp [Instr.sliceAt, Instr.slice, Instr.sliceBounds, Instr.sliceBound, asIntOf, run_underlying hu, *]
    · cases hc
  · cases hc
end
end Go.Proofs.YtboopmfjkepilaaGreatDoor.Run
