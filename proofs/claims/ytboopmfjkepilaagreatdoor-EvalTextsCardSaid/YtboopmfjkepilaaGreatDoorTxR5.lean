/-
  Texts of one proof, in their order. No condition.
-/
import Derived.MapKept
import Derived.Test.YtboopmfjkepilaaGreatDoorTxR4
namespace Go.Proofs.YtboopmfjkepilaaGreatDoor.Run
open Go.RowKit
set_option linter.unusedVariables false
set_option linter.unusedSimpArgs false
def fixL : List CV → Option (List Value)
  | [] => some []
  | .lit v :: r => match fixL r with | some vs => some (v :: vs) | none => none
  | _ :: _ => none
def fixC : CV → Option Value
  | .lit v => some v
  | .agg cs => match fixL cs with | some vs => some (.agg vs.toArray) | none => none
  | _ => none
def scalarD : TypeDesc → Bool
  | .int _ => true
  | .string => true
  | .bool => true
  | _ => false
variable (P : Program)
def flatKey : List Field → List Value → Bool
  | [], _ => true
  | f :: fs, vs => (match P.underlying f.type with | some d => scalarD d | none => false) && decide (f.name ≠ "_") && Nat.blt f.offset vs.length && flatKey fs vs
def keyOkC (t : TypeId) (k : Value) : Bool := match P.underlying t with
  | some (.int q) => (match k with | .int q' _ => decide (q = q') | _ => false)
  | some .string => (match k with | .string _ => true | _ => false)
  | some .bool => (match k with | .bool _ => true | _ => false)
  | some (.struct fs) => (match k with | .agg a => flatKey P fs.toList a.toList && a.toList.all (fun v => match v with | .int _ _ => true | .string _ => true | .bool _ => true | _ => false) | _ => false)
  | _ => false
def findC (eq : Value → Option Bool) : List (Value × CV) → Nat → Option (Option Nat)
  | [], _ => some none
  | (k, _) :: r, i => match eq k with
    | some true => some (some i)
    | some false => findC eq r (i + 1)
    | none => none
def findE (t : TypeId) (k : Value) (es : List (Value × CV)) : Option (Option Nat) := match P.underlying t with
  | some d => match scalarD d with
    | true => findC (fun k' => Instr.sameNow d k k') es 0
    | false => match d with
      | .struct _ => findC (fun k' => eqC P 10000 t (.lit k) (.lit k')) es 0
      | _ => none
  | none => none
section
variable {P : Program} {w0 : Bs} {m : Mp} {h : Hp} {w : World}
theorem fixL_eq : ∀ {vs : List Value} {cs : List CV} {us : List Value}, LR m vs cs → fixL cs = some us → vs = us
  | [], [], us, _, hf => by simp only [fixL, Option.some.injEq] at hf; exact hf
  | v :: vs, c :: cs, us, hr, hf => by
    obtain ⟨h1, h2⟩ := hr.hd
    cases c <;> simp only [fixL] at hf <;> first | (cases hf; done) | skip
    split at hf
    · rename_i us' hus
      injection hf with hf; subst hf
      rw [h1.lit_eq, fixL_eq h2 hus]
    · cases hf
  | [], _ :: _, _, hr, _ => by simp [LR] at hr
  | _ :: _, [], _, hr, _ => by simp [LR] at hr
theorem fixC_eq {v u : Value} {c : CV} (hr : Rp m v c) (hf : fixC c = some u) : v = u := by
  cases c <;> simp only [fixC] at hf <;> first | (cases hf; done) | skip
  · injection hf with hf; subst hf; exact hr.lit_eq
  · split at hf
    · rename_i us hus
      injection hf with hf; subst hf
      cases hr with
      | agg vs cs hl hr => rw [fixL_eq ⟨hl, hr⟩ hus]
    · cases hf
def ER (m : Mp) (E : List MapEntry) (es : List (Value × CV)) : Prop := E.length = es.length ∧ ∀ i, i < es.length → (E.getD i default).key = (es.getD i default).1 ∧ Rp m (E.getD i default).val (es.getD i default).2
theorem ER.hd {e : MapEntry} {E : List MapEntry} {x : Value × CV} {es : List (Value × CV)} (h : ER m (e :: E) (x :: es)) : (e.key = x.1 ∧ Rp m e.val x.2) ∧ ER m E es :=
  ⟨h.2 0 (by simp), by simpa using h.1, fun i hi => h.2 (i + 1) (by simpa using hi)⟩
theorem findC_now {d : TypeDesc} {k : Value} : ∀ {E : List MapEntry} {es : List (Value × CV)} {i : Nat} {r : Option Nat}, ER m E es → findC (fun k' => Instr.sameNow d k k') es i = some r →
    ∃ q, Instr.findNow d k E i = some q ∧ match r with | none => q = none | some j => i ≤ j ∧ j < i + es.length ∧ q = some (j, (E.getD (j - i) default).val)
  | [], [], i, r, _, hf => by
    simp only [findC, Option.some.injEq] at hf; subst hf
    exact ⟨none, rfl, rfl⟩
  | e :: E, (k', v) :: es, i, r, hr, hf => by
    obtain ⟨⟨h1, h2⟩, h3⟩ := hr.hd
    simp only [findC] at hf
    simp only at h1
    split at hf
    · rename_i he
      injection hf with hf; subst hf
      exact ⟨some (i, e.val), by simp only [Instr.findNow, h1, he], by omega, by simp, by simp⟩
    · rename_i he
      obtain ⟨q, q1, q2⟩ := findC_now h3 hf
      refine ⟨q, by simp only [Instr.findNow, h1, he]; exact q1, ?_⟩
      cases r with
      | none => exact q2
      | some j =>
        obtain ⟨a1, a2, a3⟩ := q2
        refine ⟨by omega, by simp; omega, ?_⟩
        rw [a3, show j - i = (j - (i + 1)) + 1 by omega]
        rfl
    · cases hf
  | [], _ :: _, _, _, hr, _ => by simp [ER] at hr
  | _ :: _, [], _, _, hr, _ => by simp [ER] at hr
theorem findC_ask {t : TypeId} {k : Value} : ∀ {E : List MapEntry} {es : List (Value × CV)} {i : Nat} {r : Option Nat}, ER m E es → findC (fun k' => eqC P 10000 t (.lit k) (.lit k')) es i = some r →
    ∃ q, (∀ w, (Instr.findAsking t k E i).run P w = .ok q w) ∧ match r with | none => q = none | some j => i ≤ j ∧ j < i + es.length ∧ q = some (j, (E.getD (j - i) default).val)
  | [], [], i, r, _, hf => by
    simp only [findC, Option.some.injEq] at hf; subst hf
    exact ⟨none, fun w => rfl, rfl⟩
  | e :: E, (k', v) :: es, i, r, hr, hf => by
    obtain ⟨⟨h1, h2⟩, h3⟩ := hr.hd
    simp only [findC] at hf
    simp only at h1
    split at hf
    · rename_i he
      injection hf with hf; subst hf
      have hq : ∀ w, (Op.equal t k e.key).run P w = .ok true w := fun w => by rw [h1]; exact eqC_run (m := m) 10000 t _ _ _ _ _ he (.lit _) (.lit _) w
      exact ⟨some (i, e.val), fun w => by simp [Instr.findAsking, hq], by omega, by simp, by simp⟩
    · rename_i he
      have hq : ∀ w, (Op.equal t k e.key).run P w = .ok false w := fun w => by rw [h1]; exact eqC_run (m := m) 10000 t _ _ _ _ _ he (.lit _) (.lit _) w
      obtain ⟨q, q1, q2⟩ := findC_ask h3 hf
      refine ⟨q, fun w => by simp [Instr.findAsking, hq, q1], ?_⟩
      cases r with
      | none => exact q2
      | some j =>
        obtain ⟨a1, a2, a3⟩ := q2
        refine ⟨by omega, by simp; omega, ?_⟩
        rw [a3, show j - i = (j - (i + 1)) + 1 by omega]
        rfl
    · cases hf
  | [], _ :: _, _, _, hr, _ => by simp [ER] at hr
  | _ :: _, [], _, _, hr, _ => by simp [ER] at hr
theorem findE_run {t : TypeId} {k : Value} {E : List MapEntry} {es : List (Value × CV)} {r : Option Nat} (he : ER m E es) (hf : findE P t k es = some r) :
    ∃ q, (∀ w, (Instr.findKey t k E).run P w = .ok q w) ∧ match r with | none => q = none | some j => j < es.length ∧ q = some (j, (E.getD j default).val) := by
  unfold findE at hf
  split at hf
  case h_2 => cases hf
  rename_i d hd
  split at hf
  · obtain ⟨q, q1, q2⟩ := findC_now he hf
    refine ⟨q, fun w => by simp [Instr.findKey, run_underlying hd, q1], ?_⟩
    cases r with
    | none => exact q2
    | some j => simpa using q2
  · split at hf
    case h_2 => cases hf
    rename_i fs hsc
    obtain ⟨q, q1, q2⟩ := findC_ask (P := P) he hf
    refine ⟨q, fun w => ?_, ?_⟩
    · cases E with
      | nil =>
        have : Instr.findNow (.struct fs) k [] 0 = some none := rfl
        have h2 := q1 w
        simp [Instr.findAsking] at h2
        simp [Instr.findKey, run_underlying hd, this, h2]
      | cons e E =>
        have : Instr.findNow (.struct fs) k (e :: E) 0 = none := by
          simp [Instr.findNow, Instr.sameNow]
        simp [Instr.findKey, run_underlying hd, this, q1]
    · cases r with
      | none => exact q2
      | some j => simpa using q2
theorem check_scalar {t : TypeId} {d : TypeDesc} {k : Value} (hd : P.underlying t = some d) (hs : scalarD d = true) (em : Bool) (n : Nat) (w : World) : (Instr.checkKey em (n + 1) t k).run P w = .ok () w := by
  cases d <;> simp [scalarD] at hs <;> cases k <;> simp [Instr.checkKey, run_underlying hd]
theorem forIn_unit {α : Type} {g : α → PUnit → Sem (ForInStep PUnit)} {w : World} : ∀ (l : List α), (∀ x ∈ l, (g x PUnit.unit).run P w = .ok (.yield PUnit.unit) w) → (forIn l PUnit.unit g : Sem PUnit).run P w = .ok PUnit.unit w
  | [], _ => rfl
  | x :: l, hf => by
    have h1 := hf x (by simp)
    have h2 := forIn_unit l (fun y hy => hf y (by simp [hy]))
    rw [List.forIn_cons, Sem.run_bind, h1, Result.andThen_ok]
    exact h2
theorem keyOk_check {t : TypeId} {k : Value} (hk : keyOkC P t k = true) (em : Bool) (w : World) : (Instr.checkKey em 10000 t k).run P w = .ok () w := by
  unfold keyOkC at hk
  split at hk
  · rename_i q hu; exact check_scalar hu rfl em 9999 w
  · rename_i hu; exact check_scalar hu rfl em 9999 w
  · rename_i hu; exact check_scalar hu rfl em 9999 w
  · rename_i fs hu
    split at hk
    case h_2 => cases hk
    rename_i a
    rw [Bool.and_eq_true] at hk
    have key : ∀ (fl : List Field), flatKey P fl a.toList = true → ∀ f ∈ fl, (if f.name ≠ "_" then do Instr.checkKey em 9999 f.type (← part f.type a f.offset); pure (ForInStep.yield PUnit.unit) else pure (ForInStep.yield PUnit.unit) : Sem (ForInStep PUnit)).run P w = .ok (.yield PUnit.unit) w := by
      intro fl
      induction fl with
      | nil => intro _ f hf; cases hf
      | cons g fl ih =>
        intro hfl f hf
        simp only [flatKey, Bool.and_eq_true] at hfl
        obtain ⟨⟨⟨f1, f2⟩, f3⟩, f4⟩ := hfl
        rcases List.mem_cons.1 hf with rfl | hf
        · split at f1
          case h_2 => cases f1
          rename_i d hd
          have hn : f.name ≠ "_" := of_decide_eq_true f2
          have hlt : f.offset < a.size := by have h9 : f.offset < a.toList.length := Nat.le_of_ble_eq_true f3; simpa using h9
          have hagg : (isAgg f.type).run P w = .ok false w := by
            cases d <;> simp [scalarD] at f1 <;> simp [isAgg, run_underlying hd]
          rw [if_pos hn]
          simp [part, hagg, hlt, check_scalar hd f1]
        · exact ih f4 f hf
    have h2 := forIn_unit (P := P) (w := w) (g := fun f _ => if f.name ≠ "_" then do Instr.checkKey em 9999 f.type (← part f.type a f.offset); pure (ForInStep.yield PUnit.unit) else pure (ForInStep.yield PUnit.unit)) fs.toList (key fs.toList hk.1)
    rw [show (10000 : Nat) = 9999 + 1 from rfl, Instr.checkKey, Sem.run_bind, run_underlying hu, Result.andThen_ok]
    rw [Array.forIn_toList] at h2
    simp only []
    rw [Sem.run_bind, h2, Result.andThen_ok, Sem.run_pure]
  · cases hk
end
end Go.Proofs.YtboopmfjkepilaaGreatDoor.Run
