/-
  Texts of one proof, in their order. No condition.
-/
import Derived.Laws.Tables
import Derived.Laws.StructEq
import Derived.Laws.Small
import Derived.Laws.Pointers
import Derived.Laws.Cover3
import Derived.Lib.SliceRun
import Derived.Test.YtboopmfjkepilaaGreatDoorTxR1
namespace Go.Proofs.YtboopmfjkepilaaGreatDoor.Run
open Go.RowKit
set_option linter.unusedVariables false
set_option linter.unusedSimpArgs false
def nfN {α : Sort _} (n : Nat) (K : Nat → α) : α := match n with
  | 0 => K 0
  | k + 1 => K (k + 1)
def nfI {α : Sort _} (n : Int) (K : Int → α) : α := match n with
  | .ofNat a => nfN a fun a => K (.ofNat a)
  | .negSucc a => nfN a fun a => K (.negSucc a)
theorem nfN_eq {α : Sort _} (n : Nat) (K : Nat → α) : nfN n K = K n := by cases n <;> rfl
theorem nfI_eq {α : Sort _} (n : Int) (K : Int → α) : nfI n K = K n := by cases n <;> simp [nfI, nfN_eq]
def litI (k : IntKind) (n : Int) : Option CV := nfI n fun n => some (.lit (.int k n))
theorem litI_eq (k : IntKind) (n : Int) : litI k n = some (.lit (.int k n)) := by simp [litI, nfI_eq]
def evO (f : Fr) : Operand → CV
  | .tmp t => f.get t
  | .const v => .lit v
  | .global g => .any
  | .func f => .fn (.func f) [] []
abbrev FR (m : Mp) (a : Act) (f : Fr) : Prop := FT m a.tmps f
section
variable {m : Mp} {a : Act} {f : Fr}
theorem FT.ev (h : FT m a.tmps f) (x : Operand) : Rp m (a.eval x) (evO f x) := by
  cases x with
  | tmp t => exact h.rep t
  | const v => exact .lit v
  | global g => exact .any _
  | func f => exact .fn _ [] [] [] [] rfl (fun i hi => absurd hi (Nat.not_lt_zero _)) rfl (fun i hi => absurd hi (Nat.not_lt_zero _))
theorem FT.put (h : FT m a.tmps f) (d : Option Tmp) {v : Value} {c : CV} (hr : Rp m v c) : FT m (a.put d v).tmps (f.put d c) := by
  cases d with
  | none => exact ⟨h.size, h.rep⟩
  | some d =>
    simp only [Fr.put, Act.put]
    cases hb : Nat.blt d f.n with
    | false =>
      have hd : ¬ d < f.n := fun hlt => by
        have : Nat.blt d f.n = true := Nat.ble_eq_true_of_le hlt
        rw [hb] at this; cases this
      refine ⟨by simpa using h.size, fun t => ?_⟩
      simp only
      have : (a.tmps.setIfInBounds d v).getD t undef = a.tmps.getD t undef := by
        rw [arr_getD_set, if_neg (fun e => hd (by have h2 := e.2; rw [← e.1, h.size] at h2; exact h2))]
      rw [this]; exact h.rep t
    | true =>
      have hd : d < f.n := Nat.le_of_ble_eq_true hb
      refine ⟨by simpa using h.size, fun t => ?_⟩
      simp only [Fr.get, arr_getD_set]
      by_cases ht : d = t
      · subst ht
        rw [if_pos ⟨rfl, by rw [h.size]; exact hd⟩, Tr.get_set_eq]
        exact hr
      · rw [if_neg (fun e => ht e.1), Tr.get_set_ne _ _ _ _ (fun e => ht (Pa.of_inj e))]
        exact h.rep t
theorem FT.evs (h : FT m a.tmps f) (xs : List Operand) : LR m (xs.map a.eval) (xs.map (evO f)) := by
  refine ⟨by simp, fun i hi => ?_⟩
  have hi' : i < xs.length := by simpa using hi
  rw [List.getD_eq_getElem?_getD, List.getD_eq_getElem?_getD, List.getElem?_map, List.getElem?_map, List.getElem?_eq_getElem hi']
  exact h.ev _
end
def cellsC : CV → Option (List CV)
  | .any => none
  | .agg cs => some cs
  | .tup _ => none
  | .lit v => match v with
    | .agg a => some (a.toList.map .lit)
    | .tuple _ => none
    | v => some [.lit v]
  | c => some [c]
def oneC : CV → Bool
  | .any => false
  | .agg _ => false
  | .tup _ => false
  | .lit v => v.oneCell'
  | _ => true
variable (P : Program)
def szT (t : TypeId) : Option Nat := match P.info? t with | some i => some i.size | none => none
def aggT (t : TypeId) : Option Bool := match P.underlying t with
  | some (.struct _) => some true
  | some (.array _ _) => some true
  | some _ => some false
  | none => none
def zeroT (t : TypeId) : Option Value := match P.info? t with | some i => i.zero | none => none
def partC (t : TypeId) (cs : List CV) : Option CV := match aggT P t with
  | some true => match szT P t with
    | some n => match Nat.ble n cs.length with | true => some (.agg (cs.take n)) | false => none
    | none => none
  | some false => match cs with | c :: _ => some c | [] => none
  | none => none
def loadC (t : TypeId) (h : Hp) (b : Pa) (o : Nat) : Option CV := match h.t.get b with
  | some (.cells cs _) => partC P t (cs.drop o)
  | _ => none
def aggC : CV → Option (List CV)
  | .agg cs => some cs
  | .lit (.agg a) => some (a.toList.map .lit)
  | _ => none
def isIfaceT (t : TypeId) : Option Bool := match P.underlying t with | some (.interface _) => some true | some _ => some false | none => none
section
variable {P : Program} {w0 : Bs} {m : Mp} {h : Hp} {w : World} {a : Act} {f : Fr}
theorem szT_run {t : TypeId} {n : Nat} (hs : szT P t = some n) (w : World) : (sizeOf t).run P w = .ok n w := by
  unfold szT at hs
  split at hs
  · rename_i i hi
    injection hs with hs; subst hs
    simp [sizeOf, typeInfo, hi]
  · cases hs
theorem aggT_run {t : TypeId} {b : Bool} (hs : aggT P t = some b) (w : World) : (isAgg t).run P w = .ok b w := by
  unfold aggT at hs
  split at hs <;> first | (injection hs with hs; subst hs) | cases hs
  · rename_i fs hu; simp [isAgg, run_underlying hu]
  · rename_i n e hu; simp [isAgg, run_underlying hu]
  · rename_i d hd1 hd2 hu
    simp only [isAgg, Sem.run_bind, run_underlying hu, Result.andThen_ok]
    cases d <;> first | rfl | exact absurd rfl (hd1 _) | exact absurd rfl (hd2 _ _)
theorem zeroT_run {t : TypeId} {z : Value} (hz : zeroT P t = some z) (w : World) : (zeroValue t).run P w = .ok z w := by
  unfold zeroT at hz
  split at hz
  · rename_i i hi; simp [zeroValue, typeInfo, hi, hz]
  · cases hz
theorem Rp.lit_eq {v u : Value} (hr : Rp m v (.lit u)) : v = u := by cases hr; rfl
theorem cellsC_rep {v : Value} {c : CV} (hr : Rp m v c) {cs : List CV} (hc : cellsC c = some cs) : LR m v.cells.toList cs := by
  have one : ∀ (v : Value) (c : CV), Rp m v c → v.cells = #[v] → LR m v.cells.toList [c] := fun v c hr hv => by
    rw [hv]; exact LR.nil.cons hr
  cases hr with
  | any => simp [cellsC] at hc
  | lit _ =>
    cases v <;> simp only [cellsC, Option.some.injEq] at hc <;> first | contradiction | (subst hc; exact one _ _ (.lit _) rfl) | (subst hc; exact LR.map_lit _)
  | ptr b o p hp => simp only [cellsC, Option.some.injEq] at hc; subst hc; exact one _ _ (.ptr b o p hp) rfl
  | sl b o n sz c x c' q p h1 h2 h3 h4 h5 h6 => simp only [cellsC, Option.some.injEq] at hc; subst hc; exact one _ _ (.sl b o n sz c x c' q p h1 h2 h3 h4 h5 h6) rfl
  | mp b p hp => simp only [cellsC, Option.some.injEq] at hc; subst hc; exact one _ _ (.mp b p hp) rfl
  | fn g us vs fst cap h1 h2 h3 h4 => simp only [cellsC, Option.some.injEq] at hc; subst hc; exact one _ _ (.fn g us vs fst cap h1 h2 h3 h4) rfl
  | yl l p hp => simp only [cellsC, Option.some.injEq] at hc; subst hc; exact one _ _ (.yl l p hp) rfl
  | ifc t u c' hr => simp only [cellsC, Option.some.injEq] at hc; subst hc; exact one _ _ (.ifc t u c' hr) rfl
  | agg vs cs' hl hr => simp only [cellsC, Option.some.injEq] at hc; subst hc; exact ⟨by simpa [Value.cells] using hl, by simpa [Value.cells] using hr⟩
  | tup => simp [cellsC] at hc
  | abs _ a h =>
    simp only [cellsC, Option.some.injEq] at hc; subst hc
    cases a with
    | rng k lo hi => obtain ⟨n, rfl, h1, h2⟩ := h; exact one _ _ (.abs _ (.rng k lo hi) ⟨n, rfl, h1, h2⟩) rfl
    | osl lo hi => obtain ⟨p, n, c, rfl, h1, h2⟩ := h; exact one _ _ (.abs _ (.osl lo hi) ⟨p, n, c, rfl, h1, h2⟩) rfl
theorem oneC_rep {v : Value} {c : CV} (hr : Rp m v c) (ho : oneC c = true) : v.oneCell' = true := by
  cases hr with
  | abs _ a h => cases a with
    | rng k lo hi => obtain ⟨n, rfl, h1, h2⟩ := h; rfl
    | osl lo hi => obtain ⟨p, n, c, rfl, h1, h2⟩ := h; rfl
  | _ => simp [oneC] at ho <;> first | exact ho | rfl
theorem ones_rep {vs : List Value} {cs : List CV} (hr : LR m vs cs) (ho : cs.all oneC = true) : ∀ u ∈ vs, u.oneCell' = true := fun u hu => by
  obtain ⟨i, hi, rfl⟩ := List.getElem_of_mem hu
  have hic : i < cs.length := by rw [← hr.1]; exact hi
  have h1 := hr.2 i hic
  rw [List.getD_eq_getElem?_getD, List.getElem?_eq_getElem hi, List.getD_eq_getElem?_getD, List.getElem?_eq_getElem hic] at h1
  exact oneC_rep h1 (List.all_eq_true.1 ho _ (List.getElem_mem hic))
theorem aggC_rep {v : Value} {c : CV} (hr : Rp m v c) {cs : List CV} (hc : aggC c = some cs) : ∃ vs : List Value, v = .agg vs.toArray ∧ LR m vs cs := by
  cases hr with
  | lit _ =>
    cases v <;> simp only [aggC] at hc <;> first | contradiction | skip
    rename_i a
    injection hc with hc; subst hc
    exact ⟨a.toList, by simp, LR.map_lit _⟩
  | agg vs cs' hl hr =>
    simp only [aggC, Option.some.injEq] at hc; subst hc
    exact ⟨vs, rfl, hl, hr⟩
  | _ => simp [aggC] at hc
theorem part_rep {t : TypeId} {vs : List Value} {cs : List CV} (hr : LR m vs cs) (o : Nat) {c : CV} (hc : partC P t (cs.drop o) = some c) : ∃ v, Rp m v c ∧ ∀ w, (part t vs.toArray o).run P w = .ok v w := by
  unfold partC at hc
  split at hc
  · rename_i ha
    split at hc
    · rename_i n hn
      split at hc
      · rename_i hle
        have hle := Nat.le_of_ble_eq_true hle
        injection hc with hc; subst hc
        have := (hr.drop o).take n
        refine ⟨.agg ((vs.drop o).take n).toArray, .agg _ _ this.1 this.2, fun w => ?_⟩
        simp only [part, Sem.run_bind, aggT_run ha, Result.andThen_ok, if_true, szT_run hn, Sem.run_pure]
        simp [List.extract_eq_take_drop, List.extract_toArray]
      · cases hc
    · cases hc
  · rename_i ha
    split at hc
    · rename_i d ds hd
      injection hc with hc; subst hc
      have h1 := hr.drop o
      rw [hd] at h1
      have hlt : o < vs.length := by
        have := h1.1
        simp at this; omega
      rw [List.drop_eq_getElem_cons hlt] at h1
      refine ⟨vs[o], h1.hd.1, fun w => ?_⟩
      simp [part, aggT_run ha, List.getElem?_eq_getElem hlt]
    · cases hc
  · cases hc
theorem load_rep (s : SR w0 m h w) {t : TypeId} {b : Pa} {o : Nat} {c : CV} (hc : loadC P t h b o = some c) : ∃ v p, Rp m v c ∧ m b = some p ∧ (loadVar t ⟨p.r, p.o + o, none⟩).run P w = .ok v w := by
  unfold loadC at hc
  split at hc
  case h_2 => cases hc
  rename_i cs g hb
  obtain ⟨p, C, T, fz, e1, e2, e3, e4, e5⟩ := s.blk b _ hb
  have hlr : LR m ((C.toList.drop p.o).take cs.length) cs := by
    refine ⟨by have := e5.1; simp; omega, fun i hi => ?_⟩
    have := e5.2 i hi
    simpa [List.getD_eq_getElem?_getD, Array.getD_eq_getD_getElem?, List.getElem?_take, hi] using this
  unfold partC at hc
  split at hc
  · rename_i ha
    split at hc
    · rename_i n hn
      split at hc
      · rename_i hle
        have hle := Nat.le_of_ble_eq_true hle
        injection hc with hc; subst hc
        have h1 := (hlr.drop o).take n
        refine ⟨.agg ((((C.toList.drop p.o).take cs.length).drop o).take n).toArray, p, .agg _ _ h1.1 h1.2, e1, ?_⟩
        simp only [List.length_drop] at hle
        have h5 := e5.1
        have hlen : ((((C.toList.drop p.o).take cs.length).drop o).take n).length = n := by simp; omega
        have := run_loadCells_list (P := P) w ⟨p.r, p.o + o, none⟩ ((((C.toList.drop p.o).take cs.length).drop o).take n) (fun j v hv => by
          have hj : j < n := by have := (List.getElem?_eq_some_iff.1 hv).1; rw [hlen] at this; exact this
          rw [Addr.add_mid]
          simp only [World.cell?, e2]
          simp only [List.getElem?_take, List.getElem?_drop, hj, if_true] at hv
          split at hv
          · rw [← Array.getElem?_toList, show p.o + o + j = p.o + (o + j) by omega]; simpa using hv
          · cases hv)
        rw [hlen] at this
        simp only [loadVar, Sem.run_bind, aggT_run ha, Result.andThen_ok, if_true, szT_run hn, this, Sem.run_pure]
      · cases hc
    · cases hc
  · rename_i ha
    split at hc
    · rename_i d ds hd
      injection hc with hc; subst hc
      have hlt : o < cs.length := by
        apply Classical.byContradiction
        intro hn
        rw [List.drop_eq_nil_of_le (by omega)] at hd
        cases hd
      have h1 := e5.2 o hlt
      have h5 := e5.1
      have hd2 : cs.getD o .any = d := by
        rw [List.drop_eq_getElem_cons hlt] at hd
        injection hd with hd _
        rw [List.getD_eq_getElem?_getD, List.getElem?_eq_getElem hlt]; exact hd
      rw [hd2] at h1
      refine ⟨_, p, h1, e1, ?_⟩
      have hc : w.cell? ⟨p.r, p.o + o, none⟩ = some (C.getD (p.o + o) undef) := by
        simp only [World.cell?, e2]
        rw [Array.getD_eq_getD_getElem?, Array.getElem?_eq_getElem (by omega)]; rfl
      simp [loadVar, aggT_run ha, hc]
    · cases hc
  · cases hc
end
end Go.Proofs.YtboopmfjkepilaaGreatDoor.Run
