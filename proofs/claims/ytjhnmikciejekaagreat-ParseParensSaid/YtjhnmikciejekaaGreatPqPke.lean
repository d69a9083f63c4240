/-
  Texts of one proof, in their order. No condition.
-/
import Derived.Test.YtjhnmikciejekaaGreatPqLine
import Derived.Lib.Strings
import Derived.Test.YtjhnmikciejekaaGreatPqPkd
set_option linter.unusedSectionVars false
set_option linter.unusedSimpArgs false
set_option linter.unusedVariables false
namespace Go.Proofs.YtjhnmikciejekaaGreat.Deep
open Go.RowKit
set_option linter.unusedVariables false
theorem lexL_ends : ∀ (f : Nat) (l : List Int) (cnt : Nat) (T : List Go.Proofs.YtjhnmikciejekaaGreat.Tok), l.length < f → cnt ≤ 4096 → lexL f l cnt = .inr T → (∃ U, T = U ++ [endT]) ∧ cnt + T.length ≤ 4097 := by
  intro f
  induction f with
  | zero => intro l cnt T h; omega
  | succ f ih =>
    intro l cnt T hf hc hT
    rw [lexL] at hT
    cases h : headL l with
    | inl e => rw [h] at hT; cases hT
    | inr p =>
      obtain ⟨t, r⟩ := p
      rw [h] at hT
      simp only at hT
      split at hT
      · cases hT
      rename_i hcn
      split at hT
      · rename_i hk
        cases hT
        exact ⟨⟨[], by rw [(headL_end h hk).2]; rfl⟩, by simp; omega⟩
      · rename_i hk
        have hl := headL_less h hk
        cases hr : lexL f r (cnt + 1) with
        | inl e => rw [hr] at hT; cases hT
        | inr V =>
          rw [hr] at hT
          cases hT
          obtain ⟨⟨U, rfl⟩, h2⟩ := ih r (cnt + 1) V (by omega) (by omega) hr
          exact ⟨⟨t :: U, rfl⟩, by simp only [List.length_cons, List.length_append, List.length_nil] at h2 ⊢; omega⟩
theorem lexOf_ends {s : ByteArray} {T : List Go.Proofs.YtjhnmikciejekaaGreat.Tok} (h : lexOf s = .inr T) : ∃ U e, T = U ++ [e] ∧ e.kind = 0 ∧ U.length ≤ 4096 := by
  unfold lexOf at h
  split at h
  · cases h
  · cases hb : badOf s with
    | some p => rw [hb] at h; cases h
    | none =>
      rw [hb] at h
      simp only at h
      have h2 := lexF_bare (runesOf s) (placeOf s s.size).1 (placeOf s s.size).2 ((runesOf s).length + 1) 0 0
      rw [h, List.drop_zero] at h2
      obtain ⟨⟨U, hU⟩, hn⟩ := lexL_ends _ _ _ _ (by simp [runesI]) (by omega) h2.symm
      have hlen : T.length = U.length + 1 := by
        have := congrArg List.length hU
        simpa using this
      obtain ⟨V, e, rfl⟩ : ∃ V e, T = V ++ [e] := ⟨T.dropLast, T.getLast (by intro h0; subst h0; simp at hlen), (List.dropLast_concat_getLast _).symm⟩
      rw [List.map_append] at hU
      have h3 := List.append_inj' hU rfl
      refine ⟨V, e, rfl, ?_, by
        simp only [List.length_map, List.length_append, List.length_cons, List.length_nil] at hn; omega⟩
      have h4 : bare e = endT := by simpa using h3.2
      have h5 := congrArg Go.Proofs.YtjhnmikciejekaaGreat.Tok.kind h4
      exact h5
def lexK (s : ByteArray) : Except Flt (List Tk × Tk) := match lexOf s with
  | .inl (e, L, C) => .error ⟨e, L, C⟩
  | .inr ts => .ok ((ts.map tkOf).dropLast, ((ts.map tkOf).getLast?).getD ⟨0, e0, 0, [], 0, 0⟩)
def faceS {α : Type} (rd : Tk → Rd α) (s : ByteArray) : Except Flt α := match lexK s with
  | .error f => .error f
  | .ok (l, z) => match rd z l false with
    | .error f => .error f
    | .ok (v, l', b') => match wantEndS z l' b' with
      | .error f => .error f
      | .ok _ => .ok v
def fltP (f : Flt) : PV := .agg [.con (.int .i64 f.e), .con (.int .i64 f.li), .con (.int .i64 f.co)]
def faceR {α : Type} (enc : α → PV) (zero : PV) : Except Flt α → PV
  | .ok v => .tup [enc v, fltP ⟨0, 0, 0⟩]
  | .error f => .tup [zero, fltP f]
theorem lexQ_out {s : ByteArray} {r : PV} (h : LexQ s r) :
    (∃ f, lexK s = .error f ∧ f.e ≠ 0 ∧ r = .tup [.sl [], fltP f]) ∨ ∃ l z, lexK s = .ok (l, z) ∧ z.kind = 0 ∧ l.length ≤ 4096 ∧ r = .tup [.sl (tksP z l), fltP ⟨0, 0, 0⟩] := by
  rcases h with ⟨er, L, C, h1, h2, rfl⟩ | ⟨ts, h1, rfl⟩
  · exact .inl ⟨⟨er, L, C⟩, by simp only [lexK, h1], h2, rfl⟩
  · obtain ⟨U, e, rfl, hk, hn⟩ := lexOf_ends h1
    refine .inr ⟨U.map tkOf, tkOf e, ?_, hk, by simpa using hn, ?_⟩
    · simp only [lexK, h1]
      simp
    · simp [tksP, fltP]
end Go.Proofs.YtjhnmikciejekaaGreat.Deep

namespace Go.Proofs.YtjhnmikciejekaaGreat.Deep
open Go.RowKit
set_option linter.unusedVariables false
set_option linter.unusedSimpArgs false
mutual
def bareP : Pt → Pt
  | .mk k _ _ n m ks => .mk k 0 0 n m (barePs ks)
def barePs : List Pt → List Pt
  | [] => []
  | t :: ts => bareP t :: barePs ts
end
mutual
def bareE : Ex → Ex
  | .mk k _ _ m b n ks ps bs => .mk k 0 0 m b n (bareEs ks) (barePs ps) (bareEs bs)
def bareEs : List Ex → List Ex
  | [] => []
  | t :: ts => bareE t :: bareEs ts
end
theorem bareEs_map : ∀ ts : List Ex, bareEs ts = ts.map bareE
  | [] => rfl
  | t :: ts => by rw [bareEs, bareEs_map ts]; rfl
def alikeL {α : Type} (f : α → α → Bool) : List α → List α → Bool
  | [], [] => true
  | a :: l, b :: m => f a b && alikeL f l m
  | _, _ => false
theorem alikeL_len {α : Type} (f : α → α → Bool) : ∀ l m : List α, l.length ≠ m.length → alikeL f l m = false
  | [], [], h => absurd rfl h
  | [], b :: m, _ => rfl
  | a :: l, [], _ => rfl
  | a :: l, b :: m, h => by rw [alikeL, alikeL_len f l m (by simpa using h), Bool.and_false]
theorem alikeL_range {α : Type} (f : α → α → Bool) (d : α) : ∀ l m : List α, l.length = m.length → alikeL f l m = (List.range l.length).all fun j => f (l.getD j d) (m.getD j d)
  | [], [], _ => rfl
  | [], b :: m, h => by simp at h
  | a :: l, [], h => by simp at h
  | a :: l, b :: m, h => by
    rw [alikeL, alikeL_range f d l m (by simpa using h), List.length_cons, List.range_succ_eq_map, List.all_cons, List.all_map]
    rfl
theorem getD_at1 {α : Type} (l : List α) (d : α) (j : Nat) (h : j < l.length) : l.getD j d = l[j] := by
  rw [List.getD_eq_getElem?_getD, List.getElem?_eq_getElem h]; rfl
theorem alikeL_snoc {α : Type} (f : α → α → Bool) : ∀ (l m : List α) (j : Nat) (h : j < l.length) (h2 : j < m.length), alikeL f (l.take (j + 1)) (m.take (j + 1)) = (alikeL f (l.take j) (m.take j) && f l[j] m[j])
  | a :: l, b :: m, 0, _, _ => by simp [alikeL]
  | a :: l, b :: m, j + 1, h, h2 => by
    have := alikeL_snoc f l m j (by simpa using h) (by simpa using h2)
    simp only [List.take_succ_cons, alikeL, List.getElem_cons_succ] at this ⊢
    rw [this, Bool.and_assoc]
theorem alikeL_no {α : Type} (f : α → α → Bool) (l m : List α) (j : Nat) (h : j < l.length) (h2 : j < m.length) (hf : f l[j] m[j] = false) : alikeL f l m = false := by
  by_cases hl : l.length = m.length
  · rw [alikeL_range f l[j] l m hl, List.all_eq_false]
    refine ⟨j, by simpa using h, ?_⟩
    rw [getD_at1 l _ j h, getD_at1 m _ j h2, hf]; simp
  · exact alikeL_len f l m hl
mutual
def sameP : Pt → Pt → Bool
  | .mk k _ _ n m ks, .mk k' _ _ n' m' ks' => decide (k = k') && (decide (n = n') && (decide (m = m') && samePs ks ks'))
def samePs : List Pt → List Pt → Bool
  | [], [] => true
  | t :: ts, t' :: ts' => sameP t t' && samePs ts ts'
  | [], _ :: _ => false
  | _ :: _, [] => false
end
mutual
def sameE : Ex → Ex → Bool
  | .mk k _ _ m b n ks ps bs, .mk k' _ _ m' b' n' ks' ps' bs' => decide (k = k') && (decide (m = m') && (decide (b = b') && (decide (n = n') && (sameEs ks ks' && (samePs ps ps' && sameEs bs bs')))))
def sameEs : List Ex → List Ex → Bool
  | [], [] => true
  | t :: ts, t' :: ts' => sameE t t' && sameEs ts ts'
  | [], _ :: _ => false
  | _ :: _, [] => false
end
theorem samePs_l : ∀ l m : List Pt, samePs l m = alikeL sameP l m
  | [], [] => rfl
  | [], b :: m => rfl
  | a :: l, [] => rfl
  | a :: l, b :: m => by rw [samePs, alikeL, samePs_l l m]
theorem sameEs_l : ∀ l m : List Ex, sameEs l m = alikeL sameE l m
  | [], [] => rfl
  | [], b :: m => rfl
  | a :: l, [] => rfl
  | a :: l, b :: m => by rw [sameEs, alikeL, sameEs_l l m]
mutual
theorem sameP_iff : ∀ a b : Pt, sameP a b = true ↔ bareP a = bareP b
  | .mk k _ _ n m ks, .mk k' _ _ n' m' ks' => by
    unfold sameP bareP
    simp only [Bool.and_eq_true, decide_eq_true_eq, Pt.mk.injEq, samePs_iff ks ks', true_and]
theorem samePs_iff : ∀ a b : List Pt, samePs a b = true ↔ barePs a = barePs b
  | [], [] => by simp [samePs]
  | [], b :: m => by simp [samePs, barePs]
  | a :: l, [] => by simp [samePs, barePs]
  | a :: l, b :: m => by rw [samePs, Bool.and_eq_true, sameP_iff a b, samePs_iff l m, barePs, barePs, List.cons.injEq]
end
mutual
theorem sameE_iff : ∀ a b : Ex, sameE a b = true ↔ bareE a = bareE b
  | .mk k _ _ m b n ks ps bs, .mk k' _ _ m' b' n' ks' ps' bs' => by
    unfold sameE bareE
    simp only [Bool.and_eq_true, decide_eq_true_eq, Ex.mk.injEq, sameEs_iff ks ks', sameEs_iff bs bs', samePs_iff ps ps', true_and]
theorem sameEs_iff : ∀ a b : List Ex, sameEs a b = true ↔ bareEs a = bareEs b
  | [], [] => by simp [sameEs]
  | [], b :: m => by simp [sameEs, bareEs]
  | a :: l, [] => by simp [sameEs, bareEs]
  | a :: l, b :: m => by rw [sameEs, Bool.and_eq_true, sameE_iff a b, sameEs_iff l m, bareEs, bareEs, List.cons.injEq]
end
end Go.Proofs.YtjhnmikciejekaaGreat.Deep

namespace Go.Proofs.YtjhnmikciejekaaGreat.Deep
open Go.RowKit
set_option linter.unusedVariables false
set_option linter.unusedSimpArgs false
def amP (a : Pt × Ex) : List PV := ptP a.1 ++ exP a.2
theorem cells_Pat (a : Pt) : ∃ x0 : Int, ∃ x1 : Int, ∃ x2 : Int, ∃ x3 : ByteArray, ∃ x4 : Int, ∃ x5 : List (List PV), ptP a = [.con (.int .i64 x0), .con (.int .i64 x1), .con (.int .i64 x2), .con (.string x3), .con (.int .i64 x4), .sl x5] := by
  obtain ⟨k, li, co, n, m, ks⟩ := a
  exact ⟨_, _, _, _, _, _, rfl⟩
theorem cells_Expr (a : Ex) : ∃ x0 : Int, ∃ x1 : Int, ∃ x2 : Int, ∃ x3 : Int, ∃ x4 : List (List PV), ∃ x5 : ByteArray, ∃ x6 : List (List PV), ∃ x7 : List (List PV), exP a = [.con (.int .i64 x0), .con (.int .i64 x1), .con (.int .i64 x2), .con (.int .i64 x3), .sl x4, .con (.string x5), .sl x6, .sl x7] := by
  obtain ⟨k, li, co, m, b, n, ks, ps, bs⟩ := a
  exact ⟨_, _, _, _, _, _, _, _, rfl⟩
theorem ptPs_mp : ∀ ts : List Pt, ptPs ts = ts.map ptP
  | [] => rfl
  | t :: ts => by rw [ptPs, ptPs_mp ts]; rfl
theorem exPs_mp : ∀ ts : List Ex, exPs ts = ts.map exP
  | [] => rfl
  | t :: ts => by rw [exPs, exPs_mp ts]; rfl
theorem arPs_mp : ∀ (bs : List Ex) (ps : List Pt), arPs bs ps = (ps.zip bs).map amP
  | [], ps => by cases ps <;> rfl
  | b :: bs, [] => rfl
  | b :: bs, p :: ps => by rw [arPs, arPs_mp bs ps]; rfl
theorem len_ne (a b : Nat) : (((a : Int) : Int) != (b : Int)) = !decide (a = b) := by
  rw [Bool.eq_iff_iff]; simp; omega
theorem beq_str (s t : ByteArray) : (ByteArray.toList s == ByteArray.toList t) = decide (s = t) := by
  rw [Lib.toList_data, Lib.toList_data, Bool.eq_iff_iff]
  simp only [beq_iff_eq, decide_eq_true_eq]
  exact ⟨fun h => by cases s; cases t; simp at h; rw [h], fun h => by rw [h]⟩
theorem beq_by (a b : List UInt8) : (ByteArray.toList ⟨List.toArray a⟩ == ByteArray.toList ⟨List.toArray b⟩) = decide (a = b) := by
  rw [Lib.toList_data, Lib.toList_data, Bool.eq_iff_iff]
  simp
theorem bne_int (a b : Int) : (a != b) = !decide (a = b) := by rw [Bool.eq_iff_iff]; simp
theorem Ty.indM {M : Ty → Prop} (h : ∀ k n ps, (∀ p ∈ ps, M p) → M (.mk k n ps)) (t : Ty) : M t :=
  Ty.ind (fun k n ps ih => h k n ps fun p hp => by obtain ⟨i, hi, rfl⟩ := List.getElem_of_mem hp; exact ih i hi) t
theorem Pt.indM {M : Pt → Prop} (h : ∀ k li co n m ps, (∀ p ∈ ps, M p) → M (.mk k li co n m ps)) (t : Pt) : M t :=
  Pt.ind (fun k li co n m ps ih => h k li co n m ps fun p hp => by obtain ⟨i, hi, rfl⟩ := List.getElem_of_mem hp; exact ih i hi) t
theorem Ex.indM {M : Ex → Prop} (h : ∀ k li co m b n ks ps bs, (∀ p ∈ ks, M p) → (∀ p ∈ bs, M p) → M (.mk k li co m b n ks ps bs)) (t : Ex) : M t :=
  Ex.ind (fun k li co m b n ks ps bs ih ihb => h k li co m b n ks ps bs (fun p hp => by obtain ⟨i, hi, rfl⟩ := List.getElem_of_mem hp; exact ih i hi) (fun p hp => by obtain ⟨i, hi, rfl⟩ := List.getElem_of_mem hp; exact ihb i hi)) t
theorem arms_same : ∀ (ps ps' : List Pt) (bs bs' : List Ex), ps.length = bs.length → ps'.length = bs'.length → alikeL (fun a b : Pt × Ex => sameP a.1 b.1 && sameE a.2 b.2) (ps.zip bs) (ps'.zip bs') = (samePs ps ps' && sameEs bs bs')
  | [], [], [], [], _, _ => rfl
  | [], p :: ps, [], b :: bs, _, _ => rfl
  | p :: ps, [], b :: bs, [], _, _ => rfl
  | p :: ps, p' :: ps', b :: bs, b' :: bs', h, h' => by
    have ih := arms_same ps ps' bs bs' (by simpa using h) (by simpa using h')
    rw [List.zip_cons_cons, List.zip_cons_cons, alikeL, ih, samePs, sameEs]
    cases sameP p p' <;> cases sameE b b' <;> simp
  | [], _, b :: bs, _, h, _ => by simp at h
  | p :: ps, _, [], _, h, _ => by simp at h
  | _, [], _, b :: bs, _, h => by simp at h
  | _, p :: ps, _, [], _, h => by simp at h
end Go.Proofs.YtjhnmikciejekaaGreat.Deep

namespace Go.Proofs.YtjhnmikciejekaaGreat.Deep
open Go.RowKit
set_option linter.unusedVariables false
abbrev blk (z : Tk) (l : List Tk) (b : Bool) : Heap := [[.sl (tksP z l), .con (.bool b)]]
def HF {α : Type} (x : Except Flt α) : Value → Prop := fun v => ∃ ft, x = .error ft ∧ v = fltV ft
def QF {α : Type} (z : Tk) (enc : α → PV) (x : Re α) : PV → Heap → Prop := fun r h => ∃ v l' b', x = .ok (v, l', b') ∧ r = enc v ∧ h = blk z l' b'
def QE {α : Type} (enc : α → PV) (x : Except Flt α) : PV → Heap → Prop := fun r h => ∃ v, x = .ok v ∧ r = enc v ∧ h = []
def CT {α : Type} (z : Tk) (f : FuncId) (args : List PV) (enc : α → PV) (x : Re α) (l : List Tk) (b : Bool) : Prop := TCalls Tryz.prog f args (blk z l b) (QF z enc x) (HF x)
def CE {α : Type} (f : FuncId) (args : List PV) (enc : α → PV) (x : Except Flt α) : Prop := TCalls Tryz.prog f args [] (QE enc x) (HF x)
def CL (z : Tk) (f : FuncId) (args : List PV) (r : PV) (l : List Tk) (b : Bool) : Prop := ACalls Tryz.prog f args (blk z l b) fun r' h => r' = r ∧ h = blk z l b
section
variable {α β : Type} {z : Tk} {f : FuncId} {args : List PV} {enc : α → PV} {x : Re α} {l : List Tk} {b : Bool} {S : Re β} {k : α → List Tk → Bool → Re β}
theorem CT.tells (c : CT z f args enc x l b) {v : α} {l' : List Tk} {b' : Bool} (hx : x = .ok (v, l', b')) : TCalls Tryz.prog f args (blk z l b) (fun r' h2 => True ∧ r' = enc v ∧ h2 = blk z l' b') (HF S) :=
  TCalls.mono c (fun r h' ⟨v2, l2, b2, e1, e2, e3⟩ => by
    rw [hx] at e1; injection e1 with e1; injection e1 with q1 e1; injection e1 with q2 q3
    subst q1 q2 q3
    exact ⟨trivial, e2, e3⟩) (fun w ⟨ft, e, _⟩ => by rw [hx] at e; cases e)
theorem CT.throws (c : CT z f args enc x l b) (hS : S = bnd x k) {ft : Flt} (hx : x = .error ft) (r : PV) (h' : Heap) : TCalls Tryz.prog f args (blk z l b) (fun r' h2 => False ∧ r' = r ∧ h2 = h') (HF S) :=
  TCalls.mono c (fun r h' ⟨v2, l2, b2, e1, e2, e3⟩ => by rw [hx] at e1; cases e1) (fun w ⟨ft', e1, e2⟩ => ⟨ft', by rw [hS, e1]; rfl, e2⟩)
theorem CE.tells {y : Except Flt α} (c : CE f args enc y) {v : α} (hx : y = .ok v) : TCalls Tryz.prog f args [] (fun r' h2 => True ∧ r' = enc v ∧ h2 = []) (HF S) :=
  TCalls.mono c (fun r h' ⟨v2, e1, e2, e3⟩ => by
    rw [hx] at e1; injection e1 with e1
    subst e1
    exact ⟨trivial, e2, e3⟩) (fun w ⟨ft, e, _⟩ => by rw [hx] at e; cases e)
theorem CE.throws {y : Except Flt α} {ke : α → Re β} (c : CE f args enc y) (hS : S = bndE y ke) {ft : Flt} (hx : y = .error ft) (r : PV) (h' : Heap) : TCalls Tryz.prog f args [] (fun r' h2 => False ∧ r' = r ∧ h2 = h') (HF S) :=
  TCalls.mono c (fun r h' ⟨v2, e1, e2, e3⟩ => by rw [hx] at e1; cases e1) (fun w ⟨ft', e1, e2⟩ => ⟨ft', by rw [hS, e1]; rfl, e2⟩)
end
theorem brS {β : Type} {S x y : Re β} {c : Bool} {X Y : Prop} (hS : S = ifB c x y) (h1 : c = true → S = x → X) (h2 : c = false → S = y → Y) : br c X Y := by
  cases c
  · exact h2 rfl hS
  · exact h1 rfl hS
theorem thrS {α : Type} {S : Except Flt α} {e li co : Int} (hS : S = .error ⟨e, li, co⟩) : HF S (.iface 40 (.agg (List.toArray [.int .i64 e, .int .i64 li, .int .i64 co]))) := ⟨_, hS, rfl⟩
theorem endS {α : Type} {z : Tk} {enc : α → PV} {S : Re α} {v : α} {l : List Tk} {b : Bool} {r : PV} (hS : S = .ok (v, l, b)) (hr : r = enc v) : QF z enc S r [[.sl (tksP z l), .con (.bool b)]] := ⟨v, l, b, hS, hr, rfl⟩
theorem tks_len {z : Tk} {l : List Tk} : (tksP z l).length = l.length + 1 := by simp [tksP]
theorem tks_hd {z : Tk} {l : List Tk} : (tksP z l)[(0 : Int).toNat]? = some (tkP (hd z l)) := by cases l <;> rfl
theorem tks_tail {z : Tk} {l : List Tk} (h : l ≠ []) : (tksP z l).drop 1 = tksP z l.tail := by cases l with | nil => exact absurd rfl h | cons t r => rfl
theorem tks_six {z : Tk} {l : List Tk} : ∀ y ∈ tksP z l, y.length = 6 := fun y hy => by
  unfold tksP at hy
  obtain ⟨t, _, rfl⟩ := List.mem_map.1 hy
  rfl
theorem spE {β : Type} {z : Tk} {f : FuncId} {args : List PV} {x : Re Ex} {l : List Tk} {b : Bool} {S : Re β} {k : Ex → List Tk → Bool → Re β} (c : CT z f args (fun v => .agg (exP v)) x l b) (he : Enters Tryz.prog f) (hS : S = bnd x k) {R : Int → Int → Int → Int → List (List PV) → ByteArray → List (List PV) → List (List PV) → List (List PV) → Bool → Prop}
    (hk : ∀ k0 li co m y n ks ps bs l' b', x = .ok ((.mk k0 li co m y n ks ps bs), l', b') → S = k (.mk k0 li co m y n ks ps bs) l' b' → R k0 li co m (byP y) n (exPs ks) (arPs bs ps) (tksP z l') b') :
    ∃ k0' : Int, ∃ li' : Int, ∃ co' : Int, ∃ m' : Int, ∃ y' : List (List PV), ∃ n' : ByteArray, ∃ ks' : List (List PV), ∃ rs' : List (List PV), ∃ l'' : List (List PV), ∃ b'' : Bool, ∃ g : Prop, CallT Tryz.prog (HF S) True f args [[.sl (tksP z l), .con (.bool b)]] (.agg [.con (.int .i64 k0'), .con (.int .i64 li'), .con (.int .i64 co'), .con (.int .i64 m'), .sl y', .con (.string n'), .sl ks', .sl rs']) [[.sl l'', .con (.bool b'')]] g (g → R k0' li' co' m' y' n' ks' rs' l'' b'') := by
  cases hx : x with
  | ok y =>
    obtain ⟨⟨k0, li, co, m, y, n, ks, ps, bs⟩, l', b'⟩ := y
    exact ⟨k0, li, co, m, (byP y), n, (exPs ks), (arPs bs ps), tksP z l', b', True, ⟨he, fun _ => c.tells hx, fun _ => hk k0 li co m y n ks ps bs l' b' hx (by rw [hS, hx]; rfl)⟩⟩
  | error ft => exact ⟨0, 0, 0, 0, [], e0, [], [], [], false, False, ⟨he, fun _ => c.throws hS hx _ _, fun h => h.elim⟩⟩
theorem spEC {β : Type} {z : Tk} {f : FuncId} {args : List PV} {x : Re Ex} {l : List Tk} {b : Bool} {S : Re β} {k : Ex → List Tk → Bool → Re β} {pre : Prop} (c : CT z f args (fun v => .agg (exP v)) x l b) (he : Enters Tryz.prog f) (hS : S = bnd x k) {R : Int → Int → Int → Int → List (List PV) → ByteArray → List (List PV) → List (List PV) → List (List PV) → Bool → Prop → Prop}
    (hk : ∀ k0 li co m y n ks ps bs l' b', x = .ok ((.mk k0 li co m y n ks ps bs), l', b') → S = k (.mk k0 li co m y n ks ps bs) l' b' → R k0 li co m (byP y) n (exPs ks) (arPs bs ps) (tksP z l') b' True) (hj : ∀ ft, x = .error ft → R 0 0 0 0 [] e0 [] [] [] false False) :
    ∃ k0' : Int, ∃ li' : Int, ∃ co' : Int, ∃ m' : Int, ∃ y' : List (List PV), ∃ n' : ByteArray, ∃ ks' : List (List PV), ∃ rs' : List (List PV), ∃ l'' : List (List PV), ∃ b'' : Bool, ∃ g : Prop, CallT Tryz.prog (HF S) pre f args [[.sl (tksP z l), .con (.bool b)]] (.agg [.con (.int .i64 k0'), .con (.int .i64 li'), .con (.int .i64 co'), .con (.int .i64 m'), .sl y', .con (.string n'), .sl ks', .sl rs']) [[.sl l'', .con (.bool b'')]] g (R k0' li' co' m' y' n' ks' rs' l'' b'' g) := by
  cases hx : x with
  | ok y =>
    obtain ⟨⟨k0, li, co, m, y, n, ks, ps, bs⟩, l', b'⟩ := y
    exact ⟨k0, li, co, m, (byP y), n, (exPs ks), (arPs bs ps), tksP z l', b', True, ⟨he, fun _ => c.tells hx, hk k0 li co m y n ks ps bs l' b' hx (by rw [hS, hx]; rfl)⟩⟩
  | error ft => exact ⟨0, 0, 0, 0, [], e0, [], [], [], false, False, ⟨he, fun _ => c.throws hS hx _ _, hj ft hx⟩⟩
theorem spP {β : Type} {z : Tk} {f : FuncId} {args : List PV} {x : Re Pt} {l : List Tk} {b : Bool} {S : Re β} {k : Pt → List Tk → Bool → Re β} (c : CT z f args (fun v => .agg (ptP v)) x l b) (he : Enters Tryz.prog f) (hS : S = bnd x k) {R : Int → Int → Int → ByteArray → Int → List (List PV) → List (List PV) → Bool → Prop}
    (hk : ∀ k0 li co n m ks l' b', x = .ok ((.mk k0 li co n m ks), l', b') → S = k (.mk k0 li co n m ks) l' b' → R k0 li co n m (ptPs ks) (tksP z l') b') :
    ∃ k0' : Int, ∃ li' : Int, ∃ co' : Int, ∃ n' : ByteArray, ∃ m' : Int, ∃ ks' : List (List PV), ∃ l'' : List (List PV), ∃ b'' : Bool, ∃ g : Prop, CallT Tryz.prog (HF S) True f args [[.sl (tksP z l), .con (.bool b)]] (.agg [.con (.int .i64 k0'), .con (.int .i64 li'), .con (.int .i64 co'), .con (.string n'), .con (.int .i64 m'), .sl ks']) [[.sl l'', .con (.bool b'')]] g (g → R k0' li' co' n' m' ks' l'' b'') := by
  cases hx : x with
  | ok y =>
    obtain ⟨⟨k0, li, co, n, m, ks⟩, l', b'⟩ := y
    exact ⟨k0, li, co, n, m, (ptPs ks), tksP z l', b', True, ⟨he, fun _ => c.tells hx, fun _ => hk k0 li co n m ks l' b' hx (by rw [hS, hx]; rfl)⟩⟩
  | error ft => exact ⟨0, 0, 0, e0, 0, [], [], false, False, ⟨he, fun _ => c.throws hS hx _ _, fun h => h.elim⟩⟩
theorem spT {β : Type} {z : Tk} {f : FuncId} {args : List PV} {x : Re Ty} {l : List Tk} {b : Bool} {S : Re β} {k : Ty → List Tk → Bool → Re β} (c : CT z f args (fun v => .agg (tyP v)) x l b) (he : Enters Tryz.prog f) (hS : S = bnd x k) {R : Int → ByteArray → List (List PV) → List (List PV) → Bool → Prop}
    (hk : ∀ k0 n ks l' b', x = .ok ((.mk k0 n ks), l', b') → S = k (.mk k0 n ks) l' b' → R k0 n (tyPs ks) (tksP z l') b') :
    ∃ k0' : Int, ∃ n' : ByteArray, ∃ ks' : List (List PV), ∃ l'' : List (List PV), ∃ b'' : Bool, ∃ g : Prop, CallT Tryz.prog (HF S) True f args [[.sl (tksP z l), .con (.bool b)]] (.agg [.con (.int .i64 k0'), .con (.string n'), .sl ks']) [[.sl l'', .con (.bool b'')]] g (g → R k0' n' ks' l'' b'') := by
  cases hx : x with
  | ok y =>
    obtain ⟨⟨k0, n, ks⟩, l', b'⟩ := y
    exact ⟨k0, n, (tyPs ks), tksP z l', b', True, ⟨he, fun _ => c.tells hx, fun _ => hk k0 n ks l' b' hx (by rw [hS, hx]; rfl)⟩⟩
  | error ft => exact ⟨0, e0, [], [], false, False, ⟨he, fun _ => c.throws hS hx _ _, fun h => h.elim⟩⟩
theorem spK {β : Type} {z : Tk} {f : FuncId} {args : List PV} {x : Re Tk} {l : List Tk} {b : Bool} {S : Re β} {k : Tk → List Tk → Bool → Re β} (c : CT z f args (fun v => .agg (tkP v)) x l b) (he : Enters Tryz.prog f) (hS : S = bnd x k) {R : Int → ByteArray → Int → List (List PV) → Int → Int → List (List PV) → Bool → Prop}
    (hk : ∀ k0 t m y li co l' b', x = .ok (⟨k0, t, m, y, li, co⟩, l', b') → S = k ⟨k0, t, m, y, li, co⟩ l' b' → R k0 t m (byP y) li co (tksP z l') b') :
    ∃ k0' : Int, ∃ t' : ByteArray, ∃ m' : Int, ∃ y' : List (List PV), ∃ li' : Int, ∃ co' : Int, ∃ l'' : List (List PV), ∃ b'' : Bool, ∃ g : Prop, CallT Tryz.prog (HF S) True f args [[.sl (tksP z l), .con (.bool b)]] (.agg [.con (.int .i64 k0'), .con (.string t'), .con (.int .i64 m'), .sl y', .con (.int .i64 li'), .con (.int .i64 co')]) [[.sl l'', .con (.bool b'')]] g (g → R k0' t' m' y' li' co' l'' b'') := by
  cases hx : x with
  | ok y =>
    obtain ⟨⟨k0, t, m, y, li, co⟩, l', b'⟩ := y
    exact ⟨k0, t, m, (byP y), li, co, tksP z l', b', True, ⟨he, fun _ => c.tells hx, fun _ => hk k0 t m y li co l' b' hx (by rw [hS, hx]; rfl)⟩⟩
  | error ft => exact ⟨0, e0, 0, [], 0, 0, [], false, False, ⟨he, fun _ => c.throws hS hx _ _, fun h => h.elim⟩⟩
theorem spKC {β : Type} {z : Tk} {f : FuncId} {args : List PV} {x : Re Tk} {l : List Tk} {b : Bool} {S : Re β} {k : Tk → List Tk → Bool → Re β} {pre : Prop} (c : CT z f args (fun v => .agg (tkP v)) x l b) (he : Enters Tryz.prog f) (hS : S = bnd x k) {R : Int → ByteArray → Int → List (List PV) → Int → Int → List (List PV) → Bool → Prop → Prop}
    (hk : ∀ k0 t m y li co l' b', x = .ok (⟨k0, t, m, y, li, co⟩, l', b') → S = k ⟨k0, t, m, y, li, co⟩ l' b' → R k0 t m (byP y) li co (tksP z l') b' True) (hj : ∀ ft, x = .error ft → R 0 e0 0 [] 0 0 [] false False) :
    ∃ k0' : Int, ∃ t' : ByteArray, ∃ m' : Int, ∃ y' : List (List PV), ∃ li' : Int, ∃ co' : Int, ∃ l'' : List (List PV), ∃ b'' : Bool, ∃ g : Prop, CallT Tryz.prog (HF S) pre f args [[.sl (tksP z l), .con (.bool b)]] (.agg [.con (.int .i64 k0'), .con (.string t'), .con (.int .i64 m'), .sl y', .con (.int .i64 li'), .con (.int .i64 co')]) [[.sl l'', .con (.bool b'')]] g (R k0' t' m' y' li' co' l'' b'' g) := by
  cases hx : x with
  | ok y =>
    obtain ⟨⟨k0, t, m, y, li, co⟩, l', b'⟩ := y
    exact ⟨k0, t, m, (byP y), li, co, tksP z l', b', True, ⟨he, fun _ => c.tells hx, hk k0 t m y li co l' b' hx (by rw [hS, hx]; rfl)⟩⟩
  | error ft => exact ⟨0, e0, 0, [], 0, 0, [], false, False, ⟨he, fun _ => c.throws hS hx _ _, hj ft hx⟩⟩
theorem spA {β : Type} {z : Tk} {f : FuncId} {args : List PV} {x : Re (Pt × Ex)} {l : List Tk} {b : Bool} {S : Re β} {k : (Pt × Ex) → List Tk → Bool → Re β} (c : CT z f args (fun v => .agg (ptP v.1 ++ exP v.2)) x l b) (he : Enters Tryz.prog f) (hS : S = bnd x k) {R : Int → Int → Int → ByteArray → Int → List (List PV) → Int → Int → Int → Int → List (List PV) → ByteArray → List (List PV) → List (List PV) → List (List PV) → Bool → Prop}
    (hk : ∀ k0 li co n m ks k1 li1 co1 m1 y1 n1 ks1 ps1 bs1 l' b', x = .ok ((.mk k0 li co n m ks, .mk k1 li1 co1 m1 y1 n1 ks1 ps1 bs1), l', b') → S = k (.mk k0 li co n m ks, .mk k1 li1 co1 m1 y1 n1 ks1 ps1 bs1) l' b' → R k0 li co n m (ptPs ks) k1 li1 co1 m1 (byP y1) n1 (exPs ks1) (arPs bs1 ps1) (tksP z l') b') :
    ∃ k0' : Int, ∃ li' : Int, ∃ co' : Int, ∃ n' : ByteArray, ∃ m' : Int, ∃ ks' : List (List PV), ∃ k1' : Int, ∃ li1' : Int, ∃ co1' : Int, ∃ m1' : Int, ∃ y1' : List (List PV), ∃ n1' : ByteArray, ∃ ks1' : List (List PV), ∃ rs1' : List (List PV), ∃ l'' : List (List PV), ∃ b'' : Bool, ∃ g : Prop, CallT Tryz.prog (HF S) True f args [[.sl (tksP z l), .con (.bool b)]] (.agg [.con (.int .i64 k0'), .con (.int .i64 li'), .con (.int .i64 co'), .con (.string n'), .con (.int .i64 m'), .sl ks', .con (.int .i64 k1'), .con (.int .i64 li1'), .con (.int .i64 co1'), .con (.int .i64 m1'), .sl y1', .con (.string n1'), .sl ks1', .sl rs1']) [[.sl l'', .con (.bool b'')]] g (g → R k0' li' co' n' m' ks' k1' li1' co1' m1' y1' n1' ks1' rs1' l'' b'') := by
  cases hx : x with
  | ok y =>
    obtain ⟨⟨⟨k0, li, co, n, m, ks⟩, ⟨k1, li1, co1, m1, y1, n1, ks1, ps1, bs1⟩⟩, l', b'⟩ := y
    exact ⟨k0, li, co, n, m, (ptPs ks), k1, li1, co1, m1, (byP y1), n1, (exPs ks1), (arPs bs1 ps1), tksP z l', b', True, ⟨he, fun _ => c.tells hx, fun _ => hk k0 li co n m ks k1 li1 co1 m1 y1 n1 ks1 ps1 bs1 l' b' hx (by rw [hS, hx]; rfl)⟩⟩
  | error ft => exact ⟨0, 0, 0, e0, 0, [], 0, 0, 0, 0, [], e0, [], [], [], false, False, ⟨he, fun _ => c.throws hS hx _ _, fun h => h.elim⟩⟩
theorem spU {β : Type} {z : Tk} {f : FuncId} {args : List PV} {x : Re Unit} {l : List Tk} {b : Bool} {S : Re β} {k : Unit → List Tk → Bool → Re β} (c : CT z f args (fun v => .tup []) x l b) (he : Enters Tryz.prog f) (hS : S = bnd x k) {R : List (List PV) → Bool → Prop}
    (hk : ∀  l' b', x = .ok ((), l', b') → S = k () l' b' → R  (tksP z l') b') :
    ∃ l'' : List (List PV), ∃ b'' : Bool, ∃ g : Prop, CallT Tryz.prog (HF S) True f args [[.sl (tksP z l), .con (.bool b)]] (.tup []) [[.sl l'', .con (.bool b'')]] g (g → R  l'' b'') := by
  cases hx : x with
  | ok y =>
    obtain ⟨⟨⟩, l', b'⟩ := y
    exact ⟨tksP z l', b', True, ⟨he, fun _ => c.tells hx, fun _ => hk  l' b' hx (by rw [hS, hx]; rfl)⟩⟩
  | error ft => exact ⟨[], false, False, ⟨he, fun _ => c.throws hS hx _ _, fun h => h.elim⟩⟩
theorem spB {β : Type} {z : Tk} {f : FuncId} {args : List PV} {x : Re Bool} {l : List Tk} {b : Bool} {S : Re β} {k : Bool → List Tk → Bool → Re β} (c : CT z f args (fun v => .con (.bool v)) x l b) (he : Enters Tryz.prog f) (hS : S = bnd x k) {R : Bool → List (List PV) → Bool → Prop}
    (hk : ∀ v l' b', x = .ok (v, l', b') → S = k v l' b' → R v (tksP z l') b') :
    ∃ v' : Bool, ∃ l'' : List (List PV), ∃ b'' : Bool, ∃ g : Prop, CallT Tryz.prog (HF S) True f args [[.sl (tksP z l), .con (.bool b)]] (.con (.bool v')) [[.sl l'', .con (.bool b'')]] g (g → R v' l'' b'') := by
  cases hx : x with
  | ok y =>
    obtain ⟨v, l', b'⟩ := y
    exact ⟨v, tksP z l', b', True, ⟨he, fun _ => c.tells hx, fun _ => hk v l' b' hx (by rw [hS, hx]; rfl)⟩⟩
  | error ft => exact ⟨false, [], false, False, ⟨he, fun _ => c.throws hS hx _ _, fun h => h.elim⟩⟩
theorem spI {β : Type} {z : Tk} {f : FuncId} {args : List PV} {x : Re Int} {l : List Tk} {b : Bool} {S : Re β} {k : Int → List Tk → Bool → Re β} (c : CT z f args (fun v => .con (.int .i64 v)) x l b) (he : Enters Tryz.prog f) (hS : S = bnd x k) {R : Int → List (List PV) → Bool → Prop}
    (hk : ∀ v l' b', x = .ok (v, l', b') → S = k v l' b' → R v (tksP z l') b') :
    ∃ v' : Int, ∃ l'' : List (List PV), ∃ b'' : Bool, ∃ g : Prop, CallT Tryz.prog (HF S) True f args [[.sl (tksP z l), .con (.bool b)]] (.con (.int .i64 v')) [[.sl l'', .con (.bool b'')]] g (g → R v' l'' b'') := by
  cases hx : x with
  | ok y =>
    obtain ⟨v, l', b'⟩ := y
    exact ⟨v, tksP z l', b', True, ⟨he, fun _ => c.tells hx, fun _ => hk v l' b' hx (by rw [hS, hx]; rfl)⟩⟩
  | error ft => exact ⟨0, [], false, False, ⟨he, fun _ => c.throws hS hx _ _, fun h => h.elim⟩⟩
theorem spS {β : Type} {z : Tk} {f : FuncId} {args : List PV} {x : Re ByteArray} {l : List Tk} {b : Bool} {S : Re β} {k : ByteArray → List Tk → Bool → Re β} (c : CT z f args (fun v => .con (.string v)) x l b) (he : Enters Tryz.prog f) (hS : S = bnd x k) {R : ByteArray → List (List PV) → Bool → Prop}
    (hk : ∀ v l' b', x = .ok (v, l', b') → S = k v l' b' → R v (tksP z l') b') :
    ∃ v' : ByteArray, ∃ l'' : List (List PV), ∃ b'' : Bool, ∃ g : Prop, CallT Tryz.prog (HF S) True f args [[.sl (tksP z l), .con (.bool b)]] (.con (.string v')) [[.sl l'', .con (.bool b'')]] g (g → R v' l'' b'') := by
  cases hx : x with
  | ok y =>
    obtain ⟨v, l', b'⟩ := y
    exact ⟨v, tksP z l', b', True, ⟨he, fun _ => c.tells hx, fun _ => hk v l' b' hx (by rw [hS, hx]; rfl)⟩⟩
  | error ft => exact ⟨e0, [], false, False, ⟨he, fun _ => c.throws hS hx _ _, fun h => h.elim⟩⟩
theorem spL {α β : Type} {z : Tk} {f : FuncId} {args : List PV} {x : Re (List α)} {l : List Tk} {b : Bool} {S : Re β} {k : List α → List Tk → Bool → Re β} {en : List α → List (List PV)} (c : CT z f args (fun v => .sl (en v)) x l b) (he : Enters Tryz.prog f) (hS : S = bnd x k) {R : List (List PV) → List (List PV) → Bool → Prop}
    (hk : ∀ v l' b', x = .ok (v, l', b') → S = k v l' b' → R (en v) (tksP z l') b') :
    ∃ v' : List (List PV), ∃ l'' : List (List PV), ∃ b'' : Bool, ∃ g : Prop, CallT Tryz.prog (HF S) True f args [[.sl (tksP z l), .con (.bool b)]] (.sl v') [[.sl l'', .con (.bool b'')]] g (g → R v' l'' b'') := by
  cases hx : x with
  | ok y =>
    obtain ⟨v, l', b'⟩ := y
    exact ⟨en v, tksP z l', b', True, ⟨he, fun _ => c.tells hx, fun _ => hk v l' b' hx (by rw [hS, hx]; rfl)⟩⟩
  | error ft => exact ⟨[], [], false, False, ⟨he, fun _ => c.throws hS hx _ _, fun h => h.elim⟩⟩
theorem spLC {α β : Type} {z : Tk} {f : FuncId} {args : List PV} {x : Re (List α)} {l : List Tk} {b : Bool} {S : Re β} {k : List α → List Tk → Bool → Re β} {en : List α → List (List PV)} {pre : Prop} (c : CT z f args (fun v => .sl (en v)) x l b) (he : Enters Tryz.prog f) (hS : S = bnd x k) {R : List (List PV) → List (List PV) → Bool → Prop → Prop}
    (hk : ∀ v l' b', x = .ok (v, l', b') → S = k v l' b' → R (en v) (tksP z l') b' True) (hj : ∀ ft, x = .error ft → R [] [] false False) :
    ∃ v' : List (List PV), ∃ l'' : List (List PV), ∃ b'' : Bool, ∃ g : Prop, CallT Tryz.prog (HF S) pre f args [[.sl (tksP z l), .con (.bool b)]] (.sl v') [[.sl l'', .con (.bool b'')]] g (R v' l'' b'' g) := by
  cases hx : x with
  | ok y =>
    obtain ⟨v, l', b'⟩ := y
    exact ⟨en v, tksP z l', b', True, ⟨he, fun _ => c.tells hx, hk v l' b' hx (by rw [hS, hx]; rfl)⟩⟩
  | error ft => exact ⟨[], [], false, False, ⟨he, fun _ => c.throws hS hx _ _, hj ft hx⟩⟩
theorem whE {β : Type} {f : FuncId} {args : List PV} {xx : Except Flt Ex} {S : Re β} {ke : Ex → Re β} (c : CE f args (fun v => .agg (exP v)) xx) (he : Enters Tryz.prog f) (hS : S = bndE xx ke) {R : Int → Int → Int → Int → List (List PV) → ByteArray → List (List PV) → List (List PV) → Prop}
    (hk : ∀ k0 li co m y n ks ps bs, xx = .ok (.mk k0 li co m y n ks ps bs) → S = ke (.mk k0 li co m y n ks ps bs) → R k0 li co m (byP y) n (exPs ks) (arPs bs ps)) :
    ∃ k0' : Int, ∃ li' : Int, ∃ co' : Int, ∃ m' : Int, ∃ y' : List (List PV), ∃ n' : ByteArray, ∃ ks' : List (List PV), ∃ rs' : List (List PV), ∃ g : Prop, CallT Tryz.prog (HF S) True f args [] (.agg [.con (.int .i64 k0'), .con (.int .i64 li'), .con (.int .i64 co'), .con (.int .i64 m'), .sl y', .con (.string n'), .sl ks', .sl rs']) [] g (g → R k0' li' co' m' y' n' ks' rs') := by
  cases hx : xx with
  | ok y' =>
    obtain ⟨k0, li, co, m, y, n, ks, ps, bs⟩ := y'
    exact ⟨k0, li, co, m, (byP y), n, (exPs ks), (arPs bs ps), True, ⟨he, fun _ => c.tells hx, fun _ => hk k0 li co m y n ks ps bs hx (by rw [hS, hx]; rfl)⟩⟩
  | error ft => exact ⟨0, 0, 0, 0, [], e0, [], [], False, ⟨he, fun _ => c.throws hS hx _ _, fun h => h.elim⟩⟩
theorem whEC {β : Type} {f : FuncId} {args : List PV} {xx : Except Flt Ex} {S : Re β} {ke : Ex → Re β} {pre : Prop} (c : CE f args (fun v => .agg (exP v)) xx) (he : Enters Tryz.prog f) (hS : S = bndE xx ke) {R : Int → Int → Int → Int → List (List PV) → ByteArray → List (List PV) → List (List PV) → Prop → Prop}
    (hk : ∀ k0 li co m y n ks ps bs, xx = .ok (.mk k0 li co m y n ks ps bs) → S = ke (.mk k0 li co m y n ks ps bs) → R k0 li co m (byP y) n (exPs ks) (arPs bs ps) True) (hj : ∀ ft, xx = .error ft → R 0 0 0 0 [] e0 [] [] False) :
    ∃ k0' : Int, ∃ li' : Int, ∃ co' : Int, ∃ m' : Int, ∃ y' : List (List PV), ∃ n' : ByteArray, ∃ ks' : List (List PV), ∃ rs' : List (List PV), ∃ g : Prop, CallT Tryz.prog (HF S) pre f args [] (.agg [.con (.int .i64 k0'), .con (.int .i64 li'), .con (.int .i64 co'), .con (.int .i64 m'), .sl y', .con (.string n'), .sl ks', .sl rs']) [] g (R k0' li' co' m' y' n' ks' rs' g) := by
  cases hx : xx with
  | ok y' =>
    obtain ⟨k0, li, co, m, y, n, ks, ps, bs⟩ := y'
    exact ⟨k0, li, co, m, (byP y), n, (exPs ks), (arPs bs ps), True, ⟨he, fun _ => c.tells hx, hk k0 li co m y n ks ps bs hx (by rw [hS, hx]; rfl)⟩⟩
  | error ft => exact ⟨0, 0, 0, 0, [], e0, [], [], False, ⟨he, fun _ => c.throws hS hx _ _, hj ft hx⟩⟩
theorem whP {β : Type} {f : FuncId} {args : List PV} {xx : Except Flt Pt} {S : Re β} {ke : Pt → Re β} (c : CE f args (fun v => .agg (ptP v)) xx) (he : Enters Tryz.prog f) (hS : S = bndE xx ke) {R : Int → Int → Int → ByteArray → Int → List (List PV) → Prop}
    (hk : ∀ k0 li co n m ks, xx = .ok (.mk k0 li co n m ks) → S = ke (.mk k0 li co n m ks) → R k0 li co n m (ptPs ks)) :
    ∃ k0' : Int, ∃ li' : Int, ∃ co' : Int, ∃ n' : ByteArray, ∃ m' : Int, ∃ ks' : List (List PV), ∃ g : Prop, CallT Tryz.prog (HF S) True f args [] (.agg [.con (.int .i64 k0'), .con (.int .i64 li'), .con (.int .i64 co'), .con (.string n'), .con (.int .i64 m'), .sl ks']) [] g (g → R k0' li' co' n' m' ks') := by
  cases hx : xx with
  | ok y' =>
    obtain ⟨k0, li, co, n, m, ks⟩ := y'
    exact ⟨k0, li, co, n, m, (ptPs ks), True, ⟨he, fun _ => c.tells hx, fun _ => hk k0 li co n m ks hx (by rw [hS, hx]; rfl)⟩⟩
  | error ft => exact ⟨0, 0, 0, e0, 0, [], False, ⟨he, fun _ => c.throws hS hx _ _, fun h => h.elim⟩⟩
theorem whPC {β : Type} {f : FuncId} {args : List PV} {xx : Except Flt Pt} {S : Re β} {ke : Pt → Re β} {pre : Prop} (c : CE f args (fun v => .agg (ptP v)) xx) (he : Enters Tryz.prog f) (hS : S = bndE xx ke) {R : Int → Int → Int → ByteArray → Int → List (List PV) → Prop → Prop}
    (hk : ∀ k0 li co n m ks, xx = .ok (.mk k0 li co n m ks) → S = ke (.mk k0 li co n m ks) → R k0 li co n m (ptPs ks) True) (hj : ∀ ft, xx = .error ft → R 0 0 0 e0 0 [] False) :
    ∃ k0' : Int, ∃ li' : Int, ∃ co' : Int, ∃ n' : ByteArray, ∃ m' : Int, ∃ ks' : List (List PV), ∃ g : Prop, CallT Tryz.prog (HF S) pre f args [] (.agg [.con (.int .i64 k0'), .con (.int .i64 li'), .con (.int .i64 co'), .con (.string n'), .con (.int .i64 m'), .sl ks']) [] g (R k0' li' co' n' m' ks' g) := by
  cases hx : xx with
  | ok y' =>
    obtain ⟨k0, li, co, n, m, ks⟩ := y'
    exact ⟨k0, li, co, n, m, (ptPs ks), True, ⟨he, fun _ => c.tells hx, hk k0 li co n m ks hx (by rw [hS, hx]; rfl)⟩⟩
  | error ft => exact ⟨0, 0, 0, e0, 0, [], False, ⟨he, fun _ => c.throws hS hx _ _, hj ft hx⟩⟩
theorem whT {β : Type} {f : FuncId} {args : List PV} {xx : Except Flt Ty} {S : Re β} {ke : Ty → Re β} (c : CE f args (fun v => .agg (tyP v)) xx) (he : Enters Tryz.prog f) (hS : S = bndE xx ke) {R : Int → ByteArray → List (List PV) → Prop}
    (hk : ∀ k0 n ks, xx = .ok (.mk k0 n ks) → S = ke (.mk k0 n ks) → R k0 n (tyPs ks)) :
    ∃ k0' : Int, ∃ n' : ByteArray, ∃ ks' : List (List PV), ∃ g : Prop, CallT Tryz.prog (HF S) True f args [] (.agg [.con (.int .i64 k0'), .con (.string n'), .sl ks']) [] g (g → R k0' n' ks') := by
  cases hx : xx with
  | ok y' =>
    obtain ⟨k0, n, ks⟩ := y'
    exact ⟨k0, n, (tyPs ks), True, ⟨he, fun _ => c.tells hx, fun _ => hk k0 n ks hx (by rw [hS, hx]; rfl)⟩⟩
  | error ft => exact ⟨0, e0, [], False, ⟨he, fun _ => c.throws hS hx _ _, fun h => h.elim⟩⟩
end Go.Proofs.YtjhnmikciejekaaGreat.Deep

namespace Go.Proofs.YtjhnmikciejekaaGreat.Deep
open Go.RowKit
set_option linter.unusedVariables false
def loops60 (id : Nat) : Option (List Nat × List (Nat × Sh)) := none
def p60 (l1 : List (List PV)) (b2 : Bool) (Q : PV → Heap → Prop) : Prop :=
∃ i3 : Int, ∃ s4 : ByteArray, ∃ i5 : Int, ∃ l6 : List (List PV), ∃ i7 : Int, ∃ i8 : Int, IdxN l1 0 [i3, s4, i5, l6, i7, i8]
  (Q (.agg [i3, s4, i5, l6, i7, i8]) [[l1, b2]])
theorem a60 (l1 : List (List PV)) (b2 : Bool) (Q : PV → Heap → Prop) (h : p60 l1 b2 Q) : ACalls Tryz.prog 60 [(.ptr 0 0)] [[l1, b2]] Q := by
  have hb : Option.some (bodyOf Tryz.f60) = Tryz.f60.body := by kernel_rfl
  exact acalls_canon (res := [.agg [.int .i64, .str, .int .i64, .list, .int .i64, .int .i64]]) (post := [.keep]) (acalls_eq (S := S) (L := loops60) mixed tok Tryz.func60 hb.symm (by kernel_rfl) h)
def p58 (l1 : List (List PV)) (b2 : Bool) (Q : PV → Heap → Prop) : Prop :=
∃ i3 : Int, ∃ s4 : ByteArray, ∃ i5 : Int, ∃ l6 : List (List PV), ∃ i7 : Int, ∃ i8 : Int, CallF Tryz.prog 60 [(.ptr 0 0)] [[l1, b2]] (.agg [i3, s4, i5, l6, i7, i8]) [[l1, b2]]
  (Q (.con (.bool ((i3 : Int) == 0))) [[l1, b2]])
theorem a58 (l1 : List (List PV)) (b2 : Bool) (Q : PV → Heap → Prop) (h : p58 l1 b2 Q) : ACalls Tryz.prog 58 [(.ptr 0 0)] [[l1, b2]] Q := by
  have hb : Option.some (bodyOf Tryz.f58) = Tryz.f58.body := by kernel_rfl
  exact acalls_canon (res := [.cell (.bool)]) (post := [.keep]) (acalls_eq (S := S) (L := loops60) mixed tok Tryz.func58 hb.symm (by kernel_rfl) h)
def p103 (l1 : List (List PV)) (b2 : Bool) (Q : PV → Heap → Prop) : Prop :=
∃ i3 : Int, ∃ s4 : ByteArray, ∃ i5 : Int, ∃ l6 : List (List PV), ∃ i7 : Int, ∃ i8 : Int, CallF Tryz.prog 60 [(.ptr 0 0)] [[l1, b2]] (.agg [i3, s4, i5, l6, i7, i8]) [[l1, b2]]
  (Q (.agg [(.con (.int .i64 7)), i7, i8]) [[l1, b2]])
theorem a103 (l1 : List (List PV)) (b2 : Bool) (Q : PV → Heap → Prop) (h : p103 l1 b2 Q) : ACalls Tryz.prog 103 [(.ptr 0 0)] [[l1, b2]] Q := by
  have hb : Option.some (bodyOf Tryz.f103) = Tryz.f103.body := by kernel_rfl
  exact acalls_canon (res := [.agg [.int .i64, .int .i64, .int .i64]]) (post := [.keep]) (acalls_eq (S := S) (L := loops60) mixed tok Tryz.func103 hb.symm (by kernel_rfl) h)
def p114 (i1 : Int) (l2 : List (List PV)) (b3 : Bool) (Q : PV → Heap → Prop) : Prop :=
∃ i4 : Int, ∃ s5 : ByteArray, ∃ i6 : Int, ∃ l7 : List (List PV), ∃ i8 : Int, ∃ i9 : Int, CallF Tryz.prog 60 [(.ptr 0 0)] [[l2, b3]] (.agg [i4, s5, i6, l7, i8, i9]) [[l2, b3]]
  (br (((i4 : Int) == i1))
  (Q s5 [[l2, b3]])
  (Q (.con (.string ⟨#[]⟩)) [[l2, b3]]))
theorem a114 (i1 : Int) (l2 : List (List PV)) (b3 : Bool) (Q : PV → Heap → Prop) (h : p114 i1 l2 b3 Q) : ACalls Tryz.prog 114 [(.ptr 0 0), i1] [[l2, b3]] Q := by
  have hb : Option.some (bodyOf Tryz.f114) = Tryz.f114.body := by kernel_rfl
  exact acalls_canon (res := [.cell (.str)]) (post := [.keep]) (acalls_eq (S := S) (L := loops60) mixed tok Tryz.func114 hb.symm (by kernel_rfl) h)
def p71 (l1 : List (List PV)) (b2 : Bool) (Q : PV → Heap → Prop) : Prop :=
∃ s3 : ByteArray, CallF Tryz.prog 114 [(.ptr 0 0), (.con (.int .i64 5))] [[l1, b2]] s3 [[l1, b2]]
  (Q s3 [[l1, b2]])
theorem a71 (l1 : List (List PV)) (b2 : Bool) (Q : PV → Heap → Prop) (h : p71 l1 b2 Q) : ACalls Tryz.prog 71 [(.ptr 0 0)] [[l1, b2]] Q := by
  have hb : Option.some (bodyOf Tryz.f71) = Tryz.f71.body := by kernel_rfl
  exact acalls_canon (res := [.cell (.str)]) (post := [.keep]) (acalls_eq (S := S) (L := loops60) mixed tok Tryz.func71 hb.symm (by kernel_rfl) h)
def p125 (l1 : List (List PV)) (b2 : Bool) (Q : PV → Heap → Prop) : Prop :=
∃ s3 : ByteArray, CallF Tryz.prog 114 [(.ptr 0 0), (.con (.int .i64 6))] [[l1, b2]] s3 [[l1, b2]]
  (Q s3 [[l1, b2]])
theorem a125 (l1 : List (List PV)) (b2 : Bool) (Q : PV → Heap → Prop) (h : p125 l1 b2 Q) : ACalls Tryz.prog 125 [(.ptr 0 0)] [[l1, b2]] Q := by
  have hb : Option.some (bodyOf Tryz.f125) = Tryz.f125.body := by kernel_rfl
  exact acalls_canon (res := [.cell (.str)]) (post := [.keep]) (acalls_eq (S := S) (L := loops60) mixed tok Tryz.func125 hb.symm (by kernel_rfl) h)
def p82 (s1 : ByteArray) (l2 : List (List PV)) (b3 : Bool) (Q : PV → Heap → Prop) : Prop :=
∃ s4 : ByteArray, CallF Tryz.prog 125 [(.ptr 0 0)] [[l2, b3]] s4 [[l2, b3]]
  (br ((ByteArray.toList s4 == ByteArray.toList s1))
  (Q (.con (.bool true)) [[l2, b3]])
  (∃ s5 : ByteArray, CallF Tryz.prog 71 [(.ptr 0 0)] [[l2, b3]] s5 [[l2, b3]]
  (Q (.con (.bool (ByteArray.toList s5 == ByteArray.toList s1))) [[l2, b3]])))
theorem a82 (s1 : ByteArray) (l2 : List (List PV)) (b3 : Bool) (Q : PV → Heap → Prop) (h : p82 s1 l2 b3 Q) : ACalls Tryz.prog 82 [(.ptr 0 0), s1] [[l2, b3]] Q := by
  have hb : Option.some (bodyOf Tryz.f82) = Tryz.f82.body := by kernel_rfl
  exact acalls_canon (res := [.cell (.bool)]) (post := [.keep]) (acalls_eq (S := S) (L := loops60) mixed tok Tryz.func82 hb.symm (by kernel_rfl) h)
def p57 (l1 : List (List PV)) (b2 : Bool) (Q : PV → Heap → Prop) (H : Value → Prop) : Prop :=
∃ b3 : Bool, CallF Tryz.prog 58 [(.ptr 0 0)] [[l1, b2]] b3 [[l1, b2]]
  (br ((!b3))
  (∃ i4 : Int, ∃ i5 : Int, ∃ i6 : Int, CallF Tryz.prog 103 [(.ptr 0 0)] [[l1, b2]] (.agg [i4, i5, i6]) [[l1, b2]]
  (H (.iface 40 (.agg (List.toArray [(.int .i64 i4), (.int .i64 i5), (.int .i64 i6)])))))
  (Q (.tup []) [[l1, b2]]))
theorem a57 (l1 : List (List PV)) (b2 : Bool) (Q : PV → Heap → Prop) (H : Value → Prop) (h : p57 l1 b2 Q H) : TCalls Tryz.prog 57 [(.ptr 0 0)] [[l1, b2]] Q H := by
  have hb : Option.some (bodyOf Tryz.f57) = Tryz.f57.body := by kernel_rfl
  exact tcalls_canon (res := []) (post := [.cells [.list, .bool]]) (tcalls_eq (S := S) (L := loops60) mixed tok Tryz.func57 hb.symm (by kernel_rfl) h)
def p115 (l1 : List (List PV)) (b2 : Bool) (Q : PV → Heap → Prop) (H : Value → Prop) : Prop :=
∃ i3 : Int, ∃ s4 : ByteArray, ∃ i5 : Int, ∃ l6 : List (List PV), ∃ i7 : Int, ∃ i8 : Int, CallF Tryz.prog 60 [(.ptr 0 0)] [[l1, b2]] (.agg [i3, s4, i5, l6, i7, i8]) [[l1, b2]]
  (br (b2)
  (H (.iface 40 (.agg (List.toArray [(.int .i64 27), (.int .i64 i7), (.int .i64 i8)]))))
  (∃ n9 : Nat, CutN l1 6 n9 1
  (Q (.agg [i3, s4, i5, l6, i7, i8]) [[(.sl (List.drop n9 l1)), b2]])))
theorem a115 (l1 : List (List PV)) (b2 : Bool) (Q : PV → Heap → Prop) (H : Value → Prop) (h : p115 l1 b2 Q H) : TCalls Tryz.prog 115 [(.ptr 0 0)] [[l1, b2]] Q H := by
  have hb : Option.some (bodyOf Tryz.f115) = Tryz.f115.body := by kernel_rfl
  exact tcalls_canon (res := [.agg [.int .i64, .str, .int .i64, .list, .int .i64, .int .i64]]) (post := [.cells [.list, .bool]]) (tcalls_eq (S := S) (L := loops60) mixed tok Tryz.func115 hb.symm (by kernel_rfl) h)
def p119 (s1 : ByteArray) (l2 : List (List PV)) (b3 : Bool) (Q : PV → Heap → Prop) (H : Value → Prop) : Prop :=
∃ b4 : Bool, CallF Tryz.prog 82 [(.ptr 0 0), s1] [[l2, b3]] b4 [[l2, b3]]
  (br (b4)
  (∃ i5 : Int, ∃ s6 : ByteArray, ∃ i7 : Int, ∃ l8 : List (List PV), ∃ i9 : Int, ∃ i10 : Int, ∃ l11 : List (List PV), ∃ b12 : Bool, ∃ g13 : Prop, CallT Tryz.prog H True 115 [(.ptr 0 0)] [[l2, b3]] (.agg [i5, s6, i7, l8, i9, i10]) [[l11, b12]] g13
  ((g13 → (Q b4 [[l11, b12]]))))
  (Q b4 [[l2, b3]]))
theorem a119 (s1 : ByteArray) (l2 : List (List PV)) (b3 : Bool) (Q : PV → Heap → Prop) (H : Value → Prop) (h : p119 s1 l2 b3 Q H) : TCalls Tryz.prog 119 [(.ptr 0 0), s1] [[l2, b3]] Q H := by
  have hb : Option.some (bodyOf Tryz.f119) = Tryz.f119.body := by kernel_rfl
  exact tcalls_canon (res := [.cell (.bool)]) (post := [.cells [.list, .bool]]) (tcalls_eq (S := S) (L := loops60) mixed tok Tryz.func119 hb.symm (by kernel_rfl) h)
def p118 (s1 : ByteArray) (l2 : List (List PV)) (b3 : Bool) (Q : PV → Heap → Prop) (H : Value → Prop) : Prop :=
∃ b4 : Bool, ∃ l5 : List (List PV), ∃ b6 : Bool, ∃ g7 : Prop, CallT Tryz.prog H True 119 [(.ptr 0 0), s1] [[l2, b3]] b4 [[l5, b6]] g7
  ((g7 → (br ((!b4))
  (∃ i8 : Int, ∃ i9 : Int, ∃ i10 : Int, CallF Tryz.prog 103 [(.ptr 0 0)] [[l5, b6]] (.agg [i8, i9, i10]) [[l5, b6]]
  (H (.iface 40 (.agg (List.toArray [(.int .i64 i8), (.int .i64 i9), (.int .i64 i10)])))))
  (Q (.tup []) [[l5, b6]]))))
theorem a118 (s1 : ByteArray) (l2 : List (List PV)) (b3 : Bool) (Q : PV → Heap → Prop) (H : Value → Prop) (h : p118 s1 l2 b3 Q H) : TCalls Tryz.prog 118 [(.ptr 0 0), s1] [[l2, b3]] Q H := by
  have hb : Option.some (bodyOf Tryz.f118) = Tryz.f118.body := by kernel_rfl
  exact tcalls_canon (res := []) (post := [.cells [.list, .bool]]) (tcalls_eq (S := S) (L := loops60) mixed tok Tryz.func118 hb.symm (by kernel_rfl) h)
def p133 (i1 : Int) (l2 : List (List PV)) (b3 : Bool) (Q : PV → Heap → Prop) (H : Value → Prop) : Prop :=
∃ i4 : Int, ∃ s5 : ByteArray, ∃ i6 : Int, ∃ l7 : List (List PV), ∃ i8 : Int, ∃ i9 : Int, CallF Tryz.prog 60 [(.ptr 0 0)] [[l2, b3]] (.agg [i4, s5, i6, l7, i8, i9]) [[l2, b3]]
  (br (((i4 : Int) != i1))
  (∃ i10 : Int, ∃ i11 : Int, ∃ i12 : Int, CallF Tryz.prog 103 [(.ptr 0 0)] [[l2, b3]] (.agg [i10, i11, i12]) [[l2, b3]]
  (H (.iface 40 (.agg (List.toArray [(.int .i64 i10), (.int .i64 i11), (.int .i64 i12)])))))
  (∃ i13 : Int, ∃ s14 : ByteArray, ∃ i15 : Int, ∃ l16 : List (List PV), ∃ i17 : Int, ∃ i18 : Int, ∃ l19 : List (List PV), ∃ b20 : Bool, ∃ g21 : Prop, CallT Tryz.prog H True 115 [(.ptr 0 0)] [[l2, b3]] (.agg [i13, s14, i15, l16, i17, i18]) [[l19, b20]] g21
  ((g21 → (Q (.agg [i13, s14, i15, l16, i17, i18]) [[l19, b20]])))))
theorem a133 (i1 : Int) (l2 : List (List PV)) (b3 : Bool) (Q : PV → Heap → Prop) (H : Value → Prop) (h : p133 i1 l2 b3 Q H) : TCalls Tryz.prog 133 [(.ptr 0 0), i1] [[l2, b3]] Q H := by
  have hb : Option.some (bodyOf Tryz.f133) = Tryz.f133.body := by kernel_rfl
  exact tcalls_canon (res := [.agg [.int .i64, .str, .int .i64, .list, .int .i64, .int .i64]]) (post := [.cells [.list, .bool]]) (tcalls_eq (S := S) (L := loops60) mixed tok Tryz.func133 hb.symm (by kernel_rfl) h)
def p84 (l1 : List (List PV)) (b2 : Bool) (Q : PV → Heap → Prop) (H : Value → Prop) : Prop :=
∃ i3 : Int, ∃ s4 : ByteArray, ∃ i5 : Int, ∃ l6 : List (List PV), ∃ i7 : Int, ∃ i8 : Int, ∃ l9 : List (List PV), ∃ b10 : Bool, ∃ g11 : Prop, CallT Tryz.prog H True 133 [(.ptr 0 0), (.con (.int .i64 1))] [[l1, b2]] (.agg [i3, s4, i5, l6, i7, i8]) [[l9, b10]] g11
  ((g11 → (Q s4 [[l9, b10]])))
theorem a84 (l1 : List (List PV)) (b2 : Bool) (Q : PV → Heap → Prop) (H : Value → Prop) (h : p84 l1 b2 Q H) : TCalls Tryz.prog 84 [(.ptr 0 0)] [[l1, b2]] Q H := by
  have hb : Option.some (bodyOf Tryz.f84) = Tryz.f84.body := by kernel_rfl
  exact tcalls_canon (res := [.cell (.str)]) (post := [.cells [.list, .bool]]) (tcalls_eq (S := S) (L := loops60) mixed tok Tryz.func84 hb.symm (by kernel_rfl) h)
def p122 (i1 i2 : Int) (l3 : List (List PV)) (b4 : Bool) (Q : PV → Heap → Prop) (H : Value → Prop) : Prop :=
∃ i5 : Int, ∃ s6 : ByteArray, ∃ i7 : Int, ∃ l8 : List (List PV), ∃ i9 : Int, ∃ i10 : Int, ∃ l11 : List (List PV), ∃ b12 : Bool, ∃ g13 : Prop, CallT Tryz.prog H True 133 [(.ptr 0 0), (.con (.int .i64 3))] [[l3, b4]] (.agg [i5, s6, i7, l8, i9, i10]) [[l11, b12]] g13
  ((g13 → (br ((decide ((i7 : Int) < i1)))
  (H (.iface 40 (.agg (List.toArray [(.int .i64 20), (.int .i64 i9), (.int .i64 i10)]))))
  (br ((decide ((i7 : Int) > i2)))
  (H (.iface 40 (.agg (List.toArray [(.int .i64 20), (.int .i64 i9), (.int .i64 i10)]))))
  (Q i7 [[l11, b12]])))))
theorem a122 (i1 i2 : Int) (l3 : List (List PV)) (b4 : Bool) (Q : PV → Heap → Prop) (H : Value → Prop) (h : p122 i1 i2 l3 b4 Q H) : TCalls Tryz.prog 122 [(.ptr 0 0), i1, i2] [[l3, b4]] Q H := by
  have hb : Option.some (bodyOf Tryz.f122) = Tryz.f122.body := by kernel_rfl
  exact tcalls_canon (res := [.cell (.int .i64)]) (post := [.cells [.list, .bool]]) (tcalls_eq (S := S) (L := loops60) mixed tok Tryz.func122 hb.symm (by kernel_rfl) h)
def p108 (i1 i2 : Int) (l3 : List (List PV)) (b4 : Bool) (Q : PV → Heap → Prop) (H : Value → Prop) : Prop :=
∃ i5 : Int, ∃ l6 : List (List PV), ∃ b7 : Bool, ∃ g8 : Prop, CallT Tryz.prog H True 122 [(.ptr 0 0), i1, i2] [[l3, b4]] i5 [[l6, b7]] g8
  ((g8 → (Q i5 [[l6, b7]])))
theorem a108 (i1 i2 : Int) (l3 : List (List PV)) (b4 : Bool) (Q : PV → Heap → Prop) (H : Value → Prop) (h : p108 i1 i2 l3 b4 Q H) : TCalls Tryz.prog 108 [(.ptr 0 0), i1, i2] [[l3, b4]] Q H := by
  have hb : Option.some (bodyOf Tryz.f108) = Tryz.f108.body := by kernel_rfl
  exact tcalls_canon (res := [.cell (.int .i64)]) (post := [.cells [.list, .bool]]) (tcalls_eq (S := S) (L := loops60) mixed tok Tryz.func108 hb.symm (by kernel_rfl) h)
def p189 (l1 : List (List PV)) (b2 : Bool) (Q : PV → Heap → Prop) (H : Value → Prop) : Prop :=
∃ b3 : Bool, ∃ l4 : List (List PV), ∃ b5 : Bool, ∃ g6 : Prop, CallT Tryz.prog H True 119 [(.ptr 0 0), (.con (.string ⟨#[126]⟩))] [[l1, b2]] b3 [[l4, b5]] g6
  ((g6 → (br (b3)
  (∃ i7 : Int, ∃ s8 : ByteArray, ∃ i9 : Int, ∃ l10 : List (List PV), ∃ i11 : Int, ∃ i12 : Int, ∃ l13 : List (List PV), ∃ b14 : Bool, ∃ g15 : Prop, CallT Tryz.prog H True 133 [(.ptr 0 0), (.con (.int .i64 3))] [[l4, b5]] (.agg [i7, s8, i9, l10, i11, i12]) [[l13, b14]] g15
  ((g15 → (Q (IntKind.wrap .i64 (0 - i9)) [[l13, b14]]))))
  (∃ i16 : Int, ∃ s17 : ByteArray, ∃ i18 : Int, ∃ l19 : List (List PV), ∃ i20 : Int, ∃ i21 : Int, ∃ l22 : List (List PV), ∃ b23 : Bool, ∃ g24 : Prop, CallT Tryz.prog H True 133 [(.ptr 0 0), (.con (.int .i64 3))] [[l4, b5]] (.agg [i16, s17, i18, l19, i20, i21]) [[l22, b23]] g24
  ((g24 → (Q i18 [[l22, b23]])))))))
theorem a189 (l1 : List (List PV)) (b2 : Bool) (Q : PV → Heap → Prop) (H : Value → Prop) (h : p189 l1 b2 Q H) : TCalls Tryz.prog 189 [(.ptr 0 0)] [[l1, b2]] Q H := by
  have hb : Option.some (bodyOf Tryz.f189) = Tryz.f189.body := by kernel_rfl
  exact tcalls_canon (res := [.cell (.int .i64)]) (post := [.cells [.list, .bool]]) (tcalls_eq (S := S) (L := loops60) mixed tok Tryz.func189 hb.symm (by kernel_rfl) h)
def p163 (i1 i2 i3 : Int) (Q : PV → Heap → Prop) (H : Value → Prop) : Prop :=
br ((decide ((i1 : Int) > 64)))
  (H (.iface 40 (.agg (List.toArray [(.int .i64 6), (.int .i64 i2), (.int .i64 i3)]))))
  (Q (.tup []) [])
theorem a163 (i1 i2 i3 : Int) (Q : PV → Heap → Prop) (H : Value → Prop) (h : p163 i1 i2 i3 Q H) : TCalls Tryz.prog 163 [i1, (.agg [i2, i3])] [] Q H := by
  have hb : Option.some (bodyOf Tryz.f163) = Tryz.f163.body := by kernel_rfl
  exact tcalls_canon (res := []) (post := []) (tcalls_eq (S := S) (L := loops60) mixed tok Tryz.func163 hb.symm (by kernel_rfl) h)
def p117 (i1 i2 i3 i4 : Int) (l5 : List (List PV)) (s6 : ByteArray) (l7 l8 : List (List PV)) (Q : PV → Heap → Prop) (H : Value → Prop) : Prop :=
br (((i1 : Int) == 9))
  (∃ i9 : Int, CallN Tryz.prog 162 [i4] [[i1, i2, i3, i4, l5, s6, l7, l8], [(.con (.int .i64 0)), (.con (.int .i64 0)), (.con (.int .i64 0)), (.con (.int .i64 0)), (.con (.slice none 0 0)), (.con (.string ⟨#[]⟩)), (.con (.slice none 0 0)), (.con (.slice none 0 0))]] i9
  (br ((((List.length l7 : Int) : Int) != i9))
  (H (.iface 40 (.agg (List.toArray [(.int .i64 11), (.int .i64 i2), (.int .i64 i3)]))))
  (∃ i10 : Int, CallN Tryz.prog 164 [(.agg [i1, i2, i3, i4, l5, s6, l7, l8])] [[i1, i2, i3, i4, l5, s6, l7, l8], [(.con (.int .i64 0)), (.con (.int .i64 0)), (.con (.int .i64 0)), (.con (.int .i64 0)), (.con (.slice none 0 0)), (.con (.string ⟨#[]⟩)), (.con (.slice none 0 0)), (.con (.slice none 0 0))]] i10
  (∃ g11 : Prop, CallT Tryz.prog H True 163 [i10, (.agg [i2, i3])] [] (.tup []) [] g11
  ((g11 → (Q (.agg [i1, i2, i3, i4, l5, s6, l7, l8]) [])))))))
  (∃ i12 : Int, CallN Tryz.prog 164 [(.agg [i1, i2, i3, i4, l5, s6, l7, l8])] [[i1, i2, i3, i4, l5, s6, l7, l8], [(.con (.int .i64 0)), (.con (.int .i64 0)), (.con (.int .i64 0)), (.con (.int .i64 0)), (.con (.slice none 0 0)), (.con (.string ⟨#[]⟩)), (.con (.slice none 0 0)), (.con (.slice none 0 0))]] i12
  (∃ g13 : Prop, CallT Tryz.prog H True 163 [i12, (.agg [i2, i3])] [] (.tup []) [] g13
  ((g13 → (Q (.agg [i1, i2, i3, i4, l5, s6, l7, l8]) [])))))
theorem a117 (i1 i2 i3 i4 : Int) (l5 : List (List PV)) (s6 : ByteArray) (l7 l8 : List (List PV)) (Q : PV → Heap → Prop) (H : Value → Prop) (h : p117 i1 i2 i3 i4 l5 s6 l7 l8 Q H) : TCalls Tryz.prog 117 [(.agg [i1, i2, i3, i4, l5, s6, l7, l8])] [] Q H := by
  have hb : Option.some (bodyOf Tryz.f117) = Tryz.f117.body := by kernel_rfl
  exact tcalls_canon (res := [.agg [.int .i64, .int .i64, .int .i64, .int .i64, .list, .str, .list, .list]]) (post := []) (tcalls_eq (S := S) (L := loops60) mixed tok Tryz.func117 hb.symm (by kernel_rfl) h)
def p190 (i1 i2 i3 : Int) (s4 : ByteArray) (i5 : Int) (l6 : List (List PV)) (Q : PV → Heap → Prop) (H : Value → Prop) : Prop :=
∃ i7 : Int, CallN Tryz.prog 202 [(.agg [i1, i2, i3, s4, i5, l6])] [[i1, i2, i3, s4, i5, l6], [(.con (.int .i64 0)), (.con (.int .i64 0)), (.con (.int .i64 0)), (.con (.string ⟨#[]⟩)), (.con (.int .i64 0)), (.con (.slice none 0 0))]] i7
  (∃ g8 : Prop, CallT Tryz.prog H True 163 [i7, (.agg [i2, i3])] [] (.tup []) [] g8
  ((g8 → (Q (.agg [i1, i2, i3, s4, i5, l6]) []))))
theorem a190 (i1 i2 i3 : Int) (s4 : ByteArray) (i5 : Int) (l6 : List (List PV)) (Q : PV → Heap → Prop) (H : Value → Prop) (h : p190 i1 i2 i3 s4 i5 l6 Q H) : TCalls Tryz.prog 190 [(.agg [i1, i2, i3, s4, i5, l6])] [] Q H := by
  have hb : Option.some (bodyOf Tryz.f190) = Tryz.f190.body := by kernel_rfl
  exact tcalls_canon (res := [.agg [.int .i64, .int .i64, .int .i64, .str, .int .i64, .list]]) (post := []) (tcalls_eq (S := S) (L := loops60) mixed tok Tryz.func190 hb.symm (by kernel_rfl) h)
def p132 (i1 : Int) (s2 : ByteArray) (l3 : List (List PV)) (i4 i5 : Int) (Q : PV → Heap → Prop) (H : Value → Prop) : Prop :=
∃ i6 : Int, CallN Tryz.prog 171 [(.agg [i1, s2, l3])] [[i1, s2, l3], [i4, i5], [(.con (.int .i64 0)), (.con (.string ⟨#[]⟩)), (.con (.slice none 0 0))]] i6
  (∃ g7 : Prop, CallT Tryz.prog H True 163 [i6, (.agg [i4, i5])] [] (.tup []) [] g7
  ((g7 → (Q (.agg [i1, s2, l3]) []))))
theorem a132 (i1 : Int) (s2 : ByteArray) (l3 : List (List PV)) (i4 i5 : Int) (Q : PV → Heap → Prop) (H : Value → Prop) (h : p132 i1 s2 l3 i4 i5 Q H) : TCalls Tryz.prog 132 [(.agg [i1, s2, l3]), (.agg [i4, i5])] [] Q H := by
  have hb : Option.some (bodyOf Tryz.f132) = Tryz.f132.body := by kernel_rfl
  exact tcalls_canon (res := [.agg [.int .i64, .str, .list]]) (post := []) (tcalls_eq (S := S) (L := loops60) mixed tok Tryz.func132 hb.symm (by kernel_rfl) h)
def p162 (i1 : Int) (Q : PV → Heap → Prop) : Prop :=
br (((i1 : Int) == 8))
  (Q (.con (.int .i64 1)) [])
  (br (((i1 : Int) == 11))
  (Q (.con (.int .i64 3)) [])
  (Q (.con (.int .i64 2)) []))
theorem a162 (i1 : Int) (Q : PV → Heap → Prop) (h : p162 i1 Q) : ACalls Tryz.prog 162 [i1] [] Q := by
  have hb : Option.some (bodyOf Tryz.f162) = Tryz.f162.body := by kernel_rfl
  exact acalls_eq (S := S) (L := loops60) mixed tok Tryz.func162 hb.symm (by kernel_rfl) h
def p124 (s1 : ByteArray) (Q : PV → Heap → Prop) : Prop :=
br ((ByteArray.toList s1 == ByteArray.toList ⟨#[60]⟩))
  (Q (.tup [(.con (.int .i64 5)), (.con (.bool true))]) [])
  (br ((ByteArray.toList s1 == ByteArray.toList ⟨#[60, 61]⟩))
  (Q (.tup [(.con (.int .i64 6)), (.con (.bool true))]) [])
  (br ((ByteArray.toList s1 == ByteArray.toList ⟨#[61, 61]⟩))
  (Q (.tup [(.con (.int .i64 7)), (.con (.bool true))]) [])
  (Q (.tup [(.con (.int .i64 0)), (.con (.bool false))]) [])))
theorem a124 (s1 : ByteArray) (Q : PV → Heap → Prop) (h : p124 s1 Q) : ACalls Tryz.prog 124 [s1] [] Q := by
  have hb : Option.some (bodyOf Tryz.f124) = Tryz.f124.body := by kernel_rfl
  exact acalls_eq (S := S) (L := loops60) mixed tok Tryz.func124 hb.symm (by kernel_rfl) h
def p167 (s1 : ByteArray) (Q : PV → Heap → Prop) : Prop :=
br ((ByteArray.toList s1 == ByteArray.toList ⟨#[43]⟩))
  (Q (.tup [(.con (.int .i64 0)), (.con (.bool true))]) [])
  (br ((ByteArray.toList s1 == ByteArray.toList ⟨#[45]⟩))
  (Q (.tup [(.con (.int .i64 1)), (.con (.bool true))]) [])
  (Q (.tup [(.con (.int .i64 0)), (.con (.bool false))]) []))
theorem a167 (s1 : ByteArray) (Q : PV → Heap → Prop) (h : p167 s1 Q) : ACalls Tryz.prog 167 [s1] [] Q := by
  have hb : Option.some (bodyOf Tryz.f167) = Tryz.f167.body := by kernel_rfl
  exact acalls_eq (S := S) (L := loops60) mixed tok Tryz.func167 hb.symm (by kernel_rfl) h
def p193 (s1 : ByteArray) (Q : PV → Heap → Prop) : Prop :=
br ((ByteArray.toList s1 == ByteArray.toList ⟨#[42]⟩))
  (Q (.tup [(.con (.int .i64 2)), (.con (.bool true))]) [])
  (br ((ByteArray.toList s1 == ByteArray.toList ⟨#[47]⟩))
  (Q (.tup [(.con (.int .i64 3)), (.con (.bool true))]) [])
  (br ((ByteArray.toList s1 == ByteArray.toList ⟨#[37]⟩))
  (Q (.tup [(.con (.int .i64 4)), (.con (.bool true))]) [])
  (Q (.tup [(.con (.int .i64 0)), (.con (.bool false))]) [])))
theorem a193 (s1 : ByteArray) (Q : PV → Heap → Prop) (h : p193 s1 Q) : ACalls Tryz.prog 193 [s1] [] Q := by
  have hb : Option.some (bodyOf Tryz.f193) = Tryz.f193.body := by kernel_rfl
  exact acalls_eq (S := S) (L := loops60) mixed tok Tryz.func193 hb.symm (by kernel_rfl) h
def p184 (s1 : ByteArray) (Q : PV → Heap → Prop) : Prop :=
br ((ByteArray.toList s1 == ByteArray.toList ⟨#[108, 101, 110]⟩))
  (Q (.tup [(.con (.int .i64 8)), (.con (.bool true))]) [])
  (br ((ByteArray.toList s1 == ByteArray.toList ⟨#[97, 116]⟩))
  (Q (.tup [(.con (.int .i64 9)), (.con (.bool true))]) [])
  (br ((ByteArray.toList s1 == ByteArray.toList ⟨#[99, 97, 116]⟩))
  (Q (.tup [(.con (.int .i64 10)), (.con (.bool true))]) [])
  (br ((ByteArray.toList s1 == ByteArray.toList ⟨#[99, 117, 116]⟩))
  (Q (.tup [(.con (.int .i64 11)), (.con (.bool true))]) [])
  (Q (.tup [(.con (.int .i64 0)), (.con (.bool false))]) []))))
theorem a184 (s1 : ByteArray) (Q : PV → Heap → Prop) (h : p184 s1 Q) : ACalls Tryz.prog 184 [s1] [] Q := by
  have hb : Option.some (bodyOf Tryz.f184) = Tryz.f184.body := by kernel_rfl
  exact acalls_eq (S := S) (L := loops60) mixed tok Tryz.func184 hb.symm (by kernel_rfl) h
def p155 (s1 : ByteArray) (Q : PV → Heap → Prop) : Prop :=
br ((ByteArray.toList s1 == ByteArray.toList ⟨#[105, 110, 116]⟩))
  (Q (.con (.bool true)) [])
  (Q (.con (.bool (ByteArray.toList s1 == ByteArray.toList ⟨#[98, 121, 116, 101, 115]⟩))) [])
theorem a155 (s1 : ByteArray) (Q : PV → Heap → Prop) (h : p155 s1 Q) : ACalls Tryz.prog 155 [s1] [] Q := by
  have hb : Option.some (bodyOf Tryz.f155) = Tryz.f155.body := by kernel_rfl
  exact acalls_eq (S := S) (L := loops60) mixed tok Tryz.func155 hb.symm (by kernel_rfl) h
def p158 (s1 : ByteArray) (Q : PV → Heap → Prop) : Prop :=
∃ i2 : Int, ∃ b3 : Bool, CallN Tryz.prog 184 [s1] [] (.tup [i2, b3])
  (br (b3)
  (Q (.con (.bool true)) [])
  (∃ b4 : Bool, CallN Tryz.prog 155 [s1] [] b4
  (Q b4 [])))
theorem a158 (s1 : ByteArray) (Q : PV → Heap → Prop) (h : p158 s1 Q) : ACalls Tryz.prog 158 [s1] [] Q := by
  have hb : Option.some (bodyOf Tryz.f158) = Tryz.f158.body := by kernel_rfl
  exact acalls_eq (S := S) (L := loops60) mixed tok Tryz.func158 hb.symm (by kernel_rfl) h
end Go.Proofs.YtjhnmikciejekaaGreat.Deep

namespace Go.Proofs.YtjhnmikciejekaaGreat.Deep
open Go.RowKit
set_option linter.unusedVariables false
variable {z : Tk}
theorem en_next : Enters Tryz.prog 60 := enters_of Tryz.func60 (by kernel_rfl) rfl
theorem en_ended : Enters Tryz.prog 58 := enters_of Tryz.func58 (by kernel_rfl) rfl
theorem en_unwanted : Enters Tryz.prog 103 := enters_of Tryz.func103 (by kernel_rfl) rfl
theorem en_textOf : Enters Tryz.prog 114 := enters_of Tryz.func114 (by kernel_rfl) rfl
theorem en_word : Enters Tryz.prog 71 := enters_of Tryz.func71 (by kernel_rfl) rfl
theorem en_sign : Enters Tryz.prog 125 := enters_of Tryz.func125 (by kernel_rfl) rfl
theorem en_stands : Enters Tryz.prog 82 := enters_of Tryz.func82 (by kernel_rfl) rfl
theorem en_take : Enters Tryz.prog 115 := enters_of Tryz.func115 (by kernel_rfl) rfl
theorem en_skip : Enters Tryz.prog 119 := enters_of Tryz.func119 (by kernel_rfl) rfl
theorem en_want : Enters Tryz.prog 118 := enters_of Tryz.func118 (by kernel_rfl) rfl
theorem en_kind : Enters Tryz.prog 133 := enters_of Tryz.func133 (by kernel_rfl) rfl
theorem en_low : Enters Tryz.prog 84 := enters_of Tryz.func84 (by kernel_rfl) rfl
theorem en_within : Enters Tryz.prog 122 := enters_of Tryz.func122 (by kernel_rfl) rfl
theorem en_many : Enters Tryz.prog 108 := enters_of Tryz.func108 (by kernel_rfl) rfl
theorem en_number : Enters Tryz.prog 189 := enters_of Tryz.func189 (by kernel_rfl) rfl
theorem en_limitDepth : Enters Tryz.prog 163 := enters_of Tryz.func163 (by kernel_rfl) rfl
theorem en_operands : Enters Tryz.prog 162 := enters_of Tryz.func162 (by kernel_rfl) rfl
theorem en_comparison : Enters Tryz.prog 124 := enters_of Tryz.func124 (by kernel_rfl) rfl
theorem en_summing : Enters Tryz.prog 167 := enters_of Tryz.func167 (by kernel_rfl) rfl
theorem en_timing : Enters Tryz.prog 193 := enters_of Tryz.func193 (by kernel_rfl) rfl
theorem en_operator : Enters Tryz.prog 184 := enters_of Tryz.func184 (by kernel_rfl) rfl
theorem en_isType : Enters Tryz.prog 155 := enters_of Tryz.func155 (by kernel_rfl) rfl
theorem ne_of_kind {l : List Tk} {k : Int} (hz : z.kind = 0) (h : ((hd z l).kind == k) = true) (hk : k ≠ 0) : l ≠ [] := fun he => by
  subst he
  simp [hd, hz] at h
  exact hk h.symm
theorem ne_of_text {l : List Tk} {k : Int} {s : ByteArray} (hz : z.kind = 0) (h : eqB (textB z k l) s = true) (hk : k ≠ 0) (hs : eqB e0 s = false) : l ≠ [] := fun he => by
  subst he
  have : textB z k [] = e0 := by
    unfold textB hd
    have : (z.kind == k) = false := by rw [hz]; simpa using fun e => hk e.symm
    rw [this]; rfl
  rw [this] at h
  rw [hs] at h; cases h
theorem ne_of_st {l : List Tk} {s : ByteArray} (hz : z.kind = 0) (h : stB z l s = true) (hs : eqB e0 s = false) : l ≠ [] := by
  unfold stB at h
  rcases ifB_cases h with ⟨h1, _⟩ | ⟨_, h1⟩
  · exact ne_of_text hz h1 (by decide) hs
  · exact ne_of_text hz h1 (by decide) hs
theorem next_c (l : List Tk) (b : Bool) : CL z 60 [.ptr 0 0] (.agg (tkP (hd z l))) l b := by
  refine a60 _ _ _ ?_
  unfold p60
  exact ⟨_, _, _, _, _, _, ⟨by decide, tks_hd, rfl, rfl⟩⟩
theorem lookN {f : FuncId} {args : List PV} {r : PV} {l : List Tk} {b : Bool} {X : Prop} (c : CL z f args r l b) (he : Enters Tryz.prog f) (hk : X) : CallF Tryz.prog f args [[.sl (tksP z l), .con (.bool b)]] r [[.sl (tksP z l), .con (.bool b)]] X := ⟨he, c, hk⟩
theorem spNext {l : List Tk} {b : Bool} {R : Int → ByteArray → Int → List (List PV) → Int → Int → Prop} (h : R (hd z l).kind (hd z l).text (hd z l).num (byP (hd z l).bytes) (hd z l).li (hd z l).co) :
    ∃ i1 : Int, ∃ s2 : ByteArray, ∃ i3 : Int, ∃ l4 : List (List PV), ∃ i5 : Int, ∃ i6 : Int, CallF Tryz.prog 60 [.ptr 0 0] [[.sl (tksP z l), .con (.bool b)]] (.agg [.con (.int .i64 i1), .con (.string s2), .con (.int .i64 i3), .sl l4, .con (.int .i64 i5), .con (.int .i64 i6)]) [[.sl (tksP z l), .con (.bool b)]] (R i1 s2 i3 l4 i5 i6) :=
  ⟨_, _, _, _, _, _, lookN (next_c l b) en_next h⟩
theorem ended_c (l : List Tk) (b : Bool) : CL z 58 [.ptr 0 0] (.con (.bool ((hd z l).kind == 0))) l b := by
  refine a58 _ _ _ ?_
  unfold p58
  exact spNext ⟨rfl, rfl⟩
theorem unwanted_c (l : List Tk) (b : Bool) : CL z 103 [.ptr 0 0] (.agg [.con (.int .i64 7), .con (.int .i64 (hd z l).li), .con (.int .i64 (hd z l).co)]) l b := by
  refine a103 _ _ _ ?_
  unfold p103
  exact spNext ⟨rfl, rfl⟩
theorem textOf_c (k : Int) (l : List Tk) (b : Bool) : CL z 114 [.ptr 0 0, .con (.int .i64 k)] (.con (.string (textB z k l))) l b := by
  refine a114 _ _ _ _ ?_
  unfold p114
  refine spNext ?_
  unfold textB
  refine br_i (fun h => ?_) (fun h => ?_)
  · rw [h]; exact ⟨rfl, rfl⟩
  · rw [h]; exact ⟨rfl, rfl⟩
theorem word_c (l : List Tk) (b : Bool) : CL z 71 [.ptr 0 0] (.con (.string (textB z 5 l))) l b := by
  refine a71 _ _ _ ?_
  unfold p71
  exact ⟨_, lookN (textOf_c 5 l b) en_textOf ⟨rfl, rfl⟩⟩
theorem sign_c (l : List Tk) (b : Bool) : CL z 125 [.ptr 0 0] (.con (.string (textB z 6 l))) l b := by
  refine a125 _ _ _ ?_
  unfold p125
  exact ⟨_, lookN (textOf_c 6 l b) en_textOf ⟨rfl, rfl⟩⟩
theorem stands_c (s : ByteArray) (l : List Tk) (b : Bool) : CL z 82 [.ptr 0 0, .con (.string s)] (.con (.bool (stB z l s))) l b := by
  refine a82 _ _ _ _ ?_
  unfold p82
  refine ⟨_, lookN (sign_c l b) en_sign ?_⟩
  unfold stB
  refine br_i (fun h => ?_) (fun h => ?_)
  · rw [show eqB (textB z 6 l) s = true from h]; exact ⟨rfl, rfl⟩
  · rw [show eqB (textB z 6 l) s = false from h]; exact ⟨_, lookN (word_c l b) en_word ⟨rfl, rfl⟩⟩
theorem spStands {s : ByteArray} {l : List Tk} {b : Bool} {R : Bool → Prop} (h : R (stB z l s)) : ∃ b1 : Bool, CallF Tryz.prog 82 [.ptr 0 0, .con (.string s)] [[.sl (tksP z l), .con (.bool b)]] (.con (.bool b1)) [[.sl (tksP z l), .con (.bool b)]] (R b1) := ⟨_, lookN (stands_c s l b) en_stands h⟩
theorem spWord {l : List Tk} {b : Bool} {R : ByteArray → Prop} (h : R (textB z 5 l)) : ∃ s1 : ByteArray, CallF Tryz.prog 71 [.ptr 0 0] [[.sl (tksP z l), .con (.bool b)]] (.con (.string s1)) [[.sl (tksP z l), .con (.bool b)]] (R s1) := ⟨_, lookN (word_c l b) en_word h⟩
theorem spSign {l : List Tk} {b : Bool} {R : ByteArray → Prop} (h : R (textB z 6 l)) : ∃ s1 : ByteArray, CallF Tryz.prog 125 [.ptr 0 0] [[.sl (tksP z l), .con (.bool b)]] (.con (.string s1)) [[.sl (tksP z l), .con (.bool b)]] (R s1) := ⟨_, lookN (sign_c l b) en_sign h⟩
theorem spThrow {α : Type} {S : Re α} {l : List Tk} {b : Bool} (hS : S = .error (wantF z l)) :
    ∃ i1 : Int, ∃ i2 : Int, ∃ i3 : Int, CallF Tryz.prog 103 [.ptr 0 0] [[.sl (tksP z l), .con (.bool b)]] (.agg [.con (.int .i64 i1), .con (.int .i64 i2), .con (.int .i64 i3)]) [[.sl (tksP z l), .con (.bool b)]] (HF S (.iface 40 (.agg (List.toArray [.int .i64 i1, .int .i64 i2, .int .i64 i3])))) :=
  ⟨_, _, _, lookN (unwanted_c l b) en_unwanted (thrS hS)⟩
theorem take_c (l : List Tk) (b : Bool) (hl : l ≠ []) : CT z 115 [.ptr 0 0] (fun v => .agg (tkP v)) (takeS z l b) l b := by
  refine a115 _ _ _ _ ?_
  unfold p115
  refine spNext ?_
  refine brS (x := .error ⟨27, (hd z l).li, (hd z l).co⟩) (y := .ok (hd z l, l.tail, b)) rfl (fun h hS => thrS hS) (fun h hS => ?_)
  refine ⟨1, ⟨rfl, by rw [tks_len]; omega, tks_six, ?_⟩⟩
  rw [tks_tail hl]
  exact endS hS rfl
theorem wantEnd_c (l : List Tk) (b : Bool) : CT z 57 [.ptr 0 0] (fun _ => .tup []) (wantEndS z l b) l b := by
  refine a57 _ _ _ _ ?_
  unfold p57
  refine ⟨_, lookN (ended_c l b) en_ended ?_⟩
  exact brS (S := wantEndS z l b) rfl (fun h hS => spThrow hS) (fun h hS => endS (v := ()) hS rfl)
variable (hz : z.kind = 0)
include hz
theorem skip_c (s : ByteArray) (hs : eqB e0 s = false) (l : List Tk) (b : Bool) : CT z 119 [.ptr 0 0, .con (.string s)] (fun v => .con (.bool v)) (skipS z s l b) l b := by
  refine a119 _ _ _ _ _ ?_
  unfold p119
  refine spStands ?_
  refine brS (S := skipS z s l b) rfl (fun h hS => ?_) (fun h hS => ?_)
  · refine spK (take_c l b (ne_of_st hz h hs)) en_take hS ?_
    intro k0 t m y li co l' b' hx hS
    exact endS hS (by rw [h])
  · exact endS hS (by rw [h])
theorem want_c (s : ByteArray) (hs : eqB e0 s = false) (l : List Tk) (b : Bool) : CT z 118 [.ptr 0 0, .con (.string s)] (fun _ => .tup []) (wantS z s l b) l b := by
  refine a118 _ _ _ _ _ ?_
  unfold p118
  refine spB (skip_c hz s hs l b) en_skip (S := wantS z s l b) rfl ?_
  intro v l' b' hx hS
  exact brS hS (fun h hS => spThrow hS) (fun h hS => endS (v := ()) hS rfl)
theorem kind_c (k : Int) (hk : k ≠ 0) (l : List Tk) (b : Bool) : CT z 133 [.ptr 0 0, .con (.int .i64 k)] (fun v => .agg (tkP v)) (kindS z k l b) l b := by
  refine a133 _ _ _ _ _ ?_
  unfold p133
  refine spNext ?_
  refine brS (S := kindS z k l b) rfl (fun h hS => spThrow hS) (fun h hS => ?_)
  refine spK (take_c l b (ne_of_kind hz (k := k) (by simpa using h) hk)) en_take hS ?_
  intro k0 t m y li co l' b' hx hS
  exact endS hS rfl
theorem low_c (l : List Tk) (b : Bool) : CT z 84 [.ptr 0 0] (fun v => .con (.string v)) (lowS z l b) l b := by
  refine a84 _ _ _ _ ?_
  unfold p84
  refine spK (kind_c hz 1 (by decide) l b) en_kind (S := lowS z l b) rfl ?_
  intro k0 t m y li co l' b' hx hS
  exact endS hS rfl
theorem within_c (lo hi : Int) (l : List Tk) (b : Bool) : CT z 122 [.ptr 0 0, .con (.int .i64 lo), .con (.int .i64 hi)] (fun v => .con (.int .i64 v)) (withinS z lo hi l b) l b := by
  refine a122 _ _ _ _ _ _ ?_
  unfold p122
  refine spK (kind_c hz 3 (by decide) l b) en_kind (S := withinS z lo hi l b) rfl ?_
  intro k0 t m y li co l' b' hx hS
  exact brS hS (fun h hS => thrS hS) (fun h hS => brS hS (fun h hS => thrS hS) (fun h hS => endS hS rfl))
theorem many_c (lo hi : Int) (l : List Tk) (b : Bool) : CT z 108 [.ptr 0 0, .con (.int .i64 lo), .con (.int .i64 hi)] (fun v => .con (.int .i64 v)) (manyS z lo hi l b) l b := by
  refine a108 _ _ _ _ _ _ ?_
  unfold p108
  refine spI (within_c hz lo hi l b) en_within (S := manyS z lo hi l b) rfl ?_
  intro v l' b' hx hS
  exact endS hS rfl
theorem number_c (l : List Tk) (b : Bool) : CT z 189 [.ptr 0 0] (fun v => .con (.int .i64 v)) (numberS z l b) l b := by
  refine a189 _ _ _ _ ?_
  unfold p189
  refine spB (skip_c hz ⟨#[126]⟩ (by decide +kernel) l b) en_skip (S := numberS z l b) rfl ?_
  intro v l' b' hx hS
  refine brS hS (fun h hS => ?_) (fun h hS => ?_)
  · refine spK (kind_c hz 3 (by decide) l' b') en_kind hS ?_
    intro k0 t m y li co l2 b2 hx hS
    exact endS hS rfl
  · refine spK (kind_c hz 3 (by decide) l' b') en_kind hS ?_
    intro k0 t m y li co l2 b2 hx hS
    exact endS hS rfl
omit hz
theorem operands_p (n : Int) : PCalls Tryz.prog 162 [.con (.int .i64 n)] (fun r => r = .con (.int .i64 (argsI n))) := by
  refine a162 _ _ ?_
  unfold p162 argsI
  refine br_i (fun h => ?_) (fun h => br_i (fun h2 => ?_) (fun h2 => ?_))
  · rw [h]; exact ⟨rfl, rfl⟩
  · rw [h, h2]; exact ⟨rfl, rfl⟩
  · rw [h, h2]; exact ⟨rfl, rfl⟩
def opPV (x : Int × Bool) : PV := .tup [.con (.int .i64 x.1), .con (.bool x.2)]
theorem comparison_p (s : ByteArray) : PCalls Tryz.prog 124 [.con (.string s)] (fun r => r = opPV (opComp s)) := by
  refine a124 _ _ ?_
  unfold p124 opComp eqB
  refine br_i (fun h => ?_) (fun h => br_i (fun h2 => ?_) (fun h2 => br_i (fun h3 => ?_) (fun h3 => ?_)))
  · rw [h]; exact ⟨rfl, rfl⟩
  · rw [h, h2]; exact ⟨rfl, rfl⟩
  · rw [h, h2, h3]; exact ⟨rfl, rfl⟩
  · rw [h, h2, h3]; exact ⟨rfl, rfl⟩
theorem summing_p (s : ByteArray) : PCalls Tryz.prog 167 [.con (.string s)] (fun r => r = opPV (opSum s)) := by
  refine a167 _ _ ?_
  unfold p167 opSum eqB
  refine br_i (fun h => ?_) (fun h => br_i (fun h2 => ?_) (fun h2 => ?_))
  · rw [h]; exact ⟨rfl, rfl⟩
  · rw [h, h2]; exact ⟨rfl, rfl⟩
  · rw [h, h2]; exact ⟨rfl, rfl⟩
theorem timing_p (s : ByteArray) : PCalls Tryz.prog 193 [.con (.string s)] (fun r => r = opPV (opTim s)) := by
  refine a193 _ _ ?_
  unfold p193 opTim eqB
  refine br_i (fun h => ?_) (fun h => br_i (fun h2 => ?_) (fun h2 => br_i (fun h3 => ?_) (fun h3 => ?_)))
  · rw [h]; exact ⟨rfl, rfl⟩
  · rw [h, h2]; exact ⟨rfl, rfl⟩
  · rw [h, h2, h3]; exact ⟨rfl, rfl⟩
  · rw [h, h2, h3]; exact ⟨rfl, rfl⟩
theorem operator_p (s : ByteArray) : PCalls Tryz.prog 184 [.con (.string s)] (fun r => r = opPV (opName s)) := by
  refine a184 _ _ ?_
  unfold p184 opName eqB
  refine br_i (fun h => ?_) (fun h => br_i (fun h2 => ?_) (fun h2 => br_i (fun h3 => ?_) (fun h3 => br_i (fun h4 => ?_) (fun h4 => ?_))))
  · rw [h]; exact ⟨rfl, rfl⟩
  · rw [h, h2]; exact ⟨rfl, rfl⟩
  · rw [h, h2, h3]; exact ⟨rfl, rfl⟩
  · rw [h, h2, h3, h4]; exact ⟨rfl, rfl⟩
  · rw [h, h2, h3, h4]; exact ⟨rfl, rfl⟩
theorem isType_p (s : ByteArray) : PCalls Tryz.prog 155 [.con (.string s)] (fun r => r = .con (.bool (isTypeB s))) := by
  refine a155 _ _ ?_
  unfold p155 isTypeB eqB
  refine br_i (fun h => ?_) (fun h => ?_)
  · rw [h]; exact ⟨rfl, rfl⟩
  · rw [h]; exact ⟨rfl, rfl⟩
theorem limitDepth_c {α : Type} (d li co : Int) (v : α) : CE 163 [.con (.int .i64 d), .agg [.con (.int .i64 li), .con (.int .i64 co)]] (fun _ => .tup []) (deepS d li co v) := by
  refine a163 _ _ _ _ _ ?_
  unfold p163
  obtain ⟨S, hS⟩ : ∃ S, S = deepS d li co v := ⟨_, rfl⟩
  rw [← hS]
  unfold deepS at hS
  refine br_i (fun h => ?_) (fun h => ?_)
  · rw [h] at hS; exact thrS hS
  · rw [h] at hS; exact ⟨v, hS, rfl, rfl⟩
end Go.Proofs.YtjhnmikciejekaaGreat.Deep

namespace Go.Proofs.YtjhnmikciejekaaGreat.Deep
open Go.RowKit
set_option linter.unusedVariables false
def p164 (i1 i2 i3 i4 : Int) (l5 : List (List PV)) (s6 : ByteArray) (l7 l8 : List (List PV)) (Q : PV → Heap → Prop) : Prop :=
∃ i9 : Int, CallN Tryz.prog 186 [l7, (.fn 164 [])] [[i1, i2, i3, i4, l5, s6, l7, l8]] i9
  (∃ i10 : Int, CallN Tryz.prog 187 [l8, (.fn 188 [])] [[i1, i2, i3, i4, l5, s6, l7, l8]] i10
  (Q (IntKind.wrap .i64 (1 + (maxI i9 i10))) [[i1, i2, i3, i4, l5, s6, l7, l8]]))
theorem a164 (i1 i2 i3 i4 : Int) (l5 : List (List PV)) (s6 : ByteArray) (l7 l8 : List (List PV)) (Q : PV → Heap → Prop) (h : p164 i1 i2 i3 i4 l5 s6 l7 l8 Q) : ACalls Tryz.prog 164 [(.agg [i1, i2, i3, i4, l5, s6, l7, l8])] [] Q := by
  have hb : Option.some (bodyOf Tryz.f164) = Tryz.f164.body := by kernel_rfl
  exact acalls_eq (S := S) (L := loops60) mixed tok Tryz.func164 hb.symm (by kernel_rfl) h
def p188 (i1 i2 i3 : Int) (s4 : ByteArray) (i5 : Int) (l6 : List (List PV)) (i7 i8 i9 i10 : Int) (l11 : List (List PV)) (s12 : ByteArray) (l13 l14 : List (List PV)) (Q : PV → Heap → Prop) : Prop :=
∃ i15 : Int, CallN Tryz.prog 202 [(.agg [i1, i2, i3, s4, i5, l6])] [[i1, i2, i3, s4, i5, l6, i7, i8, i9, i10, l11, s12, l13, l14]] i15
  (∃ i16 : Int, CallN Tryz.prog 164 [(.agg [i7, i8, i9, i10, l11, s12, l13, l14])] [[i1, i2, i3, s4, i5, l6, i7, i8, i9, i10, l11, s12, l13, l14]] i16
  (Q (.con (.int .i64 (maxI i15 i16))) [[i1, i2, i3, s4, i5, l6, i7, i8, i9, i10, l11, s12, l13, l14]]))
theorem a188 (i1 i2 i3 : Int) (s4 : ByteArray) (i5 : Int) (l6 : List (List PV)) (i7 i8 i9 i10 : Int) (l11 : List (List PV)) (s12 : ByteArray) (l13 l14 : List (List PV)) (Q : PV → Heap → Prop) (h : p188 i1 i2 i3 s4 i5 l6 i7 i8 i9 i10 l11 s12 l13 l14 Q) : ACalls Tryz.prog 188 [(.agg [i1, i2, i3, s4, i5, l6, i7, i8, i9, i10, l11, s12, l13, l14])] [] Q := by
  have hb : Option.some (bodyOf Tryz.f188) = Tryz.f188.body := by kernel_rfl
  exact acalls_eq (S := S) (L := loops60) mixed tok Tryz.func188 hb.symm (by kernel_rfl) h
def p202 (i1 i2 i3 : Int) (s4 : ByteArray) (i5 : Int) (l6 : List (List PV)) (Q : PV → Heap → Prop) : Prop :=
∃ i7 : Int, CallN Tryz.prog 210 [l6, (.fn 202 [])] [[i1, i2, i3, s4, i5, l6]] i7
  (Q (IntKind.wrap .i64 (1 + i7)) [[i1, i2, i3, s4, i5, l6]])
theorem a202 (i1 i2 i3 : Int) (s4 : ByteArray) (i5 : Int) (l6 : List (List PV)) (Q : PV → Heap → Prop) (h : p202 i1 i2 i3 s4 i5 l6 Q) : ACalls Tryz.prog 202 [(.agg [i1, i2, i3, s4, i5, l6])] [] Q := by
  have hb : Option.some (bodyOf Tryz.f202) = Tryz.f202.body := by kernel_rfl
  exact acalls_eq (S := S) (L := loops60) mixed tok Tryz.func202 hb.symm (by kernel_rfl) h
def p171 (i1 : Int) (s2 : ByteArray) (l3 : List (List PV)) (Q : PV → Heap → Prop) : Prop :=
∃ i4 : Int, CallN Tryz.prog 196 [l3, (.fn 171 [])] [[i1, s2, l3]] i4
  (Q (IntKind.wrap .i64 (1 + i4)) [[i1, s2, l3]])
theorem a171 (i1 : Int) (s2 : ByteArray) (l3 : List (List PV)) (Q : PV → Heap → Prop) (h : p171 i1 s2 l3 Q) : ACalls Tryz.prog 171 [(.agg [i1, s2, l3])] [] Q := by
  have hb : Option.some (bodyOf Tryz.f171) = Tryz.f171.body := by kernel_rfl
  exact acalls_eq (S := S) (L := loops60) mixed tok Tryz.func171 hb.symm (by kernel_rfl) h
def loops186d (id : Nat) : Option (List Nat × List (Nat × Sh)) := match Nat.beq id 3 with | true => some ([1, 8, 9], [(5, .int .i64), (10, .int .i64)]) | false => none
def p186d (l1 : List (List PV)) (Q : PV → Heap → Prop) : Prop :=
∃ I2 : Nat → ((Int) × (Int) × Unit) → Prop, (∃ n, I2 n (0, 0, ())) ∧ ∀ (n3 : Nat) (v4 : (Int) × (Int) × Unit), I2 n3 v4 →
  (br ((decide ((v4.2.1 : Int) < (List.length l1 : Int))))
  (∃ i5 : Int, ∃ i6 : Int, ∃ i7 : Int, ∃ i8 : Int, ∃ l9 : List (List PV), ∃ s10 : ByteArray, ∃ l11 : List (List PV), ∃ l12 : List (List PV), IdxN l1 v4.2.1 [i5, i6, i7, i8, l9, s10, l11, l12]
  (∃ i13 : Int, CallN Tryz.prog 164 [(.agg [i5, i6, i7, i8, l9, s10, l11, l12])] [[i5, i6, i7, i8, l9, s10, l11, l12]] i13
  ((@Eq PV (.fn 164 []) (.fn 164 []) ∧ @Eq PV l1 l1 ∧ @Eq PV (.con (.int .i64 (List.length l1 : Int))) (.con (.int .i64 (List.length l1 : Int))) ∧ True) ∧ @Eq Heap [] [] ∧ ∃ k14, k14 < n3 ∧ I2 k14 ((maxI v4.1 i13), (IntKind.wrap .i64 (v4.2.1 + 1)), ()))))
  (Q v4.1 []))
theorem a186d (l1 : List (List PV)) (Q : PV → Heap → Prop) (h : p186d l1 Q) : ACalls Tryz.prog 186 [l1, (.fn 164 [])] [] Q := by
  have hb : Option.some (bodyOf Tryz.f186) = Tryz.f186.body := by kernel_rfl
  exact acalls_eq (S := S) (L := loops186d) mixed tok Tryz.func186 hb.symm (by kernel_rfl) h
def loops187d (id : Nat) : Option (List Nat × List (Nat × Sh)) := match Nat.beq id 3 with | true => some ([1, 8, 9], [(5, .int .i64), (10, .int .i64)]) | false => none
def p187d (l1 : List (List PV)) (Q : PV → Heap → Prop) : Prop :=
∃ I2 : Nat → ((Int) × (Int) × Unit) → Prop, (∃ n, I2 n (0, 0, ())) ∧ ∀ (n3 : Nat) (v4 : (Int) × (Int) × Unit), I2 n3 v4 →
  (br ((decide ((v4.2.1 : Int) < (List.length l1 : Int))))
  (∃ i5 : Int, ∃ i6 : Int, ∃ i7 : Int, ∃ s8 : ByteArray, ∃ i9 : Int, ∃ l10 : List (List PV), ∃ i11 : Int, ∃ i12 : Int, ∃ i13 : Int, ∃ i14 : Int, ∃ l15 : List (List PV), ∃ s16 : ByteArray, ∃ l17 : List (List PV), ∃ l18 : List (List PV), IdxN l1 v4.2.1 [i5, i6, i7, s8, i9, l10, i11, i12, i13, i14, l15, s16, l17, l18]
  (∃ i19 : Int, CallN Tryz.prog 188 [(.agg [i5, i6, i7, s8, i9, l10, i11, i12, i13, i14, l15, s16, l17, l18])] [[i5, i6, i7, s8, i9, l10, i11, i12, i13, i14, l15, s16, l17, l18]] i19
  ((@Eq PV (.fn 188 []) (.fn 188 []) ∧ @Eq PV l1 l1 ∧ @Eq PV (.con (.int .i64 (List.length l1 : Int))) (.con (.int .i64 (List.length l1 : Int))) ∧ True) ∧ @Eq Heap [] [] ∧ ∃ k20, k20 < n3 ∧ I2 k20 ((maxI v4.1 i19), (IntKind.wrap .i64 (v4.2.1 + 1)), ()))))
  (Q v4.1 []))
theorem a187d (l1 : List (List PV)) (Q : PV → Heap → Prop) (h : p187d l1 Q) : ACalls Tryz.prog 187 [l1, (.fn 188 [])] [] Q := by
  have hb : Option.some (bodyOf Tryz.f187) = Tryz.f187.body := by kernel_rfl
  exact acalls_eq (S := S) (L := loops187d) mixed tok Tryz.func187 hb.symm (by kernel_rfl) h
def loops210d (id : Nat) : Option (List Nat × List (Nat × Sh)) := match Nat.beq id 3 with | true => some ([1, 8, 9], [(5, .int .i64), (10, .int .i64)]) | false => none
def p210d (l1 : List (List PV)) (Q : PV → Heap → Prop) : Prop :=
∃ I2 : Nat → ((Int) × (Int) × Unit) → Prop, (∃ n, I2 n (0, 0, ())) ∧ ∀ (n3 : Nat) (v4 : (Int) × (Int) × Unit), I2 n3 v4 →
  (br ((decide ((v4.2.1 : Int) < (List.length l1 : Int))))
  (∃ i5 : Int, ∃ i6 : Int, ∃ i7 : Int, ∃ s8 : ByteArray, ∃ i9 : Int, ∃ l10 : List (List PV), IdxN l1 v4.2.1 [i5, i6, i7, s8, i9, l10]
  (∃ i11 : Int, CallN Tryz.prog 202 [(.agg [i5, i6, i7, s8, i9, l10])] [[i5, i6, i7, s8, i9, l10]] i11
  ((@Eq PV (.fn 202 []) (.fn 202 []) ∧ @Eq PV l1 l1 ∧ @Eq PV (.con (.int .i64 (List.length l1 : Int))) (.con (.int .i64 (List.length l1 : Int))) ∧ True) ∧ @Eq Heap [] [] ∧ ∃ k12, k12 < n3 ∧ I2 k12 ((maxI v4.1 i11), (IntKind.wrap .i64 (v4.2.1 + 1)), ()))))
  (Q v4.1 []))
theorem a210d (l1 : List (List PV)) (Q : PV → Heap → Prop) (h : p210d l1 Q) : ACalls Tryz.prog 210 [l1, (.fn 202 [])] [] Q := by
  have hb : Option.some (bodyOf Tryz.f210) = Tryz.f210.body := by kernel_rfl
  exact acalls_eq (S := S) (L := loops210d) mixed tok Tryz.func210 hb.symm (by kernel_rfl) h
def loops196d (id : Nat) : Option (List Nat × List (Nat × Sh)) := match Nat.beq id 3 with | true => some ([1, 8, 9], [(5, .int .i64), (10, .int .i64)]) | false => none
def p196d (l1 : List (List PV)) (Q : PV → Heap → Prop) : Prop :=
∃ I2 : Nat → ((Int) × (Int) × Unit) → Prop, (∃ n, I2 n (0, 0, ())) ∧ ∀ (n3 : Nat) (v4 : (Int) × (Int) × Unit), I2 n3 v4 →
  (br ((decide ((v4.2.1 : Int) < (List.length l1 : Int))))
  (∃ i5 : Int, ∃ s6 : ByteArray, ∃ l7 : List (List PV), IdxN l1 v4.2.1 [i5, s6, l7]
  (∃ i8 : Int, CallN Tryz.prog 171 [(.agg [i5, s6, l7])] [[i5, s6, l7]] i8
  ((@Eq PV (.fn 171 []) (.fn 171 []) ∧ @Eq PV l1 l1 ∧ @Eq PV (.con (.int .i64 (List.length l1 : Int))) (.con (.int .i64 (List.length l1 : Int))) ∧ True) ∧ @Eq Heap [] [] ∧ ∃ k9, k9 < n3 ∧ I2 k9 ((maxI v4.1 i8), (IntKind.wrap .i64 (v4.2.1 + 1)), ()))))
  (Q v4.1 []))
theorem a196d (l1 : List (List PV)) (Q : PV → Heap → Prop) (h : p196d l1 Q) : ACalls Tryz.prog 196 [l1, (.fn 171 [])] [] Q := by
  have hb : Option.some (bodyOf Tryz.f196) = Tryz.f196.body := by kernel_rfl
  exact acalls_eq (S := S) (L := loops196d) mixed tok Tryz.func196 hb.symm (by kernel_rfl) h
end Go.Proofs.YtjhnmikciejekaaGreat.Deep

namespace Go.Proofs.YtjhnmikciejekaaGreat.Deep
open Go.RowKit
set_option linter.unusedVariables false
set_option linter.unusedSimpArgs false
mutual
def gdT : Ty → Prop
  | .mk _ _ ps => ps.length ≤ 1000000 ∧ gdTs ps
def gdTs : List Ty → Prop
  | [] => True
  | t :: ts => gdT t ∧ gdTs ts
end
mutual
def gdP : Pt → Prop
  | .mk _ _ _ _ _ ks => ks.length ≤ 1000000 ∧ gdPs ks
def gdPs : List Pt → Prop
  | [] => True
  | t :: ts => gdP t ∧ gdPs ts
end
mutual
def gdE : Ex → Prop
  | .mk _ _ _ _ _ _ ks ps bs => ks.length ≤ 1000000 ∧ bs.length ≤ 1000000 ∧ ps.length = bs.length ∧ gdEs ks ∧ gdPs ps ∧ gdEs bs
def gdEs : List Ex → Prop
  | [] => True
  | t :: ts => gdE t ∧ gdEs ts
end
theorem gdTs_at : ∀ (ps : List Ty), gdTs ps → ∀ i (h : i < ps.length), gdT ps[i]
  | t :: ts, hs, 0, _ => hs.1
  | t :: ts, hs, i + 1, h => by simpa using gdTs_at ts hs.2 i (by simpa using h)
theorem gdPs_at : ∀ (ps : List Pt), gdPs ps → ∀ i (h : i < ps.length), gdP ps[i]
  | t :: ts, hs, 0, _ => hs.1
  | t :: ts, hs, i + 1, h => by simpa using gdPs_at ts hs.2 i (by simpa using h)
theorem gdEs_at : ∀ (ps : List Ex), gdEs ps → ∀ i (h : i < ps.length), gdE ps[i]
  | t :: ts, hs, 0, _ => hs.1
  | t :: ts, hs, i + 1, h => by simpa using gdEs_at ts hs.2 i (by simpa using h)
theorem ty_mk' (t : Ty) : ∃ k n ps, t = .mk k n ps := by cases t; exact ⟨_, _, _, rfl⟩
theorem pt_mk' (t : Pt) : ∃ k li co n m ks, t = .mk k li co n m ks := by cases t; exact ⟨_, _, _, _, _, _, rfl⟩
theorem ex_mk' (t : Ex) : ∃ k li co m b n ks ps bs, t = .mk k li co m b n ks ps bs := by cases t; exact ⟨_, _, _, _, _, _, _, _, _, rfl⟩
theorem depTs_take : ∀ (ts : List Ty) (a : Int) (j : Nat) (h : j < ts.length), depTs a (ts.take (j + 1)) = maxI (depTs a (ts.take j)) (depT ts[j])
  | t :: ts, a, 0, _ => by simp [depTs]
  | t :: ts, a, j + 1, h => by simpa [depTs] using depTs_take ts (maxI a (depT t)) j (by simpa using h)
theorem depPs_take : ∀ (ts : List Pt) (a : Int) (j : Nat) (h : j < ts.length), depPs a (ts.take (j + 1)) = maxI (depPs a (ts.take j)) (depP ts[j])
  | t :: ts, a, 0, _ => by simp [depPs]
  | t :: ts, a, j + 1, h => by simpa [depPs] using depPs_take ts (maxI a (depP t)) j (by simpa using h)
theorem depEs_take : ∀ (ts : List Ex) (a : Int) (j : Nat) (h : j < ts.length), depEs a (ts.take (j + 1)) = maxI (depEs a (ts.take j)) (depE ts[j])
  | t :: ts, a, 0, _ => by simp [depEs]
  | t :: ts, a, j + 1, h => by simpa [depEs] using depEs_take ts (maxI a (depE t)) j (by simpa using h)
theorem depAs_take : ∀ (bs : List Ex) (ps : List Pt) (a : Int) (j : Nat) (h : j < bs.length) (h2 : j < ps.length), depAs a (bs.take (j + 1)) (ps.take (j + 1)) = maxI (depAs a (bs.take j) (ps.take j)) (maxI (depP ps[j]) (depE bs[j]))
  | b :: bs, p :: ps, a, 0, _, _ => by simp [depAs]
  | b :: bs, p :: ps, a, j + 1, h, h2 => by simpa [depAs] using depAs_take bs ps (maxI a (maxI (depP p) (depE b))) j (by simpa using h) (by simpa using h2)
theorem en_typeDepth : Enters Tryz.prog 171 := enters_of Tryz.func171 (by kernel_rfl) rfl
theorem en_patDepth : Enters Tryz.prog 202 := enters_of Tryz.func202 (by kernel_rfl) rfl
theorem en_exprDepth : Enters Tryz.prog 164 := enters_of Tryz.func164 (by kernel_rfl) rfl
theorem en_armDepth : Enters Tryz.prog 188 := enters_of Tryz.func188 (by kernel_rfl) rfl
theorem typeDepth_p (t : Ty) : gdT t → PCalls Tryz.prog 171 [.agg (tyP t)] (fun r => r = .con (.int .i64 (depT t))) := by
  induction t using Ty.ind with
  | h k n ps ih =>
  intro hg
  unfold gdT at hg
  have loop : PCalls Tryz.prog 196 [.sl (tyPs ps), .fn 171 []] (fun r => r = .con (.int .i64 (depTs 0 ps))) := by
    refine a196d _ _ ?_
    unfold p196d
    rw [tyPs_len]
    refine ⟨fun c v => ∃ j : Nat, j ≤ ps.length ∧ c = ps.length - j ∧ v.2.1 = (j : Int) ∧ v.1 = depTs 0 (ps.take j), ⟨_, 0, Nat.zero_le _, rfl, rfl, rfl⟩, ?_⟩
    rintro c ⟨p, i, u⟩ ⟨j, hj, rfl, hi, hp⟩
    dsimp only at hi hp ⊢
    subst hi hp
    refine br_i (fun hlt => ?_) (fun hge => ?_)
    · have hlt : j < ps.length := by simpa using hlt
      have hx := tyPs_get ps j hlt
      have hc := ih j hlt (gdTs_at ps hg.2 j hlt)
      have hd := depTs_take ps 0 j hlt
      obtain ⟨k', n', ps', hp⟩ := ty_mk' ps[j]
      rw [hp] at hx hc hd
      refine ⟨_, _, _, ⟨by omega, by rw [Int.toNat_natCast]; exact hx, ?_⟩⟩
      refine ⟨_, call_p en_typeDepth hc rfl ⟨⟨by trivial, by trivial, by trivial, trivial⟩, by trivial, ps.length - (j + 1), by omega, j + 1, by omega, rfl, ?_, hd.symm⟩⟩
      rw [wrap_id (by omega) (by omega)]; simp
    · have hge : ¬ j < ps.length := by simpa using hge
      obtain rfl : j = ps.length := by omega
      exact ⟨by rw [List.take_length], rfl⟩
  refine a171 _ _ _ _ ?_
  unfold p171
  exact ⟨_, call_p (enters_of Tryz.func196 (by kernel_rfl) rfl) loop rfl ⟨by rw [depT], rfl⟩⟩
theorem patDepth_p (t : Pt) : gdP t → PCalls Tryz.prog 202 [.agg (ptP t)] (fun r => r = .con (.int .i64 (depP t))) := by
  induction t using Pt.ind with
  | h k li co n m ps ih =>
  intro hg
  unfold gdP at hg
  have loop : PCalls Tryz.prog 210 [.sl (ptPs ps), .fn 202 []] (fun r => r = .con (.int .i64 (depPs 0 ps))) := by
    refine a210d _ _ ?_
    unfold p210d
    rw [ptPs_len]
    refine ⟨fun c v => ∃ j : Nat, j ≤ ps.length ∧ c = ps.length - j ∧ v.2.1 = (j : Int) ∧ v.1 = depPs 0 (ps.take j), ⟨_, 0, Nat.zero_le _, rfl, rfl, rfl⟩, ?_⟩
    rintro c ⟨p, i, u⟩ ⟨j, hj, rfl, hi, hp⟩
    dsimp only at hi hp ⊢
    subst hi hp
    refine br_i (fun hlt => ?_) (fun hge => ?_)
    · have hlt : j < ps.length := by simpa using hlt
      have hx := ptPs_get ps j hlt
      have hc := ih j hlt (gdPs_at ps hg.2 j hlt)
      have hd := depPs_take ps 0 j hlt
      obtain ⟨k', li', co', n', m', ps', hp⟩ := pt_mk' ps[j]
      rw [hp] at hx hc hd
      refine ⟨_, _, _, _, _, _, ⟨by omega, by rw [Int.toNat_natCast]; exact hx, ?_⟩⟩
      refine ⟨_, call_p en_patDepth hc rfl ⟨⟨by trivial, by trivial, by trivial, trivial⟩, by trivial, ps.length - (j + 1), by omega, j + 1, by omega, rfl, ?_, hd.symm⟩⟩
      rw [wrap_id (by omega) (by omega)]; simp
    · have hge : ¬ j < ps.length := by simpa using hge
      obtain rfl : j = ps.length := by omega
      exact ⟨by rw [List.take_length], rfl⟩
  refine a202 _ _ _ _ _ _ _ ?_
  unfold p202
  exact ⟨_, call_p (enters_of Tryz.func210 (by kernel_rfl) rfl) loop rfl ⟨by rw [depP], rfl⟩⟩
theorem exprDepth_p (t : Ex) : gdE t → PCalls Tryz.prog 164 [.agg (exP t)] (fun r => r = .con (.int .i64 (depE t))) := by
  induction t using Ex.ind with
  | h k li co m by_ n ks ps bs ihk ihb =>
  intro hg
  unfold gdE at hg
  obtain ⟨g1, g2, g3, g4, g5, g6⟩ := hg
  have loopk : PCalls Tryz.prog 186 [.sl (exPs ks), .fn 164 []] (fun r => r = .con (.int .i64 (depEs 0 ks))) := by
    refine a186d _ _ ?_
    unfold p186d
    rw [exPs_len]
    refine ⟨fun c v => ∃ j : Nat, j ≤ ks.length ∧ c = ks.length - j ∧ v.2.1 = (j : Int) ∧ v.1 = depEs 0 (ks.take j), ⟨_, 0, Nat.zero_le _, rfl, rfl, rfl⟩, ?_⟩
    rintro c ⟨p, i, u⟩ ⟨j, hj, rfl, hi, hp⟩
    dsimp only at hi hp ⊢
    subst hi hp
    refine br_i (fun hlt => ?_) (fun hge => ?_)
    · have hlt : j < ks.length := by simpa using hlt
      have hx := exPs_get ks j hlt
      have hc := ihk j hlt (gdEs_at ks g4 j hlt)
      have hd := depEs_take ks 0 j hlt
      obtain ⟨k', li', co', m', b', n', ks', ps', bs', hp⟩ := ex_mk' ks[j]
      rw [hp] at hx hc hd
      refine ⟨_, _, _, _, _, _, _, _, ⟨by omega, by rw [Int.toNat_natCast]; exact hx, ?_⟩⟩
      refine ⟨_, call_p en_exprDepth hc rfl ⟨⟨by trivial, by trivial, by trivial, trivial⟩, by trivial, ks.length - (j + 1), by omega, j + 1, by omega, rfl, ?_, hd.symm⟩⟩
      rw [wrap_id (by omega) (by omega)]; simp
    · have hge : ¬ j < ks.length := by simpa using hge
      obtain rfl : j = ks.length := by omega
      exact ⟨by rw [List.take_length], rfl⟩
  have loopa : PCalls Tryz.prog 187 [.sl (arPs bs ps), .fn 188 []] (fun r => r = .con (.int .i64 (depAs 0 bs ps))) := by
    refine a187d _ _ ?_
    unfold p187d
    rw [arPs_len bs ps g3]
    refine ⟨fun c v => ∃ j : Nat, j ≤ bs.length ∧ c = bs.length - j ∧ v.2.1 = (j : Int) ∧ v.1 = depAs 0 (bs.take j) (ps.take j), ⟨_, 0, Nat.zero_le _, rfl, rfl, rfl⟩, ?_⟩
    rintro c ⟨p, i, u⟩ ⟨j, hj, rfl, hi, hp⟩
    dsimp only at hi hp ⊢
    subst hi hp
    refine br_i (fun hlt => ?_) (fun hge => ?_)
    · have hlt : j < bs.length := by simpa using hlt
      have hlt2 : j < ps.length := by omega
      have hx := arPs_get bs ps j hlt hlt2
      have hc := ihb j hlt (gdEs_at bs g6 j hlt)
      have hcp := patDepth_p ps[j] (gdPs_at ps g5 j hlt2)
      have hd := depAs_take bs ps 0 j hlt hlt2
      obtain ⟨k', li', co', m', b', n', ks', ps', bs', hp⟩ := ex_mk' bs[j]
      obtain ⟨k2, li2, co2, n2, m2, ps2, hp2⟩ := pt_mk' ps[j]
      rw [hp] at hx hc hd
      rw [hp2] at hx hcp hd
      have harm : PCalls Tryz.prog 188 [.agg (ptP (.mk k2 li2 co2 n2 m2 ps2) ++ exP (.mk k' li' co' m' b' n' ks' ps' bs'))] (fun r => r = .con (.int .i64 (maxI (depP (.mk k2 li2 co2 n2 m2 ps2)) (depE (.mk k' li' co' m' b' n' ks' ps' bs'))))) := by
        refine a188 _ _ _ _ _ _ _ _ _ _ _ _ _ _ _ ?_
        unfold p188
        exact ⟨_, call_p en_patDepth hcp rfl ⟨_, call_p en_exprDepth hc rfl ⟨rfl, rfl⟩⟩⟩
      refine ⟨_, _, _, _, _, _, _, _, _, _, _, _, _, _, ⟨by omega, by rw [Int.toNat_natCast]; exact hx, ?_⟩⟩
      refine ⟨_, call_p en_armDepth harm rfl ⟨⟨by trivial, by trivial, by trivial, trivial⟩, by trivial, bs.length - (j + 1), by omega, j + 1, by omega, rfl, ?_, hd.symm⟩⟩
      rw [wrap_id (by omega) (by omega)]; simp
    · have hge : ¬ j < bs.length := by simpa using hge
      obtain rfl : j = bs.length := by omega
      exact ⟨by rw [List.take_length, ← g3, List.take_length], rfl⟩
  refine a164 _ _ _ _ _ _ _ _ _ ?_
  unfold p164
  exact ⟨_, call_p (enters_of Tryz.func186 (by kernel_rfl) rfl) loopk rfl ⟨_, call_p (enters_of Tryz.func187 (by kernel_rfl) rfl) loopa rfl ⟨by rw [depE], rfl⟩⟩⟩
theorem en_wholeExpr : Enters Tryz.prog 117 := enters_of Tryz.func117 (by kernel_rfl) rfl
theorem en_wholePat : Enters Tryz.prog 190 := enters_of Tryz.func190 (by kernel_rfl) rfl
theorem en_wholeType : Enters Tryz.prog 132 := enters_of Tryz.func132 (by kernel_rfl) rfl
theorem limit_step {α : Type} {S : Except Flt α} {d li co : Int} {v : α} (hS : S = deepS d li co v) {enc : α → PV} {r : PV} (hr : r = enc v) :
    ∃ g : Prop, CallT Tryz.prog (HF S) True 163 [.con (.int .i64 d), .agg [.con (.int .i64 li), .con (.int .i64 co)]] [] (.tup []) [] g (g → QE enc S r []) := by
  have c := limitDepth_c d li co v
  cases hx : deepS d li co v with
  | ok w =>
    refine ⟨True, ⟨en_limitDepth, fun _ => TCalls.mono c (fun r h' ⟨v2, e1, e2, e3⟩ => ⟨trivial, e2, e3⟩) (fun w ⟨ft, e, _⟩ => by rw [hx] at e; cases e), fun _ => ⟨w, by rw [hS, hx], ?_, rfl⟩⟩⟩
    rw [(deepS_ok hx).1]; exact hr
  | error ft => exact ⟨False, ⟨en_limitDepth, fun _ => TCalls.mono c (fun r h' ⟨v2, e1, e2, e3⟩ => by rw [hx] at e1; cases e1) (fun w ⟨ft', e1, e2⟩ => ⟨ft', by rw [hS, e1], e2⟩), fun h => h.elim⟩⟩
theorem wholePat_c (p : Pt) (hg : gdP p) : CE 190 [.agg (ptP p)] (fun v => .agg (ptP v)) (wholeP p) := by
  have hd := patDepth_p p hg
  cases p with
  | mk k li co n m ks =>
  refine a190 _ _ _ _ _ _ _ _ ?_
  unfold p190
  exact ⟨_, call_p en_patDepth hd rfl (limit_step rfl rfl)⟩
theorem wholeType_c (t : Ty) (hg : gdT t) (li co : Int) : CE 132 [.agg (tyP t), .agg [.con (.int .i64 li), .con (.int .i64 co)]] (fun v => .agg (tyP v)) (wholeT t li co) := by
  have hd := typeDepth_p t hg
  cases t with
  | mk k n ps =>
  refine a132 _ _ _ _ _ _ _ ?_
  unfold p132
  exact ⟨_, call_p en_typeDepth hd rfl (limit_step rfl rfl)⟩
theorem wholeExpr_c (e : Ex) (hg : gdE e) : CE 117 [.agg (exP e)] (fun v => .agg (exP v)) (wholeE e) := by
  have hd := exprDepth_p e hg
  cases e with
  | mk k li co m by_ n ks ps bs =>
  refine a117 _ _ _ _ _ _ _ _ _ _ ?_
  unfold p117
  obtain ⟨S, hS⟩ : ∃ S, S = wholeE (.mk k li co m by_ n ks ps bs) := ⟨_, rfl⟩
  rw [← hS]
  unfold wholeE at hS
  refine br_i (fun h => ?_) (fun h => ?_)
  · rw [show ((Ex.mk k li co m by_ n ks ps bs).kind == 9) = true from h] at hS
    refine ⟨_, call_p en_operands (operands_p m) rfl ?_⟩
    refine br_i (fun h2 => ?_) (fun h2 => ?_)
    · rw [show (((exPs (Ex.mk k li co m by_ n ks ps bs).kids).length : Int) != argsI (Ex.mk k li co m by_ n ks ps bs).num) = true from h2] at hS
      exact thrS hS
    · rw [show (((exPs (Ex.mk k li co m by_ n ks ps bs).kids).length : Int) != argsI (Ex.mk k li co m by_ n ks ps bs).num) = false from h2] at hS
      exact ⟨_, call_p en_exprDepth hd rfl (limit_step hS rfl)⟩
  · rw [show ((Ex.mk k li co m by_ n ks ps bs).kind == 9) = false from h] at hS
    exact ⟨_, call_p en_exprDepth hd rfl (limit_step hS rfl)⟩
end Go.Proofs.YtjhnmikciejekaaGreat.Deep

namespace Go.Proofs.YtjhnmikciejekaaGreat.Deep
open Go.RowKit
set_option linter.unusedVariables false
def p36 (l1 : List (List PV)) (b2 : Bool) (Q : PV → Heap → Prop) (H : Value → Prop) : Prop :=
∃ b3 : Bool, CallF Tryz.prog 82 [(.ptr 0 0), (.con (.string ⟨#[40]⟩))] [[l1, b2]] b3 [[l1, b2]]
  (br (b3)
  (∃ i4 : Int, ∃ s5 : ByteArray, ∃ l6 : List (List PV), ∃ l7 : List (List PV), ∃ b8 : Bool, ∃ g9 : Prop, CallT Tryz.prog H True 83 [(.ptr 0 0)] [[l1, b2]] (.agg [i4, s5, l6]) [[l7, b8]] g9
  ((g9 → (Q (.agg [i4, s5, l6]) [[l7, b8]]))))
  (∃ s10 : ByteArray, ∃ l11 : List (List PV), ∃ b12 : Bool, ∃ g13 : Prop, CallT Tryz.prog H True 84 [(.ptr 0 0)] [[l1, b2]] s10 [[l11, b12]] g13
  ((g13 → (br ((ByteArray.toList s10 == ByteArray.toList ⟨#[105, 110, 116]⟩))
  (Q (.agg [(.con (.int .i64 0)), (.con (.string ⟨#[]⟩)), (.sl [])]) [[l11, b12]])
  (br ((ByteArray.toList s10 == ByteArray.toList ⟨#[98, 121, 116, 101, 115]⟩))
  (Q (.agg [(.con (.int .i64 1)), (.con (.string ⟨#[]⟩)), (.sl [])]) [[l11, b12]])
  (Q (.agg [(.con (.int .i64 2)), s10, (.sl [])]) [[l11, b12]])))))))
theorem a36 (l1 : List (List PV)) (b2 : Bool) (Q : PV → Heap → Prop) (H : Value → Prop) (h : p36 l1 b2 Q H) : TCalls Tryz.prog 36 [(.ptr 0 0)] [[l1, b2]] Q H := by
  have hb : Option.some (bodyOf Tryz.f36) = Tryz.f36.body := by kernel_rfl
  exact tcalls_canon (res := [.agg [.int .i64, .str, .list]]) (post := [.cells [.list, .bool]]) (tcalls_eq (S := S) (L := loops60) mixed tok Tryz.func36 hb.symm (by kernel_rfl) h)
def p83 (l1 : List (List PV)) (b2 : Bool) (Q : PV → Heap → Prop) (H : Value → Prop) : Prop :=
∃ i3 : Int, ∃ s4 : ByteArray, ∃ i5 : Int, ∃ l6 : List (List PV), ∃ i7 : Int, ∃ i8 : Int, CallF Tryz.prog 60 [(.ptr 0 0)] [[l1, b2]] (.agg [i3, s4, i5, l6, i7, i8]) [[l1, b2]]
  (∃ l9 : List (List PV), ∃ b10 : Bool, ∃ g11 : Prop, CallT Tryz.prog H True 118 [(.ptr 0 0), (.con (.string ⟨#[40]⟩))] [[l1, b2]] (.tup []) [[l9, b10]] g11
  ((g11 → (∃ l12 : List (List PV), ∃ l13 : List (List PV), ∃ b14 : Bool, ∃ g15 : Prop, CallT Tryz.prog H True 131 [(.ptr 0 0), (.con (.string ⟨#[42]⟩)), (.con (.int .i64 6)), (.bm 36 [(.ptr 0 0)])] [[l9, b10]] l12 [[l13, b14]] g15
  ((g15 → (br ((((List.length l12 : Int) : Int) == 1))
  (∃ i16 : Int, ∃ i17 : Int, ∃ i18 : Int, CallF Tryz.prog 103 [(.ptr 0 0)] [[l13, b14]] (.agg [i16, i17, i18]) [[l13, b14]]
  (H (.iface 40 (.agg (List.toArray [(.int .i64 i16), (.int .i64 i17), (.int .i64 i18)])))))
  (∃ l19 : List (List PV), ∃ b20 : Bool, ∃ g21 : Prop, CallT Tryz.prog H True 118 [(.ptr 0 0), (.con (.string ⟨#[41]⟩))] [[l13, b14]] (.tup []) [[l19, b20]] g21
  ((g21 → (∃ i22 : Int, ∃ s23 : ByteArray, ∃ l24 : List (List PV), ∃ g25 : Prop, CallT Tryz.prog H True 132 [(.agg [(.con (.int .i64 3)), (.con (.string ⟨#[]⟩)), l12]), (.agg [i7, i8])] [] (.agg [i22, s23, l24]) [] g25
  ((g25 → (Q (.agg [i22, s23, l24]) [[l19, b20]]))))))))))))))
theorem a83 (l1 : List (List PV)) (b2 : Bool) (Q : PV → Heap → Prop) (H : Value → Prop) (h : p83 l1 b2 Q H) : TCalls Tryz.prog 83 [(.ptr 0 0)] [[l1, b2]] Q H := by
  have hb : Option.some (bodyOf Tryz.f83) = Tryz.f83.body := by kernel_rfl
  exact tcalls_canon (res := [.agg [.int .i64, .str, .list]]) (post := [.cells [.list, .bool]]) (tcalls_eq (S := S) (L := loops60) mixed tok Tryz.func83 hb.symm (by kernel_rfl) h)
def p165 (l1 : List (List PV)) (b2 : Bool) (Q : PV → Heap → Prop) (H : Value → Prop) : Prop :=
∃ i3 : Int, ∃ s4 : ByteArray, ∃ i5 : Int, ∃ l6 : List (List PV), ∃ i7 : Int, ∃ i8 : Int, CallF Tryz.prog 60 [(.ptr 0 0)] [[l1, b2]] (.agg [i3, s4, i5, l6, i7, i8]) [[l1, b2]]
  (br (((i3 : Int) == 3))
  (∃ i9 : Int, ∃ l10 : List (List PV), ∃ b11 : Bool, ∃ g12 : Prop, CallT Tryz.prog H True 189 [(.ptr 0 0)] [[l1, b2]] i9 [[l10, b11]] g12
  ((g12 → (Q (.agg [(.con (.int .i64 2)), i7, i8, (.con (.string ⟨#[]⟩)), i9, (.sl [])]) [[l10, b11]]))))
  (∃ b13 : Bool, CallF Tryz.prog 82 [(.ptr 0 0), (.con (.string ⟨#[126]⟩))] [[l1, b2]] b13 [[l1, b2]]
  (br (b13)
  (∃ i14 : Int, ∃ l15 : List (List PV), ∃ b16 : Bool, ∃ g17 : Prop, CallT Tryz.prog H True 189 [(.ptr 0 0)] [[l1, b2]] i14 [[l15, b16]] g17
  ((g17 → (Q (.agg [(.con (.int .i64 2)), i7, i8, (.con (.string ⟨#[]⟩)), i14, (.sl [])]) [[l15, b16]]))))
  (br (((i3 : Int) == 1))
  (∃ i18 : Int, ∃ s19 : ByteArray, ∃ i20 : Int, ∃ l21 : List (List PV), ∃ i22 : Int, ∃ i23 : Int, ∃ l24 : List (List PV), ∃ b25 : Bool, ∃ g26 : Prop, CallT Tryz.prog H True 115 [(.ptr 0 0)] [[l1, b2]] (.agg [i18, s19, i20, l21, i22, i23]) [[l24, b25]] g26
  ((g26 → (Q (.agg [(.con (.int .i64 1)), i7, i8, s19, (.con (.int .i64 0)), (.sl [])]) [[l24, b25]]))))
  (br (((i3 : Int) == 2))
  (∃ i27 : Int, ∃ s28 : ByteArray, ∃ i29 : Int, ∃ l30 : List (List PV), ∃ i31 : Int, ∃ i32 : Int, ∃ l33 : List (List PV), ∃ b34 : Bool, ∃ g35 : Prop, CallT Tryz.prog H True 115 [(.ptr 0 0)] [[l1, b2]] (.agg [i27, s28, i29, l30, i31, i32]) [[l33, b34]] g35
  (∃ l36 : List (List PV), ∃ l37 : List (List PV), ∃ b38 : Bool, ∃ g39 : Prop, CallT Tryz.prog H g35 191 [(.ptr 0 0), (.bm 165 [(.ptr 0 0)])] [[l33, b34]] l36 [[l37, b38]] g39
  (∃ i40 : Int, ∃ i41 : Int, ∃ i42 : Int, ∃ s43 : ByteArray, ∃ i44 : Int, ∃ l45 : List (List PV), ∃ g46 : Prop, CallT Tryz.prog H (g35 ∧ g39) 190 [(.agg [(.con (.int .i64 3)), i7, i8, s28, (.con (.int .i64 0)), l36])] [] (.agg [i40, i41, i42, s43, i44, l45]) [] g46
  ((((g35 ∧ g39) ∧ g46) → (Q (.agg [i40, i41, i42, s43, i44, l45]) [[l37, b38]]))))))
  (∃ b47 : Bool, CallF Tryz.prog 82 [(.ptr 0 0), (.con (.string ⟨#[40]⟩))] [[l1, b2]] b47 [[l1, b2]]
  (br (b47)
  (∃ i48 : Int, ∃ i49 : Int, ∃ i50 : Int, ∃ s51 : ByteArray, ∃ i52 : Int, ∃ l53 : List (List PV), ∃ l54 : List (List PV), ∃ b55 : Bool, ∃ g56 : Prop, CallT Tryz.prog H True 192 [(.ptr 0 0)] [[l1, b2]] (.agg [i48, i49, i50, s51, i52, l53]) [[l54, b55]] g56
  ((g56 → (Q (.agg [i48, i49, i50, s51, i52, l53]) [[l54, b55]]))))
  (∃ l57 : List (List PV), ∃ b58 : Bool, ∃ g59 : Prop, CallT Tryz.prog H True 118 [(.ptr 0 0), (.con (.string ⟨#[95]⟩))] [[l1, b2]] (.tup []) [[l57, b58]] g59
  ((g59 → (Q (.agg [(.con (.int .i64 0)), i7, i8, (.con (.string ⟨#[]⟩)), (.con (.int .i64 0)), (.sl [])]) [[l57, b58]])))))))))))
theorem a165 (l1 : List (List PV)) (b2 : Bool) (Q : PV → Heap → Prop) (H : Value → Prop) (h : p165 l1 b2 Q H) : TCalls Tryz.prog 165 [(.ptr 0 0)] [[l1, b2]] Q H := by
  have hb : Option.some (bodyOf Tryz.f165) = Tryz.f165.body := by kernel_rfl
  exact tcalls_canon (res := [.agg [.int .i64, .int .i64, .int .i64, .str, .int .i64, .list]]) (post := [.cells [.list, .bool]]) (tcalls_eq (S := S) (L := loops60) mixed tok Tryz.func165 hb.symm (by kernel_rfl) h)
def p192 (l1 : List (List PV)) (b2 : Bool) (Q : PV → Heap → Prop) (H : Value → Prop) : Prop :=
∃ i3 : Int, ∃ s4 : ByteArray, ∃ i5 : Int, ∃ l6 : List (List PV), ∃ i7 : Int, ∃ i8 : Int, CallF Tryz.prog 60 [(.ptr 0 0)] [[l1, b2]] (.agg [i3, s4, i5, l6, i7, i8]) [[l1, b2]]
  (∃ l9 : List (List PV), ∃ l10 : List (List PV), ∃ b11 : Bool, ∃ g12 : Prop, CallT Tryz.prog H True 203 [(.ptr 0 0), (.con (.string ⟨#[44]⟩)), (.con (.int .i64 6)), (.bm 165 [(.ptr 0 0)])] [[l1, b2]] l9 [[l10, b11]] g12
  ((g12 → (br ((((List.length l9 : Int) : Int) == 1))
  (∃ i13 : Int, ∃ i14 : Int, ∃ i15 : Int, ∃ s16 : ByteArray, ∃ i17 : Int, ∃ l18 : List (List PV), IdxN l9 0 [i13, i14, i15, s16, i17, l18]
  (Q (.agg [i13, i14, i15, s16, i17, l18]) [[l10, b11]]))
  (∃ i19 : Int, ∃ i20 : Int, ∃ i21 : Int, ∃ s22 : ByteArray, ∃ i23 : Int, ∃ l24 : List (List PV), ∃ g25 : Prop, CallT Tryz.prog H True 190 [(.agg [(.con (.int .i64 4)), i7, i8, (.con (.string ⟨#[]⟩)), (.con (.int .i64 0)), l9])] [] (.agg [i19, i20, i21, s22, i23, l24]) [] g25
  ((g25 → (Q (.agg [i19, i20, i21, s22, i23, l24]) [[l10, b11]]))))))))
theorem a192 (l1 : List (List PV)) (b2 : Bool) (Q : PV → Heap → Prop) (H : Value → Prop) (h : p192 l1 b2 Q H) : TCalls Tryz.prog 192 [(.ptr 0 0)] [[l1, b2]] Q H := by
  have hb : Option.some (bodyOf Tryz.f192) = Tryz.f192.body := by kernel_rfl
  exact tcalls_canon (res := [.agg [.int .i64, .int .i64, .int .i64, .str, .int .i64, .list]]) (post := [.cells [.list, .bool]]) (tcalls_eq (S := S) (L := loops60) mixed tok Tryz.func192 hb.symm (by kernel_rfl) h)
def loops131p (id : Nat) : Option (List Nat × List (Nat × Sh)) := match Nat.beq id 2 with | true => some ([0, 1, 2, 3], [(9, .own 0 27 3), (1000000, .list), (1000001, .bool)]) | false => none
def p131p (s1 : ByteArray) (i2 : Int) (l3 : List (List PV)) (b4 : Bool) (Q : PV → Heap → Prop) (H : Value → Prop) : Prop :=
∃ I5 : Nat → ((List (List PV)) × (List (List PV)) × (Bool) × Unit) → Prop, (∃ n, I5 n ([], l3, b4, ())) ∧ ∀ (n6 : Nat) (v7 : (List (List PV)) × (List (List PV)) × (Bool) × Unit), I5 n6 v7 →
  (∃ i8 : Int, ∃ s9 : ByteArray, ∃ l10 : List (List PV), ∃ l11 : List (List PV), ∃ b12 : Bool, ∃ g13 : Prop, CallT Tryz.prog H True 36 [(.ptr 0 0)] [[v7.2.1, (.con (.bool (((List.length v7.1 : Int) : Int) == i2)))]] (.agg [i8, s9, l10]) [[l11, b12]] g13
  ((g13 → (AppN v7.1 [[i8, s9, l10]] 3 48 PV.one
  (∃ b14 : Bool, ∃ l15 : List (List PV), ∃ b16 : Bool, ∃ g17 : Prop, CallT Tryz.prog H True 119 [(.ptr 0 0), s1] [[l11, b12]] b14 [[l15, b16]] g17
  ((g17 → (br ((!b14))
  (Q (.sl (v7.1 ++ ([[i8, s9, l10]] : List (List PV)))) [[l15, b16]])
  ((@Eq PV (.ptr 0 0) (.ptr 0 0) ∧ @Eq PV s1 s1 ∧ @Eq PV i2 i2 ∧ @Eq PV (.bm 36 [(.ptr 0 0)]) (.bm 36 [(.ptr 0 0)]) ∧ True) ∧ @Eq Heap [[l15, b16]] [[l15, b16]] ∧ ∃ k18, k18 < n6 ∧ I5 k18 ((v7.1 ++ ([[i8, s9, l10]] : List (List PV))), l15, b16, ()))))))))))
theorem a131p (s1 : ByteArray) (i2 : Int) (l3 : List (List PV)) (b4 : Bool) (Q : PV → Heap → Prop) (H : Value → Prop) (h : p131p s1 i2 l3 b4 Q H) : TCalls Tryz.prog 131 [(.ptr 0 0), s1, i2, (.bm 36 [(.ptr 0 0)])] [[l3, b4]] Q H := by
  have hb : Option.some (bodyOf Tryz.f131) = Tryz.f131.body := by kernel_rfl
  exact tcalls_canon (res := [.cell (.list)]) (post := [.cells [.list, .bool]]) (tcalls_eq (S := S) (L := loops131p) mixed tok Tryz.func131 hb.symm (by kernel_rfl) h)
def loops211p (id : Nat) : Option (List Nat × List (Nat × Sh)) := match Nat.beq id 2 with | true => some ([0, 1, 2, 3], [(9, .own 0 97 6), (1000000, .list), (1000001, .bool)]) | false => none
def p211p (s1 : ByteArray) (i2 : Int) (l3 : List (List PV)) (b4 : Bool) (Q : PV → Heap → Prop) (H : Value → Prop) : Prop :=
∃ I5 : Nat → ((List (List PV)) × (List (List PV)) × (Bool) × Unit) → Prop, (∃ n, I5 n ([], l3, b4, ())) ∧ ∀ (n6 : Nat) (v7 : (List (List PV)) × (List (List PV)) × (Bool) × Unit), I5 n6 v7 →
  (∃ i8 : Int, ∃ i9 : Int, ∃ i10 : Int, ∃ s11 : ByteArray, ∃ i12 : Int, ∃ l13 : List (List PV), ∃ l14 : List (List PV), ∃ b15 : Bool, ∃ g16 : Prop, CallT Tryz.prog H True 165 [(.ptr 0 0)] [[v7.2.1, (.con (.bool (((List.length v7.1 : Int) : Int) == i2)))]] (.agg [i8, i9, i10, s11, i12, l13]) [[l14, b15]] g16
  ((g16 → (AppN v7.1 [[i8, i9, i10, s11, i12, l13]] 6 72 PV.one
  (∃ b17 : Bool, ∃ l18 : List (List PV), ∃ b19 : Bool, ∃ g20 : Prop, CallT Tryz.prog H True 119 [(.ptr 0 0), s1] [[l14, b15]] b17 [[l18, b19]] g20
  ((g20 → (br ((!b17))
  (Q (.sl (v7.1 ++ ([[i8, i9, i10, s11, i12, l13]] : List (List PV)))) [[l18, b19]])
  ((@Eq PV (.ptr 0 0) (.ptr 0 0) ∧ @Eq PV s1 s1 ∧ @Eq PV i2 i2 ∧ @Eq PV (.bm 165 [(.ptr 0 0)]) (.bm 165 [(.ptr 0 0)]) ∧ True) ∧ @Eq Heap [[l18, b19]] [[l18, b19]] ∧ ∃ k21, k21 < n6 ∧ I5 k21 ((v7.1 ++ ([[i8, i9, i10, s11, i12, l13]] : List (List PV))), l18, b19, ()))))))))))
theorem a211p (s1 : ByteArray) (i2 : Int) (l3 : List (List PV)) (b4 : Bool) (Q : PV → Heap → Prop) (H : Value → Prop) (h : p211p s1 i2 l3 b4 Q H) : TCalls Tryz.prog 211 [(.ptr 0 0), s1, i2, (.bm 165 [(.ptr 0 0)])] [[l3, b4]] Q H := by
  have hb : Option.some (bodyOf Tryz.f211) = Tryz.f211.body := by kernel_rfl
  exact tcalls_canon (res := [.cell (.list)]) (post := [.cells [.list, .bool]]) (tcalls_eq (S := S) (L := loops211p) mixed tok Tryz.func211 hb.symm (by kernel_rfl) h)
def p203p (s1 : ByteArray) (i2 : Int) (l3 : List (List PV)) (b4 : Bool) (Q : PV → Heap → Prop) (H : Value → Prop) : Prop :=
∃ l5 : List (List PV), ∃ b6 : Bool, ∃ g7 : Prop, CallT Tryz.prog H True 118 [(.ptr 0 0), (.con (.string ⟨#[40]⟩))] [[l3, b4]] (.tup []) [[l5, b6]] g7
  ((g7 → (∃ l8 : List (List PV), ∃ l9 : List (List PV), ∃ b10 : Bool, ∃ g11 : Prop, CallT Tryz.prog H True 211 [(.ptr 0 0), s1, i2, (.bm 165 [(.ptr 0 0)])] [[l5, b6]] l8 [[l9, b10]] g11
  ((g11 → (∃ l12 : List (List PV), ∃ b13 : Bool, ∃ g14 : Prop, CallT Tryz.prog H True 118 [(.ptr 0 0), (.con (.string ⟨#[41]⟩))] [[l9, b10]] (.tup []) [[l12, b13]] g14
  ((g14 → (Q l8 [[l12, b13]])))))))))
theorem a203p (s1 : ByteArray) (i2 : Int) (l3 : List (List PV)) (b4 : Bool) (Q : PV → Heap → Prop) (H : Value → Prop) (h : p203p s1 i2 l3 b4 Q H) : TCalls Tryz.prog 203 [(.ptr 0 0), s1, i2, (.bm 165 [(.ptr 0 0)])] [[l3, b4]] Q H := by
  have hb : Option.some (bodyOf Tryz.f203) = Tryz.f203.body := by kernel_rfl
  exact tcalls_canon (res := [.cell (.list)]) (post := [.cells [.list, .bool]]) (tcalls_eq (S := S) (L := loops60) mixed tok Tryz.func203 hb.symm (by kernel_rfl) h)
def p191p (l1 : List (List PV)) (b2 : Bool) (Q : PV → Heap → Prop) (H : Value → Prop) : Prop :=
∃ b3 : Bool, CallF Tryz.prog 82 [(.ptr 0 0), (.con (.string ⟨#[40]⟩))] [[l1, b2]] b3 [[l1, b2]]
  (br ((!b3))
  (Q (.sl []) [[l1, b2]])
  (∃ l4 : List (List PV), ∃ l5 : List (List PV), ∃ b6 : Bool, ∃ g7 : Prop, CallT Tryz.prog H True 203 [(.ptr 0 0), (.con (.string ⟨#[44]⟩)), (.con (.int .i64 6)), (.bm 165 [(.ptr 0 0)])] [[l1, b2]] l4 [[l5, b6]] g7
  ((g7 → (Q l4 [[l5, b6]])))))
theorem a191p (l1 : List (List PV)) (b2 : Bool) (Q : PV → Heap → Prop) (H : Value → Prop) (h : p191p l1 b2 Q H) : TCalls Tryz.prog 191 [(.ptr 0 0), (.bm 165 [(.ptr 0 0)])] [[l1, b2]] Q H := by
  have hb : Option.some (bodyOf Tryz.f191) = Tryz.f191.body := by kernel_rfl
  exact tcalls_canon (res := [.cell (.list)]) (post := [.cells [.list, .bool]]) (tcalls_eq (S := S) (L := loops60) mixed tok Tryz.func191 hb.symm (by kernel_rfl) h)
end Go.Proofs.YtjhnmikciejekaaGreat.Deep

namespace Go.Proofs.YtjhnmikciejekaaGreat.Deep
open Go.RowKit
set_option linter.unusedVariables false
def p32 (l1 : List (List PV)) (b2 : Bool) (Q : PV → Heap → Prop) (H : Value → Prop) : Prop :=
∃ s3 : ByteArray, CallF Tryz.prog 71 [(.ptr 0 0)] [[l1, b2]] s3 [[l1, b2]]
  (br ((ByteArray.toList s3 == ByteArray.toList ⟨#[108, 101, 116]⟩))
  (∃ i4 : Int, ∃ i5 : Int, ∃ i6 : Int, ∃ i7 : Int, ∃ l8 : List (List PV), ∃ s9 : ByteArray, ∃ l10 : List (List PV), ∃ l11 : List (List PV), ∃ l12 : List (List PV), ∃ b13 : Bool, ∃ g14 : Prop, CallT Tryz.prog H True 72 [(.ptr 0 0)] [[l1, b2]] (.agg [i4, i5, i6, i7, l8, s9, l10, l11]) [[l12, b13]] g14
  ((g14 → (Q (.agg [i4, i5, i6, i7, l8, s9, l10, l11]) [[l12, b13]]))))
  (br ((ByteArray.toList s3 == ByteArray.toList ⟨#[105, 102]⟩))
  (∃ i15 : Int, ∃ i16 : Int, ∃ i17 : Int, ∃ i18 : Int, ∃ l19 : List (List PV), ∃ s20 : ByteArray, ∃ l21 : List (List PV), ∃ l22 : List (List PV), ∃ l23 : List (List PV), ∃ b24 : Bool, ∃ g25 : Prop, CallT Tryz.prog H True 73 [(.ptr 0 0)] [[l1, b2]] (.agg [i15, i16, i17, i18, l19, s20, l21, l22]) [[l23, b24]] g25
  ((g25 → (Q (.agg [i15, i16, i17, i18, l19, s20, l21, l22]) [[l23, b24]]))))
  (br ((ByteArray.toList s3 == ByteArray.toList ⟨#[109, 97, 116, 99, 104]⟩))
  (∃ i26 : Int, ∃ i27 : Int, ∃ i28 : Int, ∃ i29 : Int, ∃ l30 : List (List PV), ∃ s31 : ByteArray, ∃ l32 : List (List PV), ∃ l33 : List (List PV), ∃ l34 : List (List PV), ∃ b35 : Bool, ∃ g36 : Prop, CallT Tryz.prog H True 74 [(.ptr 0 0)] [[l1, b2]] (.agg [i26, i27, i28, i29, l30, s31, l32, l33]) [[l34, b35]] g36
  ((g36 → (Q (.agg [i26, i27, i28, i29, l30, s31, l32, l33]) [[l34, b35]]))))
  (br ((ByteArray.toList s3 == ByteArray.toList ⟨#[102, 111, 114]⟩))
  (∃ i37 : Int, ∃ i38 : Int, ∃ i39 : Int, ∃ i40 : Int, ∃ l41 : List (List PV), ∃ s42 : ByteArray, ∃ l43 : List (List PV), ∃ l44 : List (List PV), ∃ l45 : List (List PV), ∃ b46 : Bool, ∃ g47 : Prop, CallT Tryz.prog H True 75 [(.ptr 0 0)] [[l1, b2]] (.agg [i37, i38, i39, i40, l41, s42, l43, l44]) [[l45, b46]] g47
  ((g47 → (Q (.agg [i37, i38, i39, i40, l41, s42, l43, l44]) [[l45, b46]]))))
  (∃ i48 : Int, ∃ i49 : Int, ∃ i50 : Int, ∃ i51 : Int, ∃ l52 : List (List PV), ∃ s53 : ByteArray, ∃ l54 : List (List PV), ∃ l55 : List (List PV), ∃ l56 : List (List PV), ∃ b57 : Bool, ∃ g58 : Prop, CallT Tryz.prog H True 76 [(.ptr 0 0)] [[l1, b2]] (.agg [i48, i49, i50, i51, l52, s53, l54, l55]) [[l56, b57]] g58
  ((g58 → (Q (.agg [i48, i49, i50, i51, l52, s53, l54, l55]) [[l56, b57]]))))))))
theorem a32 (l1 : List (List PV)) (b2 : Bool) (Q : PV → Heap → Prop) (H : Value → Prop) (h : p32 l1 b2 Q H) : TCalls Tryz.prog 32 [(.ptr 0 0)] [[l1, b2]] Q H := by
  have hb : Option.some (bodyOf Tryz.f32) = Tryz.f32.body := by kernel_rfl
  exact tcalls_canon (res := [.agg [.int .i64, .int .i64, .int .i64, .int .i64, .list, .str, .list, .list]]) (post := [.cells [.list, .bool]]) (tcalls_eq (S := S) (L := loops60) mixed tok Tryz.func32 hb.symm (by kernel_rfl) h)
def p116 (s1 : ByteArray) (l2 : List (List PV)) (b3 : Bool) (Q : PV → Heap → Prop) (H : Value → Prop) : Prop :=
∃ l4 : List (List PV), ∃ b5 : Bool, ∃ g6 : Prop, CallT Tryz.prog H True 118 [(.ptr 0 0), s1] [[l2, b3]] (.tup []) [[l4, b5]] g6
  ((g6 → (∃ i7 : Int, ∃ i8 : Int, ∃ i9 : Int, ∃ i10 : Int, ∃ l11 : List (List PV), ∃ s12 : ByteArray, ∃ l13 : List (List PV), ∃ l14 : List (List PV), ∃ l15 : List (List PV), ∃ b16 : Bool, ∃ g17 : Prop, CallT Tryz.prog H True 32 [(.ptr 0 0)] [[l4, b5]] (.agg [i7, i8, i9, i10, l11, s12, l13, l14]) [[l15, b16]] g17
  ((g17 → (Q (.agg [i7, i8, i9, i10, l11, s12, l13, l14]) [[l15, b16]]))))))
theorem a116 (s1 : ByteArray) (l2 : List (List PV)) (b3 : Bool) (Q : PV → Heap → Prop) (H : Value → Prop) (h : p116 s1 l2 b3 Q H) : TCalls Tryz.prog 116 [(.ptr 0 0), s1] [[l2, b3]] Q H := by
  have hb : Option.some (bodyOf Tryz.f116) = Tryz.f116.body := by kernel_rfl
  exact tcalls_canon (res := [.agg [.int .i64, .int .i64, .int .i64, .int .i64, .list, .str, .list, .list]]) (post := [.cells [.list, .bool]]) (tcalls_eq (S := S) (L := loops60) mixed tok Tryz.func116 hb.symm (by kernel_rfl) h)
def p72 (l1 : List (List PV)) (b2 : Bool) (Q : PV → Heap → Prop) (H : Value → Prop) : Prop :=
∃ i3 : Int, ∃ s4 : ByteArray, ∃ i5 : Int, ∃ l6 : List (List PV), ∃ i7 : Int, ∃ i8 : Int, ∃ l9 : List (List PV), ∃ b10 : Bool, ∃ g11 : Prop, CallT Tryz.prog H True 115 [(.ptr 0 0)] [[l1, b2]] (.agg [i3, s4, i5, l6, i7, i8]) [[l9, b10]] g11
  ((g11 → (∃ s12 : ByteArray, ∃ l13 : List (List PV), ∃ b14 : Bool, ∃ g15 : Prop, CallT Tryz.prog H True 84 [(.ptr 0 0)] [[l9, b10]] s12 [[l13, b14]] g15
  ((g15 → (∃ i16 : Int, ∃ i17 : Int, ∃ i18 : Int, ∃ i19 : Int, ∃ l20 : List (List PV), ∃ s21 : ByteArray, ∃ l22 : List (List PV), ∃ l23 : List (List PV), ∃ l24 : List (List PV), ∃ b25 : Bool, ∃ g26 : Prop, CallT Tryz.prog H True 116 [(.ptr 0 0), (.con (.string ⟨#[61]⟩))] [[l13, b14]] (.agg [i16, i17, i18, i19, l20, s21, l22, l23]) [[l24, b25]] g26
  ((g26 → (∃ i27 : Int, ∃ i28 : Int, ∃ i29 : Int, ∃ i30 : Int, ∃ l31 : List (List PV), ∃ s32 : ByteArray, ∃ l33 : List (List PV), ∃ l34 : List (List PV), ∃ l35 : List (List PV), ∃ b36 : Bool, ∃ g37 : Prop, CallT Tryz.prog H True 116 [(.ptr 0 0), (.con (.string ⟨#[105, 110]⟩))] [[l24, b25]] (.agg [i27, i28, i29, i30, l31, s32, l33, l34]) [[l35, b36]] g37
  ((g37 → (∃ i38 : Int, ∃ i39 : Int, ∃ i40 : Int, ∃ i41 : Int, ∃ l42 : List (List PV), ∃ s43 : ByteArray, ∃ l44 : List (List PV), ∃ l45 : List (List PV), ∃ g46 : Prop, CallT Tryz.prog H True 117 [(.agg [(.con (.int .i64 6)), i7, i8, (.con (.int .i64 0)), (.sl []), s12, (.sl [[i16, i17, i18, i19, l20, s21, l22, l23], [i27, i28, i29, i30, l31, s32, l33, l34]]), (.sl [])])] [] (.agg [i38, i39, i40, i41, l42, s43, l44, l45]) [] g46
  ((g46 → (Q (.agg [i38, i39, i40, i41, l42, s43, l44, l45]) [[l35, b36]])))))))))))))))
theorem a72 (l1 : List (List PV)) (b2 : Bool) (Q : PV → Heap → Prop) (H : Value → Prop) (h : p72 l1 b2 Q H) : TCalls Tryz.prog 72 [(.ptr 0 0)] [[l1, b2]] Q H := by
  have hb : Option.some (bodyOf Tryz.f72) = Tryz.f72.body := by kernel_rfl
  exact tcalls_canon (res := [.agg [.int .i64, .int .i64, .int .i64, .int .i64, .list, .str, .list, .list]]) (post := [.cells [.list, .bool]]) (tcalls_eq (S := S) (L := loops60) mixed tok Tryz.func72 hb.symm (by kernel_rfl) h)
def p73 (l1 : List (List PV)) (b2 : Bool) (Q : PV → Heap → Prop) (H : Value → Prop) : Prop :=
∃ i3 : Int, ∃ s4 : ByteArray, ∃ i5 : Int, ∃ l6 : List (List PV), ∃ i7 : Int, ∃ i8 : Int, CallF Tryz.prog 60 [(.ptr 0 0)] [[l1, b2]] (.agg [i3, s4, i5, l6, i7, i8]) [[l1, b2]]
  (∃ i9 : Int, ∃ i10 : Int, ∃ i11 : Int, ∃ i12 : Int, ∃ l13 : List (List PV), ∃ s14 : ByteArray, ∃ l15 : List (List PV), ∃ l16 : List (List PV), ∃ l17 : List (List PV), ∃ b18 : Bool, ∃ g19 : Prop, CallT Tryz.prog H True 116 [(.ptr 0 0), (.con (.string ⟨#[105, 102]⟩))] [[l1, b2]] (.agg [i9, i10, i11, i12, l13, s14, l15, l16]) [[l17, b18]] g19
  ((g19 → (∃ i20 : Int, ∃ i21 : Int, ∃ i22 : Int, ∃ i23 : Int, ∃ l24 : List (List PV), ∃ s25 : ByteArray, ∃ l26 : List (List PV), ∃ l27 : List (List PV), ∃ l28 : List (List PV), ∃ b29 : Bool, ∃ g30 : Prop, CallT Tryz.prog H True 116 [(.ptr 0 0), (.con (.string ⟨#[116, 104, 101, 110]⟩))] [[l17, b18]] (.agg [i20, i21, i22, i23, l24, s25, l26, l27]) [[l28, b29]] g30
  ((g30 → (∃ i31 : Int, ∃ i32 : Int, ∃ i33 : Int, ∃ i34 : Int, ∃ l35 : List (List PV), ∃ s36 : ByteArray, ∃ l37 : List (List PV), ∃ l38 : List (List PV), ∃ l39 : List (List PV), ∃ b40 : Bool, ∃ g41 : Prop, CallT Tryz.prog H True 116 [(.ptr 0 0), (.con (.string ⟨#[101, 108, 115, 101]⟩))] [[l28, b29]] (.agg [i31, i32, i33, i34, l35, s36, l37, l38]) [[l39, b40]] g41
  ((g41 → (∃ i42 : Int, ∃ i43 : Int, ∃ i44 : Int, ∃ i45 : Int, ∃ l46 : List (List PV), ∃ s47 : ByteArray, ∃ l48 : List (List PV), ∃ l49 : List (List PV), ∃ g50 : Prop, CallT Tryz.prog H True 117 [(.agg [(.con (.int .i64 7)), i7, i8, (.con (.int .i64 0)), (.sl []), (.con (.string ⟨#[]⟩)), (.sl [[i9, i10, i11, i12, l13, s14, l15, l16], [i20, i21, i22, i23, l24, s25, l26, l27], [i31, i32, i33, i34, l35, s36, l37, l38]]), (.sl [])])] [] (.agg [i42, i43, i44, i45, l46, s47, l48, l49]) [] g50
  ((g50 → (Q (.agg [i42, i43, i44, i45, l46, s47, l48, l49]) [[l39, b40]])))))))))))))
theorem a73 (l1 : List (List PV)) (b2 : Bool) (Q : PV → Heap → Prop) (H : Value → Prop) (h : p73 l1 b2 Q H) : TCalls Tryz.prog 73 [(.ptr 0 0)] [[l1, b2]] Q H := by
  have hb : Option.some (bodyOf Tryz.f73) = Tryz.f73.body := by kernel_rfl
  exact tcalls_canon (res := [.agg [.int .i64, .int .i64, .int .i64, .int .i64, .list, .str, .list, .list]]) (post := [.cells [.list, .bool]]) (tcalls_eq (S := S) (L := loops60) mixed tok Tryz.func73 hb.symm (by kernel_rfl) h)
def p74 (l1 : List (List PV)) (b2 : Bool) (Q : PV → Heap → Prop) (H : Value → Prop) : Prop :=
∃ i3 : Int, ∃ s4 : ByteArray, ∃ i5 : Int, ∃ l6 : List (List PV), ∃ i7 : Int, ∃ i8 : Int, CallF Tryz.prog 60 [(.ptr 0 0)] [[l1, b2]] (.agg [i3, s4, i5, l6, i7, i8]) [[l1, b2]]
  (∃ i9 : Int, ∃ i10 : Int, ∃ i11 : Int, ∃ i12 : Int, ∃ l13 : List (List PV), ∃ s14 : ByteArray, ∃ l15 : List (List PV), ∃ l16 : List (List PV), ∃ l17 : List (List PV), ∃ b18 : Bool, ∃ g19 : Prop, CallT Tryz.prog H True 116 [(.ptr 0 0), (.con (.string ⟨#[109, 97, 116, 99, 104]⟩))] [[l1, b2]] (.agg [i9, i10, i11, i12, l13, s14, l15, l16]) [[l17, b18]] g19
  ((g19 → (∃ l20 : List (List PV), ∃ b21 : Bool, ∃ g22 : Prop, CallT Tryz.prog H True 118 [(.ptr 0 0), (.con (.string ⟨#[119, 105, 116, 104]⟩))] [[l17, b18]] (.tup []) [[l20, b21]] g22
  ((g22 → (∃ b23 : Bool, ∃ l24 : List (List PV), ∃ b25 : Bool, ∃ g26 : Prop, CallT Tryz.prog H True 119 [(.ptr 0 0), (.con (.string ⟨#[124]⟩))] [[l20, b21]] b23 [[l24, b25]] g26
  ((g26 → (∃ l27 : List (List PV), ∃ l28 : List (List PV), ∃ b29 : Bool, ∃ g30 : Prop, CallT Tryz.prog H True 120 [(.ptr 0 0), (.con (.string ⟨#[124]⟩)), (.con (.int .i64 32)), (.bm 121 [(.ptr 0 0)])] [[l24, b25]] l27 [[l28, b29]] g30
  ((g30 → (∃ l31 : List (List PV), ∃ b32 : Bool, ∃ g33 : Prop, CallT Tryz.prog H True 118 [(.ptr 0 0), (.con (.string ⟨#[101, 110, 100]⟩))] [[l28, b29]] (.tup []) [[l31, b32]] g33
  ((g33 → (∃ i34 : Int, ∃ i35 : Int, ∃ i36 : Int, ∃ i37 : Int, ∃ l38 : List (List PV), ∃ s39 : ByteArray, ∃ l40 : List (List PV), ∃ l41 : List (List PV), ∃ g42 : Prop, CallT Tryz.prog H True 117 [(.agg [(.con (.int .i64 8)), i7, i8, (.con (.int .i64 0)), (.sl []), (.con (.string ⟨#[]⟩)), (.sl [[i9, i10, i11, i12, l13, s14, l15, l16]]), l27])] [] (.agg [i34, i35, i36, i37, l38, s39, l40, l41]) [] g42
  ((g42 → (Q (.agg [i34, i35, i36, i37, l38, s39, l40, l41]) [[l31, b32]])))))))))))))))))))
theorem a74 (l1 : List (List PV)) (b2 : Bool) (Q : PV → Heap → Prop) (H : Value → Prop) (h : p74 l1 b2 Q H) : TCalls Tryz.prog 74 [(.ptr 0 0)] [[l1, b2]] Q H := by
  have hb : Option.some (bodyOf Tryz.f74) = Tryz.f74.body := by kernel_rfl
  exact tcalls_canon (res := [.agg [.int .i64, .int .i64, .int .i64, .int .i64, .list, .str, .list, .list]]) (post := [.cells [.list, .bool]]) (tcalls_eq (S := S) (L := loops60) mixed tok Tryz.func74 hb.symm (by kernel_rfl) h)
def p121 (l1 : List (List PV)) (b2 : Bool) (Q : PV → Heap → Prop) (H : Value → Prop) : Prop :=
∃ i3 : Int, ∃ i4 : Int, ∃ i5 : Int, ∃ s6 : ByteArray, ∃ i7 : Int, ∃ l8 : List (List PV), ∃ l9 : List (List PV), ∃ b10 : Bool, ∃ g11 : Prop, CallT Tryz.prog H True 165 [(.ptr 0 0)] [[l1, b2]] (.agg [i3, i4, i5, s6, i7, l8]) [[l9, b10]] g11
  ((g11 → (∃ i12 : Int, ∃ i13 : Int, ∃ i14 : Int, ∃ i15 : Int, ∃ l16 : List (List PV), ∃ s17 : ByteArray, ∃ l18 : List (List PV), ∃ l19 : List (List PV), ∃ l20 : List (List PV), ∃ b21 : Bool, ∃ g22 : Prop, CallT Tryz.prog H True 116 [(.ptr 0 0), (.con (.string ⟨#[45, 62]⟩))] [[l9, b10]] (.agg [i12, i13, i14, i15, l16, s17, l18, l19]) [[l20, b21]] g22
  ((g22 → (Q (.agg [i3, i4, i5, s6, i7, l8, i12, i13, i14, i15, l16, s17, l18, l19]) [[l20, b21]]))))))
theorem a121 (l1 : List (List PV)) (b2 : Bool) (Q : PV → Heap → Prop) (H : Value → Prop) (h : p121 l1 b2 Q H) : TCalls Tryz.prog 121 [(.ptr 0 0)] [[l1, b2]] Q H := by
  have hb : Option.some (bodyOf Tryz.f121) = Tryz.f121.body := by kernel_rfl
  exact tcalls_canon (res := [.agg [.int .i64, .int .i64, .int .i64, .str, .int .i64, .list, .int .i64, .int .i64, .int .i64, .int .i64, .list, .str, .list, .list]]) (post := [.cells [.list, .bool]]) (tcalls_eq (S := S) (L := loops60) mixed tok Tryz.func121 hb.symm (by kernel_rfl) h)
def p75 (l1 : List (List PV)) (b2 : Bool) (Q : PV → Heap → Prop) (H : Value → Prop) : Prop :=
∃ i3 : Int, ∃ s4 : ByteArray, ∃ i5 : Int, ∃ l6 : List (List PV), ∃ i7 : Int, ∃ i8 : Int, ∃ l9 : List (List PV), ∃ b10 : Bool, ∃ g11 : Prop, CallT Tryz.prog H True 115 [(.ptr 0 0)] [[l1, b2]] (.agg [i3, s4, i5, l6, i7, i8]) [[l9, b10]] g11
  ((g11 → (∃ i12 : Int, ∃ l13 : List (List PV), ∃ b14 : Bool, ∃ g15 : Prop, CallT Tryz.prog H True 122 [(.ptr 0 0), (.con (.int .i64 0)), (.con (.int .i64 1000))] [[l9, b10]] i12 [[l13, b14]] g15
  ((g15 → (∃ l16 : List (List PV), ∃ b17 : Bool, ∃ g18 : Prop, CallT Tryz.prog H True 118 [(.ptr 0 0), (.con (.string ⟨#[119, 105, 116, 104]⟩))] [[l13, b14]] (.tup []) [[l16, b17]] g18
  ((g18 → (∃ s19 : ByteArray, ∃ l20 : List (List PV), ∃ b21 : Bool, ∃ g22 : Prop, CallT Tryz.prog H True 84 [(.ptr 0 0)] [[l16, b17]] s19 [[l20, b21]] g22
  ((g22 → (∃ i23 : Int, ∃ i24 : Int, ∃ i25 : Int, ∃ i26 : Int, ∃ l27 : List (List PV), ∃ s28 : ByteArray, ∃ l29 : List (List PV), ∃ l30 : List (List PV), ∃ l31 : List (List PV), ∃ b32 : Bool, ∃ g33 : Prop, CallT Tryz.prog H True 116 [(.ptr 0 0), (.con (.string ⟨#[61]⟩))] [[l20, b21]] (.agg [i23, i24, i25, i26, l27, s28, l29, l30]) [[l31, b32]] g33
  ((g33 → (∃ i34 : Int, ∃ i35 : Int, ∃ i36 : Int, ∃ i37 : Int, ∃ l38 : List (List PV), ∃ s39 : ByteArray, ∃ l40 : List (List PV), ∃ l41 : List (List PV), ∃ l42 : List (List PV), ∃ b43 : Bool, ∃ g44 : Prop, CallT Tryz.prog H True 116 [(.ptr 0 0), (.con (.string ⟨#[100, 111]⟩))] [[l31, b32]] (.agg [i34, i35, i36, i37, l38, s39, l40, l41]) [[l42, b43]] g44
  ((g44 → (∃ i45 : Int, ∃ i46 : Int, ∃ i47 : Int, ∃ i48 : Int, ∃ l49 : List (List PV), ∃ s50 : ByteArray, ∃ l51 : List (List PV), ∃ l52 : List (List PV), ∃ g53 : Prop, CallT Tryz.prog H True 117 [(.agg [(.con (.int .i64 10)), i7, i8, i12, (.sl []), s19, (.sl [[i23, i24, i25, i26, l27, s28, l29, l30], [i34, i35, i36, i37, l38, s39, l40, l41]]), (.sl [])])] [] (.agg [i45, i46, i47, i48, l49, s50, l51, l52]) [] g53
  ((g53 → (Q (.agg [i45, i46, i47, i48, l49, s50, l51, l52]) [[l42, b43]])))))))))))))))))))))
theorem a75 (l1 : List (List PV)) (b2 : Bool) (Q : PV → Heap → Prop) (H : Value → Prop) (h : p75 l1 b2 Q H) : TCalls Tryz.prog 75 [(.ptr 0 0)] [[l1, b2]] Q H := by
  have hb : Option.some (bodyOf Tryz.f75) = Tryz.f75.body := by kernel_rfl
  exact tcalls_canon (res := [.agg [.int .i64, .int .i64, .int .i64, .int .i64, .list, .str, .list, .list]]) (post := [.cells [.list, .bool]]) (tcalls_eq (S := S) (L := loops60) mixed tok Tryz.func75 hb.symm (by kernel_rfl) h)
def p76 (l1 : List (List PV)) (b2 : Bool) (Q : PV → Heap → Prop) (H : Value → Prop) : Prop :=
∃ i3 : Int, ∃ i4 : Int, ∃ i5 : Int, ∃ i6 : Int, ∃ l7 : List (List PV), ∃ s8 : ByteArray, ∃ l9 : List (List PV), ∃ l10 : List (List PV), ∃ l11 : List (List PV), ∃ b12 : Bool, ∃ g13 : Prop, CallT Tryz.prog H True 123 [(.ptr 0 0)] [[l1, b2]] (.agg [i3, i4, i5, i6, l7, s8, l9, l10]) [[l11, b12]] g13
  ((g13 → (∃ s14 : ByteArray, CallF Tryz.prog 125 [(.ptr 0 0)] [[l11, b12]] s14 [[l11, b12]]
  (∃ i15 : Int, ∃ b16 : Bool, CallN Tryz.prog 124 [s14] [[l11, b12], [(.con (.int .i64 0)), (.con (.int .i64 0)), (.con (.int .i64 0)), (.con (.int .i64 0)), (.con (.slice none 0 0)), (.con (.string ⟨#[]⟩)), (.con (.slice none 0 0)), (.con (.slice none 0 0))], [.tip], [i3, i4, i5, i6, l7, s8, l9, l10], [.tip]] (.tup [i15, b16])
  (br (b16)
  (∃ i17 : Int, ∃ i18 : Int, ∃ i19 : Int, ∃ i20 : Int, ∃ l21 : List (List PV), ∃ s22 : ByteArray, ∃ l23 : List (List PV), ∃ l24 : List (List PV), ∃ l25 : List (List PV), ∃ b26 : Bool, ∃ g27 : Prop, CallT Tryz.prog H True 126 [(.ptr 0 0), i15, (.agg [i3, i4, i5, i6, l7, s8, l9, l10]), (.bm 123 [(.ptr 0 0)])] [[l11, b12]] (.agg [i17, i18, i19, i20, l21, s22, l23, l24]) [[l25, b26]] g27
  ((g27 → (Q (.agg [i17, i18, i19, i20, l21, s22, l23, l24]) [[l25, b26]]))))
  (Q (.agg [i3, i4, i5, i6, l7, s8, l9, l10]) [[l11, b12]]))))))
theorem a76 (l1 : List (List PV)) (b2 : Bool) (Q : PV → Heap → Prop) (H : Value → Prop) (h : p76 l1 b2 Q H) : TCalls Tryz.prog 76 [(.ptr 0 0)] [[l1, b2]] Q H := by
  have hb : Option.some (bodyOf Tryz.f76) = Tryz.f76.body := by kernel_rfl
  exact tcalls_canon (res := [.agg [.int .i64, .int .i64, .int .i64, .int .i64, .list, .str, .list, .list]]) (post := [.cells [.list, .bool]]) (tcalls_eq (S := S) (L := loops60) mixed tok Tryz.func76 hb.symm (by kernel_rfl) h)
def p123 (l1 : List (List PV)) (b2 : Bool) (Q : PV → Heap → Prop) (H : Value → Prop) : Prop :=
∃ i3 : Int, ∃ i4 : Int, ∃ i5 : Int, ∃ i6 : Int, ∃ l7 : List (List PV), ∃ s8 : ByteArray, ∃ l9 : List (List PV), ∃ l10 : List (List PV), ∃ l11 : List (List PV), ∃ b12 : Bool, ∃ g13 : Prop, CallT Tryz.prog H True 166 [(.ptr 0 0), (.fn 167 []), (.bm 168 [(.ptr 0 0)])] [[l1, b2]] (.agg [i3, i4, i5, i6, l7, s8, l9, l10]) [[l11, b12]] g13
  ((g13 → (Q (.agg [i3, i4, i5, i6, l7, s8, l9, l10]) [[l11, b12]])))
theorem a123 (l1 : List (List PV)) (b2 : Bool) (Q : PV → Heap → Prop) (H : Value → Prop) (h : p123 l1 b2 Q H) : TCalls Tryz.prog 123 [(.ptr 0 0)] [[l1, b2]] Q H := by
  have hb : Option.some (bodyOf Tryz.f123) = Tryz.f123.body := by kernel_rfl
  exact tcalls_canon (res := [.agg [.int .i64, .int .i64, .int .i64, .int .i64, .list, .str, .list, .list]]) (post := [.cells [.list, .bool]]) (tcalls_eq (S := S) (L := loops60) mixed tok Tryz.func123 hb.symm (by kernel_rfl) h)
def p168 (l1 : List (List PV)) (b2 : Bool) (Q : PV → Heap → Prop) (H : Value → Prop) : Prop :=
∃ i3 : Int, ∃ i4 : Int, ∃ i5 : Int, ∃ i6 : Int, ∃ l7 : List (List PV), ∃ s8 : ByteArray, ∃ l9 : List (List PV), ∃ l10 : List (List PV), ∃ l11 : List (List PV), ∃ b12 : Bool, ∃ g13 : Prop, CallT Tryz.prog H True 166 [(.ptr 0 0), (.fn 193 []), (.bm 194 [(.ptr 0 0)])] [[l1, b2]] (.agg [i3, i4, i5, i6, l7, s8, l9, l10]) [[l11, b12]] g13
  ((g13 → (Q (.agg [i3, i4, i5, i6, l7, s8, l9, l10]) [[l11, b12]])))
theorem a168 (l1 : List (List PV)) (b2 : Bool) (Q : PV → Heap → Prop) (H : Value → Prop) (h : p168 l1 b2 Q H) : TCalls Tryz.prog 168 [(.ptr 0 0)] [[l1, b2]] Q H := by
  have hb : Option.some (bodyOf Tryz.f168) = Tryz.f168.body := by kernel_rfl
  exact tcalls_canon (res := [.agg [.int .i64, .int .i64, .int .i64, .int .i64, .list, .str, .list, .list]]) (post := [.cells [.list, .bool]]) (tcalls_eq (S := S) (L := loops60) mixed tok Tryz.func168 hb.symm (by kernel_rfl) h)
def p194 (l1 : List (List PV)) (b2 : Bool) (Q : PV → Heap → Prop) (H : Value → Prop) : Prop :=
∃ i3 : Int, ∃ s4 : ByteArray, ∃ i5 : Int, ∃ l6 : List (List PV), ∃ i7 : Int, ∃ i8 : Int, CallF Tryz.prog 60 [(.ptr 0 0)] [[l1, b2]] (.agg [i3, s4, i5, l6, i7, i8]) [[l1, b2]]
  (br (((i3 : Int) == 3))
  (∃ i9 : Int, ∃ l10 : List (List PV), ∃ b11 : Bool, ∃ g12 : Prop, CallT Tryz.prog H True 189 [(.ptr 0 0)] [[l1, b2]] i9 [[l10, b11]] g12
  ((g12 → (Q (.agg [(.con (.int .i64 0)), i7, i8, i9, (.sl []), (.con (.string ⟨#[]⟩)), (.sl []), (.sl [])]) [[l10, b11]]))))
  (∃ b13 : Bool, CallF Tryz.prog 82 [(.ptr 0 0), (.con (.string ⟨#[126]⟩))] [[l1, b2]] b13 [[l1, b2]]
  (br (b13)
  (∃ i14 : Int, ∃ l15 : List (List PV), ∃ b16 : Bool, ∃ g17 : Prop, CallT Tryz.prog H True 189 [(.ptr 0 0)] [[l1, b2]] i14 [[l15, b16]] g17
  ((g17 → (Q (.agg [(.con (.int .i64 0)), i7, i8, i14, (.sl []), (.con (.string ⟨#[]⟩)), (.sl []), (.sl [])]) [[l15, b16]]))))
  (br (((i3 : Int) == 4))
  (∃ i18 : Int, ∃ s19 : ByteArray, ∃ i20 : Int, ∃ l21 : List (List PV), ∃ i22 : Int, ∃ i23 : Int, ∃ l24 : List (List PV), ∃ b25 : Bool, ∃ g26 : Prop, CallT Tryz.prog H True 115 [(.ptr 0 0)] [[l1, b2]] (.agg [i18, s19, i20, l21, i22, i23]) [[l24, b25]] g26
  ((g26 → (Q (.agg [(.con (.int .i64 1)), i7, i8, (.con (.int .i64 0)), l21, (.con (.string ⟨#[]⟩)), (.sl []), (.sl [])]) [[l24, b25]]))))
  (∃ b27 : Bool, CallF Tryz.prog 82 [(.ptr 0 0), (.con (.string ⟨#[115, 116, 97, 116, 101]⟩))] [[l1, b2]] b27 [[l1, b2]]
  (br (b27)
  (∃ i28 : Int, ∃ s29 : ByteArray, ∃ i30 : Int, ∃ l31 : List (List PV), ∃ i32 : Int, ∃ i33 : Int, ∃ l34 : List (List PV), ∃ b35 : Bool, ∃ g36 : Prop, CallT Tryz.prog H True 115 [(.ptr 0 0)] [[l1, b2]] (.agg [i28, s29, i30, l31, i32, i33]) [[l34, b35]] g36
  ((g36 → (Q (.agg [(.con (.int .i64 2)), i7, i8, (.con (.int .i64 0)), (.sl []), s29, (.sl []), (.sl [])]) [[l34, b35]]))))
  (br (((i3 : Int) == 1))
  (∃ i37 : Int, ∃ i38 : Int, ∃ i39 : Int, ∃ i40 : Int, ∃ l41 : List (List PV), ∃ s42 : ByteArray, ∃ l43 : List (List PV), ∃ l44 : List (List PV), ∃ l45 : List (List PV), ∃ b46 : Bool, ∃ g47 : Prop, CallT Tryz.prog H True 204 [(.ptr 0 0)] [[l1, b2]] (.agg [i37, i38, i39, i40, l41, s42, l43, l44]) [[l45, b46]] g47
  ((g47 → (Q (.agg [i37, i38, i39, i40, l41, s42, l43, l44]) [[l45, b46]]))))
  (br (((i3 : Int) == 2))
  (∃ i48 : Int, ∃ s49 : ByteArray, ∃ i50 : Int, ∃ l51 : List (List PV), ∃ i52 : Int, ∃ i53 : Int, ∃ l54 : List (List PV), ∃ b55 : Bool, ∃ g56 : Prop, CallT Tryz.prog H True 115 [(.ptr 0 0)] [[l1, b2]] (.agg [i48, s49, i50, l51, i52, i53]) [[l54, b55]] g56
  (∃ l57 : List (List PV), ∃ l58 : List (List PV), ∃ b59 : Bool, ∃ g60 : Prop, CallT Tryz.prog H g56 205 [(.ptr 0 0), (.bm 32 [(.ptr 0 0)])] [[l54, b55]] l57 [[l58, b59]] g60
  (∃ i61 : Int, ∃ i62 : Int, ∃ i63 : Int, ∃ i64 : Int, ∃ l65 : List (List PV), ∃ s66 : ByteArray, ∃ l67 : List (List PV), ∃ l68 : List (List PV), ∃ g69 : Prop, CallT Tryz.prog H (g56 ∧ g60) 117 [(.agg [(.con (.int .i64 3)), i7, i8, (.con (.int .i64 0)), (.sl []), s49, l57, (.sl [])])] [] (.agg [i61, i62, i63, i64, l65, s66, l67, l68]) [] g69
  ((((g56 ∧ g60) ∧ g69) → (Q (.agg [i61, i62, i63, i64, l65, s66, l67, l68]) [[l58, b59]]))))))
  (∃ b70 : Bool, CallF Tryz.prog 82 [(.ptr 0 0), (.con (.string ⟨#[40]⟩))] [[l1, b2]] b70 [[l1, b2]]
  (br (b70)
  (∃ i71 : Int, ∃ i72 : Int, ∃ i73 : Int, ∃ i74 : Int, ∃ l75 : List (List PV), ∃ s76 : ByteArray, ∃ l77 : List (List PV), ∃ l78 : List (List PV), ∃ l79 : List (List PV), ∃ b80 : Bool, ∃ g81 : Prop, CallT Tryz.prog H True 206 [(.ptr 0 0)] [[l1, b2]] (.agg [i71, i72, i73, i74, l75, s76, l77, l78]) [[l79, b80]] g81
  ((g81 → (Q (.agg [i71, i72, i73, i74, l75, s76, l77, l78]) [[l79, b80]]))))
  (∃ i82 : Int, ∃ i83 : Int, ∃ i84 : Int, CallF Tryz.prog 103 [(.ptr 0 0)] [[l1, b2]] (.agg [i82, i83, i84]) [[l1, b2]]
  (H (.iface 40 (.agg (List.toArray [(.int .i64 i82), (.int .i64 i83), (.int .i64 i84)])))))))))))))))
theorem a194 (l1 : List (List PV)) (b2 : Bool) (Q : PV → Heap → Prop) (H : Value → Prop) (h : p194 l1 b2 Q H) : TCalls Tryz.prog 194 [(.ptr 0 0)] [[l1, b2]] Q H := by
  have hb : Option.some (bodyOf Tryz.f194) = Tryz.f194.body := by kernel_rfl
  exact tcalls_canon (res := [.agg [.int .i64, .int .i64, .int .i64, .int .i64, .list, .str, .list, .list]]) (post := [.cells [.list, .bool]]) (tcalls_eq (S := S) (L := loops60) mixed tok Tryz.func194 hb.symm (by kernel_rfl) h)
def p204 (l1 : List (List PV)) (b2 : Bool) (Q : PV → Heap → Prop) (H : Value → Prop) : Prop :=
∃ i3 : Int, ∃ s4 : ByteArray, ∃ i5 : Int, ∃ l6 : List (List PV), ∃ i7 : Int, ∃ i8 : Int, ∃ l9 : List (List PV), ∃ b10 : Bool, ∃ g11 : Prop, CallT Tryz.prog H True 115 [(.ptr 0 0)] [[l1, b2]] (.agg [i3, s4, i5, l6, i7, i8]) [[l9, b10]] g11
  ((g11 → (∃ b12 : Bool, CallF Tryz.prog 82 [(.ptr 0 0), (.con (.string ⟨#[40]⟩))] [[l9, b10]] b12 [[l9, b10]]
  (br ((!b12))
  (Q (.agg [(.con (.int .i64 2)), i7, i8, (.con (.int .i64 0)), (.sl []), s4, (.sl []), (.sl [])]) [[l9, b10]])
  (∃ b13 : Bool, CallN Tryz.prog 155 [s4] [[l9, b10], [(.con (.int .i64 0)), (.con (.int .i64 0)), (.con (.int .i64 0)), (.con (.int .i64 0)), (.con (.slice none 0 0)), (.con (.string ⟨#[]⟩)), (.con (.slice none 0 0)), (.con (.slice none 0 0))], [.tip], [i3, s4, i5, l6, i7, i8], [.tip]] b13
  (br (b13)
  (H (.iface 40 (.agg (List.toArray [(.int .i64 8), (.int .i64 i7), (.int .i64 i8)]))))
  (∃ l14 : List (List PV), ∃ l15 : List (List PV), ∃ b16 : Bool, ∃ g17 : Prop, CallT Tryz.prog H True 212 [(.ptr 0 0), (.con (.string ⟨#[44]⟩)), (.con (.int .i64 6)), (.bm 32 [(.ptr 0 0)])] [[l9, b10]] l14 [[l15, b16]] g17
  ((g17 → (∃ i18 : Int, ∃ b19 : Bool, CallN Tryz.prog 184 [s4] [[l15, b16], [(.con (.int .i64 0)), (.con (.int .i64 0)), (.con (.int .i64 0)), (.con (.int .i64 0)), (.con (.slice none 0 0)), (.con (.string ⟨#[]⟩)), (.con (.slice none 0 0)), (.con (.slice none 0 0))], [.tip], [i3, s4, i5, l6, i7, i8], [.tip], [.tip]] (.tup [i18, b19])
  (br (b19)
  (∃ i20 : Int, ∃ i21 : Int, ∃ i22 : Int, ∃ i23 : Int, ∃ l24 : List (List PV), ∃ s25 : ByteArray, ∃ l26 : List (List PV), ∃ l27 : List (List PV), ∃ g28 : Prop, CallT Tryz.prog H True 117 [(.agg [(.con (.int .i64 9)), i7, i8, i18, (.sl []), (.con (.string ⟨#[]⟩)), l14, (.sl [])])] [] (.agg [i20, i21, i22, i23, l24, s25, l26, l27]) [] g28
  ((g28 → (Q (.agg [i20, i21, i22, i23, l24, s25, l26, l27]) [[l15, b16]]))))
  (∃ i29 : Int, ∃ i30 : Int, ∃ i31 : Int, ∃ i32 : Int, ∃ l33 : List (List PV), ∃ s34 : ByteArray, ∃ l35 : List (List PV), ∃ l36 : List (List PV), ∃ g37 : Prop, CallT Tryz.prog H True 117 [(.agg [(.con (.int .i64 5)), i7, i8, (.con (.int .i64 0)), (.sl []), s4, l14, (.sl [])])] [] (.agg [i29, i30, i31, i32, l33, s34, l35, l36]) [] g37
  ((g37 → (Q (.agg [i29, i30, i31, i32, l33, s34, l35, l36]) [[l15, b16]])))))))))))))))
theorem a204 (l1 : List (List PV)) (b2 : Bool) (Q : PV → Heap → Prop) (H : Value → Prop) (h : p204 l1 b2 Q H) : TCalls Tryz.prog 204 [(.ptr 0 0)] [[l1, b2]] Q H := by
  have hb : Option.some (bodyOf Tryz.f204) = Tryz.f204.body := by kernel_rfl
  exact tcalls_canon (res := [.agg [.int .i64, .int .i64, .int .i64, .int .i64, .list, .str, .list, .list]]) (post := [.cells [.list, .bool]]) (tcalls_eq (S := S) (L := loops60) mixed tok Tryz.func204 hb.symm (by kernel_rfl) h)
def p206 (l1 : List (List PV)) (b2 : Bool) (Q : PV → Heap → Prop) (H : Value → Prop) : Prop :=
∃ i3 : Int, ∃ s4 : ByteArray, ∃ i5 : Int, ∃ l6 : List (List PV), ∃ i7 : Int, ∃ i8 : Int, CallF Tryz.prog 60 [(.ptr 0 0)] [[l1, b2]] (.agg [i3, s4, i5, l6, i7, i8]) [[l1, b2]]
  (∃ l9 : List (List PV), ∃ l10 : List (List PV), ∃ b11 : Bool, ∃ g12 : Prop, CallT Tryz.prog H True 212 [(.ptr 0 0), (.con (.string ⟨#[44]⟩)), (.con (.int .i64 6)), (.bm 32 [(.ptr 0 0)])] [[l1, b2]] l9 [[l10, b11]] g12
  ((g12 → (br ((((List.length l9 : Int) : Int) == 1))
  (∃ i13 : Int, ∃ i14 : Int, ∃ i15 : Int, ∃ i16 : Int, ∃ l17 : List (List PV), ∃ s18 : ByteArray, ∃ l19 : List (List PV), ∃ l20 : List (List PV), IdxN l9 0 [i13, i14, i15, i16, l17, s18, l19, l20]
  (Q (.agg [i13, i14, i15, i16, l17, s18, l19, l20]) [[l10, b11]]))
  (∃ i21 : Int, ∃ i22 : Int, ∃ i23 : Int, ∃ i24 : Int, ∃ l25 : List (List PV), ∃ s26 : ByteArray, ∃ l27 : List (List PV), ∃ l28 : List (List PV), ∃ g29 : Prop, CallT Tryz.prog H True 117 [(.agg [(.con (.int .i64 4)), i7, i8, (.con (.int .i64 0)), (.sl []), (.con (.string ⟨#[]⟩)), l9, (.sl [])])] [] (.agg [i21, i22, i23, i24, l25, s26, l27, l28]) [] g29
  ((g29 → (Q (.agg [i21, i22, i23, i24, l25, s26, l27, l28]) [[l10, b11]]))))))))
theorem a206 (l1 : List (List PV)) (b2 : Bool) (Q : PV → Heap → Prop) (H : Value → Prop) (h : p206 l1 b2 Q H) : TCalls Tryz.prog 206 [(.ptr 0 0)] [[l1, b2]] Q H := by
  have hb : Option.some (bodyOf Tryz.f206) = Tryz.f206.body := by kernel_rfl
  exact tcalls_canon (res := [.agg [.int .i64, .int .i64, .int .i64, .int .i64, .list, .str, .list, .list]]) (post := [.cells [.list, .bool]]) (tcalls_eq (S := S) (L := loops60) mixed tok Tryz.func206 hb.symm (by kernel_rfl) h)
def p126s (i1 i2 i3 i4 i5 : Int) (l6 : List (List PV)) (s7 : ByteArray) (l8 l9 l10 : List (List PV)) (b11 : Bool) (Q : PV → Heap → Prop) (H : Value → Prop) : Prop :=
∃ i12 : Int, ∃ s13 : ByteArray, ∃ i14 : Int, ∃ l15 : List (List PV), ∃ i16 : Int, ∃ i17 : Int, ∃ l18 : List (List PV), ∃ b19 : Bool, ∃ g20 : Prop, CallT Tryz.prog H True 115 [(.ptr 0 0)] [[l10, b11]] (.agg [i12, s13, i14, l15, i16, i17]) [[l18, b19]] g20
  (∃ i21 : Int, ∃ i22 : Int, ∃ i23 : Int, ∃ i24 : Int, ∃ l25 : List (List PV), ∃ s26 : ByteArray, ∃ l27 : List (List PV), ∃ l28 : List (List PV), ∃ l29 : List (List PV), ∃ b30 : Bool, ∃ g31 : Prop, CallT Tryz.prog H g20 123 [(.ptr 0 0)] [[l18, b19]] (.agg [i21, i22, i23, i24, l25, s26, l27, l28]) [[l29, b30]] g31
  (∃ i32 : Int, ∃ i33 : Int, ∃ i34 : Int, ∃ i35 : Int, ∃ l36 : List (List PV), ∃ s37 : ByteArray, ∃ l38 : List (List PV), ∃ l39 : List (List PV), ∃ g40 : Prop, CallT Tryz.prog H (g20 ∧ g31) 117 [(.agg [(.con (.int .i64 9)), i16, i17, i1, (.sl []), (.con (.string ⟨#[]⟩)), (.sl [[i2, i3, i4, i5, l6, s7, l8, l9], [i21, i22, i23, i24, l25, s26, l27, l28]]), (.sl [])])] [] (.agg [i32, i33, i34, i35, l36, s37, l38, l39]) [] g40
  ((((g20 ∧ g31) ∧ g40) → (Q (.agg [i32, i33, i34, i35, l36, s37, l38, l39]) [[l29, b30]])))))
theorem a126s (i1 i2 i3 i4 i5 : Int) (l6 : List (List PV)) (s7 : ByteArray) (l8 l9 l10 : List (List PV)) (b11 : Bool) (Q : PV → Heap → Prop) (H : Value → Prop) (h : p126s i1 i2 i3 i4 i5 l6 s7 l8 l9 l10 b11 Q H) : TCalls Tryz.prog 126 [(.ptr 0 0), i1, (.agg [i2, i3, i4, i5, l6, s7, l8, l9]), (.bm 123 [(.ptr 0 0)])] [[l10, b11]] Q H := by
  have hb : Option.some (bodyOf Tryz.f126) = Tryz.f126.body := by kernel_rfl
  exact tcalls_canon (res := [.agg [.int .i64, .int .i64, .int .i64, .int .i64, .list, .str, .list, .list]]) (post := [.cells [.list, .bool]]) (tcalls_eq (S := S) (L := loops60) mixed tok Tryz.func126 hb.symm (by kernel_rfl) h)
def p126p (i1 i2 i3 i4 i5 : Int) (l6 : List (List PV)) (s7 : ByteArray) (l8 l9 l10 : List (List PV)) (b11 : Bool) (Q : PV → Heap → Prop) (H : Value → Prop) : Prop :=
∃ i12 : Int, ∃ s13 : ByteArray, ∃ i14 : Int, ∃ l15 : List (List PV), ∃ i16 : Int, ∃ i17 : Int, ∃ l18 : List (List PV), ∃ b19 : Bool, ∃ g20 : Prop, CallT Tryz.prog H True 115 [(.ptr 0 0)] [[l10, b11]] (.agg [i12, s13, i14, l15, i16, i17]) [[l18, b19]] g20
  (∃ i21 : Int, ∃ i22 : Int, ∃ i23 : Int, ∃ i24 : Int, ∃ l25 : List (List PV), ∃ s26 : ByteArray, ∃ l27 : List (List PV), ∃ l28 : List (List PV), ∃ l29 : List (List PV), ∃ b30 : Bool, ∃ g31 : Prop, CallT Tryz.prog H g20 168 [(.ptr 0 0)] [[l18, b19]] (.agg [i21, i22, i23, i24, l25, s26, l27, l28]) [[l29, b30]] g31
  (∃ i32 : Int, ∃ i33 : Int, ∃ i34 : Int, ∃ i35 : Int, ∃ l36 : List (List PV), ∃ s37 : ByteArray, ∃ l38 : List (List PV), ∃ l39 : List (List PV), ∃ g40 : Prop, CallT Tryz.prog H (g20 ∧ g31) 117 [(.agg [(.con (.int .i64 9)), i16, i17, i1, (.sl []), (.con (.string ⟨#[]⟩)), (.sl [[i2, i3, i4, i5, l6, s7, l8, l9], [i21, i22, i23, i24, l25, s26, l27, l28]]), (.sl [])])] [] (.agg [i32, i33, i34, i35, l36, s37, l38, l39]) [] g40
  ((((g20 ∧ g31) ∧ g40) → (Q (.agg [i32, i33, i34, i35, l36, s37, l38, l39]) [[l29, b30]])))))
theorem a126p (i1 i2 i3 i4 i5 : Int) (l6 : List (List PV)) (s7 : ByteArray) (l8 l9 l10 : List (List PV)) (b11 : Bool) (Q : PV → Heap → Prop) (H : Value → Prop) (h : p126p i1 i2 i3 i4 i5 l6 s7 l8 l9 l10 b11 Q H) : TCalls Tryz.prog 126 [(.ptr 0 0), i1, (.agg [i2, i3, i4, i5, l6, s7, l8, l9]), (.bm 168 [(.ptr 0 0)])] [[l10, b11]] Q H := by
  have hb : Option.some (bodyOf Tryz.f126) = Tryz.f126.body := by kernel_rfl
  exact tcalls_canon (res := [.agg [.int .i64, .int .i64, .int .i64, .int .i64, .list, .str, .list, .list]]) (post := [.cells [.list, .bool]]) (tcalls_eq (S := S) (L := loops60) mixed tok Tryz.func126 hb.symm (by kernel_rfl) h)
def p126a (i1 i2 i3 i4 i5 : Int) (l6 : List (List PV)) (s7 : ByteArray) (l8 l9 l10 : List (List PV)) (b11 : Bool) (Q : PV → Heap → Prop) (H : Value → Prop) : Prop :=
∃ i12 : Int, ∃ s13 : ByteArray, ∃ i14 : Int, ∃ l15 : List (List PV), ∃ i16 : Int, ∃ i17 : Int, ∃ l18 : List (List PV), ∃ b19 : Bool, ∃ g20 : Prop, CallT Tryz.prog H True 115 [(.ptr 0 0)] [[l10, b11]] (.agg [i12, s13, i14, l15, i16, i17]) [[l18, b19]] g20
  (∃ i21 : Int, ∃ i22 : Int, ∃ i23 : Int, ∃ i24 : Int, ∃ l25 : List (List PV), ∃ s26 : ByteArray, ∃ l27 : List (List PV), ∃ l28 : List (List PV), ∃ l29 : List (List PV), ∃ b30 : Bool, ∃ g31 : Prop, CallT Tryz.prog H g20 194 [(.ptr 0 0)] [[l18, b19]] (.agg [i21, i22, i23, i24, l25, s26, l27, l28]) [[l29, b30]] g31
  (∃ i32 : Int, ∃ i33 : Int, ∃ i34 : Int, ∃ i35 : Int, ∃ l36 : List (List PV), ∃ s37 : ByteArray, ∃ l38 : List (List PV), ∃ l39 : List (List PV), ∃ g40 : Prop, CallT Tryz.prog H (g20 ∧ g31) 117 [(.agg [(.con (.int .i64 9)), i16, i17, i1, (.sl []), (.con (.string ⟨#[]⟩)), (.sl [[i2, i3, i4, i5, l6, s7, l8, l9], [i21, i22, i23, i24, l25, s26, l27, l28]]), (.sl [])])] [] (.agg [i32, i33, i34, i35, l36, s37, l38, l39]) [] g40
  ((((g20 ∧ g31) ∧ g40) → (Q (.agg [i32, i33, i34, i35, l36, s37, l38, l39]) [[l29, b30]])))))
theorem a126a (i1 i2 i3 i4 i5 : Int) (l6 : List (List PV)) (s7 : ByteArray) (l8 l9 l10 : List (List PV)) (b11 : Bool) (Q : PV → Heap → Prop) (H : Value → Prop) (h : p126a i1 i2 i3 i4 i5 l6 s7 l8 l9 l10 b11 Q H) : TCalls Tryz.prog 126 [(.ptr 0 0), i1, (.agg [i2, i3, i4, i5, l6, s7, l8, l9]), (.bm 194 [(.ptr 0 0)])] [[l10, b11]] Q H := by
  have hb : Option.some (bodyOf Tryz.f126) = Tryz.f126.body := by kernel_rfl
  exact tcalls_canon (res := [.agg [.int .i64, .int .i64, .int .i64, .int .i64, .list, .str, .list, .list]]) (post := [.cells [.list, .bool]]) (tcalls_eq (S := S) (L := loops60) mixed tok Tryz.func126 hb.symm (by kernel_rfl) h)
def loops166s (id : Nat) : Option (List Nat × List (Nat × Sh)) := match Nat.beq id 2 with | true => some ([0, 1, 2, 6, 7], [(1000000, .list), (1000001, .bool), (1003000, .int .i64), (1003001, .int .i64), (1003002, .int .i64), (1003003, .int .i64), (1003004, .list), (1003005, .str), (1003006, .list), (1003007, .list)]) | false => none
def p166s (l1 : List (List PV)) (b2 : Bool) (Q : PV → Heap → Prop) (H : Value → Prop) : Prop :=
∃ i3 : Int, ∃ i4 : Int, ∃ i5 : Int, ∃ i6 : Int, ∃ l7 : List (List PV), ∃ s8 : ByteArray, ∃ l9 : List (List PV), ∃ l10 : List (List PV), ∃ l11 : List (List PV), ∃ b12 : Bool, ∃ g13 : Prop, CallT Tryz.prog H True 168 [(.ptr 0 0)] [[l1, b2]] (.agg [i3, i4, i5, i6, l7, s8, l9, l10]) [[l11, b12]] g13
  ((g13 → (∃ I14 : Nat → ((List (List PV)) × (Bool) × (Int) × (Int) × (Int) × (Int) × (List (List PV)) × (ByteArray) × (List (List PV)) × (List (List PV)) × Unit) → Prop, (∃ n, I14 n (l11, b12, i3, i4, i5, i6, l7, s8, l9, l10, ())) ∧ ∀ (n15 : Nat) (v16 : (List (List PV)) × (Bool) × (Int) × (Int) × (Int) × (Int) × (List (List PV)) × (ByteArray) × (List (List PV)) × (List (List PV)) × Unit), I14 n15 v16 →
  (∃ s17 : ByteArray, CallF Tryz.prog 125 [(.ptr 0 0)] [[v16.1, v16.2.1]] s17 [[v16.1, v16.2.1]]
  (∃ i18 : Int, ∃ b19 : Bool, CallN Tryz.prog 167 [s17] [[v16.1, v16.2.1], [(.con (.int .i64 0)), (.con (.int .i64 0)), (.con (.int .i64 0)), (.con (.int .i64 0)), (.con (.slice none 0 0)), (.con (.string ⟨#[]⟩)), (.con (.slice none 0 0)), (.con (.slice none 0 0))], [.tip], [v16.2.2.1, v16.2.2.2.1, v16.2.2.2.2.1, v16.2.2.2.2.2.1, v16.2.2.2.2.2.2.1, v16.2.2.2.2.2.2.2.1, v16.2.2.2.2.2.2.2.2.1, v16.2.2.2.2.2.2.2.2.2.1], [.tip]] (.tup [i18, b19])
  (br ((!b19))
  (Q (.agg [v16.2.2.1, v16.2.2.2.1, v16.2.2.2.2.1, v16.2.2.2.2.2.1, v16.2.2.2.2.2.2.1, v16.2.2.2.2.2.2.2.1, v16.2.2.2.2.2.2.2.2.1, v16.2.2.2.2.2.2.2.2.2.1]) [[v16.1, v16.2.1]])
  (∃ i20 : Int, ∃ i21 : Int, ∃ i22 : Int, ∃ i23 : Int, ∃ l24 : List (List PV), ∃ s25 : ByteArray, ∃ l26 : List (List PV), ∃ l27 : List (List PV), ∃ l28 : List (List PV), ∃ b29 : Bool, ∃ g30 : Prop, CallT Tryz.prog H True 126 [(.ptr 0 0), i18, (.agg [v16.2.2.1, v16.2.2.2.1, v16.2.2.2.2.1, v16.2.2.2.2.2.1, v16.2.2.2.2.2.2.1, v16.2.2.2.2.2.2.2.1, v16.2.2.2.2.2.2.2.2.1, v16.2.2.2.2.2.2.2.2.2.1]), (.bm 168 [(.ptr 0 0)])] [[v16.1, v16.2.1]] (.agg [i20, i21, i22, i23, l24, s25, l26, l27]) [[l28, b29]] g30
  ((g30 → ((@Eq PV (.ptr 0 0) (.ptr 0 0) ∧ @Eq PV (.fn 167 []) (.fn 167 []) ∧ @Eq PV (.bm 168 [(.ptr 0 0)]) (.bm 168 [(.ptr 0 0)]) ∧ @Eq PV (.ptr 1 0) (.ptr 1 0) ∧ @Eq PV (.ptr 3 0) (.ptr 3 0) ∧ True) ∧ @Eq Heap [[l28, b29], [(.con (.int .i64 0)), (.con (.int .i64 0)), (.con (.int .i64 0)), (.con (.int .i64 0)), (.con (.slice none 0 0)), (.con (.string ⟨#[]⟩)), (.con (.slice none 0 0)), (.con (.slice none 0 0))], [.tip], [i20, i21, i22, i23, l24, s25, l26, l27]] [[l28, b29], [(.con (.int .i64 0)), (.con (.int .i64 0)), (.con (.int .i64 0)), (.con (.int .i64 0)), (.con (.slice none 0 0)), (.con (.string ⟨#[]⟩)), (.con (.slice none 0 0)), (.con (.slice none 0 0))], [.tip], [i20, i21, i22, i23, l24, s25, l26, l27]] ∧ ∃ k31, k31 < n15 ∧ I14 k31 (l28, b29, i20, i21, i22, i23, l24, s25, l26, l27, ())))))))))))
theorem a166s (l1 : List (List PV)) (b2 : Bool) (Q : PV → Heap → Prop) (H : Value → Prop) (h : p166s l1 b2 Q H) : TCalls Tryz.prog 166 [(.ptr 0 0), (.fn 167 []), (.bm 168 [(.ptr 0 0)])] [[l1, b2]] Q H := by
  have hb : Option.some (bodyOf Tryz.f166) = Tryz.f166.body := by kernel_rfl
  exact tcalls_canon (res := [.agg [.int .i64, .int .i64, .int .i64, .int .i64, .list, .str, .list, .list]]) (post := [.cells [.list, .bool]]) (tcalls_eq (S := S) (L := loops166s) mixed tok Tryz.func166 hb.symm (by kernel_rfl) h)
def loops166t (id : Nat) : Option (List Nat × List (Nat × Sh)) := match Nat.beq id 2 with | true => some ([0, 1, 2, 6, 7], [(1000000, .list), (1000001, .bool), (1003000, .int .i64), (1003001, .int .i64), (1003002, .int .i64), (1003003, .int .i64), (1003004, .list), (1003005, .str), (1003006, .list), (1003007, .list)]) | false => none
def p166t (l1 : List (List PV)) (b2 : Bool) (Q : PV → Heap → Prop) (H : Value → Prop) : Prop :=
∃ i3 : Int, ∃ i4 : Int, ∃ i5 : Int, ∃ i6 : Int, ∃ l7 : List (List PV), ∃ s8 : ByteArray, ∃ l9 : List (List PV), ∃ l10 : List (List PV), ∃ l11 : List (List PV), ∃ b12 : Bool, ∃ g13 : Prop, CallT Tryz.prog H True 194 [(.ptr 0 0)] [[l1, b2]] (.agg [i3, i4, i5, i6, l7, s8, l9, l10]) [[l11, b12]] g13
  ((g13 → (∃ I14 : Nat → ((List (List PV)) × (Bool) × (Int) × (Int) × (Int) × (Int) × (List (List PV)) × (ByteArray) × (List (List PV)) × (List (List PV)) × Unit) → Prop, (∃ n, I14 n (l11, b12, i3, i4, i5, i6, l7, s8, l9, l10, ())) ∧ ∀ (n15 : Nat) (v16 : (List (List PV)) × (Bool) × (Int) × (Int) × (Int) × (Int) × (List (List PV)) × (ByteArray) × (List (List PV)) × (List (List PV)) × Unit), I14 n15 v16 →
  (∃ s17 : ByteArray, CallF Tryz.prog 125 [(.ptr 0 0)] [[v16.1, v16.2.1]] s17 [[v16.1, v16.2.1]]
  (∃ i18 : Int, ∃ b19 : Bool, CallN Tryz.prog 193 [s17] [[v16.1, v16.2.1], [(.con (.int .i64 0)), (.con (.int .i64 0)), (.con (.int .i64 0)), (.con (.int .i64 0)), (.con (.slice none 0 0)), (.con (.string ⟨#[]⟩)), (.con (.slice none 0 0)), (.con (.slice none 0 0))], [.tip], [v16.2.2.1, v16.2.2.2.1, v16.2.2.2.2.1, v16.2.2.2.2.2.1, v16.2.2.2.2.2.2.1, v16.2.2.2.2.2.2.2.1, v16.2.2.2.2.2.2.2.2.1, v16.2.2.2.2.2.2.2.2.2.1], [.tip]] (.tup [i18, b19])
  (br ((!b19))
  (Q (.agg [v16.2.2.1, v16.2.2.2.1, v16.2.2.2.2.1, v16.2.2.2.2.2.1, v16.2.2.2.2.2.2.1, v16.2.2.2.2.2.2.2.1, v16.2.2.2.2.2.2.2.2.1, v16.2.2.2.2.2.2.2.2.2.1]) [[v16.1, v16.2.1]])
  (∃ i20 : Int, ∃ i21 : Int, ∃ i22 : Int, ∃ i23 : Int, ∃ l24 : List (List PV), ∃ s25 : ByteArray, ∃ l26 : List (List PV), ∃ l27 : List (List PV), ∃ l28 : List (List PV), ∃ b29 : Bool, ∃ g30 : Prop, CallT Tryz.prog H True 126 [(.ptr 0 0), i18, (.agg [v16.2.2.1, v16.2.2.2.1, v16.2.2.2.2.1, v16.2.2.2.2.2.1, v16.2.2.2.2.2.2.1, v16.2.2.2.2.2.2.2.1, v16.2.2.2.2.2.2.2.2.1, v16.2.2.2.2.2.2.2.2.2.1]), (.bm 194 [(.ptr 0 0)])] [[v16.1, v16.2.1]] (.agg [i20, i21, i22, i23, l24, s25, l26, l27]) [[l28, b29]] g30
  ((g30 → ((@Eq PV (.ptr 0 0) (.ptr 0 0) ∧ @Eq PV (.fn 193 []) (.fn 193 []) ∧ @Eq PV (.bm 194 [(.ptr 0 0)]) (.bm 194 [(.ptr 0 0)]) ∧ @Eq PV (.ptr 1 0) (.ptr 1 0) ∧ @Eq PV (.ptr 3 0) (.ptr 3 0) ∧ True) ∧ @Eq Heap [[l28, b29], [(.con (.int .i64 0)), (.con (.int .i64 0)), (.con (.int .i64 0)), (.con (.int .i64 0)), (.con (.slice none 0 0)), (.con (.string ⟨#[]⟩)), (.con (.slice none 0 0)), (.con (.slice none 0 0))], [.tip], [i20, i21, i22, i23, l24, s25, l26, l27]] [[l28, b29], [(.con (.int .i64 0)), (.con (.int .i64 0)), (.con (.int .i64 0)), (.con (.int .i64 0)), (.con (.slice none 0 0)), (.con (.string ⟨#[]⟩)), (.con (.slice none 0 0)), (.con (.slice none 0 0))], [.tip], [i20, i21, i22, i23, l24, s25, l26, l27]] ∧ ∃ k31, k31 < n15 ∧ I14 k31 (l28, b29, i20, i21, i22, i23, l24, s25, l26, l27, ())))))))))))
theorem a166t (l1 : List (List PV)) (b2 : Bool) (Q : PV → Heap → Prop) (H : Value → Prop) (h : p166t l1 b2 Q H) : TCalls Tryz.prog 166 [(.ptr 0 0), (.fn 193 []), (.bm 194 [(.ptr 0 0)])] [[l1, b2]] Q H := by
  have hb : Option.some (bodyOf Tryz.f166) = Tryz.f166.body := by kernel_rfl
  exact tcalls_canon (res := [.agg [.int .i64, .int .i64, .int .i64, .int .i64, .list, .str, .list, .list]]) (post := [.cells [.list, .bool]]) (tcalls_eq (S := S) (L := loops166t) mixed tok Tryz.func166 hb.symm (by kernel_rfl) h)
def loops213p (id : Nat) : Option (List Nat × List (Nat × Sh)) := match Nat.beq id 2 with | true => some ([0, 1, 2, 3], [(9, .own 0 34 8), (1000000, .list), (1000001, .bool)]) | false => none
def p213p (s1 : ByteArray) (i2 : Int) (l3 : List (List PV)) (b4 : Bool) (Q : PV → Heap → Prop) (H : Value → Prop) : Prop :=
∃ I5 : Nat → ((List (List PV)) × (List (List PV)) × (Bool) × Unit) → Prop, (∃ n, I5 n ([], l3, b4, ())) ∧ ∀ (n6 : Nat) (v7 : (List (List PV)) × (List (List PV)) × (Bool) × Unit), I5 n6 v7 →
  (∃ i8 : Int, ∃ i9 : Int, ∃ i10 : Int, ∃ i11 : Int, ∃ l12 : List (List PV), ∃ s13 : ByteArray, ∃ l14 : List (List PV), ∃ l15 : List (List PV), ∃ l16 : List (List PV), ∃ b17 : Bool, ∃ g18 : Prop, CallT Tryz.prog H True 32 [(.ptr 0 0)] [[v7.2.1, (.con (.bool (((List.length v7.1 : Int) : Int) == i2)))]] (.agg [i8, i9, i10, i11, l12, s13, l14, l15]) [[l16, b17]] g18
  ((g18 → (AppN v7.1 [[i8, i9, i10, i11, l12, s13, l14, l15]] 8 120 PV.one
  (∃ b19 : Bool, ∃ l20 : List (List PV), ∃ b21 : Bool, ∃ g22 : Prop, CallT Tryz.prog H True 119 [(.ptr 0 0), s1] [[l16, b17]] b19 [[l20, b21]] g22
  ((g22 → (br ((!b19))
  (Q (.sl (v7.1 ++ ([[i8, i9, i10, i11, l12, s13, l14, l15]] : List (List PV)))) [[l20, b21]])
  ((@Eq PV (.ptr 0 0) (.ptr 0 0) ∧ @Eq PV s1 s1 ∧ @Eq PV i2 i2 ∧ @Eq PV (.bm 32 [(.ptr 0 0)]) (.bm 32 [(.ptr 0 0)]) ∧ True) ∧ @Eq Heap [[l20, b21]] [[l20, b21]] ∧ ∃ k23, k23 < n6 ∧ I5 k23 ((v7.1 ++ ([[i8, i9, i10, i11, l12, s13, l14, l15]] : List (List PV))), l20, b21, ()))))))))))
theorem a213p (s1 : ByteArray) (i2 : Int) (l3 : List (List PV)) (b4 : Bool) (Q : PV → Heap → Prop) (H : Value → Prop) (h : p213p s1 i2 l3 b4 Q H) : TCalls Tryz.prog 213 [(.ptr 0 0), s1, i2, (.bm 32 [(.ptr 0 0)])] [[l3, b4]] Q H := by
  have hb : Option.some (bodyOf Tryz.f213) = Tryz.f213.body := by kernel_rfl
  exact tcalls_canon (res := [.cell (.list)]) (post := [.cells [.list, .bool]]) (tcalls_eq (S := S) (L := loops213p) mixed tok Tryz.func213 hb.symm (by kernel_rfl) h)
def loops120p (id : Nat) : Option (List Nat × List (Nat × Sh)) := match Nat.beq id 2 with | true => some ([0, 1, 2, 3], [(9, .own 0 99 14), (1000000, .list), (1000001, .bool)]) | false => none
def p120p (s1 : ByteArray) (i2 : Int) (l3 : List (List PV)) (b4 : Bool) (Q : PV → Heap → Prop) (H : Value → Prop) : Prop :=
∃ I5 : Nat → ((List (List PV)) × (List (List PV)) × (Bool) × Unit) → Prop, (∃ n, I5 n ([], l3, b4, ())) ∧ ∀ (n6 : Nat) (v7 : (List (List PV)) × (List (List PV)) × (Bool) × Unit), I5 n6 v7 →
  (∃ i8 : Int, ∃ i9 : Int, ∃ i10 : Int, ∃ s11 : ByteArray, ∃ i12 : Int, ∃ l13 : List (List PV), ∃ i14 : Int, ∃ i15 : Int, ∃ i16 : Int, ∃ i17 : Int, ∃ l18 : List (List PV), ∃ s19 : ByteArray, ∃ l20 : List (List PV), ∃ l21 : List (List PV), ∃ l22 : List (List PV), ∃ b23 : Bool, ∃ g24 : Prop, CallT Tryz.prog H True 121 [(.ptr 0 0)] [[v7.2.1, (.con (.bool (((List.length v7.1 : Int) : Int) == i2)))]] (.agg [i8, i9, i10, s11, i12, l13, i14, i15, i16, i17, l18, s19, l20, l21]) [[l22, b23]] g24
  ((g24 → (AppN v7.1 [[i8, i9, i10, s11, i12, l13, i14, i15, i16, i17, l18, s19, l20, l21]] 14 192 PV.one
  (∃ b25 : Bool, ∃ l26 : List (List PV), ∃ b27 : Bool, ∃ g28 : Prop, CallT Tryz.prog H True 119 [(.ptr 0 0), s1] [[l22, b23]] b25 [[l26, b27]] g28
  ((g28 → (br ((!b25))
  (Q (.sl (v7.1 ++ ([[i8, i9, i10, s11, i12, l13, i14, i15, i16, i17, l18, s19, l20, l21]] : List (List PV)))) [[l26, b27]])
  ((@Eq PV (.ptr 0 0) (.ptr 0 0) ∧ @Eq PV s1 s1 ∧ @Eq PV i2 i2 ∧ @Eq PV (.bm 121 [(.ptr 0 0)]) (.bm 121 [(.ptr 0 0)]) ∧ True) ∧ @Eq Heap [[l26, b27]] [[l26, b27]] ∧ ∃ k29, k29 < n6 ∧ I5 k29 ((v7.1 ++ ([[i8, i9, i10, s11, i12, l13, i14, i15, i16, i17, l18, s19, l20, l21]] : List (List PV))), l26, b27, ()))))))))))
theorem a120p (s1 : ByteArray) (i2 : Int) (l3 : List (List PV)) (b4 : Bool) (Q : PV → Heap → Prop) (H : Value → Prop) (h : p120p s1 i2 l3 b4 Q H) : TCalls Tryz.prog 120 [(.ptr 0 0), s1, i2, (.bm 121 [(.ptr 0 0)])] [[l3, b4]] Q H := by
  have hb : Option.some (bodyOf Tryz.f120) = Tryz.f120.body := by kernel_rfl
  exact tcalls_canon (res := [.cell (.list)]) (post := [.cells [.list, .bool]]) (tcalls_eq (S := S) (L := loops120p) mixed tok Tryz.func120 hb.symm (by kernel_rfl) h)
def p212p (s1 : ByteArray) (i2 : Int) (l3 : List (List PV)) (b4 : Bool) (Q : PV → Heap → Prop) (H : Value → Prop) : Prop :=
∃ l5 : List (List PV), ∃ b6 : Bool, ∃ g7 : Prop, CallT Tryz.prog H True 118 [(.ptr 0 0), (.con (.string ⟨#[40]⟩))] [[l3, b4]] (.tup []) [[l5, b6]] g7
  ((g7 → (∃ l8 : List (List PV), ∃ l9 : List (List PV), ∃ b10 : Bool, ∃ g11 : Prop, CallT Tryz.prog H True 213 [(.ptr 0 0), s1, i2, (.bm 32 [(.ptr 0 0)])] [[l5, b6]] l8 [[l9, b10]] g11
  ((g11 → (∃ l12 : List (List PV), ∃ b13 : Bool, ∃ g14 : Prop, CallT Tryz.prog H True 118 [(.ptr 0 0), (.con (.string ⟨#[41]⟩))] [[l9, b10]] (.tup []) [[l12, b13]] g14
  ((g14 → (Q l8 [[l12, b13]])))))))))
theorem a212p (s1 : ByteArray) (i2 : Int) (l3 : List (List PV)) (b4 : Bool) (Q : PV → Heap → Prop) (H : Value → Prop) (h : p212p s1 i2 l3 b4 Q H) : TCalls Tryz.prog 212 [(.ptr 0 0), s1, i2, (.bm 32 [(.ptr 0 0)])] [[l3, b4]] Q H := by
  have hb : Option.some (bodyOf Tryz.f212) = Tryz.f212.body := by kernel_rfl
  exact tcalls_canon (res := [.cell (.list)]) (post := [.cells [.list, .bool]]) (tcalls_eq (S := S) (L := loops60) mixed tok Tryz.func212 hb.symm (by kernel_rfl) h)
def p205p (l1 : List (List PV)) (b2 : Bool) (Q : PV → Heap → Prop) (H : Value → Prop) : Prop :=
∃ b3 : Bool, CallF Tryz.prog 82 [(.ptr 0 0), (.con (.string ⟨#[40]⟩))] [[l1, b2]] b3 [[l1, b2]]
  (br ((!b3))
  (Q (.sl []) [[l1, b2]])
  (∃ l4 : List (List PV), ∃ l5 : List (List PV), ∃ b6 : Bool, ∃ g7 : Prop, CallT Tryz.prog H True 212 [(.ptr 0 0), (.con (.string ⟨#[44]⟩)), (.con (.int .i64 6)), (.bm 32 [(.ptr 0 0)])] [[l1, b2]] l4 [[l5, b6]] g7
  ((g7 → (Q l4 [[l5, b6]])))))
theorem a205p (l1 : List (List PV)) (b2 : Bool) (Q : PV → Heap → Prop) (H : Value → Prop) (h : p205p l1 b2 Q H) : TCalls Tryz.prog 205 [(.ptr 0 0), (.bm 32 [(.ptr 0 0)])] [[l1, b2]] Q H := by
  have hb : Option.some (bodyOf Tryz.f205) = Tryz.f205.body := by kernel_rfl
  exact tcalls_canon (res := [.cell (.list)]) (post := [.cells [.list, .bool]]) (tcalls_eq (S := S) (L := loops60) mixed tok Tryz.func205 hb.symm (by kernel_rfl) h)
end Go.Proofs.YtjhnmikciejekaaGreat.Deep

namespace Go.Proofs.YtjhnmikciejekaaGreat.Deep
open Go.RowKit
set_option linter.unusedVariables false
set_option linter.unusedSimpArgs false
variable {z : Tk}
theorem tyPs_app : ∀ a b : List Ty, tyPs (a ++ b) = tyPs a ++ tyPs b
  | [], _ => rfl
  | t :: ts, b => by simp [tyPs, tyPs_app ts b]
theorem ptPs_app : ∀ a b : List Pt, ptPs (a ++ b) = ptPs a ++ ptPs b
  | [], _ => rfl
  | t :: ts, b => by simp [ptPs, ptPs_app ts b]
theorem exPs_app : ∀ a b : List Ex, exPs (a ++ b) = exPs a ++ exPs b
  | [], _ => rfl
  | t :: ts, b => by simp [exPs, exPs_app ts b]
def amPs (l : List (Pt × Ex)) : List (List PV) := l.map fun v => ptP v.1 ++ exP v.2
theorem amPs_app (a b : List (Pt × Ex)) : amPs (a ++ b) = amPs a ++ amPs b := by simp [amPs]
theorem amPs_len (a : List (Pt × Ex)) : (amPs a).length = a.length := by simp [amPs]
theorem amPs_ar : ∀ l : List (Pt × Ex), amPs l = arPs (l.map Prod.snd) (l.map Prod.fst)
  | [] => rfl
  | v :: l => by simp only [amPs, List.map_cons, arPs]; rw [← amPs_ar l]; rfl
def SatR {α : Type} (n : Nat) (P : α → Prop) (x : Re α) : Prop := ∀ v l' b', x = .ok (v, l', b') → l'.length ≤ n ∧ P v
def Good {α : Type} (p : Rd α) (P : α → Prop) : Prop := ∀ l b, l.length ≤ 100000 → SatR 100000 P (p l b)
theorem SatR.bind {α β : Type} {n : Nat} {P : α → Prop} {Q : β → Prop} {x : Re α} {k : α → List Tk → Bool → Re β} (hx : SatR n P x) (hk : ∀ v (l : List Tk) b, l.length ≤ n → P v → SatR n Q (k v l b)) : SatR n Q (bnd x k) := fun v l' b' h => by
  obtain ⟨a, l, b, h1, h2⟩ := bnd_ok h
  obtain ⟨q1, q2⟩ := hx _ _ _ h1
  exact hk a l b q1 q2 _ _ _ h2
theorem SatR.ite {α : Type} {n : Nat} {P : α → Prop} {c : Bool} {x y : Re α} (hx : SatR n P x) (hy : SatR n P y) : SatR n P (ifB c x y) := by cases c <;> assumption
theorem SatR.err {α : Type} {n : Nat} {P : α → Prop} {f : Flt} : SatR (α := α) n P (.error f) := fun v l' b' h => by cases h
theorem SatR.end' {α : Type} {n : Nat} {P : α → Prop} {v : α} {l : List Tk} {b : Bool} (h : l.length ≤ n) (hv : P v) : SatR n P (.ok (v, l, b)) := fun v' l' b' e => by
  injection e with e; injection e with e1 e2; injection e2 with e2 e3; rw [← e2, ← e1]; exact ⟨h, hv⟩
theorem SatR.of {α : Type} {P : α → Prop} {p : Rd α} {l : List Tk} {b : Bool} (hp : Good p P) (h : l.length ≤ 100000) : SatR 100000 P (p l b) := hp l b h
theorem Mono.good {α : Type} {p : Rd α} (hp : Mono p) : Good p (fun _ => True) := fun l b hl v l' b' h => ⟨Nat.le_trans (hp l b v l' b' h) hl, trivial⟩
theorem SatR.wholeE {P : Ex → Prop} {e : Ex} {l : List Tk} {b : Bool} (h : l.length ≤ 100000) (hv : P e) : SatR 100000 P (bndE (wholeE e) fun v => .ok (v, l, b)) := fun v l' b' hh => by
  obtain ⟨a, h1, h2⟩ := bndE_ok hh
  rw [wholeE_ok h1] at h2
  exact SatR.end' h hv _ _ _ h2
theorem SatR.wholeP {P : Pt → Prop} {e : Pt} {l : List Tk} {b : Bool} (h : l.length ≤ 100000) (hv : P e) : SatR 100000 P (bndE (wholeP e) fun v => .ok (v, l, b)) := fun v l' b' hh => by
  obtain ⟨a, h1, h2⟩ := bndE_ok hh
  rw [wholeP_ok h1] at h2
  exact SatR.end' h hv _ _ _ h2
theorem SatR.wholeT {P : Ty → Prop} {e : Ty} {li co : Int} {l : List Tk} {b : Bool} (h : l.length ≤ 100000) (hv : P e) : SatR 100000 P (bndE (wholeT e li co) fun v => .ok (v, l, b)) := fun v l' b' hh => by
  obtain ⟨a, h1, h2⟩ := bndE_ok hh
  rw [wholeT_ok h1] at h2
  exact SatR.end' h hv _ _ _ h2
theorem list_good {α : Type} {part : Rd α} {P : α → Prop} (hp : Good part P) (btw : ByteArray) (most : Int) : ∀ (f : Nat) (acc : List α) (l : List Tk) (b : Bool), l.length ≤ 100000 → (∀ a ∈ acc, P a) → SatR 100000 (fun v => (∀ a ∈ v, P a) ∧ v.length ≤ acc.length + f) (listS z part btw most f acc l b)
  | 0, acc, l, b, hl, ha => SatR.end' hl ⟨ha, by omega⟩
  | f + 1, acc, l, b, hl, ha => by
    unfold listS
    have hs : ∀ a, P a → ∀ x ∈ acc ++ [a], P x := fun a h x hx => by
      rcases List.mem_append.1 hx with q | q
      · exact ha x q
      · rw [List.mem_singleton.1 q]; exact h
    refine SatR.bind (SatR.of hp hl) (fun a l1 b1 h1 hpa => SatR.bind (SatR.of (mono_skip _).good h1) (fun t l2 b2 h2 _ => SatR.ite (SatR.end' h2 ⟨hs a hpa, by simp <;> omega⟩) ?_))
    intro v l' b' e
    obtain ⟨q1, q2, q3⟩ := list_good hp btw most f (acc ++ [a]) l2 b2 h2 (hs a hpa) v l' b' e
    exact ⟨q1, q2, by simp at q3; omega⟩
theorem lis_good {α : Type} {part : Rd α} {P : α → Prop} (hp : Good part P) (btw : ByteArray) (most : Int) : Good (lisS z part btw most) (fun v => (∀ a ∈ v, P a) ∧ v.length ≤ 1000000) := fun l b hl v l' b' e => by
  obtain ⟨q1, q2, q3⟩ := list_good hp btw most (l.length + 1) [] l b hl (by simp) v l' b' e
  exact ⟨q1, q2, by simp at q3; omega⟩
theorem inside_good {α : Type} {part : Rd α} {P : α → Prop} (hp : Good part P) (btw : ByteArray) (most : Int) : Good (insideS z part btw most) (fun v => (∀ a ∈ v, P a) ∧ v.length ≤ 1000000) := fun l b hl => by
  unfold insideS
  exact SatR.bind (SatR.of (mono_want _).good hl) (fun _ l1 b1 h1 _ => SatR.bind (SatR.of (lis_good hp btw most) h1) (fun v l2 b2 h2 hv => SatR.bind (SatR.of (mono_want _).good h2) (fun _ l3 b3 h3 _ => SatR.end' h3 hv)))
theorem opt_good {α : Type} {part : Rd α} {P : α → Prop} (hp : Good part P) : Good (optS z part) (fun v => (∀ a ∈ v, P a) ∧ v.length ≤ 1000000) := fun l b hl => by
  unfold optS
  exact SatR.ite (SatR.end' hl ⟨by simp, by simp⟩) (SatR.bind (SatR.of (inside_good hp _ _) hl) (fun v l2 b2 h2 hv => SatR.end' h2 hv))
theorem gdTs_all : ∀ l : List Ty, (∀ a ∈ l, gdT a) → gdTs l
  | [], _ => trivial
  | t :: ts, h => ⟨h t (by simp), gdTs_all ts (fun a ha => h a (by simp [ha]))⟩
theorem gdPs_all : ∀ l : List Pt, (∀ a ∈ l, gdP a) → gdPs l
  | [], _ => trivial
  | t :: ts, h => ⟨h t (by simp), gdPs_all ts (fun a ha => h a (by simp [ha]))⟩
theorem gdEs_all : ∀ l : List Ex, (∀ a ∈ l, gdE a) → gdEs l
  | [], _ => trivial
  | t :: ts, h => ⟨h t (by simp), gdEs_all ts (fun a ha => h a (by simp [ha]))⟩
theorem typ_good {ty : Rd Ty} (hp : Good ty gdT) : Good (typS z ty) gdT := fun l b hl => by
  unfold typS tupleS
  refine SatR.ite (SatR.bind (P := gdT) (SatR.bind (SatR.of (mono_want _).good hl) (fun _ l1 b1 h1 _ => SatR.bind (SatR.of (lis_good hp _ _) h1) (fun ks l2 b2 h2 hv => SatR.ite SatR.err (SatR.bind (SatR.of (mono_want _).good h2) (fun _ l3 b3 h3 _ => SatR.wholeT h3 ?_))))) (fun v l2 b2 h2 hv => SatR.end' h2 hv)) (SatR.bind (SatR.of mono_low.good hl) (fun s l1 b1 h1 _ => SatR.ite (SatR.end' h1 ?_) (SatR.ite (SatR.end' h1 ?_) (SatR.end' h1 ?_))))
  · unfold gdT; exact ⟨hv.2, gdTs_all _ hv.1⟩
  all_goals (unfold gdT gdTs; simp)
theorem good_T : ∀ n, Good (pT z n) gdT
  | 0 => fun l b _ => SatR.err
  | n + 1 => typ_good (good_T n)
theorem headD_mem {α : Type} {P : α → Prop} {l : List α} {d : α} (h : ∀ a ∈ l, P a) (hd : P d) : P (l.headD d) := by
  cases l with
  | nil => exact hd
  | cons a l => exact h a (by simp)
theorem pat_good {pt : Rd Pt} (hp : Good pt gdP) : Good (patS z pt) gdP := fun l b hl => by
  unfold patS sevPS
  dsimp only
  have leaf : ∀ (k li co : Int) (n : ByteArray) (m : Int), gdP (.mk k li co n m []) := fun _ _ _ _ _ => by unfold gdP gdPs; simp
  have node : ∀ (k li co : Int) (n : ByteArray) (m : Int) (ks : List Pt), (∀ a ∈ ks, gdP a) ∧ ks.length ≤ 1000000 → gdP (.mk k li co n m ks) := fun _ _ _ _ _ ks h => by unfold gdP; exact ⟨h.2, gdPs_all _ h.1⟩
  refine SatR.ite (SatR.bind (SatR.of mono_number.good hl) (fun _ l1 b1 h1 _ => SatR.end' h1 (leaf _ _ _ _ _))) ?_
  refine SatR.ite (SatR.bind (SatR.of mono_number.good hl) (fun _ l1 b1 h1 _ => SatR.end' h1 (leaf _ _ _ _ _))) ?_
  refine SatR.ite (SatR.bind (SatR.of mono_take.good hl) (fun _ l1 b1 h1 _ => SatR.end' h1 (leaf _ _ _ _ _))) ?_
  refine SatR.ite (SatR.bind (SatR.of mono_take.good hl) (fun _ l1 b1 h1 _ => SatR.bind (SatR.of (opt_good hp) h1) (fun ks l2 b2 h2 hv => SatR.wholeP h2 (node _ _ _ _ _ _ hv)))) ?_
  refine SatR.ite (SatR.bind (P := gdP) (SatR.bind (SatR.of (inside_good hp _ _) hl) (fun ks l2 b2 h2 hv => SatR.ite (SatR.end' h2 (headD_mem hv.1 (leaf _ _ _ _ _))) (SatR.wholeP h2 (node _ _ _ _ _ _ hv)))) (fun v l2 b2 h2 hv => SatR.end' h2 hv)) ?_
  exact SatR.bind (SatR.of (mono_want _).good hl) (fun _ l1 b1 h1 _ => SatR.end' h1 (leaf _ _ _ _ _))
theorem good_P : ∀ n, Good (pP z n) gdP
  | 0 => fun l b _ => SatR.err
  | n + 1 => pat_good (good_P n)
theorem skip_lt {s : ByteArray} {l : List Tk} {b : Bool} {v : Bool} {l' : List Tk} {b' : Bool} (hz : z.kind = 0) (hs : eqB e0 s = false) (h : skipS z s l b = .ok (v, l', b')) (hv : v = true) : l'.length < l.length := by
  rcases ifB_cases h with ⟨h1, h2⟩ | ⟨h1, h2⟩
  · obtain ⟨a, l1, b1, k1, k2⟩ := bnd_ok h2
    have := (take_lt k1 (ne_of_st hz h1 hs)).1
    injection k2 with k2; injection k2 with q1 q2; injection q2 with q2 q3; rw [← q2]; exact this
  · injection h2 with h2; injection h2 with q1 q2; rw [hv] at q1; cases q1
theorem want_lt {s : ByteArray} {l : List Tk} {b : Bool} {v : Unit} {l' : List Tk} {b' : Bool} (hz : z.kind = 0) (hs : eqB e0 s = false) (h : wantS z s l b = .ok (v, l', b')) : l'.length < l.length := by
  obtain ⟨a, l1, b1, k1, k2⟩ := bnd_ok h
  rcases ifB_cases k2 with ⟨h1, h2⟩ | ⟨h1, h2⟩
  · cases h2
  · injection h2 with h2; injection h2 with q1 q2; injection q2 with q2 q3; rw [← q2]
    exact skip_lt hz hs k1 (by simpa using h1)
section
variable (hz : z.kind = 0)
include hz
theorem listT_c {part : Rd Ty} {n : Nat} (hn : n ≤ 100000) (hp : ∀ l b, l.length < n → CT z 36 [.ptr 0 0] (fun v => .agg (tyP v)) (part l b) l b) (hm : Mono part) (btw : ByteArray) (hbt : eqB e0 btw = false) (most : Int) (l : List Tk) (b : Bool) (hl : l.length < n) :
    CT z 131 [.ptr 0 0, .con (.string btw), .con (.int .i64 most), .bm 36 [.ptr 0 0]] (fun v => .sl (tyPs v)) (lisS z part btw most l b) l b := by
  refine a131p _ _ _ _ _ _ ?_
  unfold p131p
  obtain ⟨S, hS⟩ : ∃ S, S = lisS z part btw most l b := ⟨_, rfl⟩
  rw [← hS]
  refine ⟨fun c v => ∃ acc l1 b1, v = (tyPs acc, tksP z l1, b1, ()) ∧ S = listS z part btw most c acc l1 b1 ∧ l1.length < c ∧ acc.length + l1.length ≤ l.length, ⟨_, [], l, b, rfl, hS, by omega, by simp⟩, ?_⟩
  rintro c ⟨x1, x2, x3, u⟩ ⟨acc, l1, b1, hv, hS, hlt, hle⟩
  simp only [Prod.mk.injEq] at hv
  obtain ⟨rfl, rfl, rfl, _⟩ := hv
  cases c with
  | zero => omega
  | succ f =>
  dsimp only
  rw [tyPs_len]
  refine spT (hp l1 _ (by omega)) (enters_of Tryz.func36 (by kernel_rfl) rfl) hS ?_
  intro k0 n ks l2 b2 hx hS
  have hl2 := hm l1 _ _ _ _ hx
  refine ⟨by rw [tyPs_len]; simp; omega, by intro w hw; rw [List.mem_singleton.1 hw]; simp [PV.one, Value.oneCell'], ?_⟩
  refine spB (skip_c hz btw hbt l2 b2) en_skip hS ?_
  intro t l3 b3 hx3 hS
  refine brS hS (fun h hS => endS hS ?_) (fun h hS => ⟨⟨rfl, rfl, rfl, rfl, trivial⟩, rfl, f, by omega, acc ++ [(.mk k0 n ks)], l3, b3, ?_, hS, ?_, ?_⟩)
  · show PV.sl _ = PV.sl _
    rw [tyPs_app]; rfl
  · rw [tyPs_app]; rfl
  · have := skip_lt hz hbt hx3 (by simpa using h); omega
  · have := skip_lt hz hbt hx3 (by simpa using h); simp; omega
omit hz in
theorem en_listT : Enters Tryz.prog 131 := enters_of Tryz.func131 (by kernel_rfl) rfl
theorem listP_c {part : Rd Pt} {n : Nat} (hn : n ≤ 100000) (hp : ∀ l b, l.length < n → CT z 165 [.ptr 0 0] (fun v => .agg (ptP v)) (part l b) l b) (hm : Mono part) (btw : ByteArray) (hbt : eqB e0 btw = false) (most : Int) (l : List Tk) (b : Bool) (hl : l.length < n) :
    CT z 211 [.ptr 0 0, .con (.string btw), .con (.int .i64 most), .bm 165 [.ptr 0 0]] (fun v => .sl (ptPs v)) (lisS z part btw most l b) l b := by
  refine a211p _ _ _ _ _ _ ?_
  unfold p211p
  obtain ⟨S, hS⟩ : ∃ S, S = lisS z part btw most l b := ⟨_, rfl⟩
  rw [← hS]
  refine ⟨fun c v => ∃ acc l1 b1, v = (ptPs acc, tksP z l1, b1, ()) ∧ S = listS z part btw most c acc l1 b1 ∧ l1.length < c ∧ acc.length + l1.length ≤ l.length, ⟨_, [], l, b, rfl, hS, by omega, by simp⟩, ?_⟩
  rintro c ⟨x1, x2, x3, u⟩ ⟨acc, l1, b1, hv, hS, hlt, hle⟩
  simp only [Prod.mk.injEq] at hv
  obtain ⟨rfl, rfl, rfl, _⟩ := hv
  cases c with
  | zero => omega
  | succ f =>
  dsimp only
  rw [ptPs_len]
  refine spP (hp l1 _ (by omega)) (enters_of Tryz.func165 (by kernel_rfl) rfl) hS ?_
  intro k0 li co n m ks l2 b2 hx hS
  have hl2 := hm l1 _ _ _ _ hx
  refine ⟨by rw [ptPs_len]; simp; omega, by intro w hw; rw [List.mem_singleton.1 hw]; simp [PV.one, Value.oneCell'], ?_⟩
  refine spB (skip_c hz btw hbt l2 b2) en_skip hS ?_
  intro t l3 b3 hx3 hS
  refine brS hS (fun h hS => endS hS ?_) (fun h hS => ⟨⟨rfl, rfl, rfl, rfl, trivial⟩, rfl, f, by omega, acc ++ [(.mk k0 li co n m ks)], l3, b3, ?_, hS, ?_, ?_⟩)
  · show PV.sl _ = PV.sl _
    rw [ptPs_app]; rfl
  · rw [ptPs_app]; rfl
  · have := skip_lt hz hbt hx3 (by simpa using h); omega
  · have := skip_lt hz hbt hx3 (by simpa using h); simp; omega
omit hz in
theorem en_listP : Enters Tryz.prog 211 := enters_of Tryz.func211 (by kernel_rfl) rfl
theorem insideP_c {part : Rd Pt} {n : Nat} (hn : n ≤ 100000) (hp : ∀ l b, l.length < n → CT z 165 [.ptr 0 0] (fun v => .agg (ptP v)) (part l b) l b) (hm : Mono part) (btw : ByteArray) (hbt : eqB e0 btw = false) (most : Int) (l : List Tk) (b : Bool) (hl : l.length ≤ n) (hl0 : l ≠ []) :
    CT z 203 [.ptr 0 0, .con (.string btw), .con (.int .i64 most), .bm 165 [.ptr 0 0]] (fun v => .sl (ptPs v)) (insideS z part btw most l b) l b := by
  refine a203p _ _ _ _ _ _ ?_
  unfold p203p
  refine spU (want_c hz ⟨#[40]⟩ (by decide +kernel) l b) en_want (S := insideS z part btw most l b) rfl ?_
  intro l1 b1 hx hS
  have h1 := want_lt hz (by decide +kernel) hx
  refine spL (listP_c hz hn hp hm btw hbt most l1 b1 (by omega)) en_listP hS ?_
  intro ks l2 b2 hx2 hS
  refine spU (want_c hz ⟨#[41]⟩ (by decide +kernel) l2 b2) en_want hS ?_
  intro l3 b3 hx3 hS
  exact endS hS rfl
omit hz in
theorem en_insideP : Enters Tryz.prog 203 := enters_of Tryz.func203 (by kernel_rfl) rfl
theorem optP_c {part : Rd Pt} {n : Nat} (hn : n ≤ 100000) (hp : ∀ l b, l.length < n → CT z 165 [.ptr 0 0] (fun v => .agg (ptP v)) (part l b) l b) (hm : Mono part) (l : List Tk) (b : Bool) (hl : l.length ≤ n) :
    CT z 191 [.ptr 0 0, .bm 165 [.ptr 0 0]] (fun v => .sl (ptPs v)) (optS z part l b) l b := by
  refine a191p _ _ _ _ ?_
  unfold p191p
  refine spStands ?_
  refine brS (S := optS z part l b) rfl (fun h hS => endS hS rfl) (fun h hS => ?_)
  refine spL (insideP_c hz hn hp hm ⟨#[44]⟩ (by decide +kernel) 6 l b hl (ne_of_st hz (by simpa using h) (by decide +kernel))) en_insideP hS ?_
  intro ks l2 b2 hx2 hS
  exact endS hS rfl
omit hz in
theorem en_optP : Enters Tryz.prog 191 := enters_of Tryz.func191 (by kernel_rfl) rfl
theorem listE_c {part : Rd Ex} {n : Nat} (hn : n ≤ 100000) (hp : ∀ l b, l.length < n → CT z 32 [.ptr 0 0] (fun v => .agg (exP v)) (part l b) l b) (hm : Mono part) (btw : ByteArray) (hbt : eqB e0 btw = false) (most : Int) (l : List Tk) (b : Bool) (hl : l.length < n) :
    CT z 213 [.ptr 0 0, .con (.string btw), .con (.int .i64 most), .bm 32 [.ptr 0 0]] (fun v => .sl (exPs v)) (lisS z part btw most l b) l b := by
  refine a213p _ _ _ _ _ _ ?_
  unfold p213p
  obtain ⟨S, hS⟩ : ∃ S, S = lisS z part btw most l b := ⟨_, rfl⟩
  rw [← hS]
  refine ⟨fun c v => ∃ acc l1 b1, v = (exPs acc, tksP z l1, b1, ()) ∧ S = listS z part btw most c acc l1 b1 ∧ l1.length < c ∧ acc.length + l1.length ≤ l.length, ⟨_, [], l, b, rfl, hS, by omega, by simp⟩, ?_⟩
  rintro c ⟨x1, x2, x3, u⟩ ⟨acc, l1, b1, hv, hS, hlt, hle⟩
  simp only [Prod.mk.injEq] at hv
  obtain ⟨rfl, rfl, rfl, _⟩ := hv
  cases c with
  | zero => omega
  | succ f =>
  dsimp only
  rw [exPs_len]
  refine spE (hp l1 _ (by omega)) (enters_of Tryz.func32 (by kernel_rfl) rfl) hS ?_
  intro k0 li co m y n ks ps bs l2 b2 hx hS
  have hl2 := hm l1 _ _ _ _ hx
  refine ⟨by rw [exPs_len]; simp; omega, by intro w hw; rw [List.mem_singleton.1 hw]; simp [PV.one, Value.oneCell'], ?_⟩
  refine spB (skip_c hz btw hbt l2 b2) en_skip hS ?_
  intro t l3 b3 hx3 hS
  refine brS hS (fun h hS => endS hS ?_) (fun h hS => ⟨⟨rfl, rfl, rfl, rfl, trivial⟩, rfl, f, by omega, acc ++ [(.mk k0 li co m y n ks ps bs)], l3, b3, ?_, hS, ?_, ?_⟩)
  · show PV.sl _ = PV.sl _
    rw [exPs_app]; rfl
  · rw [exPs_app]; rfl
  · have := skip_lt hz hbt hx3 (by simpa using h); omega
  · have := skip_lt hz hbt hx3 (by simpa using h); simp; omega
omit hz in
theorem en_listE : Enters Tryz.prog 213 := enters_of Tryz.func213 (by kernel_rfl) rfl
theorem insideE_c {part : Rd Ex} {n : Nat} (hn : n ≤ 100000) (hp : ∀ l b, l.length < n → CT z 32 [.ptr 0 0] (fun v => .agg (exP v)) (part l b) l b) (hm : Mono part) (btw : ByteArray) (hbt : eqB e0 btw = false) (most : Int) (l : List Tk) (b : Bool) (hl : l.length ≤ n) (hl0 : l ≠ []) :
    CT z 212 [.ptr 0 0, .con (.string btw), .con (.int .i64 most), .bm 32 [.ptr 0 0]] (fun v => .sl (exPs v)) (insideS z part btw most l b) l b := by
  refine a212p _ _ _ _ _ _ ?_
  unfold p212p
  refine spU (want_c hz ⟨#[40]⟩ (by decide +kernel) l b) en_want (S := insideS z part btw most l b) rfl ?_
  intro l1 b1 hx hS
  have h1 := want_lt hz (by decide +kernel) hx
  refine spL (listE_c hz hn hp hm btw hbt most l1 b1 (by omega)) en_listE hS ?_
  intro ks l2 b2 hx2 hS
  refine spU (want_c hz ⟨#[41]⟩ (by decide +kernel) l2 b2) en_want hS ?_
  intro l3 b3 hx3 hS
  exact endS hS rfl
omit hz in
theorem en_insideE : Enters Tryz.prog 212 := enters_of Tryz.func212 (by kernel_rfl) rfl
theorem optE_c {part : Rd Ex} {n : Nat} (hn : n ≤ 100000) (hp : ∀ l b, l.length < n → CT z 32 [.ptr 0 0] (fun v => .agg (exP v)) (part l b) l b) (hm : Mono part) (l : List Tk) (b : Bool) (hl : l.length ≤ n) :
    CT z 205 [.ptr 0 0, .bm 32 [.ptr 0 0]] (fun v => .sl (exPs v)) (optS z part l b) l b := by
  refine a205p _ _ _ _ ?_
  unfold p205p
  refine spStands ?_
  refine brS (S := optS z part l b) rfl (fun h hS => endS hS rfl) (fun h hS => ?_)
  refine spL (insideE_c hz hn hp hm ⟨#[44]⟩ (by decide +kernel) 6 l b hl (ne_of_st hz (by simpa using h) (by decide +kernel))) en_insideE hS ?_
  intro ks l2 b2 hx2 hS
  exact endS hS rfl
omit hz in
theorem en_optE : Enters Tryz.prog 205 := enters_of Tryz.func205 (by kernel_rfl) rfl
theorem listA_c {part : Rd (Pt × Ex)} {n : Nat} (hn : n ≤ 100000) (hp : ∀ l b, l.length < n → CT z 121 [.ptr 0 0] (fun v => .agg (ptP v.1 ++ exP v.2)) (part l b) l b) (hm : Mono part) (btw : ByteArray) (hbt : eqB e0 btw = false) (most : Int) (l : List Tk) (b : Bool) (hl : l.length < n) :
    CT z 120 [.ptr 0 0, .con (.string btw), .con (.int .i64 most), .bm 121 [.ptr 0 0]] (fun v => .sl (amPs v)) (lisS z part btw most l b) l b := by
  refine a120p _ _ _ _ _ _ ?_
  unfold p120p
  obtain ⟨S, hS⟩ : ∃ S, S = lisS z part btw most l b := ⟨_, rfl⟩
  rw [← hS]
  refine ⟨fun c v => ∃ acc l1 b1, v = (amPs acc, tksP z l1, b1, ()) ∧ S = listS z part btw most c acc l1 b1 ∧ l1.length < c ∧ acc.length + l1.length ≤ l.length, ⟨_, [], l, b, rfl, hS, by omega, by simp⟩, ?_⟩
  rintro c ⟨x1, x2, x3, u⟩ ⟨acc, l1, b1, hv, hS, hlt, hle⟩
  simp only [Prod.mk.injEq] at hv
  obtain ⟨rfl, rfl, rfl, _⟩ := hv
  cases c with
  | zero => omega
  | succ f =>
  dsimp only
  rw [amPs_len]
  refine spA (hp l1 _ (by omega)) (enters_of Tryz.func121 (by kernel_rfl) rfl) hS ?_
  intro k0 li co n m ks k1 li1 co1 m1 y1 n1 ks1 ps1 bs1 l2 b2 hx hS
  have hl2 := hm l1 _ _ _ _ hx
  refine ⟨by rw [amPs_len]; simp; omega, by intro w hw; rw [List.mem_singleton.1 hw]; simp [PV.one, Value.oneCell'], ?_⟩
  refine spB (skip_c hz btw hbt l2 b2) en_skip hS ?_
  intro t l3 b3 hx3 hS
  refine brS hS (fun h hS => endS hS ?_) (fun h hS => ⟨⟨rfl, rfl, rfl, rfl, trivial⟩, rfl, f, by omega, acc ++ [(.mk k0 li co n m ks, .mk k1 li1 co1 m1 y1 n1 ks1 ps1 bs1)], l3, b3, ?_, hS, ?_, ?_⟩)
  · show PV.sl _ = PV.sl _
    rw [amPs_app]; rfl
  · rw [amPs_app]; rfl
  · have := skip_lt hz hbt hx3 (by simpa using h); omega
  · have := skip_lt hz hbt hx3 (by simpa using h); simp; omega
omit hz in
theorem en_listA : Enters Tryz.prog 120 := enters_of Tryz.func120 (by kernel_rfl) rfl
omit hz in
theorem en_typ : Enters Tryz.prog 36 := enters_of Tryz.func36 (by kernel_rfl) rfl
theorem tuple_c {ty : Rd Ty} {n : Nat} (hn : n ≤ 100000) (hp : ∀ l b, l.length < n → CT z 36 [.ptr 0 0] (fun v => .agg (tyP v)) (ty l b) l b) (hm : Mono ty) (hg : Good ty gdT) (l : List Tk) (b : Bool) (hl : l.length ≤ n) :
    CT z 83 [.ptr 0 0] (fun v => .agg (tyP v)) (tupleS z ty l b) l b := by
  refine a83 _ _ _ _ ?_
  unfold p83
  refine spNext ?_
  refine spU (want_c hz ⟨#[40]⟩ (by decide +kernel) l b) en_want (S := tupleS z ty l b) rfl ?_
  intro l1 b1 hx hS
  have h1 := want_lt hz (by decide +kernel) hx
  refine spL (listT_c hz hn hp hm ⟨#[42]⟩ (by decide +kernel) 6 l1 b1 (by omega)) en_listT hS ?_
  intro ks l2 b2 hx2 hS
  have hk := (lis_good hg _ _ l1 b1 (by omega) _ _ _ hx2).2
  refine brS hS (fun h hS => spThrow hS) (fun h hS => ?_)
  refine spU (want_c hz ⟨#[41]⟩ (by decide +kernel) l2 b2) en_want hS ?_
  intro l3 b3 hx3 hS
  refine whT (wholeType_c (.mk 3 e0 ks) ⟨hk.2, gdTs_all _ hk.1⟩ _ _) en_wholeType hS ?_
  intro k0 n0 ks0 hx4 hS
  exact endS hS rfl
theorem typ_step {ty : Rd Ty} {n : Nat} (hn : n ≤ 100000) (hp : ∀ l b, l.length < n → CT z 36 [.ptr 0 0] (fun v => .agg (tyP v)) (ty l b) l b) (hm : Mono ty) (hg : Good ty gdT) (l : List Tk) (b : Bool) (hl : l.length ≤ n) :
    CT z 36 [.ptr 0 0] (fun v => .agg (tyP v)) (typS z ty l b) l b := by
  refine a36 _ _ _ _ ?_
  unfold p36
  refine spStands ?_
  refine brS (S := typS z ty l b) rfl (fun h hS => ?_) (fun h hS => ?_)
  · refine spT (tuple_c hz hn hp hm hg l b hl) (enters_of Tryz.func83 (by kernel_rfl) rfl) hS ?_
    intro k0 n0 ks0 l1 b1 hx hS
    exact endS hS rfl
  · refine spS (low_c hz l b) en_low hS ?_
    intro s l1 b1 hx hS
    exact brS hS (fun h hS => endS hS rfl) (fun h hS => brS hS (fun h hS => endS hS rfl) (fun h hS => endS hS rfl))
theorem typ_c : ∀ n, n ≤ 100000 → ∀ l b, l.length < n → CT z 36 [.ptr 0 0] (fun v => .agg (tyP v)) (pT z n l b) l b
  | 0, _ => fun l b h => absurd h (Nat.not_lt_zero _)
  | n + 1, hn => fun l b h => typ_step hz (n := n) (by omega) (typ_c n (by omega)) (mono_T n) (good_T n) l b (by omega)
omit hz in
theorem en_pat : Enters Tryz.prog 165 := enters_of Tryz.func165 (by kernel_rfl) rfl
theorem sevP_c {pt : Rd Pt} {n : Nat} (hn : n ≤ 100000) (hp : ∀ l b, l.length < n → CT z 165 [.ptr 0 0] (fun v => .agg (ptP v)) (pt l b) l b) (hm : Mono pt) (hg : Good pt gdP) (l : List Tk) (b : Bool) (hl : l.length ≤ n) (hl0 : l ≠ []) :
    CT z 192 [.ptr 0 0] (fun v => .agg (ptP v)) (sevPS z pt l b) l b := by
  refine a192 _ _ _ _ ?_
  unfold p192
  refine spNext ?_
  refine spL (insideP_c hz hn hp hm ⟨#[44]⟩ (by decide +kernel) 6 l b hl hl0) en_insideP (S := sevPS z pt l b) rfl ?_
  intro ks l2 b2 hx2 hS
  have hk := (inside_good hg _ _ l b (by omega) _ _ _ hx2).2
  refine brS hS (fun h hS => ?_) (fun h hS => ?_)
  · cases ks with
    | nil => simp [ptPs] at h
    | cons p ks =>
      obtain ⟨k, li, co, n, m, ks', rfl⟩ := pt_mk' p
      exact ⟨_, _, _, _, _, _, ⟨by decide, rfl, endS hS rfl⟩⟩
  · refine whP (wholePat_c (.mk 4 _ _ e0 0 ks) ⟨hk.2, gdPs_all _ hk.1⟩) en_wholePat hS ?_
    intro k0 li co n0 m ks0 hx4 hS
    exact endS hS rfl
theorem pat_step {pt : Rd Pt} {n : Nat} (hn : n ≤ 100000) (hp : ∀ l b, l.length < n → CT z 165 [.ptr 0 0] (fun v => .agg (ptP v)) (pt l b) l b) (hm : Mono pt) (hg : Good pt gdP) (l : List Tk) (b : Bool) (hl : l.length ≤ n) :
    CT z 165 [.ptr 0 0] (fun v => .agg (ptP v)) (patS z pt l b) l b := by
  refine a165 _ _ _ _ ?_
  unfold p165
  refine spNext ?_
  refine brS (S := patS z pt l b) rfl (fun h hS => ?_) (fun h hS => ?_)
  · refine spI (number_c hz l b) en_number hS ?_
    intro m l1 b1 hx hS
    exact endS hS rfl
  refine spStands ?_
  refine brS hS (fun h hS => ?_) (fun h hS => ?_)
  · refine spI (number_c hz l b) en_number hS ?_
    intro m l1 b1 hx hS
    exact endS hS rfl
  refine brS hS (fun h hS => ?_) (fun h hS => ?_)
  · refine spK (take_c l b (ne_of_kind hz h (by decide))) en_take hS ?_
    intro k0 t m y li co l1 b1 hx hS
    exact endS hS rfl
  refine brS hS (fun h hS => ?_) (fun h hS => ?_)
  · have hl0 := ne_of_kind hz h (by decide)
    refine spKC (take_c l b hl0) en_take hS ?_ ?_
    · intro k0 t m y li co l1 b1 hx hS
      have h1 := (take_lt hx hl0).1
      refine spLC (optP_c hz hn hp hm l1 b1 (by omega)) en_optP hS ?_ ?_
      · intro ks l2 b2 hx2 hS
        have hk := (opt_good hg l1 b1 (by omega) _ _ _ hx2).2
        refine whPC (wholePat_c (.mk 3 _ _ t 0 ks) ⟨hk.2, gdPs_all _ hk.1⟩) en_wholePat hS ?_ ?_
        · intro k0 li co n0 m ks0 hx4 hS _
          exact endS hS rfl
        · intro ft hx4 hg; exact hg.2.elim
      · intro ft hx2
        exact ⟨0, 0, 0, e0, 0, [], False, ⟨en_wholePat, fun h => h.2.elim, fun h => h.2.elim⟩⟩
    · intro ft hx
      exact ⟨[], [], false, False, ⟨en_optP, fun h => h.elim, ⟨0, 0, 0, e0, 0, [], False, ⟨en_wholePat, fun h => h.2.elim, fun h => h.2.elim⟩⟩⟩⟩
  refine spStands ?_
  refine brS hS (fun h hS => ?_) (fun h hS => ?_)
  · refine spP (sevP_c hz hn hp hm hg l b hl (ne_of_st hz h (by decide +kernel))) (enters_of Tryz.func192 (by kernel_rfl) rfl) hS ?_
    intro k0 li co n0 m ks0 l1 b1 hx hS
    exact endS hS rfl
  refine spU (want_c hz ⟨#[95]⟩ (by decide +kernel) l b) en_want hS ?_
  intro l1 b1 hx hS
  exact endS hS rfl
theorem pat_c : ∀ n, n ≤ 100000 → ∀ l b, l.length < n → CT z 165 [.ptr 0 0] (fun v => .agg (ptP v)) (pP z n l b) l b
  | 0, _ => fun l b h => absurd h (Nat.not_lt_zero _)
  | n + 1, hn => fun l b h => pat_step hz (n := n) (by omega) (pat_c n (by omega)) (mono_P n) (good_P n) l b (by omega)
end
end Go.Proofs.YtjhnmikciejekaaGreat.Deep

namespace Go.Proofs.YtjhnmikciejekaaGreat.Deep
open Go.RowKit
set_option linter.unusedVariables false
set_option linter.unusedSimpArgs false
set_option linter.unusedSectionVars false
def bt (t : Tk) : Tk := ⟨t.kind, t.text, t.num, t.bytes, 0, 0⟩
def RR (l l' : List Tk) : Prop := l.map bt = l'.map bt ∧ ∀ t ∈ l, t.kind ≠ 0
theorem RR.nil {l' : List Tk} (h : RR [] l') : l' = [] := by
  cases l' with
  | nil => rfl
  | cons a b => have := h.1; simp at this
theorem RR.none : RR [] [] := ⟨rfl, by simp⟩
theorem RR.cons {t : Tk} {l l' : List Tk} (h : RR (t :: l) l') : ∃ t' m', l' = t' :: m' ∧ bt t = bt t' ∧ RR l m' := by
  cases l' with
  | nil => have := h.1; simp at this
  | cons a b =>
    obtain ⟨h1, h2⟩ := h
    simp only [List.map_cons, List.cons.injEq] at h1
    exact ⟨a, b, rfl, h1.1, h1.2, fun x hx => h2 x (List.mem_cons_of_mem _ hx)⟩
theorem RR.len {l l' : List Tk} (h : RR l l') : l.length = l'.length := by
  have := congrArg List.length h.1
  simpa using this
theorem bt_k {a b : Tk} (h : bt a = bt b) : a.kind = b.kind ∧ a.text = b.text ∧ a.num = b.num ∧ a.bytes = b.bytes := by
  unfold bt at h; injection h with h1 h2 h3 h4; exact ⟨h1, h2, h3, h4⟩
section
variable (r : List Tk)
def SmR {α : Type} (e : α → α → Prop) (X X' : Re α) : Prop := ∀ v l b, X = .ok (v, l, b) → ∃ v' l', X' = .ok (v', l' ++ r, b) ∧ RR l l' ∧ e v v'
end
section
variable {r : List Tk}
theorem SmR.bnd {α β : Type} {e : α → α → Prop} {e2 : β → β → Prop} {X X' : Re α} {K K' : α → List Tk → Bool → Re β} (h : SmR r e X X') (k : ∀ v v' l l' b, e v v' → RR l l' → X = .ok (v, l, b) → SmR r e2 (K v l b) (K' v' (l' ++ r) b)) : SmR r e2 (bnd X K) (bnd X' K') := fun v l b hx => by
  obtain ⟨a, l1, b1, h1, h2⟩ := bnd_ok hx
  obtain ⟨a', l1', h3, h4, h5⟩ := h _ _ _ h1
  obtain ⟨v', l', h6, h7, h8⟩ := k _ _ _ _ _ h5 h4 h1 _ _ _ h2
  exact ⟨v', l', by rw [h3]; exact h6, h7, h8⟩
theorem SmR.ite {α : Type} {e : α → α → Prop} {c c' : Bool} {x y x' y' : Re α} (hc : c = c') (hx : c = true → SmR r e x x') (hy : c = false → SmR r e y y') : SmR r e (ifB c x y) (ifB c' x' y') := by
  subst hc
  cases c
  · exact hy rfl
  · exact hx rfl
theorem SmR.err {α : Type} {e : α → α → Prop} {f : Flt} {X' : Re α} : SmR r e (.error f) X' := fun v l b h => by cases h
theorem SmR.ok {α : Type} {e : α → α → Prop} {v v' : α} {l l' : List Tk} {b : Bool} (h : RR l l') (hv : e v v') : SmR r e (.ok (v, l, b)) (.ok (v', l' ++ r, b)) := fun w m c hx => by
  injection hx with hx; injection hx with q1 q2; injection q2 with q2 q3
  subst q1 q2 q3
  exact ⟨v', l', rfl, h, hv⟩
theorem sm_end {α : Type} {e : α → α → Prop} {X X' : Re α} (h : SmR r e X X') : SmR r e (bnd X fun v l b => .ok (v, l, b)) (bnd X' fun v l b => .ok (v, l, b)) := SmR.bnd h (fun v v' l l' b hv hl _ => SmR.ok hl hv)
end
section
variable {z z' c : Tk} {r2 : List Tk} (hz : z.kind = 0) (hc : c.kind = 6) (ht : c.text = ⟨#[41]⟩)
include hz hc ht
theorem hd_sm {l l' : List Tk} (h : RR l l') (hl : l ≠ []) : bt (hd z l) = bt (hd z' (l' ++ c :: r2)) := by
  cases l with
  | nil => exact absurd rfl hl
  | cons t l => obtain ⟨t', m', rfl, h1, h2⟩ := h.cons; exact h1
theorem kind_sm {l l' : List Tk} (h : RR l l') (k : Int) (hk : k ≠ 0) (hk6 : k ≠ 6) : ((hd z l).kind == k) = ((hd z' (l' ++ c :: r2)).kind == k) := by
  by_cases hl : l = []
  · subst hl; obtain rfl := h.nil
    show (z.kind == k) = (c.kind == k)
    rw [hz, hc]
    have h1 : ((0 : Int) == k) = false := by simpa using fun h => hk h.symm
    have h2 : ((6 : Int) == k) = false := by simpa using fun h => hk6 h.symm
    rw [h1, h2]
  · rw [(bt_k (hd_sm (z' := z') (r2 := r2) hz hc ht h hl)).1]
theorem text5_sm {l l' : List Tk} (h : RR l l') : textB z 5 l = textB z' 5 (l' ++ c :: r2) := by
  by_cases hl : l = []
  · subst hl; obtain rfl := h.nil
    show ifB (z.kind == 5) z.text e0 = ifB (c.kind == 5) c.text e0
    rw [hz, hc]; rfl
  · obtain ⟨h1, h2, _⟩ := bt_k (hd_sm (z' := z') (r2 := r2) hz hc ht h hl)
    unfold textB; rw [h1, h2]
theorem text6_sm {l l' : List Tk} (h : RR l l') (hl : l ≠ []) : textB z 6 l = textB z' 6 (l' ++ c :: r2) := by
  obtain ⟨h1, h2, _⟩ := bt_k (hd_sm (z' := z') (r2 := r2) hz hc ht h hl)
  unfold textB; rw [h1, h2]
theorem text6_nil : textB z 6 [] = e0 ∧ textB z' 6 ([] ++ c :: r2) = ⟨#[41]⟩ := by
  constructor
  · show ifB (z.kind == 6) z.text e0 = _; rw [hz]; rfl
  · show ifB (c.kind == 6) c.text e0 = _; rw [hc, ht]; rfl
theorem st_sm {l l' : List Tk} (h : RR l l') (s : ByteArray) (hs : eqB e0 s = false) (h2 : l ≠ [] ∨ eqB ⟨#[41]⟩ s = false) : stB z l s = stB z' (l' ++ c :: r2) s := by
  by_cases hl : l = []
  · subst hl; obtain rfl := h.nil
    have h5 := text5_sm (z' := z') (r2 := r2) hz hc ht (l := []) (l' := []) RR.none
    obtain ⟨h6, h7⟩ := text6_nil (z' := z') (r2 := r2) hz hc ht
    unfold stB
    rw [h6, h7, ← h5, hs, h2.resolve_left (fun h => h rfl)]
  · unfold stB
    rw [text6_sm (z' := z') (r2 := r2) hz hc ht h hl, text5_sm (z' := z') (r2 := r2) hz hc ht h]
theorem op_sm {l l' : List Tk} (h : RR l l') (opf : ByteArray → Int × Bool) (ho : opf e0 = opf ⟨#[41]⟩) : opf (textB z 6 l) = opf (textB z' 6 (l' ++ c :: r2)) := by
  by_cases hl : l = []
  · subst hl; obtain rfl := h.nil
    obtain ⟨h6, h7⟩ := text6_nil (z' := z') (r2 := r2) hz hc ht
    rw [h6, h7, ho]
  · rw [text6_sm (z' := z') (r2 := r2) hz hc ht h hl]
theorem take_sm {l l' : List Tk} {b : Bool} (h : RR l l') (hl : l ≠ []) : SmR (c :: r2) (fun t t' => bt t = bt t') (takeS z l b) (takeS z' (l' ++ c :: r2) b) := by
  unfold takeS
  refine SmR.ite rfl (fun _ => SmR.err) (fun _ => ?_)
  have h1 := hd_sm (z := z) (z' := z') (r2 := r2) hz hc ht h hl
  cases l with
  | nil => exact absurd rfl hl
  | cons t l => obtain ⟨t', m', rfl, h2, h3⟩ := h.cons; exact SmR.ok h3 h1
theorem skip_sm {l l' : List Tk} {b : Bool} (h : RR l l') (s : ByteArray) (hs : eqB e0 s = false) (h2 : l ≠ [] ∨ eqB ⟨#[41]⟩ s = false) : SmR (c :: r2) (fun t t' => t = t') (skipS z s l b) (skipS z' s (l' ++ c :: r2) b) := by
  unfold skipS
  refine SmR.ite (st_sm hz hc ht h s hs h2) (fun hh => ?_) (fun _ => SmR.ok h rfl)
  exact SmR.bnd (take_sm hz hc ht h (ne_of_st hz hh hs)) (fun _ _ _ _ _ _ hl _ => SmR.ok hl rfl)
theorem want_sm {l l' : List Tk} {b : Bool} (h : RR l l') (s : ByteArray) (hs : eqB e0 s = false) : SmR (c :: r2) (fun t t' => True) (wantS z s l b) (wantS z' s (l' ++ c :: r2) b) := by
  by_cases hl : l = []
  · subst hl
    have : wantS z s [] b = .error (wantF z []) := by
      have hst : stB z [] s = false := by
        cases hq : stB z [] s
        · rfl
        · exact absurd rfl (ne_of_st hz hq hs)
      unfold wantS skipS
      rw [hst]; rfl
    rw [this]; exact SmR.err
  · unfold wantS
    refine SmR.bnd (skip_sm hz hc ht h s hs (.inl hl)) (fun t t' l1 l1' b1 he hl1 _ => ?_)
    subst he
    exact SmR.ite rfl (fun _ => SmR.err) (fun _ => SmR.ok hl1 trivial)
theorem kindS_sm {l l' : List Tk} {b : Bool} (h : RR l l') (k : Int) (hk : k ≠ 0) (hk6 : k ≠ 6) : SmR (c :: r2) (fun t t' => bt t = bt t') (kindS z k l b) (kindS z' k (l' ++ c :: r2) b) := by
  unfold kindS
  have e1 := kind_sm (z' := z') (r2 := r2) hz hc ht h k hk hk6
  refine SmR.ite (by simp only [bne, e1]) (fun _ => SmR.err) (fun hh => ?_)
  have hl := ne_of_kind hz (k := k) (l := l) (by simpa using hh) hk
  exact sm_end (take_sm hz hc ht h hl)
theorem low_sm {l l' : List Tk} {b : Bool} (h : RR l l') : SmR (c :: r2) (fun t t' => t = t') (lowS z l b) (lowS z' (l' ++ c :: r2) b) := by
  unfold lowS
  exact SmR.bnd (kindS_sm hz hc ht h 1 (by decide) (by decide)) (fun t t' l1 l1' b1 he hl _ => SmR.ok hl (bt_k he).2.1)
theorem within_sm {l l' : List Tk} {b : Bool} (h : RR l l') (lo hi : Int) : SmR (c :: r2) (fun t t' => t = t') (withinS z lo hi l b) (withinS z' lo hi (l' ++ c :: r2) b) := by
  unfold withinS
  refine SmR.bnd (kindS_sm hz hc ht h 3 (by decide) (by decide)) (fun t t' l1 l1' b1 he hl _ => ?_)
  have hn := (bt_k he).2.2.1
  exact SmR.ite (by rw [hn]) (fun _ => SmR.err) (fun _ => SmR.ite (by rw [hn]) (fun _ => SmR.err) (fun _ => SmR.ok hl hn))
theorem number_sm {l l' : List Tk} {b : Bool} (h : RR l l') : SmR (c :: r2) (fun t t' => t = t') (numberS z l b) (numberS z' (l' ++ c :: r2) b) := by
  unfold numberS
  refine SmR.bnd (skip_sm hz hc ht h _ (by decide +kernel) (.inr (by decide +kernel))) (fun t t' l1 l1' b1 he hl _ => ?_)
  subst he
  refine SmR.ite rfl (fun _ => ?_) (fun _ => ?_)
  · exact SmR.bnd (kindS_sm hz hc ht hl 3 (by decide) (by decide)) (fun t t' l1 l1' b1 he hl _ => SmR.ok hl (by rw [(bt_k he).2.2.1]))
  · exact SmR.bnd (kindS_sm hz hc ht hl 3 (by decide) (by decide)) (fun t t' l1 l1' b1 he hl _ => SmR.ok hl (bt_k he).2.2.1)
def AllR {α : Type} (e : α → α → Prop) : List α → List α → Prop
  | [], [] => True
  | a :: l, b :: m => e a b ∧ AllR e l m
  | _, _ => False
omit hz hc ht in
theorem AllR.snoc {α : Type} {e : α → α → Prop} : ∀ {l m : List α} {a b : α}, AllR e l m → e a b → AllR e (l ++ [a]) (m ++ [b])
  | [], [], a, b, _, h => ⟨h, trivial⟩
  | x :: l, y :: m, a, b, h, h2 => ⟨h.1, AllR.snoc h.2 h2⟩
  | [], _ :: _, _, _, h, _ => h.elim
  | _ :: _, [], _, _, h, _ => h.elim
omit hz hc ht in
theorem AllR.len {α : Type} {e : α → α → Prop} : ∀ {l m : List α}, AllR e l m → l.length = m.length
  | [], [], _ => rfl
  | x :: l, y :: m, h => by simp [AllR.len h.2]
  | [], _ :: _, h => h.elim
  | _ :: _, [], h => h.elim
theorem list_sm {α : Type} {e : α → α → Prop} {p p' : Rd α} (hm : Mono p) (hp : ∀ l l' b, RR l l' → SmR (c :: r2) e (p l b) (p' (l' ++ c :: r2) b)) (btw : ByteArray) (hb : eqB e0 btw = false) (hb2 : eqB ⟨#[41]⟩ btw = false) (most : Int) :
    ∀ (n n' : Nat) (acc acc' : List α) (l l' : List Tk) (b : Bool), l.length < n → l.length + (c :: r2).length < n' → AllR e acc acc' → RR l l' → SmR (c :: r2) (AllR e) (listS z p btw most n acc l b) (listS z' p' btw most n' acc' (l' ++ c :: r2) b)
  | 0, _, _, _, _, _, _, h, _, _, _ => absurd h (Nat.not_lt_zero _)
  | n + 1, 0, _, _, _, _, _, _, h, _, _ => absurd h (Nat.not_lt_zero _)
  | n + 1, n' + 1, acc, acc', l, l', b, h1, h2, ha, hl => by
    unfold listS
    rw [AllR.len ha]
    refine SmR.bnd (hp l l' _ hl) (fun a a' l1 l1' b1 he hl1 hx => ?_)
    have q1 := hm _ _ _ _ _ hx
    refine SmR.bnd (skip_sm hz hc ht hl1 btw hb (.inr hb2)) (fun t t' l2 l2' b2 het hl2 hx2 => ?_)
    subst het
    refine SmR.ite rfl (fun _ => SmR.ok hl2 (ha.snoc he)) (fun hh => ?_)
    have q2 := skip_lt hz hb hx2 (by simpa using hh)
    exact list_sm hm hp btw hb hb2 most n n' _ _ l2 l2' b2 (by omega) (by omega) (ha.snoc he) hl2
theorem lis_sm {α : Type} {e : α → α → Prop} {p p' : Rd α} (hm : Mono p) (hp : ∀ l l' b, RR l l' → SmR (c :: r2) e (p l b) (p' (l' ++ c :: r2) b)) (btw : ByteArray) (hb : eqB e0 btw = false) (hb2 : eqB ⟨#[41]⟩ btw = false) (most : Int) {l l' : List Tk} {b : Bool} (h : RR l l') :
    SmR (c :: r2) (AllR e) (lisS z p btw most l b) (lisS z' p' btw most (l' ++ c :: r2) b) := by
  unfold lisS
  exact list_sm hz hc ht hm hp btw hb hb2 most _ _ [] [] l l' b (by omega) (by rw [List.length_append, h.len]; omega) trivial h
theorem inside_sm {α : Type} {e : α → α → Prop} {p p' : Rd α} (hm : Mono p) (hp : ∀ l l' b, RR l l' → SmR (c :: r2) e (p l b) (p' (l' ++ c :: r2) b)) (btw : ByteArray) (hb : eqB e0 btw = false) (hb2 : eqB ⟨#[41]⟩ btw = false) (most : Int) {l l' : List Tk} {b : Bool} (h : RR l l') :
    SmR (c :: r2) (AllR e) (insideS z p btw most l b) (insideS z' p' btw most (l' ++ c :: r2) b) := by
  unfold insideS
  refine SmR.bnd (want_sm hz hc ht h _ (by decide +kernel)) (fun _ _ l1 l1' b1 _ h1 _ => ?_)
  refine SmR.bnd (lis_sm hz hc ht hm hp btw hb hb2 most h1) (fun ks ks' l2 l2' b2 he h2 _ => ?_)
  exact SmR.bnd (want_sm hz hc ht h2 _ (by decide +kernel)) (fun _ _ l3 l3' b3 _ h3 _ => SmR.ok h3 he)
theorem opt_sm {α : Type} {e : α → α → Prop} {p p' : Rd α} (hm : Mono p) (hp : ∀ l l' b, RR l l' → SmR (c :: r2) e (p l b) (p' (l' ++ c :: r2) b)) {l l' : List Tk} {b : Bool} (h : RR l l') : SmR (c :: r2) (AllR e) (optS z p l b) (optS z' p' (l' ++ c :: r2) b) := by
  unfold optS
  refine SmR.ite (by rw [st_sm (z' := z') (r2 := r2) hz hc ht h _ (by decide +kernel) (.inr (by decide +kernel))]) (fun _ => SmR.ok h trivial) (fun _ => ?_)
  exact sm_end (inside_sm hz hc ht hm hp _ (by decide +kernel) (by decide +kernel) 6 h)
end
end Go.Proofs.YtjhnmikciejekaaGreat.Deep

namespace Go.Proofs.YtjhnmikciejekaaGreat.Deep
open Go.RowKit
set_option linter.unusedVariables false
set_option linter.unusedSimpArgs false
theorem size_l (s : ByteArray) : s.size = s.data.toList.length := (Array.length_toList).symm
theorem bare_snd {s : ByteArray} (hs : s.size ≤ 3000) {R : List Int} (hv : ∀ c ∈ R, validB c = true) (h : s.data.toList = R.flatMap enc) : bareS (lexOf s) = lexP (R.length + 1) R ∧ R.length ≤ 3000 := by
  obtain ⟨hb, hr⟩ := sound_of hv h
  have hl := enc_len_pos hv
  have hz := size_l s
  rw [h] at hz
  have := lexOf_bare (s := s) (by omega) hb
  rw [hr] at this
  rw [this, lexL_lexP _ _ _ (by omega)]
  exact ⟨rfl, by omega⟩
def sg (l : List UInt8) : Go.Proofs.YtjhnmikciejekaaGreat.Tok := ⟨6, l, 0, [], 0, 0⟩
theorem head_40 (q : List Int) : headL (40 :: q) = .inr (sg [40], q) := by kernel_rfl
theorem head_41 (q : List Int) : headL (41 :: q) = .inr (sg [41], q) := by kernel_rfl
theorem head_32 (w : List Int) : headL (32 :: w) = headL w := by
  have : (32 :: w).drop (skipF false 0 (32 :: w)) = w.drop (skipF false 0 w) := by
    show (32 :: w).drop (skipF false 1 w) = _
    rw [skipF_from w false 1, Nat.add_comm]; rfl
  rw [headL, headL, this]
theorem lex_41 : lexP 3 [41] = .inr [sg [41], endT] := by kernel_rfl
def opR : Nat → List Int
  | 0 => [43] | 1 => [45] | 2 => [42] | 3 => [47] | 4 => [37] | 5 => [60] | 6 => [60, 61] | _ => [61, 61]
def opB : Nat → List UInt8
  | 0 => [43] | 1 => [45] | 2 => [42] | 3 => [47] | 4 => [37] | 5 => [60] | 6 => [60, 61] | _ => [61, 61]
theorem head_op (k : Nat) (w : List Int) : headL (opR k ++ 32 :: w) = .inr (sg (opB k), 32 :: w) := by
  match k with
  | 0 => exact (by kernel_rfl : headL (43 :: 32 :: w) = .inr (sg [43], 32 :: w))
  | 1 => exact (by kernel_rfl : headL (45 :: 32 :: w) = .inr (sg [45], 32 :: w))
  | 2 => exact (by kernel_rfl : headL (42 :: 32 :: w) = .inr (sg [42], 32 :: w))
  | 3 => exact (by kernel_rfl : headL (47 :: 32 :: w) = .inr (sg [47], 32 :: w))
  | 4 => exact (by kernel_rfl : headL (37 :: 32 :: w) = .inr (sg [37], 32 :: w))
  | 5 => exact (by kernel_rfl : headL (60 :: 32 :: w) = .inr (sg [60], 32 :: w))
  | 6 => exact (by kernel_rfl : headL (60 :: 61 :: 32 :: w) = .inr (sg [60, 61], 32 :: w))
  | k + 7 => exact (by kernel_rfl : headL (61 :: 61 :: 32 :: w) = .inr (sg [61, 61], 32 :: w))
theorem opR_len (k : Nat) : 1 ≤ (opR k).length ∧ (opR k).length ≤ 2 := by
  match k with
  | 0 => decide
  | 1 => decide
  | 2 => decide
  | 3 => decide
  | 4 => decide
  | 5 => decide
  | 6 => decide
  | k + 7 => exact ⟨by show 1 ≤ 2; decide, by show 2 ≤ 2; decide⟩
theorem opR_ok (k : Nat) : (∀ c ∈ opR k, validB c = true) ∧ (opR k).flatMap enc = opB k := by
  match k with
  | 0 => exact ⟨by decide, by decide⟩
  | 1 => exact ⟨by decide, by decide⟩
  | 2 => exact ⟨by decide, by decide⟩
  | 3 => exact ⟨by decide, by decide⟩
  | 4 => exact ⟨by decide, by decide⟩
  | 5 => exact ⟨by decide, by decide⟩
  | 6 => exact ⟨by decide, by decide⟩
  | k + 7 => exact ⟨by show ∀ c ∈ [61, 61], validB c = true; decide, by show [61, 61].flatMap enc = [61, 61]; decide⟩
theorem lexP_step {f : Nat} {l r : List Int} {t : Go.Proofs.YtjhnmikciejekaaGreat.Tok} (h : headL l = .inr (t, r)) (hk : t.kind ≠ 0) (hf : l.length < f) {g : Nat} (hg : r.length < g) {T : List Go.Proofs.YtjhnmikciejekaaGreat.Tok} (hr : lexP g r = .inr T) : lexP f l = .inr (t :: T) := by
  have hl := headL_less h hk
  obtain ⟨f, rfl⟩ : ∃ f', f = f' + 1 := ⟨f - 1, by omega⟩
  rw [lexP_on h hk, lexP_fuel f g r (by omega) hg, hr]
theorem lex_one {R : List Int} {T : List Go.Proofs.YtjhnmikciejekaaGreat.Tok} (h : lexP (R.length + 1) R = .inr T) : ∀ f, (40 :: (R ++ 10 :: [41])).length < f → lexP f (40 :: (R ++ 10 :: [41])) = .inr (sg [40] :: (T.dropLast ++ [sg [41], endT])) := fun f hf => by
  refine lexP_step (head_40 _) (by decide) hf (g := f) (by simp at hf ⊢; omega) ?_
  rw [lexP_line [41] (R.length + 1) f 3 R (by omega) (by simp at hf ⊢; omega) (by decide), h, lex_41]
theorem lex_both {R R2 : List Int} {T T2 : List Go.Proofs.YtjhnmikciejekaaGreat.Tok} (h : lexP (R.length + 1) R = .inr T) (h2 : lexP (R2.length + 1) R2 = .inr T2) (k : Nat) (f : Nat) (hf : (40 :: (R ++ 10 :: (41 :: 32 :: (opR k ++ 32 :: 40 :: (R2 ++ 10 :: [41]))))).length < f) :
    lexP f (40 :: (R ++ 10 :: (41 :: 32 :: (opR k ++ 32 :: 40 :: (R2 ++ 10 :: [41]))))) = .inr (sg [40] :: (T.dropLast ++ (sg [41] :: sg (opB k) :: sg [40] :: (T2.dropLast ++ [sg [41], endT])))) := by
  have ho := opR_len k
  have e3 := lex_one h2 (f + R2.length + 10) (by simp; omega)
  have e2 : lexP (f + R2.length + 20) (32 :: (opR k ++ 32 :: 40 :: (R2 ++ 10 :: [41]))) = .inr (sg (opB k) :: sg [40] :: (T2.dropLast ++ [sg [41], endT])) := by
    refine lexP_step (r := 32 :: 40 :: (R2 ++ 10 :: [41])) (by rw [head_32, head_op]) (by show (6 : Int) ≠ 0; decide) (by simp; omega) (g := f + R2.length + 10) (by simp; omega) ?_
    have e4 : lexP (f + R2.length + 10) (32 :: 40 :: (R2 ++ 10 :: [41])) = lexP (f + R2.length + 10) (40 :: (R2 ++ 10 :: [41])) := by
      obtain ⟨g, hg⟩ : ∃ g, f + R2.length + 10 = g + 1 := ⟨f + R2.length + 9, rfl⟩
      rw [hg, lexP, lexP, head_32]
    rw [e4, e3]
  refine lexP_step (head_40 _) (by decide) hf (g := f) (by simp at hf ⊢; omega) ?_
  rw [lexP_line _ (R.length + 1) f (f + R2.length + 30) R (by omega) (by simp at hf ⊢; omega) (by simp; omega), h]
  rw [lexP_step (head_41 _) (by decide) (by simp; omega) (g := f + R2.length + 20) (by simp; omega) e2]
end Go.Proofs.YtjhnmikciejekaaGreat.Deep

namespace Go.Proofs.YtjhnmikciejekaaGreat.Deep
open Go.RowKit
set_option linter.unusedVariables false
set_option linter.unusedSimpArgs false
set_option linter.unusedSectionVars false
mutual
theorem depP_bare : ∀ t : Pt, depP (bareP t) = depP t
  | .mk k li co n m ks => by rw [bareP, depP, depP, depPs_bare 0 ks]
theorem depPs_bare : ∀ (a : Int) (l : List Pt), depPs a (barePs l) = depPs a l
  | a, [] => rfl
  | a, t :: ts => by rw [barePs, depPs, depPs, depP_bare t, depPs_bare _ ts]
end
mutual
theorem depE_bare : ∀ t : Ex, depE (bareE t) = depE t
  | .mk k li co m y n ks ps bs => by rw [bareE, depE, depE, depEs_bare 0 ks, depAs_bare 0 bs ps]
theorem depEs_bare : ∀ (a : Int) (l : List Ex), depEs a (bareEs l) = depEs a l
  | a, [] => rfl
  | a, t :: ts => by rw [bareEs, depEs, depEs, depE_bare t, depEs_bare _ ts]
theorem depAs_bare : ∀ (a : Int) (bs : List Ex) (ps : List Pt), depAs a (bareEs bs) (barePs ps) = depAs a bs ps
  | a, [], ps => by cases ps <;> rfl
  | a, b :: bs, [] => rfl
  | a, b :: bs, p :: ps => by rw [bareEs, barePs, depAs, depAs, depE_bare b, depP_bare p, depAs_bare _ bs ps]
end
abbrev eP : Pt → Pt → Prop := fun a b => bareP a = bareP b
abbrev eE : Ex → Ex → Prop := fun a b => bareE a = bareE b
abbrev eA : Pt × Ex → Pt × Ex → Prop := fun a b => eP a.1 b.1 ∧ eE a.2 b.2
theorem allP : ∀ {l m : List Pt}, AllR eP l m → barePs l = barePs m
  | [], [], _ => rfl
  | x :: l, y :: m, h => by rw [barePs, barePs, h.1, allP h.2]
  | [], _ :: _, h => h.elim
  | _ :: _, [], h => h.elim
theorem allE : ∀ {l m : List Ex}, AllR eE l m → bareEs l = bareEs m
  | [], [], _ => rfl
  | x :: l, y :: m, h => by rw [bareEs, bareEs, h.1, allE h.2]
  | [], _ :: _, h => h.elim
  | _ :: _, [], h => h.elim
theorem allA : ∀ {l m : List (Pt × Ex)}, AllR eA l m → barePs (l.map Prod.fst) = barePs (m.map Prod.fst) ∧ bareEs (l.map Prod.snd) = bareEs (m.map Prod.snd)
  | [], [], _ => ⟨rfl, rfl⟩
  | x :: l, y :: m, h => by
    obtain ⟨h1, h2⟩ := allA h.2
    simp only [List.map_cons, barePs, bareEs, h.1.1, h.1.2, h1, h2, and_self]
  | [], _ :: _, h => h.elim
  | _ :: _, [], h => h.elim
theorem all_head {α : Type} {e : α → α → Prop} {d : α} (hd : e d d) : ∀ {l m : List α}, AllR e l m → e (l.headD d) (m.headD d)
  | [], [], _ => hd
  | x :: l, y :: m, h => h.1
  | [], _ :: _, h => h.elim
  | _ :: _, [], h => h.elim
section
variable {r : List Tk}
theorem wholeP_sm {e e' : Pt} (h : eP e e') {l l' : List Tk} {b : Bool} (hl : RR l l') : SmR r eP (bndE (wholeP e) fun v => .ok (v, l, b)) (bndE (wholeP e') fun v => .ok (v, l' ++ r, b)) := fun v l1 b1 hx => by
  obtain ⟨a, h1, h2⟩ := bndE_ok hx
  obtain ⟨rfl, hd⟩ := deepS_ok h1
  have hd' : depP e' ≤ 64 := by rw [← depP_bare, ← h, depP_bare]; exact hd
  injection h2 with h2; injection h2 with q1 q2; injection q2 with q2 q3
  subst q1 q2 q3
  refine ⟨e', l', ?_, hl, h⟩
  have : decide (depP e' > 64) = false := by simpa using hd'
  unfold wholeP deepS
  rw [this]; rfl
theorem bare_parts {e e' : Ex} (h : eE e e') : e.kind = e'.kind ∧ e.num = e'.num ∧ e.kids.length = e'.kids.length := by
  obtain ⟨k, li, co, m, y, n, ks, ps, bs⟩ := e
  obtain ⟨k', li', co', m', y', n', ks', ps', bs'⟩ := e'
  have h2 : bareE (.mk k li co m y n ks ps bs) = bareE (.mk k' li' co' m' y' n' ks' ps' bs') := h
  rw [bareE, bareE] at h2
  injection h2 with h2 _ _ h3 _ _ h4
  refine ⟨h2, h3, ?_⟩
  have := congrArg List.length h4
  rw [bareEs_map, bareEs_map] at this
  simpa [Ex.kids] using this
theorem wholeE_sm {e e' : Ex} (h : eE e e') {l l' : List Tk} {b : Bool} (hl : RR l l') : SmR r eE (bndE (wholeE e) fun v => .ok (v, l, b)) (bndE (wholeE e') fun v => .ok (v, l' ++ r, b)) := fun v l1 b1 hx => by
  obtain ⟨a, h1, h2⟩ := bndE_ok hx
  obtain ⟨q1, q2, q3⟩ := bare_parts h
  have hdep : depE e' = depE e := by rw [← depE_bare, ← h, depE_bare]
  have hlen : (exPs e'.kids).length = (exPs e.kids).length := by rw [exPs_len, exPs_len, q3]
  have h1' : wholeE e' = .ok e' ∧ a = e := by
    unfold wholeE at h1 ⊢
    rw [← q1, ← q2, hlen]
    rcases ifB_cases h1 with ⟨h3, h4⟩ | ⟨h3, h4⟩
    · rcases ifB_cases h4 with ⟨h5, h6⟩ | ⟨h5, h6⟩
      · cases h6
      · obtain ⟨e1, e2⟩ := deepS_ok h6
        refine ⟨?_, e1⟩
        rw [h3, h5]
        have : decide (depE e' > 64) = false := by rw [hdep]; simpa using e2
        show deepS (depE e') _ _ e' = _
        unfold deepS; rw [this]; rfl
    · obtain ⟨e1, e2⟩ := deepS_ok h4
      refine ⟨?_, e1⟩
      rw [h3]
      have : decide (depE e' > 64) = false := by rw [hdep]; simpa using e2
      show deepS (depE e') _ _ e' = _
      unfold deepS; rw [this]; rfl
  obtain ⟨h1', rfl⟩ := h1'
  injection h2 with h2; injection h2 with q1 q2; injection q2 with q2 q3
  subst q1 q2 q3
  exact ⟨e', l', by rw [h1']; rfl, hl, h⟩
end
section
variable {z z' c : Tk} {r2 : List Tk} (hz : z.kind = 0) (hc : c.kind = 6) (ht : c.text = ⟨#[41]⟩)
include hz hc ht
section
variable {pt pt' : Rd Pt} (hmp : Mono pt) (hp : ∀ l l' b, RR l l' → SmR (c :: r2) eP (pt l b) (pt' (l' ++ c :: r2) b))
include hmp hp
theorem sevP_sm {l l' : List Tk} {b : Bool} (h : RR l l') : SmR (c :: r2) eP (sevPS z pt l b) (sevPS z' pt' (l' ++ c :: r2) b) := by
  unfold sevPS
  dsimp only
  refine SmR.bnd (inside_sm hz hc ht hmp hp _ (by decide +kernel) (by decide +kernel) 6 h) (fun ks ks' l1 l1' b1 he hl _ => ?_)
  refine SmR.ite (by rw [ptPs_len, ptPs_len, he.len]) (fun _ => SmR.ok hl (all_head (e := eP) rfl he)) (fun _ => wholeP_sm ?_ hl)
  show bareP _ = bareP _
  rw [bareP, bareP, allP he]
theorem pat_sm {l l' : List Tk} {b : Bool} (h : RR l l') : SmR (c :: r2) eP (patS z pt l b) (patS z' pt' (l' ++ c :: r2) b) := by
  unfold patS
  dsimp only
  refine SmR.ite (kind_sm hz hc ht h 3 (by decide) (by decide)) (fun _ => SmR.bnd (number_sm hz hc ht h) (fun m m' l1 l1' b1 he hl _ => SmR.ok hl (by subst he; rfl))) (fun _ => ?_)
  refine SmR.ite (st_sm hz hc ht h _ (by decide +kernel) (.inr (by decide +kernel))) (fun _ => SmR.bnd (number_sm hz hc ht h) (fun m m' l1 l1' b1 he hl _ => SmR.ok hl (by subst he; rfl))) (fun _ => ?_)
  refine SmR.ite (kind_sm hz hc ht h 1 (by decide) (by decide)) (fun hh => SmR.bnd (take_sm hz hc ht h (ne_of_kind hz hh (by decide))) (fun u u' l1 l1' b1 he hl _ => SmR.ok hl (by show bareP _ = bareP _; rw [bareP, bareP, (bt_k he).2.1]))) (fun _ => ?_)
  refine SmR.ite (kind_sm hz hc ht h 2 (by decide) (by decide)) (fun hh => SmR.bnd (take_sm hz hc ht h (ne_of_kind hz hh (by decide))) (fun u u' l1 l1' b1 he hl _ => SmR.bnd (opt_sm hz hc ht hmp hp hl) (fun ks ks' l2 l2' b2 hks hl2 _ => wholeP_sm (by show bareP _ = bareP _; rw [bareP, bareP, (bt_k he).2.1, allP hks]) hl2))) (fun _ => ?_)
  refine SmR.ite (st_sm hz hc ht h _ (by decide +kernel) (.inr (by decide +kernel))) (fun _ => sm_end (sevP_sm hz hc ht hmp hp h)) (fun _ => ?_)
  exact SmR.bnd (want_sm hz hc ht h _ (by decide +kernel)) (fun _ _ l1 l1' b1 _ hl _ => SmR.ok hl rfl)
end
theorem pP_sm : ∀ (n n' : Nat), n ≤ n' → ∀ l l' b, RR l l' → SmR (c :: r2) eP (pP z n l b) (pP z' n' (l' ++ c :: r2) b)
  | 0, _, _, l, l', b, _ => SmR.err
  | n + 1, 0, h, _, _, _, _ => absurd h (by omega)
  | n + 1, n' + 1, h, l, l', b, hl => pat_sm hz hc ht (mono_P n) (pP_sm n n' (by omega)) hl
section
variable {ex ex' : Rd Ex} (hme : Mono ex) (he : ∀ l l' b, RR l l' → SmR (c :: r2) eE (ex l b) (ex' (l' ++ c :: r2) b))
include hme he
theorem behind_sm {l l' : List Tk} {b : Bool} (s : ByteArray) (hs : eqB e0 s = false) (h : RR l l') : SmR (c :: r2) eE (behindS z ex s l b) (behindS z' ex' s (l' ++ c :: r2) b) := by
  unfold behindS
  exact SmR.bnd (want_sm hz hc ht h s hs) (fun _ _ l1 l1' b1 _ hl _ => sm_end (he _ _ _ hl))
theorem let_sm {l l' : List Tk} {b : Bool} (h : RR l l') (hl0 : l ≠ []) : SmR (c :: r2) eE (letS z ex l b) (letS z' ex' (l' ++ c :: r2) b) := by
  unfold letS
  refine SmR.bnd (take_sm hz hc ht h hl0) (fun t t' l1 l1' b1 _ h1 _ => SmR.bnd (low_sm hz hc ht h1) (fun s s' l2 l2' b2 es h2 _ => SmR.bnd (behind_sm hz hc ht hme he _ (by decide +kernel) h2) (fun v v' l3 l3' b3 ev h3 _ => SmR.bnd (behind_sm hz hc ht hme he _ (by decide +kernel) h3) (fun w w' l4 l4' b4 ew h4 _ => wholeE_sm ?_ h4))))
  subst es
  show bareE _ = bareE _
  simp only [bareE, bareEs, barePs, ev, ew]
theorem cond_sm {l l' : List Tk} {b : Bool} (h : RR l l') : SmR (c :: r2) eE (condS z ex l b) (condS z' ex' (l' ++ c :: r2) b) := by
  unfold condS
  dsimp only
  refine SmR.bnd (behind_sm hz hc ht hme he _ (by decide +kernel) h) (fun u u' l2 l2' b2 eu h2 _ => SmR.bnd (behind_sm hz hc ht hme he _ (by decide +kernel) h2) (fun v v' l3 l3' b3 ev h3 _ => SmR.bnd (behind_sm hz hc ht hme he _ (by decide +kernel) h3) (fun w w' l4 l4' b4 ew h4 _ => wholeE_sm ?_ h4)))
  show bareE _ = bareE _
  simp only [bareE, bareEs, barePs, eu, ev, ew]
theorem loop_sm {l l' : List Tk} {b : Bool} (h : RR l l') (hl0 : l ≠ []) : SmR (c :: r2) eE (loopS z ex l b) (loopS z' ex' (l' ++ c :: r2) b) := by
  unfold loopS
  refine SmR.bnd (take_sm hz hc ht h hl0) (fun t t' l1 l1' b1 _ h1 _ => SmR.bnd (within_sm hz hc ht h1 0 1000) (fun m m' l2 l2' b2 em h2 _ => SmR.bnd (want_sm hz hc ht h2 _ (by decide +kernel)) (fun _ _ l3 l3' b3 _ h3 _ => SmR.bnd (low_sm hz hc ht h3) (fun s s' l4 l4' b4 es h4 _ => SmR.bnd (behind_sm hz hc ht hme he _ (by decide +kernel) h4) (fun v v' l5 l5' b5 ev h5 _ => SmR.bnd (behind_sm hz hc ht hme he _ (by decide +kernel) h5) (fun w w' l6 l6' b6 ew h6 _ => wholeE_sm ?_ h6))))))
  subst em es
  show bareE _ = bareE _
  simp only [bareE, bareEs, barePs, ev, ew]
theorem named_sm {l l' : List Tk} {b : Bool} (h : RR l l') (hl0 : l ≠ []) : SmR (c :: r2) eE (namedS z ex l b) (namedS z' ex' (l' ++ c :: r2) b) := by
  unfold namedS
  refine SmR.bnd (take_sm hz hc ht h hl0) (fun t t' l1 l1' b1 et h1 _ => ?_)
  have e2 := (bt_k et).2.1
  rw [← e2]
  refine SmR.ite (by rw [st_sm (z' := z') (r2 := r2) hz hc ht h1 _ (by decide +kernel) (.inr (by decide +kernel))]) (fun _ => SmR.ok h1 (by show bareE _ = bareE _; simp only [bareE, bareEs, barePs])) (fun _ => ?_)
  refine SmR.ite rfl (fun _ => SmR.err) (fun _ => ?_)
  refine SmR.bnd (inside_sm hz hc ht hme he _ (by decide +kernel) (by decide +kernel) 6 h1) (fun ks ks' l2 l2' b2 eks h2 _ => ?_)
  have e3 := allE eks
  exact SmR.ite rfl (fun _ => wholeE_sm (by show bareE _ = bareE _; simp only [bareE, bareEs, barePs, e3]) h2) (fun _ => wholeE_sm (by show bareE _ = bareE _; simp only [bareE, bareEs, barePs, e3]) h2)
theorem sev_sm {l l' : List Tk} {b : Bool} (h : RR l l') : SmR (c :: r2) eE (sevS z ex l b) (sevS z' ex' (l' ++ c :: r2) b) := by
  unfold sevS
  dsimp only
  refine SmR.bnd (inside_sm hz hc ht hme he _ (by decide +kernel) (by decide +kernel) 6 h) (fun ks ks' l1 l1' b1 eks hl _ => ?_)
  have e3 := allE eks
  refine SmR.ite (by rw [exPs_len, exPs_len, eks.len]) (fun _ => SmR.ok hl (all_head (e := eE) rfl eks)) (fun _ => wholeE_sm ?_ hl)
  show bareE _ = bareE _
  simp only [bareE, bareEs, barePs, e3]
theorem atom_sm {l l' : List Tk} {b : Bool} (h : RR l l') : SmR (c :: r2) eE (atomS z ex l b) (atomS z' ex' (l' ++ c :: r2) b) := by
  unfold atomS
  dsimp only
  refine SmR.ite (kind_sm hz hc ht h 3 (by decide) (by decide)) (fun _ => SmR.bnd (number_sm hz hc ht h) (fun m m' l1 l1' b1 em hl _ => SmR.ok hl (by subst em; rfl))) (fun _ => ?_)
  refine SmR.ite (st_sm hz hc ht h _ (by decide +kernel) (.inr (by decide +kernel))) (fun _ => SmR.bnd (number_sm hz hc ht h) (fun m m' l1 l1' b1 em hl _ => SmR.ok hl (by subst em; rfl))) (fun _ => ?_)
  refine SmR.ite (kind_sm hz hc ht h 4 (by decide) (by decide)) (fun hh => SmR.bnd (take_sm hz hc ht h (ne_of_kind hz hh (by decide))) (fun u u' l1 l1' b1 eu hl _ => SmR.ok hl (by show bareE _ = bareE _; simp only [bareE, bareEs, barePs, (bt_k eu).2.2.2]))) (fun _ => ?_)
  refine SmR.ite (st_sm hz hc ht h _ (by decide +kernel) (.inr (by decide +kernel))) (fun hh => SmR.bnd (take_sm hz hc ht h (ne_of_st hz hh (by decide +kernel))) (fun u u' l1 l1' b1 eu hl _ => SmR.ok hl (by show bareE _ = bareE _; simp only [bareE, bareEs, barePs, (bt_k eu).2.1]))) (fun _ => ?_)
  refine SmR.ite (kind_sm hz hc ht h 1 (by decide) (by decide)) (fun hh => sm_end (named_sm hz hc ht hme he h (ne_of_kind hz hh (by decide)))) (fun _ => ?_)
  refine SmR.ite (kind_sm hz hc ht h 2 (by decide) (by decide)) (fun hh => SmR.bnd (take_sm hz hc ht h (ne_of_kind hz hh (by decide))) (fun u u' l1 l1' b1 eu hl _ => SmR.bnd (opt_sm hz hc ht hme he hl) (fun ks ks' l2 l2' b2 hks hl2 _ => wholeE_sm (by show bareE _ = bareE _; simp only [bareE, bareEs, barePs, (bt_k eu).2.1, allE hks]) hl2))) (fun _ => ?_)
  exact SmR.ite (st_sm hz hc ht h _ (by decide +kernel) (.inr (by decide +kernel))) (fun _ => sm_end (sev_sm hz hc ht hme he h)) (fun _ => SmR.err)
end
section
variable {p p' : Rd Ex} (hmp : Mono p) (hp : ∀ l l' b, RR l l' → SmR (c :: r2) eE (p l b) (p' (l' ++ c :: r2) b))
include hmp hp
theorem opr_sm (op : Int) {left left' : Ex} (hleft : eE left left') {l l' : List Tk} {b : Bool} (h : RR l l') (hl0 : l ≠ []) : SmR (c :: r2) eE (opS z p op left l b) (opS z' p' op left' (l' ++ c :: r2) b) := by
  unfold opS
  refine SmR.bnd (take_sm hz hc ht h hl0) (fun t t' l1 l1' b1 _ h1 _ => SmR.bnd (hp _ _ _ h1) (fun v v' l2 l2' b2 ev h2 _ => wholeE_sm ?_ h2))
  have hleft : bareE left = bareE left' := hleft
  show bareE _ = bareE _
  simp only [bareE, bareEs, barePs, hleft, ev]
theorem ch_sm (opf : ByteArray → Int × Bool) (ho : opf e0 = opf ⟨#[41]⟩) (hn : (opf e0).2 = false) : ∀ (n n' : Nat) (v v' : Ex) (l l' : List Tk) (b : Bool), l.length < n → l.length + (c :: r2).length < n' → eE v v' → RR l l' → SmR (c :: r2) eE (chS z opf p n v l b) (chS z' opf p' n' v' (l' ++ c :: r2) b)
  | 0, _, _, _, _, _, _, h, _, _, _ => absurd h (Nat.not_lt_zero _)
  | n + 1, 0, _, _, _, _, _, _, h, _, _ => absurd h (Nat.not_lt_zero _)
  | n + 1, n' + 1, v, v', l, l', b, h1, h2, hv, hl => by
    unfold chS
    have e1 := op_sm (z := z) (z' := z') (r2 := r2) hz hc ht hl opf ho
    rw [← e1]
    refine SmR.ite rfl (fun _ => SmR.ok hl hv) (fun hh => ?_)
    have hl0 : l ≠ [] := fun he => by
      subst he
      rw [(text6_nil (z := z) (z' := z') (c := c) (r2 := r2) hz hc ht).1, hn] at hh
      cases hh
    refine SmR.bnd (opr_sm hz hc ht hmp hp _ hv hl hl0) (fun w w' l1 l1' b1 ew hl1 hx => ?_)
    have q : l1.length < l.length := by
      unfold opS at hx
      obtain ⟨t, l2, b2, k1, k2⟩ := bnd_ok hx
      have q1 := (take_lt k1 hl0).1
      have q2 := (MonoR.bind (MonoR.of hmp (Nat.le_refl l2.length)) (fun v l3 b3 h3 => MonoR.bindE (fun w => MonoR.end' h3)) : MonoR l2.length _) _ _ _ k2
      omega
    exact ch_sm opf ho hn n n' _ _ l1 l1' b1 (by omega) (by omega) ew hl1
theorem chain_sm (opf : ByteArray → Int × Bool) (ho : opf e0 = opf ⟨#[41]⟩) (hn : (opf e0).2 = false) {l l' : List Tk} {b : Bool} (h : RR l l') : SmR (c :: r2) eE (chainS z opf p l b) (chainS z' opf p' (l' ++ c :: r2) b) := by
  unfold chainS
  refine SmR.bnd (hp _ _ _ h) (fun v v' l1 l1' b1 ev hl hx => ?_)
  have q := hmp _ _ _ _ _ hx
  exact ch_sm hz hc ht hmp hp opf ho hn _ _ v v' l1 l1' b1 (by omega) (by rw [List.length_append, hl.len]; omega) ev hl
end
section
variable {ex ex' : Rd Ex} (hme : Mono ex) (he : ∀ l l' b, RR l l' → SmR (c :: r2) eE (ex l b) (ex' (l' ++ c :: r2) b))
include hme he
theorem prod_sm {l l' : List Tk} {b : Bool} (h : RR l l') : SmR (c :: r2) eE (prodS z ex l b) (prodS z' ex' (l' ++ c :: r2) b) := by
  unfold prodS
  exact sm_end (chain_sm hz hc ht (mono_atom hme) (fun l l' b h => atom_sm hz hc ht hme he h) opTim (by decide +kernel) (by decide +kernel) h)
theorem sum_sm {l l' : List Tk} {b : Bool} (h : RR l l') : SmR (c :: r2) eE (sumS z ex l b) (sumS z' ex' (l' ++ c :: r2) b) := by
  unfold sumS
  exact sm_end (chain_sm hz hc ht (mono_prod hme) (fun l l' b h => prod_sm hz hc ht hme he h) opSum (by decide +kernel) (by decide +kernel) h)
theorem cmp_sm {l l' : List Tk} {b : Bool} (h : RR l l') : SmR (c :: r2) eE (cmpS z ex l b) (cmpS z' ex' (l' ++ c :: r2) b) := by
  unfold cmpS
  refine SmR.bnd (sum_sm hz hc ht hme he h) (fun v v' l1 l1' b1 ev hl _ => ?_)
  have e1 := op_sm (z := z) (z' := z') (r2 := r2) hz hc ht hl opComp (by decide +kernel)
  rw [← e1]
  refine SmR.ite rfl (fun hh => ?_) (fun _ => SmR.ok hl ev)
  have hl0 : l1 ≠ [] := fun hq => by
    subst hq
    rw [(text6_nil (z := z) (z' := z') (c := c) (r2 := r2) hz hc ht).1] at hh
    exact absurd hh (by decide +kernel)
  exact sm_end (opr_sm hz hc ht (mono_sum hme) (fun l l' b h => sum_sm hz hc ht hme he h) _ ev hl hl0)
variable {pt pt' : Rd Pt} (hmq : Mono pt) (hq : ∀ l l' b, RR l l' → SmR (c :: r2) eP (pt l b) (pt' (l' ++ c :: r2) b))
include hmq hq
theorem arm_sm {l l' : List Tk} {b : Bool} (h : RR l l') : SmR (c :: r2) eA (armS z ex pt l b) (armS z' ex' pt' (l' ++ c :: r2) b) := by
  unfold armS
  exact SmR.bnd (hq _ _ _ h) (fun v v' l1 l1' b1 ev hl _ => SmR.bnd (behind_sm hz hc ht hme he _ (by decide +kernel) hl) (fun w w' l2 l2' b2 ew hl2 _ => SmR.ok hl2 ⟨ev, ew⟩))
theorem match_sm {l l' : List Tk} {b : Bool} (h : RR l l') : SmR (c :: r2) eE (matchS z ex pt l b) (matchS z' ex' pt' (l' ++ c :: r2) b) := by
  unfold matchS
  dsimp only
  refine SmR.bnd (behind_sm hz hc ht hme he _ (by decide +kernel) h) (fun v v' l1 l1' b1 ev h1 _ => SmR.bnd (want_sm hz hc ht h1 _ (by decide +kernel)) (fun _ _ l2 l2' b2 _ h2 _ => SmR.bnd (skip_sm hz hc ht h2 _ (by decide +kernel) (.inr (by decide +kernel))) (fun _ _ l3 l3' b3 _ h3 _ => SmR.bnd (lis_sm hz hc ht (mono_arm hme hmq) (fun l l' b h => arm_sm hz hc ht hme he hmq hq h) _ (by decide +kernel) (by decide +kernel) 32 h3) (fun rs rs' l4 l4' b4 er h4 _ => SmR.bnd (want_sm hz hc ht h4 _ (by decide +kernel)) (fun _ _ l5 l5' b5 _ h5 _ => wholeE_sm ?_ h5)))))
  obtain ⟨q1, q2⟩ := allA er
  show bareE _ = bareE _
  simp only [bareE, bareEs, barePs, ev, q1, q2]
theorem expr_sm {l l' : List Tk} {b : Bool} (h : RR l l') : SmR (c :: r2) eE (exprS z ex pt l b) (exprS z' ex' pt' (l' ++ c :: r2) b) := by
  unfold exprS
  dsimp only
  have e5 := text5_sm (z := z) (z' := z') (r2 := r2) hz hc ht h
  rw [← e5]
  refine SmR.ite rfl (fun hh => sm_end (let_sm hz hc ht hme he h (ne_of_text hz hh (by decide) (by decide +kernel)))) (fun _ => ?_)
  refine SmR.ite rfl (fun hh => sm_end (cond_sm hz hc ht hme he h)) (fun _ => ?_)
  refine SmR.ite rfl (fun hh => sm_end (match_sm hz hc ht hme he hmq hq h)) (fun _ => ?_)
  refine SmR.ite rfl (fun hh => sm_end (loop_sm hz hc ht hme he h (ne_of_text hz hh (by decide) (by decide +kernel)))) (fun _ => ?_)
  exact sm_end (cmp_sm hz hc ht hme he h)
end
theorem pE_sm : ∀ (n n' : Nat), n ≤ n' → ∀ l l' b, RR l l' → SmR (c :: r2) eE (pE z n l b) (pE z' n' (l' ++ c :: r2) b)
  | 0, _, _, l, l', b, _ => SmR.err
  | n + 1, 0, h, _, _, _, _ => absurd h (by omega)
  | n + 1, n' + 1, h, l, l', b, hl => expr_sm hz hc ht (mono_E n) (pE_sm n n' (by omega)) (mono_P n) (pP_sm hz hc ht n n' (by omega)) hl
end
end Go.Proofs.YtjhnmikciejekaaGreat.Deep
