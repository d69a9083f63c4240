/-
  Texts of one proof, in their order. No condition.
-/
import Derived.Test.YtcmnjodjebcapaaGreatFpPkc
namespace Go.Proofs.YtcmnjodjebcapaaGreat.Deep
open Go.RowKit
set_option linter.unusedVariables false
set_option linter.unusedSimpArgs false
mutual
def bareP : Pt → Pt
  | .mk k _ _ n m ks => .mk k 0 0 n m (barePs ks)
def barePs : List Pt → List Pt
  | [] => []
  | t :: ts => bareP t :: barePs ts
end
mutual
def bareE : Ex → Ex
  | .mk k _ _ m b n ks ps bs => .mk k 0 0 m b n (bareEs ks) (barePs ps) (bareEs bs)
def bareEs : List Ex → List Ex
  | [] => []
  | t :: ts => bareE t :: bareEs ts
end
def alikeL {α : Type} (f : α → α → Bool) : List α → List α → Bool
  | [], [] => true
  | a :: l, b :: m => f a b && alikeL f l m
  | _, _ => false
theorem alikeL_len {α : Type} (f : α → α → Bool) : ∀ l m : List α, l.length ≠ m.length → alikeL f l m = false
  | [], [], h => absurd rfl h
  | [], b :: m, _ => rfl
  | a :: l, [], _ => rfl
  | a :: l, b :: m, h => by rw [alikeL, alikeL_len f l m (by simpa using h), Bool.and_false]
theorem alikeL_range {α : Type} (f : α → α → Bool) (d : α) : ∀ l m : List α, l.length = m.length → alikeL f l m = (List.range l.length).all fun j => f (l.getD j d) (m.getD j d)
  | [], [], _ => rfl
  | [], b :: m, h => by simp at h
  | a :: l, [], h => by simp at h
  | a :: l, b :: m, h => by
    rw [alikeL, alikeL_range f d l m (by simpa using h), List.length_cons, List.range_succ_eq_map, List.all_cons, List.all_map]
    rfl
theorem alikeL_all {α : Type} (f : α → α → Bool) (d : α) (l m : List α) : alikeL f l m = (decide (l.length = m.length) && (List.range l.length).all fun j => f (l.getD j d) (m.getD j d)) := by
  by_cases h : l.length = m.length
  · rw [alikeL_range f d l m h]; simp [h]
  · rw [alikeL_len f l m h]; simp [h]
mutual
def sameP : Pt → Pt → Bool
  | .mk k _ _ n m ks, .mk k' _ _ n' m' ks' => decide (k = k') && (decide (n = n') && (decide (m = m') && samePs ks ks'))
def samePs : List Pt → List Pt → Bool
  | [], [] => true
  | t :: ts, t' :: ts' => sameP t t' && samePs ts ts'
  | [], _ :: _ => false
  | _ :: _, [] => false
end
mutual
def sameE : Ex → Ex → Bool
  | .mk k _ _ m b n ks ps bs, .mk k' _ _ m' b' n' ks' ps' bs' => decide (k = k') && (decide (m = m') && (decide (b = b') && (decide (n = n') && (sameEs ks ks' && (samePs ps ps' && sameEs bs bs')))))
def sameEs : List Ex → List Ex → Bool
  | [], [] => true
  | t :: ts, t' :: ts' => sameE t t' && sameEs ts ts'
  | [], _ :: _ => false
  | _ :: _, [] => false
end
theorem samePs_l : ∀ l m : List Pt, samePs l m = alikeL sameP l m
  | [], [] => rfl
  | [], b :: m => rfl
  | a :: l, [] => rfl
  | a :: l, b :: m => by rw [samePs, alikeL, samePs_l l m]
theorem sameEs_l : ∀ l m : List Ex, sameEs l m = alikeL sameE l m
  | [], [] => rfl
  | [], b :: m => rfl
  | a :: l, [] => rfl
  | a :: l, b :: m => by rw [sameEs, alikeL, sameEs_l l m]
mutual
theorem sameP_iff : ∀ a b : Pt, sameP a b = true ↔ bareP a = bareP b
  | .mk k _ _ n m ks, .mk k' _ _ n' m' ks' => by
    unfold sameP bareP
    simp only [Bool.and_eq_true, decide_eq_true_eq, Pt.mk.injEq, samePs_iff ks ks', true_and]
theorem samePs_iff : ∀ a b : List Pt, samePs a b = true ↔ barePs a = barePs b
  | [], [] => by simp [samePs]
  | [], b :: m => by simp [samePs, barePs]
  | a :: l, [] => by simp [samePs, barePs]
  | a :: l, b :: m => by rw [samePs, Bool.and_eq_true, sameP_iff a b, samePs_iff l m, barePs, barePs, List.cons.injEq]
end
mutual
theorem sameE_iff : ∀ a b : Ex, sameE a b = true ↔ bareE a = bareE b
  | .mk k _ _ m b n ks ps bs, .mk k' _ _ m' b' n' ks' ps' bs' => by
    unfold sameE bareE
    simp only [Bool.and_eq_true, decide_eq_true_eq, Ex.mk.injEq, sameEs_iff ks ks', sameEs_iff bs bs', samePs_iff ps ps', true_and]
theorem sameEs_iff : ∀ a b : List Ex, sameEs a b = true ↔ bareEs a = bareEs b
  | [], [] => by simp [sameEs]
  | [], b :: m => by simp [sameEs, bareEs]
  | a :: l, [] => by simp [sameEs, bareEs]
  | a :: l, b :: m => by rw [sameEs, Bool.and_eq_true, sameE_iff a b, sameEs_iff l m, bareEs, bareEs, List.cons.injEq]
end
theorem sameE_self (e : Ex) : sameE e e = true := (sameE_iff _ _).2 rfl
end Go.Proofs.YtcmnjodjebcapaaGreat.Deep

namespace Go.Proofs.YtcmnjodjebcapaaGreat.Deep
open Go.RowKit
set_option linter.unusedVariables false
set_option linter.unusedSimpArgs false
def amP (a : Pt × Ex) : List PV := ptP a.1 ++ exP a.2
theorem cells_Pat (a : Pt) : ∃ x0 : Int, ∃ x1 : Int, ∃ x2 : Int, ∃ x3 : ByteArray, ∃ x4 : Int, ∃ x5 : List (List PV), ptP a = [.con (.int .i64 x0), .con (.int .i64 x1), .con (.int .i64 x2), .con (.string x3), .con (.int .i64 x4), .sl x5] := by
  obtain ⟨k, li, co, n, m, ks⟩ := a
  exact ⟨_, _, _, _, _, _, rfl⟩
theorem cells_Expr (a : Ex) : ∃ x0 : Int, ∃ x1 : Int, ∃ x2 : Int, ∃ x3 : Int, ∃ x4 : List (List PV), ∃ x5 : ByteArray, ∃ x6 : List (List PV), ∃ x7 : List (List PV), exP a = [.con (.int .i64 x0), .con (.int .i64 x1), .con (.int .i64 x2), .con (.int .i64 x3), .sl x4, .con (.string x5), .sl x6, .sl x7] := by
  obtain ⟨k, li, co, m, b, n, ks, ps, bs⟩ := a
  exact ⟨_, _, _, _, _, _, _, _, rfl⟩
theorem cells_Arm (a : Pt × Ex) : ∃ x0 : Int, ∃ x1 : Int, ∃ x2 : Int, ∃ x3 : ByteArray, ∃ x4 : Int, ∃ x5 : List (List PV), ∃ x6 : Int, ∃ x7 : Int, ∃ x8 : Int, ∃ x9 : Int, ∃ x10 : List (List PV), ∃ x11 : ByteArray, ∃ x12 : List (List PV), ∃ x13 : List (List PV), amP a = [.con (.int .i64 x0), .con (.int .i64 x1), .con (.int .i64 x2), .con (.string x3), .con (.int .i64 x4), .sl x5, .con (.int .i64 x6), .con (.int .i64 x7), .con (.int .i64 x8), .con (.int .i64 x9), .sl x10, .con (.string x11), .sl x12, .sl x13] := by
  obtain ⟨⟨k, li, co, n, m, ks⟩, ⟨k2, li2, co2, m2, b2, n2, ks2, ps2, bs2⟩⟩ := a
  exact ⟨_, _, _, _, _, _, _, _, _, _, _, _, _, _, rfl⟩
theorem ptPs_mp : ∀ ts : List Pt, ptPs ts = ts.map ptP
  | [] => rfl
  | t :: ts => by rw [ptPs, ptPs_mp ts]; rfl
theorem exPs_mp : ∀ ts : List Ex, exPs ts = ts.map exP
  | [] => rfl
  | t :: ts => by rw [exPs, exPs_mp ts]; rfl
theorem arPs_mp : ∀ (bs : List Ex) (ps : List Pt), arPs bs ps = (ps.zip bs).map amP
  | [], ps => by cases ps <;> rfl
  | b :: bs, [] => rfl
  | b :: bs, p :: ps => by rw [arPs, arPs_mp bs ps]; rfl
theorem len_eq (a b : Nat) : (((a : Int) : Int) == (b : Int)) = decide (a = b) := by
  rw [Bool.eq_iff_iff]; simp; omega
theorem beq_str (s t : ByteArray) : (ByteArray.toList s == ByteArray.toList t) = decide (s = t) := by
  rw [Lib.toList_data, Lib.toList_data, Bool.eq_iff_iff]
  simp only [beq_iff_eq, decide_eq_true_eq]
  exact ⟨fun h => by cases s; cases t; simp at h; rw [h], fun h => by rw [h]⟩
theorem beq_by (a b : List UInt8) : (ByteArray.toList ⟨List.toArray a⟩ == ByteArray.toList ⟨List.toArray b⟩) = decide (a = b) := by
  rw [Lib.toList_data, Lib.toList_data, Bool.eq_iff_iff]
  simp
theorem beq_int (a b : Int) : (a == b) = decide (a = b) := by rw [Bool.eq_iff_iff]; simp
theorem oneL_of {y : List PV} {n : Nat} (h : y.length = n) (h1 : y.all PV.one = true) : ∀ z ∈ [y], z.length = n ∧ ∀ p ∈ z, PV.one p = true := by
  intro z hz
  obtain rfl : z = y := by simpa using hz
  exact ⟨h, fun p hp => List.all_eq_true.1 h1 p hp⟩
theorem smallPts_mem {ps : List Pt} (h : smallPts ps) : ∀ t ∈ ps, smallPt t := fun t ht => by
  obtain ⟨i, hi, rfl⟩ := List.getElem_of_mem ht; exact smallPts_get ps h i hi
theorem smallExs_mem {ps : List Ex} (h : smallExs ps) : ∀ t ∈ ps, smallEx t := fun t ht => by
  obtain ⟨i, hi, rfl⟩ := List.getElem_of_mem ht; exact smallExs_get ps h i hi
theorem wfExs_mem : ∀ {ps : List Ex}, wfExs ps → ∀ t ∈ ps, wfEx t
  | [], _, t, ht => by cases ht
  | x :: l, h, t, ht => by
    rcases List.mem_cons.1 ht with rfl | ht
    · exact h.1
    · exact wfExs_mem h.2 t ht
theorem Ty.indM {M : Ty → Prop} (h : ∀ k n ps, (∀ p ∈ ps, M p) → M (.mk k n ps)) (t : Ty) : M t :=
  Ty.ind (fun k n ps ih => h k n ps fun p hp => by obtain ⟨i, hi, rfl⟩ := List.getElem_of_mem hp; exact ih i hi) t
theorem Pt.indM {M : Pt → Prop} (h : ∀ k li co n m ps, (∀ p ∈ ps, M p) → M (.mk k li co n m ps)) (t : Pt) : M t :=
  Pt.ind (fun k li co n m ps ih => h k li co n m ps fun p hp => by obtain ⟨i, hi, rfl⟩ := List.getElem_of_mem hp; exact ih i hi) t
theorem Ex.indM {M : Ex → Prop} (h : ∀ k li co m b n ks ps bs, (∀ p ∈ ks, M p) → (∀ p ∈ bs, M p) → M (.mk k li co m b n ks ps bs)) (t : Ex) : M t :=
  Ex.ind (fun k li co m b n ks ps bs ih ihb => h k li co m b n ks ps bs (fun p hp => by obtain ⟨i, hi, rfl⟩ := List.getElem_of_mem hp; exact ih i hi) (fun p hp => by obtain ⟨i, hi, rfl⟩ := List.getElem_of_mem hp; exact ihb i hi)) t
theorem arms_same : ∀ (ps ps' : List Pt) (bs bs' : List Ex), ps.length = bs.length → ps'.length = bs'.length → alikeL (fun a b : Pt × Ex => sameP a.1 b.1 && sameE a.2 b.2) (ps.zip bs) (ps'.zip bs') = (samePs ps ps' && sameEs bs bs')
  | [], [], [], [], _, _ => rfl
  | [], p :: ps, [], b :: bs, _, _ => rfl
  | p :: ps, [], b :: bs, [], _, _ => rfl
  | p :: ps, p' :: ps', b :: bs, b' :: bs', h, h' => by
    have ih := arms_same ps ps' bs bs' (by simpa using h) (by simpa using h')
    rw [List.zip_cons_cons, List.zip_cons_cons, alikeL, ih, samePs, sameEs]
    cases sameP p p' <;> cases sameE b b' <;> simp
  | [], _, b :: bs, _, h, _ => by simp at h
  | p :: ps, _, [], _, h, _ => by simp at h
  | _, [], _, b :: bs, _, h => by simp at h
  | _, p :: ps, _, [], _, h => by simp at h
end Go.Proofs.YtcmnjodjebcapaaGreat.Deep

namespace Go.Proofs.YtcmnjodjebcapaaGreat.Deep
open Go.RowKit
set_option linter.unusedVariables false
set_option linter.unusedSimpArgs false
theorem nmP_app2 (a b : List ByteArray) : nmP a ++ nmP b = nmP (a ++ b) := by simp [nmP]
theorem one_names (l : List ByteArray) : ∀ y ∈ nmP l, y.length = 1 ∧ ∀ p ∈ y, PV.one p = true := by
  intro y hy
  obtain ⟨s, _, rfl⟩ := List.mem_map.1 hy
  exact oneL_of rfl rfl _ (List.mem_singleton.2 rfl)
theorem rhas_p (l : List ByteArray) (s : ByteArray) (hl : l.length ≤ 1099511627776) : PCalls Tryz.prog 30 [.sl (nmP l), .con (.string s)] (fun r => r = .con (.bool (decide (s ∈ l)))) := by
  refine a30 _ _ _ ?_
  unfold p30
  rw [nmP_len]
  refine ⟨fun c v => ∃ j : Nat, j ≤ l.length ∧ c = l.length - j ∧ v.1 = (j : Int) ∧ s ∉ l.take j, ⟨_, 0, Nat.zero_le _, rfl, rfl, by simp⟩, ?_⟩
  rintro c ⟨i, u⟩ ⟨j, hj, rfl, hi, hn⟩
  dsimp only at hi hn ⊢
  subst hi
  refine br_i (fun hlt => ?_) (fun hge => ?_)
  · have hlt : j < l.length := by simpa using hlt
    refine ⟨_, ⟨by omega, by rw [Int.toNat_natCast]; exact nmP_get l j hlt, ?_⟩⟩
    rw [beq_str]
    refine br_i (fun h => ⟨?_, rfl⟩) (fun h => ?_)
    · have h : l[j] = s := by simpa using h
      have : s ∈ l := h ▸ List.getElem_mem hlt
      simp [this]
    · have h : ¬ l[j] = s := by simpa using h
      refine ⟨⟨rfl, rfl, trivial⟩, rfl, l.length - (j + 1), by omega, j + 1, by omega, rfl, by rw [wrap_id (by omega) (by omega)]; simp, ?_⟩
      rw [List.take_succ_eq_append_getElem hlt, List.mem_append, List.mem_singleton]
      exact fun q => q.elim hn (fun e => h e.symm)
  have hge : ¬ j < l.length := by simpa using hge
  obtain rfl : j = l.length := by omega
  rw [List.take_length] at hn
  exact ⟨by simp [hn], rfl⟩
theorem rvars_p (t : Pt) : smallPt t → uP t ≤ 1000000 → PCalls Tryz.prog 31 [.agg (ptP t)] (fun r => r = .sl (nmP (varsP t))) := by
  induction t using Pt.indM with
  | h k li co n m ks ih =>
  intro hs hu
  unfold smallPt at hs
  unfold uP at hu
  have hsz := hs.2.1
  refine pcalls_weak (a31 _ _ _ _ _ _ _ ?_)
  unfold p31 varsP
  rw [ptPs_len]
  refine br_i (fun h => ?_) (fun h => ?_)
  · have h : k = 1 := by simpa using h
    rw [if_pos h]
    refine ⟨by simp only [List.length_cons, List.length_nil]; omega, one_name n, ?_⟩
    refine ⟨fun c v => ∃ j : Nat, j ≤ ks.length ∧ c = ks.length - j ∧ v.1 = nmP ([n] ++ varsPs (ks.take j)) ∧ v.2.1 = (j : Int), ⟨_, 0, Nat.zero_le _, rfl, by simp [varsPs, nmP], rfl⟩, ?_⟩
    rintro c ⟨x, i, u⟩ ⟨j, hj, rfl, hx, hi⟩
    dsimp only at hi hx ⊢
    subst hi hx
    refine br_i (fun hlt => ?_) (fun hge => ?_)
    · have hlt : j < ks.length := by simpa using hlt
      have hu2 := uPs_take ks j hlt
      have hv := varsPs_len (ks.take j)
      have hv2 := varsP_len ks[j]
      have hc := ih ks[j] (List.getElem_mem hlt) (smallPts_mem hs.2.2 _ (List.getElem_mem hlt)) (by omega)
      have hidx : (ptPs ks)[j]? = some (ptP ks[j]) := ptPs_get ks j hlt
      have hsn := varsPs_take ks j hlt
      obtain ⟨x0, x1, x2, x3, x4, x5, ex⟩ := cells_Pat ks[j]
      rw [ex] at hidx hc
      refine ⟨_, _, _, _, _, _, ⟨by omega, by rw [Int.toNat_natCast]; exact hidx, ?_⟩⟩
      refine ⟨_, call_p (enters_of Tryz.func31 (by kernel_rfl) rfl) hc rfl ?_⟩
      refine ⟨by rw [nmP_len, nmP_len, List.length_append]; simp only [List.length_cons, List.length_nil]; omega, one_names _, ?_⟩
      exact ⟨⟨rfl, trivial⟩, rfl, ks.length - (j + 1), by omega, j + 1, by omega, rfl, by rw [hsn, nmP_app2, List.append_assoc], by rw [wrap_id (by omega) (by omega)]; simp⟩
    have hge : ¬ j < ks.length := by simpa using hge
    obtain rfl : j = ks.length := by omega
    rw [List.take_length]
    exact ⟨rfl, rfl⟩
  have h : ¬ k = 1 := by simpa using h
  rw [if_neg h]
  refine ⟨fun c v => ∃ j : Nat, j ≤ ks.length ∧ c = ks.length - j ∧ v.1 = nmP ([] ++ varsPs (ks.take j)) ∧ v.2.1 = (j : Int), ⟨_, 0, Nat.zero_le _, rfl, by simp [varsPs, nmP], rfl⟩, ?_⟩
  rintro c ⟨x, i, u⟩ ⟨j, hj, rfl, hx, hi⟩
  dsimp only at hi hx ⊢
  subst hi hx
  refine br_i (fun hlt => ?_) (fun hge => ?_)
  · have hlt : j < ks.length := by simpa using hlt
    have hu2 := uPs_take ks j hlt
    have hv := varsPs_len (ks.take j)
    have hv2 := varsP_len ks[j]
    have hc := ih ks[j] (List.getElem_mem hlt) (smallPts_mem hs.2.2 _ (List.getElem_mem hlt)) (by omega)
    have hidx : (ptPs ks)[j]? = some (ptP ks[j]) := ptPs_get ks j hlt
    have hsn := varsPs_take ks j hlt
    obtain ⟨x0, x1, x2, x3, x4, x5, ex⟩ := cells_Pat ks[j]
    rw [ex] at hidx hc
    refine ⟨_, _, _, _, _, _, ⟨by omega, by rw [Int.toNat_natCast]; exact hidx, ?_⟩⟩
    refine ⟨_, call_p (enters_of Tryz.func31 (by kernel_rfl) rfl) hc rfl ?_⟩
    refine ⟨by rw [nmP_len, nmP_len, List.length_append]; simp only [List.length_cons, List.length_nil]; omega, one_names _, ?_⟩
    exact ⟨⟨rfl, trivial⟩, rfl, ks.length - (j + 1), by omega, j + 1, by omega, rfl, by rw [hsn, nmP_app2, List.append_assoc], by rw [wrap_id (by omega) (by omega)]; simp⟩
  have hge : ¬ j < ks.length := by simpa using hge
  obtain rfl : j = ks.length := by omega
  rw [List.take_length]
  exact ⟨rfl, rfl⟩
end Go.Proofs.YtcmnjodjebcapaaGreat.Deep

namespace Go.Proofs.YtcmnjodjebcapaaGreat.Deep
open Go.RowKit
set_option linter.unusedVariables false
def p193sP (l1 l2 : List (List PV)) (Q : PV → Heap → Prop) : Prop :=
∃ b3 : Bool, CallN Tryz.prog 171 [l1, (.con (.bool (((List.length l1 : Int) : Int) == (List.length l2 : Int)))), (.fn 197 [(.ept [(.fn 153 [])] 0), (.ept [l2] 0)])] [[], []] b3
  (Q b3 [[], []])
theorem a193sP (l1 l2 : List (List PV)) (Q : PV → Heap → Prop) (h : p193sP l1 l2 Q) : ACalls Tryz.prog 193 [l1, l2, (.fn 153 [])] [] Q := by
  have hb : Option.some (bodyOf Tryz.f193) = Tryz.f193.body := by kernel_rfl
  exact acalls_eq (S := S) (L := loops33) mixed tok Tryz.func193 hb.symm (by kernel_rfl) h
def loops171sP (id : Nat) : Option (List Nat × List (Nat × Sh)) := match Nat.beq id 2 with | true => some ([2, 9, 10], [(1, .bool), (11, .int .i64)]) | false => none
def p171sP (l1 : List (List PV)) (b2 : Bool) (l3 : List (List PV)) (Q : PV → Heap → Prop) : Prop :=
∃ I4 : Nat → ((Bool) × (Int) × Unit) → Prop, (∃ n, I4 n (b2, 0, ())) ∧ ∀ (n5 : Nat) (v6 : (Bool) × (Int) × Unit), I4 n5 v6 →
  (br ((decide ((v6.2.1 : Int) < (List.length l1 : Int))))
  (∃ i7 : Int, ∃ i8 : Int, ∃ i9 : Int, ∃ s10 : ByteArray, ∃ i11 : Int, ∃ l12 : List (List PV), IdxN l1 v6.2.1 [i7, i8, i9, s10, i11, l12]
  (∃ b13 : Bool, CallN Tryz.prog 197 [v6.1, v6.2.1, (.agg [i7, i8, i9, s10, i11, l12]), (.ept [(.fn 153 [])] 0), (.ept [l3] 0)] [[i7, i8, i9, s10, i11, l12]] b13
  ((@Eq PV (.fn 197 [(.ept [(.fn 153 [])] 0), (.ept [l3] 0)]) (.fn 197 [(.ept [(.fn 153 [])] 0), (.ept [l3] 0)]) ∧ @Eq PV l1 l1 ∧ @Eq PV (.con (.int .i64 (List.length l1 : Int))) (.con (.int .i64 (List.length l1 : Int))) ∧ True) ∧ @Eq Heap [] [] ∧ ∃ k14, k14 < n5 ∧ I4 k14 (b13, (IntKind.wrap .i64 (v6.2.1 + 1)), ()))))
  (Q v6.1 []))
theorem a171sP (l1 : List (List PV)) (b2 : Bool) (l3 : List (List PV)) (Q : PV → Heap → Prop) (h : p171sP l1 b2 l3 Q) : ACalls Tryz.prog 171 [l1, b2, (.fn 197 [(.ept [(.fn 153 [])] 0), (.ept [l3] 0)])] [] Q := by
  have hb : Option.some (bodyOf Tryz.f171) = Tryz.f171.body := by kernel_rfl
  exact acalls_eq (S := S) (L := loops171sP) mixed tok Tryz.func171 hb.symm (by kernel_rfl) h
def p197sP (b1 : Bool) (i2 i3 i4 i5 : Int) (s6 : ByteArray) (i7 : Int) (l8 l9 : List (List PV)) (Q : PV → Heap → Prop) : Prop :=
br (b1)
  (∃ i10 : Int, ∃ i11 : Int, ∃ i12 : Int, ∃ s13 : ByteArray, ∃ i14 : Int, ∃ l15 : List (List PV), IdxN l9 i2 [i10, i11, i12, s13, i14, l15]
  (∃ b16 : Bool, CallN Tryz.prog 153 [(.agg [i3, i4, i5, s6, i7, l8]), (.agg [i10, i11, i12, s13, i14, l15])] [] b16
  (Q b16 [[i3, i4, i5, s6, i7, l8]])))
  (Q (.con (.bool false)) [[i3, i4, i5, s6, i7, l8]])
theorem a197sP (b1 : Bool) (i2 i3 i4 i5 : Int) (s6 : ByteArray) (i7 : Int) (l8 l9 : List (List PV)) (Q : PV → Heap → Prop) (h : p197sP b1 i2 i3 i4 i5 s6 i7 l8 l9 Q) : ACalls Tryz.prog 197 [b1, i2, (.agg [i3, i4, i5, s6, i7, l8]), (.ept [(.fn 153 [])] 0), (.ept [l9] 0)] [] Q := by
  have hb : Option.some (bodyOf Tryz.f197) = Tryz.f197.body := by kernel_rfl
  exact acalls_eq (S := S) (L := loops33) mixed tok Tryz.func197 hb.symm (by kernel_rfl) h
def p75sE (l1 l2 : List (List PV)) (Q : PV → Heap → Prop) : Prop :=
∃ b3 : Bool, CallN Tryz.prog 149 [l1, (.con (.bool (((List.length l1 : Int) : Int) == (List.length l2 : Int)))), (.fn 150 [(.ept [(.fn 28 [])] 0), (.ept [l2] 0)])] [[], []] b3
  (Q b3 [[], []])
theorem a75sE (l1 l2 : List (List PV)) (Q : PV → Heap → Prop) (h : p75sE l1 l2 Q) : ACalls Tryz.prog 75 [l1, l2, (.fn 28 [])] [] Q := by
  have hb : Option.some (bodyOf Tryz.f75) = Tryz.f75.body := by kernel_rfl
  exact acalls_eq (S := S) (L := loops33) mixed tok Tryz.func75 hb.symm (by kernel_rfl) h
def loops149sE (id : Nat) : Option (List Nat × List (Nat × Sh)) := match Nat.beq id 2 with | true => some ([2, 9, 10], [(1, .bool), (11, .int .i64)]) | false => none
def p149sE (l1 : List (List PV)) (b2 : Bool) (l3 : List (List PV)) (Q : PV → Heap → Prop) : Prop :=
∃ I4 : Nat → ((Bool) × (Int) × Unit) → Prop, (∃ n, I4 n (b2, 0, ())) ∧ ∀ (n5 : Nat) (v6 : (Bool) × (Int) × Unit), I4 n5 v6 →
  (br ((decide ((v6.2.1 : Int) < (List.length l1 : Int))))
  (∃ i7 : Int, ∃ i8 : Int, ∃ i9 : Int, ∃ i10 : Int, ∃ l11 : List (List PV), ∃ s12 : ByteArray, ∃ l13 : List (List PV), ∃ l14 : List (List PV), IdxN l1 v6.2.1 [i7, i8, i9, i10, l11, s12, l13, l14]
  (∃ b15 : Bool, CallN Tryz.prog 150 [v6.1, v6.2.1, (.agg [i7, i8, i9, i10, l11, s12, l13, l14]), (.ept [(.fn 28 [])] 0), (.ept [l3] 0)] [[i7, i8, i9, i10, l11, s12, l13, l14]] b15
  ((@Eq PV (.fn 150 [(.ept [(.fn 28 [])] 0), (.ept [l3] 0)]) (.fn 150 [(.ept [(.fn 28 [])] 0), (.ept [l3] 0)]) ∧ @Eq PV l1 l1 ∧ @Eq PV (.con (.int .i64 (List.length l1 : Int))) (.con (.int .i64 (List.length l1 : Int))) ∧ True) ∧ @Eq Heap [] [] ∧ ∃ k16, k16 < n5 ∧ I4 k16 (b15, (IntKind.wrap .i64 (v6.2.1 + 1)), ()))))
  (Q v6.1 []))
theorem a149sE (l1 : List (List PV)) (b2 : Bool) (l3 : List (List PV)) (Q : PV → Heap → Prop) (h : p149sE l1 b2 l3 Q) : ACalls Tryz.prog 149 [l1, b2, (.fn 150 [(.ept [(.fn 28 [])] 0), (.ept [l3] 0)])] [] Q := by
  have hb : Option.some (bodyOf Tryz.f149) = Tryz.f149.body := by kernel_rfl
  exact acalls_eq (S := S) (L := loops149sE) mixed tok Tryz.func149 hb.symm (by kernel_rfl) h
def p150sE (b1 : Bool) (i2 i3 i4 i5 i6 : Int) (l7 : List (List PV)) (s8 : ByteArray) (l9 l10 l11 : List (List PV)) (Q : PV → Heap → Prop) : Prop :=
br (b1)
  (∃ i12 : Int, ∃ i13 : Int, ∃ i14 : Int, ∃ i15 : Int, ∃ l16 : List (List PV), ∃ s17 : ByteArray, ∃ l18 : List (List PV), ∃ l19 : List (List PV), IdxN l11 i2 [i12, i13, i14, i15, l16, s17, l18, l19]
  (∃ b20 : Bool, CallN Tryz.prog 28 [(.agg [i3, i4, i5, i6, l7, s8, l9, l10]), (.agg [i12, i13, i14, i15, l16, s17, l18, l19])] [] b20
  (Q b20 [[i3, i4, i5, i6, l7, s8, l9, l10]])))
  (Q (.con (.bool false)) [[i3, i4, i5, i6, l7, s8, l9, l10]])
theorem a150sE (b1 : Bool) (i2 i3 i4 i5 i6 : Int) (l7 : List (List PV)) (s8 : ByteArray) (l9 l10 l11 : List (List PV)) (Q : PV → Heap → Prop) (h : p150sE b1 i2 i3 i4 i5 i6 l7 s8 l9 l10 l11 Q) : ACalls Tryz.prog 150 [b1, i2, (.agg [i3, i4, i5, i6, l7, s8, l9, l10]), (.ept [(.fn 28 [])] 0), (.ept [l11] 0)] [] Q := by
  have hb : Option.some (bodyOf Tryz.f150) = Tryz.f150.body := by kernel_rfl
  exact acalls_eq (S := S) (L := loops33) mixed tok Tryz.func150 hb.symm (by kernel_rfl) h
def p76sA (l1 l2 : List (List PV)) (Q : PV → Heap → Prop) : Prop :=
∃ b3 : Bool, CallN Tryz.prog 151 [l1, (.con (.bool (((List.length l1 : Int) : Int) == (List.length l2 : Int)))), (.fn 152 [(.ept [(.fn 77 [])] 0), (.ept [l2] 0)])] [[], []] b3
  (Q b3 [[], []])
theorem a76sA (l1 l2 : List (List PV)) (Q : PV → Heap → Prop) (h : p76sA l1 l2 Q) : ACalls Tryz.prog 76 [l1, l2, (.fn 77 [])] [] Q := by
  have hb : Option.some (bodyOf Tryz.f76) = Tryz.f76.body := by kernel_rfl
  exact acalls_eq (S := S) (L := loops33) mixed tok Tryz.func76 hb.symm (by kernel_rfl) h
def loops151sA (id : Nat) : Option (List Nat × List (Nat × Sh)) := match Nat.beq id 2 with | true => some ([2, 9, 10], [(1, .bool), (11, .int .i64)]) | false => none
def p151sA (l1 : List (List PV)) (b2 : Bool) (l3 : List (List PV)) (Q : PV → Heap → Prop) : Prop :=
∃ I4 : Nat → ((Bool) × (Int) × Unit) → Prop, (∃ n, I4 n (b2, 0, ())) ∧ ∀ (n5 : Nat) (v6 : (Bool) × (Int) × Unit), I4 n5 v6 →
  (br ((decide ((v6.2.1 : Int) < (List.length l1 : Int))))
  (∃ i7 : Int, ∃ i8 : Int, ∃ i9 : Int, ∃ s10 : ByteArray, ∃ i11 : Int, ∃ l12 : List (List PV), ∃ i13 : Int, ∃ i14 : Int, ∃ i15 : Int, ∃ i16 : Int, ∃ l17 : List (List PV), ∃ s18 : ByteArray, ∃ l19 : List (List PV), ∃ l20 : List (List PV), IdxN l1 v6.2.1 [i7, i8, i9, s10, i11, l12, i13, i14, i15, i16, l17, s18, l19, l20]
  (∃ b21 : Bool, CallN Tryz.prog 152 [v6.1, v6.2.1, (.agg [i7, i8, i9, s10, i11, l12, i13, i14, i15, i16, l17, s18, l19, l20]), (.ept [(.fn 77 [])] 0), (.ept [l3] 0)] [[i7, i8, i9, s10, i11, l12, i13, i14, i15, i16, l17, s18, l19, l20]] b21
  ((@Eq PV (.fn 152 [(.ept [(.fn 77 [])] 0), (.ept [l3] 0)]) (.fn 152 [(.ept [(.fn 77 [])] 0), (.ept [l3] 0)]) ∧ @Eq PV l1 l1 ∧ @Eq PV (.con (.int .i64 (List.length l1 : Int))) (.con (.int .i64 (List.length l1 : Int))) ∧ True) ∧ @Eq Heap [] [] ∧ ∃ k22, k22 < n5 ∧ I4 k22 (b21, (IntKind.wrap .i64 (v6.2.1 + 1)), ()))))
  (Q v6.1 []))
theorem a151sA (l1 : List (List PV)) (b2 : Bool) (l3 : List (List PV)) (Q : PV → Heap → Prop) (h : p151sA l1 b2 l3 Q) : ACalls Tryz.prog 151 [l1, b2, (.fn 152 [(.ept [(.fn 77 [])] 0), (.ept [l3] 0)])] [] Q := by
  have hb : Option.some (bodyOf Tryz.f151) = Tryz.f151.body := by kernel_rfl
  exact acalls_eq (S := S) (L := loops151sA) mixed tok Tryz.func151 hb.symm (by kernel_rfl) h
def p152sA (b1 : Bool) (i2 i3 i4 i5 : Int) (s6 : ByteArray) (i7 : Int) (l8 : List (List PV)) (i9 i10 i11 i12 : Int) (l13 : List (List PV)) (s14 : ByteArray) (l15 l16 l17 : List (List PV)) (Q : PV → Heap → Prop) : Prop :=
br (b1)
  (∃ i18 : Int, ∃ i19 : Int, ∃ i20 : Int, ∃ s21 : ByteArray, ∃ i22 : Int, ∃ l23 : List (List PV), ∃ i24 : Int, ∃ i25 : Int, ∃ i26 : Int, ∃ i27 : Int, ∃ l28 : List (List PV), ∃ s29 : ByteArray, ∃ l30 : List (List PV), ∃ l31 : List (List PV), IdxN l17 i2 [i18, i19, i20, s21, i22, l23, i24, i25, i26, i27, l28, s29, l30, l31]
  (∃ b32 : Bool, CallN Tryz.prog 77 [(.agg [i3, i4, i5, s6, i7, l8, i9, i10, i11, i12, l13, s14, l15, l16]), (.agg [i18, i19, i20, s21, i22, l23, i24, i25, i26, i27, l28, s29, l30, l31])] [] b32
  (Q b32 [[i3, i4, i5, s6, i7, l8, i9, i10, i11, i12, l13, s14, l15, l16]])))
  (Q (.con (.bool false)) [[i3, i4, i5, s6, i7, l8, i9, i10, i11, i12, l13, s14, l15, l16]])
theorem a152sA (b1 : Bool) (i2 i3 i4 i5 : Int) (s6 : ByteArray) (i7 : Int) (l8 : List (List PV)) (i9 i10 i11 i12 : Int) (l13 : List (List PV)) (s14 : ByteArray) (l15 l16 l17 : List (List PV)) (Q : PV → Heap → Prop) (h : p152sA b1 i2 i3 i4 i5 s6 i7 l8 i9 i10 i11 i12 l13 s14 l15 l16 l17 Q) : ACalls Tryz.prog 152 [b1, i2, (.agg [i3, i4, i5, s6, i7, l8, i9, i10, i11, i12, l13, s14, l15, l16]), (.ept [(.fn 77 [])] 0), (.ept [l17] 0)] [] Q := by
  have hb : Option.some (bodyOf Tryz.f152) = Tryz.f152.body := by kernel_rfl
  exact acalls_eq (S := S) (L := loops33) mixed tok Tryz.func152 hb.symm (by kernel_rfl) h
def p153 (i1 i2 i3 : Int) (s4 : ByteArray) (i5 : Int) (l6 : List (List PV)) (i7 i8 i9 : Int) (s10 : ByteArray) (i11 : Int) (l12 : List (List PV)) (Q : PV → Heap → Prop) : Prop :=
br (((i1 : Int) == i7))
  (br ((ByteArray.toList s4 == ByteArray.toList s10))
  (br (((i5 : Int) == i11))
  (∃ b13 : Bool, CallN Tryz.prog 193 [l6, l12, (.fn 153 [])] [[i1, i2, i3, s4, i5, l6], [i7, i8, i9, s10, i11, l12]] b13
  (Q b13 [[i1, i2, i3, s4, i5, l6], [i7, i8, i9, s10, i11, l12]]))
  (Q (.con (.bool false)) [[i1, i2, i3, s4, i5, l6], [i7, i8, i9, s10, i11, l12]]))
  (Q (.con (.bool false)) [[i1, i2, i3, s4, i5, l6], [i7, i8, i9, s10, i11, l12]]))
  (Q (.con (.bool false)) [[i1, i2, i3, s4, i5, l6], [i7, i8, i9, s10, i11, l12]])
theorem a153 (i1 i2 i3 : Int) (s4 : ByteArray) (i5 : Int) (l6 : List (List PV)) (i7 i8 i9 : Int) (s10 : ByteArray) (i11 : Int) (l12 : List (List PV)) (Q : PV → Heap → Prop) (h : p153 i1 i2 i3 s4 i5 l6 i7 i8 i9 s10 i11 l12 Q) : ACalls Tryz.prog 153 [(.agg [i1, i2, i3, s4, i5, l6]), (.agg [i7, i8, i9, s10, i11, l12])] [] Q := by
  have hb : Option.some (bodyOf Tryz.f153) = Tryz.f153.body := by kernel_rfl
  exact acalls_eq (S := S) (L := loops33) mixed tok Tryz.func153 hb.symm (by kernel_rfl) h
def p28 (i1 i2 i3 i4 : Int) (l5 : List (List PV)) (s6 : ByteArray) (l7 l8 : List (List PV)) (i9 i10 i11 i12 : Int) (l13 : List (List PV)) (s14 : ByteArray) (l15 l16 : List (List PV)) (Q : PV → Heap → Prop) : Prop :=
br (((i1 : Int) == i9))
  (br (((i4 : Int) == i12))
  (br ((ByteArray.toList s6 == ByteArray.toList s14))
  (∃ y17 : List UInt8, BytesN Tryz.prog 29 9 l5 y17
  (∃ y18 : List UInt8, BytesN Tryz.prog 29 9 l13 y18
  (br ((ByteArray.toList ⟨List.toArray y17⟩ == ByteArray.toList ⟨List.toArray y18⟩))
  (∃ b19 : Bool, CallN Tryz.prog 75 [l7, l15, (.fn 28 [])] [[i1, i2, i3, i4, l5, s6, l7, l8], [i9, i10, i11, i12, l13, s14, l15, l16]] b19
  (br (b19)
  (∃ b20 : Bool, CallN Tryz.prog 76 [l8, l16, (.fn 77 [])] [[i1, i2, i3, i4, l5, s6, l7, l8], [i9, i10, i11, i12, l13, s14, l15, l16]] b20
  (Q b20 [[i1, i2, i3, i4, l5, s6, l7, l8], [i9, i10, i11, i12, l13, s14, l15, l16]]))
  (Q (.con (.bool false)) [[i1, i2, i3, i4, l5, s6, l7, l8], [i9, i10, i11, i12, l13, s14, l15, l16]])))
  (Q (.con (.bool false)) [[i1, i2, i3, i4, l5, s6, l7, l8], [i9, i10, i11, i12, l13, s14, l15, l16]]))))
  (Q (.con (.bool false)) [[i1, i2, i3, i4, l5, s6, l7, l8], [i9, i10, i11, i12, l13, s14, l15, l16]]))
  (Q (.con (.bool false)) [[i1, i2, i3, i4, l5, s6, l7, l8], [i9, i10, i11, i12, l13, s14, l15, l16]]))
  (Q (.con (.bool false)) [[i1, i2, i3, i4, l5, s6, l7, l8], [i9, i10, i11, i12, l13, s14, l15, l16]])
theorem a28 (i1 i2 i3 i4 : Int) (l5 : List (List PV)) (s6 : ByteArray) (l7 l8 : List (List PV)) (i9 i10 i11 i12 : Int) (l13 : List (List PV)) (s14 : ByteArray) (l15 l16 : List (List PV)) (Q : PV → Heap → Prop) (h : p28 i1 i2 i3 i4 l5 s6 l7 l8 i9 i10 i11 i12 l13 s14 l15 l16 Q) : ACalls Tryz.prog 28 [(.agg [i1, i2, i3, i4, l5, s6, l7, l8]), (.agg [i9, i10, i11, i12, l13, s14, l15, l16])] [] Q := by
  have hb : Option.some (bodyOf Tryz.f28) = Tryz.f28.body := by kernel_rfl
  exact acalls_eq (S := S) (L := loops33) mixed tok Tryz.func28 hb.symm (by kernel_rfl) h
def p77 (i1 i2 i3 : Int) (s4 : ByteArray) (i5 : Int) (l6 : List (List PV)) (i7 i8 i9 i10 : Int) (l11 : List (List PV)) (s12 : ByteArray) (l13 l14 : List (List PV)) (i15 i16 i17 : Int) (s18 : ByteArray) (i19 : Int) (l20 : List (List PV)) (i21 i22 i23 i24 : Int) (l25 : List (List PV)) (s26 : ByteArray) (l27 l28 : List (List PV)) (Q : PV → Heap → Prop) : Prop :=
∃ b29 : Bool, CallN Tryz.prog 153 [(.agg [i1, i2, i3, s4, i5, l6]), (.agg [i15, i16, i17, s18, i19, l20])] [[i1, i2, i3, s4, i5, l6, i7, i8, i9, i10, l11, s12, l13, l14], [i15, i16, i17, s18, i19, l20, i21, i22, i23, i24, l25, s26, l27, l28]] b29
  (br (b29)
  (∃ b30 : Bool, CallN Tryz.prog 28 [(.agg [i7, i8, i9, i10, l11, s12, l13, l14]), (.agg [i21, i22, i23, i24, l25, s26, l27, l28])] [[i1, i2, i3, s4, i5, l6, i7, i8, i9, i10, l11, s12, l13, l14], [i15, i16, i17, s18, i19, l20, i21, i22, i23, i24, l25, s26, l27, l28]] b30
  (Q b30 [[i1, i2, i3, s4, i5, l6, i7, i8, i9, i10, l11, s12, l13, l14], [i15, i16, i17, s18, i19, l20, i21, i22, i23, i24, l25, s26, l27, l28]]))
  (Q (.con (.bool false)) [[i1, i2, i3, s4, i5, l6, i7, i8, i9, i10, l11, s12, l13, l14], [i15, i16, i17, s18, i19, l20, i21, i22, i23, i24, l25, s26, l27, l28]]))
theorem a77 (i1 i2 i3 : Int) (s4 : ByteArray) (i5 : Int) (l6 : List (List PV)) (i7 i8 i9 i10 : Int) (l11 : List (List PV)) (s12 : ByteArray) (l13 l14 : List (List PV)) (i15 i16 i17 : Int) (s18 : ByteArray) (i19 : Int) (l20 : List (List PV)) (i21 i22 i23 i24 : Int) (l25 : List (List PV)) (s26 : ByteArray) (l27 l28 : List (List PV)) (Q : PV → Heap → Prop) (h : p77 i1 i2 i3 s4 i5 l6 i7 i8 i9 i10 l11 s12 l13 l14 i15 i16 i17 s18 i19 l20 i21 i22 i23 i24 l25 s26 l27 l28 Q) : ACalls Tryz.prog 77 [(.agg [i1, i2, i3, s4, i5, l6, i7, i8, i9, i10, l11, s12, l13, l14]), (.agg [i15, i16, i17, s18, i19, l20, i21, i22, i23, i24, l25, s26, l27, l28])] [] Q := by
  have hb : Option.some (bodyOf Tryz.f77) = Tryz.f77.body := by kernel_rfl
  exact acalls_eq (S := S) (L := loops33) mixed tok Tryz.func77 hb.symm (by kernel_rfl) h
end Go.Proofs.YtcmnjodjebcapaaGreat.Deep

namespace Go.Proofs.YtcmnjodjebcapaaGreat.Deep
open Go.RowKit
set_option linter.unusedVariables false
set_option linter.unusedSimpArgs false
theorem clo_sP (b c : Bool) (i : Nat) (x0 : Int) (x1 : Int) (x2 : Int) (x3 : ByteArray) (x4 : Int) (x5 : List (List PV)) (m : List (List PV)) (h : b = true → ∃ y0 : Int, ∃ y1 : Int, ∃ y2 : Int, ∃ y3 : ByteArray, ∃ y4 : Int, ∃ y5 : List (List PV), m[i]? = some [.con (.int .i64 y0), .con (.int .i64 y1), .con (.int .i64 y2), .con (.string y3), .con (.int .i64 y4), .sl y5] ∧ PCalls Tryz.prog 153 [.agg [.con (.int .i64 x0), .con (.int .i64 x1), .con (.int .i64 x2), .con (.string x3), .con (.int .i64 x4), .sl x5], .agg [.con (.int .i64 y0), .con (.int .i64 y1), .con (.int .i64 y2), .con (.string y3), .con (.int .i64 y4), .sl y5]] (fun r => r = .con (.bool c))) : PCalls Tryz.prog 197 [.con (.bool b), .con (.int .i64 (i : Int)), .agg [.con (.int .i64 x0), .con (.int .i64 x1), .con (.int .i64 x2), .con (.string x3), .con (.int .i64 x4), .sl x5], .ept [.fn 153 []] 0, .ept [.sl m] 0] (fun r => r = .con (.bool (b && c))) := by
  refine a197sP _ _ _ _ _ _ _ _ _ _ ?_
  unfold p197sP
  refine br_i (fun hb => ?_) (fun hb => ⟨by rw [hb]; rfl, rfl⟩)
  obtain ⟨y0, y1, y2, y3, y4, y5, hx, hc⟩ := h hb
  refine ⟨_, _, _, _, _, _, ⟨by omega, by rw [Int.toNat_natCast]; exact hx, ?_⟩⟩
  exact ⟨_, call_p (enters_of Tryz.func153 (by kernel_rfl) rfl) hc rfl ⟨by rw [hb]; rfl, rfl⟩⟩
theorem alike_sP (l m : List (List PV)) (n : Nat) (hn : l.length = n) (hm : n ≤ 9223372036854775806) (q : Nat → Bool) (H : ∀ j, j < n → ∃ x0 : Int, ∃ x1 : Int, ∃ x2 : Int, ∃ x3 : ByteArray, ∃ x4 : Int, ∃ x5 : List (List PV), l[j]? = some [.con (.int .i64 x0), .con (.int .i64 x1), .con (.int .i64 x2), .con (.string x3), .con (.int .i64 x4), .sl x5] ∧ (l.length = m.length → ∃ y0 : Int, ∃ y1 : Int, ∃ y2 : Int, ∃ y3 : ByteArray, ∃ y4 : Int, ∃ y5 : List (List PV), m[j]? = some [.con (.int .i64 y0), .con (.int .i64 y1), .con (.int .i64 y2), .con (.string y3), .con (.int .i64 y4), .sl y5] ∧ PCalls Tryz.prog 153 [.agg [.con (.int .i64 x0), .con (.int .i64 x1), .con (.int .i64 x2), .con (.string x3), .con (.int .i64 x4), .sl x5], .agg [.con (.int .i64 y0), .con (.int .i64 y1), .con (.int .i64 y2), .con (.string y3), .con (.int .i64 y4), .sl y5]] (fun r => r = .con (.bool (q j))))) : PCalls Tryz.prog 193 [.sl l, .sl m, .fn 153 []] (fun r => r = .con (.bool (decide (l.length = m.length) && (List.range n).all q))) := by
  refine a193sP _ _ _ ?_
  unfold p193sP
  rw [len_eq]
  obtain ⟨b0, hb0⟩ : ∃ b0, decide (l.length = m.length) = b0 := ⟨_, rfl⟩
  rw [hb0]
  have hb1 : ∀ j, AllTo b0 q j = true → l.length = m.length := fun j h => by unfold AllTo at h; rw [Bool.and_eq_true] at h; rw [h.1] at hb0; simpa using hb0
  have hf : PCalls Tryz.prog 171 [.sl l, .con (.bool b0), .fn 197 [.ept [.fn 153 []] 0, .ept [.sl m] 0]] (fun r => r = .con (.bool (AllTo b0 q n))) := by
    refine a171sP _ _ _ _ ?_
    unfold p171sP
    rw [hn]
    refine ⟨fun c v => ∃ j : Nat, j ≤ n ∧ c = n - j ∧ v.2.1 = (j : Int) ∧ v.1 = AllTo b0 q j, ⟨_, 0, Nat.zero_le _, rfl, rfl, by simp [AllTo]⟩, ?_⟩
    rintro c ⟨b, i, u⟩ ⟨j, hj, rfl, hi, hb⟩
    dsimp only at hi hb ⊢
    subst hi hb
    refine br_i (fun hlt => ?_) (fun hge => ?_)
    · have hlt : j < n := by simpa using hlt
      obtain ⟨x0, x1, x2, x3, x4, x5, hx, hc⟩ := H j hlt
      refine ⟨_, _, _, _, _, _, ⟨by omega, by rw [Int.toNat_natCast]; exact hx, ?_⟩⟩
      refine ⟨_, call_p (enters_of Tryz.func197 (by kernel_rfl) rfl) (clo_sP (AllTo b0 q j) (q j) j x0 x1 x2 x3 x4 x5 m (fun h => hc (hb1 j h))) rfl ⟨⟨by trivial, by trivial, by trivial, trivial⟩, by trivial, n - (j + 1), by omega, j + 1, by omega, rfl, ?_, ?_⟩⟩
      · rw [wrap_id (by omega) (by omega)]; simp
      · rw [AllTo.succ]
    · have hge : ¬ j < n := by simpa using hge
      obtain rfl : j = n := by omega
      exact ⟨rfl, rfl⟩
  exact ⟨_, call_p (enters_of Tryz.func171 (by kernel_rfl) rfl) hf rfl ⟨rfl, rfl⟩⟩
theorem alikeV_sP (l m : List (Pt)) (hm : l.length ≤ 3000) (f : Pt → Pt → Bool) (H : ∀ a ∈ l, ∀ b ∈ m, PCalls Tryz.prog 153 [.agg (ptP a), .agg (ptP b)] (fun r => r = .con (.bool (f a b)))) : PCalls Tryz.prog 193 [.sl (l.map ptP), .sl (m.map ptP), .fn 153 []] (fun r => r = .con (.bool (alikeL f l m))) := by
  have hc := alike_sP (l.map ptP) (m.map ptP) l.length (by simp) (by omega) (fun j => f (l.getD j Pt.zero) (m.getD j Pt.zero)) (fun j hj => by
    obtain ⟨x0, x1, x2, x3, x4, x5, hx⟩ := cells_Pat l[j]
    refine ⟨x0, x1, x2, x3, x4, x5, by rw [map_get ptP l j hj, hx], fun hl => ?_⟩
    have hj' : j < m.length := by rw [List.length_map, List.length_map] at hl; omega
    obtain ⟨y0, y1, y2, y3, y4, y5, hy⟩ := cells_Pat m[j]
    refine ⟨y0, y1, y2, y3, y4, y5, by rw [map_get ptP m j hj', hy], ?_⟩
    rw [← hx, ← hy]
    rw [getD_at l _ j hj, getD_at m _ j hj']
    exact H _ (List.getElem_mem hj) _ (List.getElem_mem hj'))
  rw [List.length_map, List.length_map] at hc
  rw [alikeL_all f Pt.zero]
  exact hc
theorem clo_sE (b c : Bool) (i : Nat) (x0 : Int) (x1 : Int) (x2 : Int) (x3 : Int) (x4 : List (List PV)) (x5 : ByteArray) (x6 : List (List PV)) (x7 : List (List PV)) (m : List (List PV)) (h : b = true → ∃ y0 : Int, ∃ y1 : Int, ∃ y2 : Int, ∃ y3 : Int, ∃ y4 : List (List PV), ∃ y5 : ByteArray, ∃ y6 : List (List PV), ∃ y7 : List (List PV), m[i]? = some [.con (.int .i64 y0), .con (.int .i64 y1), .con (.int .i64 y2), .con (.int .i64 y3), .sl y4, .con (.string y5), .sl y6, .sl y7] ∧ PCalls Tryz.prog 28 [.agg [.con (.int .i64 x0), .con (.int .i64 x1), .con (.int .i64 x2), .con (.int .i64 x3), .sl x4, .con (.string x5), .sl x6, .sl x7], .agg [.con (.int .i64 y0), .con (.int .i64 y1), .con (.int .i64 y2), .con (.int .i64 y3), .sl y4, .con (.string y5), .sl y6, .sl y7]] (fun r => r = .con (.bool c))) : PCalls Tryz.prog 150 [.con (.bool b), .con (.int .i64 (i : Int)), .agg [.con (.int .i64 x0), .con (.int .i64 x1), .con (.int .i64 x2), .con (.int .i64 x3), .sl x4, .con (.string x5), .sl x6, .sl x7], .ept [.fn 28 []] 0, .ept [.sl m] 0] (fun r => r = .con (.bool (b && c))) := by
  refine a150sE _ _ _ _ _ _ _ _ _ _ _ _ ?_
  unfold p150sE
  refine br_i (fun hb => ?_) (fun hb => ⟨by rw [hb]; rfl, rfl⟩)
  obtain ⟨y0, y1, y2, y3, y4, y5, y6, y7, hx, hc⟩ := h hb
  refine ⟨_, _, _, _, _, _, _, _, ⟨by omega, by rw [Int.toNat_natCast]; exact hx, ?_⟩⟩
  exact ⟨_, call_p (enters_of Tryz.func28 (by kernel_rfl) rfl) hc rfl ⟨by rw [hb]; rfl, rfl⟩⟩
theorem alike_sE (l m : List (List PV)) (n : Nat) (hn : l.length = n) (hm : n ≤ 9223372036854775806) (q : Nat → Bool) (H : ∀ j, j < n → ∃ x0 : Int, ∃ x1 : Int, ∃ x2 : Int, ∃ x3 : Int, ∃ x4 : List (List PV), ∃ x5 : ByteArray, ∃ x6 : List (List PV), ∃ x7 : List (List PV), l[j]? = some [.con (.int .i64 x0), .con (.int .i64 x1), .con (.int .i64 x2), .con (.int .i64 x3), .sl x4, .con (.string x5), .sl x6, .sl x7] ∧ (l.length = m.length → ∃ y0 : Int, ∃ y1 : Int, ∃ y2 : Int, ∃ y3 : Int, ∃ y4 : List (List PV), ∃ y5 : ByteArray, ∃ y6 : List (List PV), ∃ y7 : List (List PV), m[j]? = some [.con (.int .i64 y0), .con (.int .i64 y1), .con (.int .i64 y2), .con (.int .i64 y3), .sl y4, .con (.string y5), .sl y6, .sl y7] ∧ PCalls Tryz.prog 28 [.agg [.con (.int .i64 x0), .con (.int .i64 x1), .con (.int .i64 x2), .con (.int .i64 x3), .sl x4, .con (.string x5), .sl x6, .sl x7], .agg [.con (.int .i64 y0), .con (.int .i64 y1), .con (.int .i64 y2), .con (.int .i64 y3), .sl y4, .con (.string y5), .sl y6, .sl y7]] (fun r => r = .con (.bool (q j))))) : PCalls Tryz.prog 75 [.sl l, .sl m, .fn 28 []] (fun r => r = .con (.bool (decide (l.length = m.length) && (List.range n).all q))) := by
  refine a75sE _ _ _ ?_
  unfold p75sE
  rw [len_eq]
  obtain ⟨b0, hb0⟩ : ∃ b0, decide (l.length = m.length) = b0 := ⟨_, rfl⟩
  rw [hb0]
  have hb1 : ∀ j, AllTo b0 q j = true → l.length = m.length := fun j h => by unfold AllTo at h; rw [Bool.and_eq_true] at h; rw [h.1] at hb0; simpa using hb0
  have hf : PCalls Tryz.prog 149 [.sl l, .con (.bool b0), .fn 150 [.ept [.fn 28 []] 0, .ept [.sl m] 0]] (fun r => r = .con (.bool (AllTo b0 q n))) := by
    refine a149sE _ _ _ _ ?_
    unfold p149sE
    rw [hn]
    refine ⟨fun c v => ∃ j : Nat, j ≤ n ∧ c = n - j ∧ v.2.1 = (j : Int) ∧ v.1 = AllTo b0 q j, ⟨_, 0, Nat.zero_le _, rfl, rfl, by simp [AllTo]⟩, ?_⟩
    rintro c ⟨b, i, u⟩ ⟨j, hj, rfl, hi, hb⟩
    dsimp only at hi hb ⊢
    subst hi hb
    refine br_i (fun hlt => ?_) (fun hge => ?_)
    · have hlt : j < n := by simpa using hlt
      obtain ⟨x0, x1, x2, x3, x4, x5, x6, x7, hx, hc⟩ := H j hlt
      refine ⟨_, _, _, _, _, _, _, _, ⟨by omega, by rw [Int.toNat_natCast]; exact hx, ?_⟩⟩
      refine ⟨_, call_p (enters_of Tryz.func150 (by kernel_rfl) rfl) (clo_sE (AllTo b0 q j) (q j) j x0 x1 x2 x3 x4 x5 x6 x7 m (fun h => hc (hb1 j h))) rfl ⟨⟨by trivial, by trivial, by trivial, trivial⟩, by trivial, n - (j + 1), by omega, j + 1, by omega, rfl, ?_, ?_⟩⟩
      · rw [wrap_id (by omega) (by omega)]; simp
      · rw [AllTo.succ]
    · have hge : ¬ j < n := by simpa using hge
      obtain rfl : j = n := by omega
      exact ⟨rfl, rfl⟩
  exact ⟨_, call_p (enters_of Tryz.func149 (by kernel_rfl) rfl) hf rfl ⟨rfl, rfl⟩⟩
theorem alikeV_sE (l m : List (Ex)) (hm : l.length ≤ 3000) (f : Ex → Ex → Bool) (H : ∀ a ∈ l, ∀ b ∈ m, PCalls Tryz.prog 28 [.agg (exP a), .agg (exP b)] (fun r => r = .con (.bool (f a b)))) : PCalls Tryz.prog 75 [.sl (l.map exP), .sl (m.map exP), .fn 28 []] (fun r => r = .con (.bool (alikeL f l m))) := by
  have hc := alike_sE (l.map exP) (m.map exP) l.length (by simp) (by omega) (fun j => f (l.getD j Ex.zero) (m.getD j Ex.zero)) (fun j hj => by
    obtain ⟨x0, x1, x2, x3, x4, x5, x6, x7, hx⟩ := cells_Expr l[j]
    refine ⟨x0, x1, x2, x3, x4, x5, x6, x7, by rw [map_get exP l j hj, hx], fun hl => ?_⟩
    have hj' : j < m.length := by rw [List.length_map, List.length_map] at hl; omega
    obtain ⟨y0, y1, y2, y3, y4, y5, y6, y7, hy⟩ := cells_Expr m[j]
    refine ⟨y0, y1, y2, y3, y4, y5, y6, y7, by rw [map_get exP m j hj', hy], ?_⟩
    rw [← hx, ← hy]
    rw [getD_at l _ j hj, getD_at m _ j hj']
    exact H _ (List.getElem_mem hj) _ (List.getElem_mem hj'))
  rw [List.length_map, List.length_map] at hc
  rw [alikeL_all f Ex.zero]
  exact hc
theorem clo_sA (b c : Bool) (i : Nat) (x0 : Int) (x1 : Int) (x2 : Int) (x3 : ByteArray) (x4 : Int) (x5 : List (List PV)) (x6 : Int) (x7 : Int) (x8 : Int) (x9 : Int) (x10 : List (List PV)) (x11 : ByteArray) (x12 : List (List PV)) (x13 : List (List PV)) (m : List (List PV)) (h : b = true → ∃ y0 : Int, ∃ y1 : Int, ∃ y2 : Int, ∃ y3 : ByteArray, ∃ y4 : Int, ∃ y5 : List (List PV), ∃ y6 : Int, ∃ y7 : Int, ∃ y8 : Int, ∃ y9 : Int, ∃ y10 : List (List PV), ∃ y11 : ByteArray, ∃ y12 : List (List PV), ∃ y13 : List (List PV), m[i]? = some [.con (.int .i64 y0), .con (.int .i64 y1), .con (.int .i64 y2), .con (.string y3), .con (.int .i64 y4), .sl y5, .con (.int .i64 y6), .con (.int .i64 y7), .con (.int .i64 y8), .con (.int .i64 y9), .sl y10, .con (.string y11), .sl y12, .sl y13] ∧ PCalls Tryz.prog 77 [.agg [.con (.int .i64 x0), .con (.int .i64 x1), .con (.int .i64 x2), .con (.string x3), .con (.int .i64 x4), .sl x5, .con (.int .i64 x6), .con (.int .i64 x7), .con (.int .i64 x8), .con (.int .i64 x9), .sl x10, .con (.string x11), .sl x12, .sl x13], .agg [.con (.int .i64 y0), .con (.int .i64 y1), .con (.int .i64 y2), .con (.string y3), .con (.int .i64 y4), .sl y5, .con (.int .i64 y6), .con (.int .i64 y7), .con (.int .i64 y8), .con (.int .i64 y9), .sl y10, .con (.string y11), .sl y12, .sl y13]] (fun r => r = .con (.bool c))) : PCalls Tryz.prog 152 [.con (.bool b), .con (.int .i64 (i : Int)), .agg [.con (.int .i64 x0), .con (.int .i64 x1), .con (.int .i64 x2), .con (.string x3), .con (.int .i64 x4), .sl x5, .con (.int .i64 x6), .con (.int .i64 x7), .con (.int .i64 x8), .con (.int .i64 x9), .sl x10, .con (.string x11), .sl x12, .sl x13], .ept [.fn 77 []] 0, .ept [.sl m] 0] (fun r => r = .con (.bool (b && c))) := by
  refine a152sA _ _ _ _ _ _ _ _ _ _ _ _ _ _ _ _ _ _ ?_
  unfold p152sA
  refine br_i (fun hb => ?_) (fun hb => ⟨by rw [hb]; rfl, rfl⟩)
  obtain ⟨y0, y1, y2, y3, y4, y5, y6, y7, y8, y9, y10, y11, y12, y13, hx, hc⟩ := h hb
  refine ⟨_, _, _, _, _, _, _, _, _, _, _, _, _, _, ⟨by omega, by rw [Int.toNat_natCast]; exact hx, ?_⟩⟩
  exact ⟨_, call_p (enters_of Tryz.func77 (by kernel_rfl) rfl) hc rfl ⟨by rw [hb]; rfl, rfl⟩⟩
theorem alike_sA (l m : List (List PV)) (n : Nat) (hn : l.length = n) (hm : n ≤ 9223372036854775806) (q : Nat → Bool) (H : ∀ j, j < n → ∃ x0 : Int, ∃ x1 : Int, ∃ x2 : Int, ∃ x3 : ByteArray, ∃ x4 : Int, ∃ x5 : List (List PV), ∃ x6 : Int, ∃ x7 : Int, ∃ x8 : Int, ∃ x9 : Int, ∃ x10 : List (List PV), ∃ x11 : ByteArray, ∃ x12 : List (List PV), ∃ x13 : List (List PV), l[j]? = some [.con (.int .i64 x0), .con (.int .i64 x1), .con (.int .i64 x2), .con (.string x3), .con (.int .i64 x4), .sl x5, .con (.int .i64 x6), .con (.int .i64 x7), .con (.int .i64 x8), .con (.int .i64 x9), .sl x10, .con (.string x11), .sl x12, .sl x13] ∧ (l.length = m.length → ∃ y0 : Int, ∃ y1 : Int, ∃ y2 : Int, ∃ y3 : ByteArray, ∃ y4 : Int, ∃ y5 : List (List PV), ∃ y6 : Int, ∃ y7 : Int, ∃ y8 : Int, ∃ y9 : Int, ∃ y10 : List (List PV), ∃ y11 : ByteArray, ∃ y12 : List (List PV), ∃ y13 : List (List PV), m[j]? = some [.con (.int .i64 y0), .con (.int .i64 y1), .con (.int .i64 y2), .con (.string y3), .con (.int .i64 y4), .sl y5, .con (.int .i64 y6), .con (.int .i64 y7), .con (.int .i64 y8), .con (.int .i64 y9), .sl y10, .con (.string y11), .sl y12, .sl y13] ∧ PCalls Tryz.prog 77 [.agg [.con (.int .i64 x0), .con (.int .i64 x1), .con (.int .i64 x2), .con (.string x3), .con (.int .i64 x4), .sl x5, .con (.int .i64 x6), .con (.int .i64 x7), .con (.int .i64 x8), .con (.int .i64 x9), .sl x10, .con (.string x11), .sl x12, .sl x13], .agg [.con (.int .i64 y0), .con (.int .i64 y1), .con (.int .i64 y2), .con (.string y3), .con (.int .i64 y4), .sl y5, .con (.int .i64 y6), .con (.int .i64 y7), .con (.int .i64 y8), .con (.int .i64 y9), .sl y10, .con (.string y11), .sl y12, .sl y13]] (fun r => r = .con (.bool (q j))))) : PCalls Tryz.prog 76 [.sl l, .sl m, .fn 77 []] (fun r => r = .con (.bool (decide (l.length = m.length) && (List.range n).all q))) := by
  refine a76sA _ _ _ ?_
  unfold p76sA
  rw [len_eq]
  obtain ⟨b0, hb0⟩ : ∃ b0, decide (l.length = m.length) = b0 := ⟨_, rfl⟩
  rw [hb0]
  have hb1 : ∀ j, AllTo b0 q j = true → l.length = m.length := fun j h => by unfold AllTo at h; rw [Bool.and_eq_true] at h; rw [h.1] at hb0; simpa using hb0
  have hf : PCalls Tryz.prog 151 [.sl l, .con (.bool b0), .fn 152 [.ept [.fn 77 []] 0, .ept [.sl m] 0]] (fun r => r = .con (.bool (AllTo b0 q n))) := by
    refine a151sA _ _ _ _ ?_
    unfold p151sA
    rw [hn]
    refine ⟨fun c v => ∃ j : Nat, j ≤ n ∧ c = n - j ∧ v.2.1 = (j : Int) ∧ v.1 = AllTo b0 q j, ⟨_, 0, Nat.zero_le _, rfl, rfl, by simp [AllTo]⟩, ?_⟩
    rintro c ⟨b, i, u⟩ ⟨j, hj, rfl, hi, hb⟩
    dsimp only at hi hb ⊢
    subst hi hb
    refine br_i (fun hlt => ?_) (fun hge => ?_)
    · have hlt : j < n := by simpa using hlt
      obtain ⟨x0, x1, x2, x3, x4, x5, x6, x7, x8, x9, x10, x11, x12, x13, hx, hc⟩ := H j hlt
      refine ⟨_, _, _, _, _, _, _, _, _, _, _, _, _, _, ⟨by omega, by rw [Int.toNat_natCast]; exact hx, ?_⟩⟩
      refine ⟨_, call_p (enters_of Tryz.func152 (by kernel_rfl) rfl) (clo_sA (AllTo b0 q j) (q j) j x0 x1 x2 x3 x4 x5 x6 x7 x8 x9 x10 x11 x12 x13 m (fun h => hc (hb1 j h))) rfl ⟨⟨by trivial, by trivial, by trivial, trivial⟩, by trivial, n - (j + 1), by omega, j + 1, by omega, rfl, ?_, ?_⟩⟩
      · rw [wrap_id (by omega) (by omega)]; simp
      · rw [AllTo.succ]
    · have hge : ¬ j < n := by simpa using hge
      obtain rfl : j = n := by omega
      exact ⟨rfl, rfl⟩
  exact ⟨_, call_p (enters_of Tryz.func151 (by kernel_rfl) rfl) hf rfl ⟨rfl, rfl⟩⟩
theorem alikeV_sA (l m : List (Pt × Ex)) (hm : l.length ≤ 3000) (f : Pt × Ex → Pt × Ex → Bool) (H : ∀ a ∈ l, ∀ b ∈ m, PCalls Tryz.prog 77 [.agg (amP a), .agg (amP b)] (fun r => r = .con (.bool (f a b)))) : PCalls Tryz.prog 76 [.sl (l.map amP), .sl (m.map amP), .fn 77 []] (fun r => r = .con (.bool (alikeL f l m))) := by
  have hc := alike_sA (l.map amP) (m.map amP) l.length (by simp) (by omega) (fun j => f (l.getD j (Pt.zero, Ex.zero)) (m.getD j (Pt.zero, Ex.zero))) (fun j hj => by
    obtain ⟨x0, x1, x2, x3, x4, x5, x6, x7, x8, x9, x10, x11, x12, x13, hx⟩ := cells_Arm l[j]
    refine ⟨x0, x1, x2, x3, x4, x5, x6, x7, x8, x9, x10, x11, x12, x13, by rw [map_get amP l j hj, hx], fun hl => ?_⟩
    have hj' : j < m.length := by rw [List.length_map, List.length_map] at hl; omega
    obtain ⟨y0, y1, y2, y3, y4, y5, y6, y7, y8, y9, y10, y11, y12, y13, hy⟩ := cells_Arm m[j]
    refine ⟨y0, y1, y2, y3, y4, y5, y6, y7, y8, y9, y10, y11, y12, y13, by rw [map_get amP m j hj', hy], ?_⟩
    rw [← hx, ← hy]
    rw [getD_at l _ j hj, getD_at m _ j hj']
    exact H _ (List.getElem_mem hj) _ (List.getElem_mem hj'))
  rw [List.length_map, List.length_map] at hc
  rw [alikeL_all f (Pt.zero, Ex.zero)]
  exact hc
end Go.Proofs.YtcmnjodjebcapaaGreat.Deep

namespace Go.Proofs.YtcmnjodjebcapaaGreat.Deep
open Go.RowKit
set_option linter.unusedVariables false
set_option linter.unusedSimpArgs false
theorem same_pt (t : Pt) : smallPt t → ∀ u : Pt, PCalls Tryz.prog 153 [.agg (ptP t), .agg (ptP u)] (fun r => r = .con (.bool (sameP t u))) := by
  induction t using Pt.indM with
  | h k li co n m ks ih =>
  intro hs u
  obtain ⟨k', li', co', n', m', ks', rfl⟩ := pt_mk u
  unfold smallPt at hs
  have hc := alikeV_sP ks ks' hs.2.1 sameP (fun a ha b _ => ih a ha (smallPts_mem hs.2.2 a ha) b)
  rw [← ptPs_mp, ← ptPs_mp, ← samePs_l] at hc
  refine a153 _ _ _ _ _ _ _ _ _ _ _ _ _ ?_
  unfold p153 sameP
  rw [beq_int, beq_str, beq_int]
  refine br_i (fun h1 => ?_) (fun h1 => ⟨by rw [h1]; rfl, rfl⟩)
  refine br_i (fun h2 => ?_) (fun h2 => ⟨by rw [h1, h2]; rfl, rfl⟩)
  refine br_i (fun h3 => ?_) (fun h3 => ⟨by rw [h1, h2, h3]; rfl, rfl⟩)
  exact ⟨_, call_p (enters_of Tryz.func193 (by kernel_rfl) rfl) hc rfl ⟨by rw [h1, h2, h3]; rfl, rfl⟩⟩
theorem same_arm (a c : Pt × Ex) (h1 : PCalls Tryz.prog 153 [.agg (ptP a.1), .agg (ptP c.1)] (fun r => r = .con (.bool (sameP a.1 c.1)))) (h2 : PCalls Tryz.prog 28 [.agg (exP a.2), .agg (exP c.2)] (fun r => r = .con (.bool (sameE a.2 c.2)))) : PCalls Tryz.prog 77 [.agg (amP a), .agg (amP c)] (fun r => r = .con (.bool (sameP a.1 c.1 && sameE a.2 c.2))) := by
  obtain ⟨B1, e1⟩ : ∃ x, sameP a.1 c.1 = x := ⟨_, rfl⟩
  obtain ⟨B2, e2⟩ : ∃ x, sameE a.2 c.2 = x := ⟨_, rfl⟩
  rw [e1] at h1
  rw [e2] at h2
  rw [e1, e2]
  clear e1 e2
  obtain ⟨⟨k, li, co, n, m, ks⟩, ⟨k2, li2, co2, m2, b2, n2, ks2, ps2, bs2⟩⟩ := a
  obtain ⟨⟨k', li', co', n', m', ks'⟩, ⟨k2', li2', co2', m2', b2', n2', ks2', ps2', bs2'⟩⟩ := c
  refine a77 _ _ _ _ _ _ _ _ _ _ _ _ _ _ _ _ _ _ _ _ _ _ _ _ _ _ _ _ _ ?_
  unfold p77
  refine ⟨_, call_p (enters_of Tryz.func153 (by kernel_rfl) rfl) h1 rfl ?_⟩
  refine br_i (fun h => ⟨_, call_p (enters_of Tryz.func28 (by kernel_rfl) rfl) h2 rfl ⟨by rw [h]; rfl, rfl⟩⟩) (fun h => ⟨by rw [h]; rfl, rfl⟩)
theorem same_ex (t : Ex) : smallEx t → wfEx t → ∀ u : Ex, wfEx u → PCalls Tryz.prog 28 [.agg (exP t), .agg (exP u)] (fun r => r = .con (.bool (sameE t u))) := by
  induction t using Ex.indM with
  | h k li co m b n ks ps bs ihk ihb =>
  intro hs hw u hwu
  obtain ⟨k', li', co', m', b', n', ks', ps', bs', rfl⟩ := ex_mk u
  unfold smallEx at hs
  unfold wfEx at hw hwu
  obtain ⟨hsb, hsn, hsk, hsp, hsbs, hsks, hsps, hsbb⟩ := hs
  obtain ⟨hpl, hwk, hwb⟩ := hw
  obtain ⟨hpl', hwk', hwb'⟩ := hwu
  have hk := alikeV_sE ks ks' hsk sameE (fun a ha c hc => ihk a ha (smallExs_mem hsks a ha) (wfExs_mem hwk a ha) c (wfExs_mem hwk' c hc))
  rw [← exPs_mp, ← exPs_mp, ← sameEs_l] at hk
  have ha := alikeV_sA (ps.zip bs) (ps'.zip bs') (by rw [List.length_zip]; omega) (fun a c => sameP a.1 c.1 && sameE a.2 c.2) (fun a ha c hc => by
    obtain ⟨p, e⟩ := a
    obtain ⟨p', e'⟩ := c
    obtain ⟨q1, q2⟩ := List.of_mem_zip ha
    obtain ⟨q3, q4⟩ := List.of_mem_zip hc
    exact same_arm (p, e) (p', e') (same_pt p (smallPts_mem hsps p q1) p') (ihb e q2 (smallExs_mem hsbb e q2) (wfExs_mem hwb e q2) e' (wfExs_mem hwb' e' q4)))
  rw [arms_same ps ps' bs bs' hpl hpl', ← arPs_mp, ← arPs_mp] at ha
  unfold sameE
  obtain ⟨B1, e1⟩ : ∃ x, sameEs ks ks' = x := ⟨_, rfl⟩
  obtain ⟨B2, e2⟩ : ∃ x, (samePs ps ps' && sameEs bs bs') = x := ⟨_, rfl⟩
  rw [e1] at hk
  rw [e2] at ha
  rw [e1, e2]
  clear e1 e2
  refine a28 _ _ _ _ _ _ _ _ _ _ _ _ _ _ _ _ _ ?_
  unfold p28
  rw [beq_int, beq_int, beq_str]
  refine br_i (fun h1 => ?_) (fun h1 => ⟨by rw [h1]; rfl, rfl⟩)
  refine br_i (fun h2 => ?_) (fun h2 => ⟨by rw [h1, h2]; rfl, rfl⟩)
  refine br_i (fun h3 => ?_) (fun h3 => ⟨by simp [h1, h2, h3], rfl⟩)
  refine ⟨b, ⟨⟨5, by kernel_rfl, by kernel_rfl⟩, by kernel_rfl, rfl, ?_⟩⟩
  refine ⟨b', ⟨⟨5, by kernel_rfl, by kernel_rfl⟩, by kernel_rfl, rfl, ?_⟩⟩
  rw [beq_by]
  refine br_i (fun h4 => ?_) (fun h4 => ⟨by simp [h1, h2, h3, h4], rfl⟩)
  refine ⟨_, call_p (enters_of Tryz.func75 (by kernel_rfl) rfl) hk rfl ?_⟩
  refine br_i (fun h5 => ?_) (fun h5 => ⟨by rw [h5]; simp, rfl⟩)
  exact ⟨_, call_p (enters_of Tryz.func76 (by kernel_rfl) rfl) ha rfl ⟨by rw [h1, h2, h3, h4, h5]; simp, rfl⟩⟩
end Go.Proofs.YtcmnjodjebcapaaGreat.Deep

namespace Go.Proofs.YtcmnjodjebcapaaGreat.Deep
open Go.RowKit
set_option linter.unusedVariables false
def p11  (Q : PV → Heap → Prop) : Prop :=
∃ i1 : Int, ∃ i2 : Int, CallN Tryz.prog 21 [(.agg [(.con (.int .i64 0)), (.con (.int .i64 0)), (.con (.int .i64 0)), (.con (.int .i64 5)), (.sl []), (.con (.string ⟨#[]⟩)), (.sl []), (.sl [])])] [[(.con (.int .i64 0)), (.con (.int .i64 0)), (.con (.int .i64 0)), (.con (.int .i64 5)), (.con (.slice none 0 0)), (.con (.string ⟨#[]⟩)), (.con (.slice none 0 0)), (.con (.slice none 0 0))]] (.tup [i1, i2])
  (∃ l3 : List (List PV), CallN Tryz.prog 23 [(.agg [(.con (.int .i64 6)), (.con (.int .i64 0)), (.con (.int .i64 0)), (.con (.int .i64 0)), (.sl []), (.con (.string ⟨#[120]⟩)), (.sl [[(.con (.int .i64 2)), (.con (.int .i64 0)), (.con (.int .i64 0)), (.con (.int .i64 0)), (.sl []), (.con (.string ⟨#[121]⟩)), (.sl []), (.sl [])], [(.con (.int .i64 2)), (.con (.int .i64 0)), (.con (.int .i64 0)), (.con (.int .i64 0)), (.sl []), (.con (.string ⟨#[120]⟩)), (.sl []), (.sl [])]]), (.sl [])])] [[(.con (.int .i64 0)), (.con (.int .i64 0)), (.con (.int .i64 0)), (.con (.int .i64 5)), (.con (.slice none 0 0)), (.con (.string ⟨#[]⟩)), (.con (.slice none 0 0)), (.con (.slice none 0 0))], [.tip]] l3
  (∃ b4 : Bool, CallN Tryz.prog 14 [(.agg [(.con (.int .i64 0)), (.con (.int .i64 0)), (.con (.int .i64 0)), (.con (.int .i64 5)), (.sl []), (.con (.string ⟨#[]⟩)), (.sl []), (.sl [])])] [[(.con (.int .i64 0)), (.con (.int .i64 0)), (.con (.int .i64 0)), (.con (.int .i64 5)), (.con (.slice none 0 0)), (.con (.string ⟨#[]⟩)), (.con (.slice none 0 0)), (.con (.slice none 0 0))], [.tip]] b4
  (br (b4)
  (br (((i1 : Int) == 1))
  (br (((i2 : Int) == 0))
  (br ((((List.length l3 : Int) : Int) == 1))
  (∃ s5 : ByteArray, IdxN l3 0 [s5]
  (Q (.con (.bool (ByteArray.toList s5 == ByteArray.toList ⟨#[121]⟩))) [[(.con (.int .i64 0)), (.con (.int .i64 0)), (.con (.int .i64 0)), (.con (.int .i64 5)), (.con (.slice none 0 0)), (.con (.string ⟨#[]⟩)), (.con (.slice none 0 0)), (.con (.slice none 0 0))], [.tip]]))
  (Q (.con (.bool false)) [[(.con (.int .i64 0)), (.con (.int .i64 0)), (.con (.int .i64 0)), (.con (.int .i64 5)), (.con (.slice none 0 0)), (.con (.string ⟨#[]⟩)), (.con (.slice none 0 0)), (.con (.slice none 0 0))], [.tip]]))
  (Q (.con (.bool false)) [[(.con (.int .i64 0)), (.con (.int .i64 0)), (.con (.int .i64 0)), (.con (.int .i64 5)), (.con (.slice none 0 0)), (.con (.string ⟨#[]⟩)), (.con (.slice none 0 0)), (.con (.slice none 0 0))], [.tip]]))
  (Q (.con (.bool false)) [[(.con (.int .i64 0)), (.con (.int .i64 0)), (.con (.int .i64 0)), (.con (.int .i64 5)), (.con (.slice none 0 0)), (.con (.string ⟨#[]⟩)), (.con (.slice none 0 0)), (.con (.slice none 0 0))], [.tip]]))
  (Q (.con (.bool false)) [[(.con (.int .i64 0)), (.con (.int .i64 0)), (.con (.int .i64 0)), (.con (.int .i64 5)), (.con (.slice none 0 0)), (.con (.string ⟨#[]⟩)), (.con (.slice none 0 0)), (.con (.slice none 0 0))], [.tip]]))))
theorem a11  (Q : PV → Heap → Prop) (h : p11  Q) : ACalls Tryz.prog 11 [] [] Q := by
  have hb : Option.some (bodyOf Tryz.f11) = Tryz.f11.body := by kernel_rfl
  exact acalls_eq (S := S) (L := loops33) mixed tok Tryz.func11 hb.symm (by kernel_rfl) h
end Go.Proofs.YtcmnjodjebcapaaGreat.Deep

namespace Go.Proofs.YtcmnjodjebcapaaGreat.Deep
open Go.RowKit
set_option linter.unusedVariables false
set_option linter.unusedSimpArgs false
def five : Ex := .mk 0 0 0 5 [] ⟨#[]⟩ [] [] []
def varX (s : ByteArray) : Ex := .mk 2 0 0 0 [] s [] [] []
def letE : Ex := .mk 6 0 0 0 [] ⟨#[120]⟩ [varX ⟨#[121]⟩, varX ⟨#[120]⟩] [] []
theorem letE_free : freeS letE = [⟨#[121]⟩] := by kernel_rfl
theorem letE_u : uE letE ≤ 1000000 := by decide
theorem five_small : smallEx five := by
  refine ⟨by decide, by decide, by decide, by decide, by decide, trivial, trivial, trivial⟩
theorem five_wf : wfEx five := by simp [five, wfEx, wfExs]
theorem letE_small : smallEx letE := by
  refine ⟨by decide, by decide, by decide, by decide, by decide, ?_, trivial, trivial⟩
  simp [varX, smallExs, smallEx, smallPts]
  decide
theorem letE_wf : wfEx letE := by simp [letE, varX, wfEx, wfExs]
theorem awake_p : PCalls Tryz.prog 11 [] (fun r => r = .con (.bool true)) := by
  refine a11 _ ?_
  unfold p11
  refine ⟨_, _, call_p (enters_of Tryz.func21 (by kernel_rfl) rfl) (nodes_p five five_small five_wf) rfl ?_⟩
  have hf := free_c letE letE_small letE_wf letE_u
  rw [letE_free] at hf
  refine ⟨_, call_p (enters_of Tryz.func23 (by kernel_rfl) rfl) hf rfl ?_⟩
  refine ⟨_, call_p (enters_of Tryz.func14 (by kernel_rfl) rfl) (fit_exF' five five_small five_wf) rfl ?_⟩
  have e1 : fitEx 64 five = true := by kernel_rfl
  have e2 : W (cntE five) = 1 := by kernel_rfl
  have e3 : W (cntQ five) = 0 := by kernel_rfl
  rw [e1, e2, e3]
  exact ⟨⟨#[121]⟩, ⟨Int.le_refl 0, rfl, by simp, rfl⟩⟩
end Go.Proofs.YtcmnjodjebcapaaGreat.Deep

namespace Go.Proofs.YtcmnjodjebcapaaGreat.Deep
open Go.RowKit
set_option linter.unusedVariables false
def loops5 (id : Nat) : Option (List Nat × List (Nat × Sh)) := match Nat.beq id 30 with | true => some ([1, 3, 4, 5, 6, 7, 8, 17, 96, 97, 98, 129, 130], [(131, .int .i64)]) | false => match Nat.beq id 23 with | true => some ([1, 3, 4, 5, 6, 96, 97], [(7, .int .i64), (8, .int .i64), (98, .int .i64)]) | false => match Nat.beq id 15 with | true => some ([1, 3, 4, 5, 6, 7, 8, 9, 36, 37, 38, 61, 62], [(63, .int .i64)]) | false => match Nat.beq id 8 with | true => some ([1, 3, 4, 5, 6, 36, 37], [(7, .int .i64), (8, .int .i64), (38, .int .i64)]) | false => none
def p5 (i1 i2 i3 i4 : Int) (l5 : List (List PV)) (s6 : ByteArray) (l7 l8 : List (List PV)) (Q : PV → Heap → Prop) : Prop :=
∃ i9 : Int, CallN Tryz.prog 8 [(.agg [i1, i2, i3, i4, l5, s6, l7, l8]), (.con (.int .i64 3000))] [[i1, i2, i3, i4, l5, s6, l7, l8]] i9
  (br ((decide ((i9 : Int) < 0)))
  (∃ b10 : Bool, CallN Tryz.prog 11 [] [[i1, i2, i3, i4, l5, s6, l7, l8]] b10
  (Q b10 [[i1, i2, i3, i4, l5, s6, l7, l8]]))
  (∃ i11 : Int, ∃ i12 : Int, CallN Tryz.prog 21 [(.agg [i1, i2, i3, i4, l5, s6, l7, l8])] [[i1, i2, i3, i4, l5, s6, l7, l8]] (.tup [i11, i12])
  (∃ b13 : Bool, CallN Tryz.prog 14 [(.agg [i1, i2, i3, i4, l5, s6, l7, l8])] [[i1, i2, i3, i4, l5, s6, l7, l8]] b13
  (∃ l14 : List (List PV), CallN Tryz.prog 23 [(.agg [i1, i2, i3, i4, l5, s6, l7, l8])] [[i1, i2, i3, i4, l5, s6, l7, l8]] l14
  (∃ I15 : Nat → ((Int) × (Int) × (Int) × Unit) → Prop, (∃ n, I15 n (1, 0, 0, ())) ∧ ∀ (n16 : Nat) (v17 : (Int) × (Int) × (Int) × Unit), I15 n16 v17 →
  (br ((decide ((v17.2.2.1 : Int) < (List.length l7 : Int))))
  (∃ i18 : Int, ∃ i19 : Int, ∃ i20 : Int, ∃ i21 : Int, ∃ l22 : List (List PV), ∃ s23 : ByteArray, ∃ l24 : List (List PV), ∃ l25 : List (List PV), IdxN l7 v17.2.2.1 [i18, i19, i20, i21, l22, s23, l24, l25]
  (∃ i26 : Int, ∃ i27 : Int, CallN Tryz.prog 21 [(.agg [i18, i19, i20, i21, l22, s23, l24, l25])] [[i1, i2, i3, i4, l5, s6, l7, l8], [i18, i19, i20, i21, l22, s23, l24, l25]] (.tup [i26, i27])
  (br (b13)
  (∃ b28 : Bool, CallN Tryz.prog 14 [(.agg [i18, i19, i20, i21, l22, s23, l24, l25])] [[i1, i2, i3, i4, l5, s6, l7, l8], [i18, i19, i20, i21, l22, s23, l24, l25]] b28
  (br ((!b28))
  (Q (.con (.bool false)) [[i1, i2, i3, i4, l5, s6, l7, l8], [i18, i19, i20, i21, l22, s23, l24, l25]])
  (∃ l29 : List (List PV), CallN Tryz.prog 23 [(.agg [i18, i19, i20, i21, l22, s23, l24, l25])] [[i1, i2, i3, i4, l5, s6, l7, l8], [i18, i19, i20, i21, l22, s23, l24, l25]] l29
  (∃ I30 : Nat → ((Int) × Unit) → Prop, (∃ n, I30 n (0, ())) ∧ ∀ (n31 : Nat) (v32 : (Int) × Unit), I30 n31 v32 →
  (br ((decide ((v32.1 : Int) < (List.length l29 : Int))))
  (∃ s33 : ByteArray, IdxN l29 v32.1 [s33]
  (br (((v17.2.2.1 : Int) == 1))
  (br (((i1 : Int) == 6))
  (br ((!(ByteArray.toList s33 == ByteArray.toList s6)))
  (∃ b34 : Bool, CallN Tryz.prog 30 [l14, s33] [[i1, i2, i3, i4, l5, s6, l7, l8], [i18, i19, i20, i21, l22, s23, l24, l25]] b34
  (br ((!b34))
  (Q (.con (.bool false)) [[i1, i2, i3, i4, l5, s6, l7, l8], [i18, i19, i20, i21, l22, s23, l24, l25]])
  ((@Eq PV (.ptr 0 0) (.ptr 0 0) ∧ @Eq PV i11 i11 ∧ @Eq PV i12 i12 ∧ @Eq PV b13 b13 ∧ @Eq PV l14 l14 ∧ @Eq PV (IntKind.wrap .i64 (v17.1 + i26)) (IntKind.wrap .i64 (v17.1 + i26)) ∧ @Eq PV (IntKind.wrap .i64 (v17.2.1 + i27)) (IntKind.wrap .i64 (v17.2.1 + i27)) ∧ @Eq PV v17.2.2.1 v17.2.2.1 ∧ @Eq PV l7 l7 ∧ @Eq PV (.con (.int .i64 (List.length l7 : Int))) (.con (.int .i64 (List.length l7 : Int))) ∧ @Eq PV v17.2.2.1 v17.2.2.1 ∧ @Eq PV l29 l29 ∧ @Eq PV (.con (.int .i64 (List.length l29 : Int))) (.con (.int .i64 (List.length l29 : Int))) ∧ True) ∧ @Eq Heap [[i1, i2, i3, i4, l5, s6, l7, l8], [i18, i19, i20, i21, l22, s23, l24, l25]] [[i1, i2, i3, i4, l5, s6, l7, l8], [i18, i19, i20, i21, l22, s23, l24, l25]] ∧ ∃ k35, k35 < n31 ∧ I30 k35 ((IntKind.wrap .i64 (v32.1 + 1)), ()))))
  ((@Eq PV (.ptr 0 0) (.ptr 0 0) ∧ @Eq PV i11 i11 ∧ @Eq PV i12 i12 ∧ @Eq PV b13 b13 ∧ @Eq PV l14 l14 ∧ @Eq PV (IntKind.wrap .i64 (v17.1 + i26)) (IntKind.wrap .i64 (v17.1 + i26)) ∧ @Eq PV (IntKind.wrap .i64 (v17.2.1 + i27)) (IntKind.wrap .i64 (v17.2.1 + i27)) ∧ @Eq PV v17.2.2.1 v17.2.2.1 ∧ @Eq PV l7 l7 ∧ @Eq PV (.con (.int .i64 (List.length l7 : Int))) (.con (.int .i64 (List.length l7 : Int))) ∧ @Eq PV v17.2.2.1 v17.2.2.1 ∧ @Eq PV l29 l29 ∧ @Eq PV (.con (.int .i64 (List.length l29 : Int))) (.con (.int .i64 (List.length l29 : Int))) ∧ True) ∧ @Eq Heap [[i1, i2, i3, i4, l5, s6, l7, l8], [i18, i19, i20, i21, l22, s23, l24, l25]] [[i1, i2, i3, i4, l5, s6, l7, l8], [i18, i19, i20, i21, l22, s23, l24, l25]] ∧ ∃ k36, k36 < n31 ∧ I30 k36 ((IntKind.wrap .i64 (v32.1 + 1)), ())))
  (br (((i1 : Int) == 10))
  (br ((!(ByteArray.toList s33 == ByteArray.toList s6)))
  (∃ b37 : Bool, CallN Tryz.prog 30 [l14, s33] [[i1, i2, i3, i4, l5, s6, l7, l8], [i18, i19, i20, i21, l22, s23, l24, l25]] b37
  (br ((!b37))
  (Q (.con (.bool false)) [[i1, i2, i3, i4, l5, s6, l7, l8], [i18, i19, i20, i21, l22, s23, l24, l25]])
  ((@Eq PV (.ptr 0 0) (.ptr 0 0) ∧ @Eq PV i11 i11 ∧ @Eq PV i12 i12 ∧ @Eq PV b13 b13 ∧ @Eq PV l14 l14 ∧ @Eq PV (IntKind.wrap .i64 (v17.1 + i26)) (IntKind.wrap .i64 (v17.1 + i26)) ∧ @Eq PV (IntKind.wrap .i64 (v17.2.1 + i27)) (IntKind.wrap .i64 (v17.2.1 + i27)) ∧ @Eq PV v17.2.2.1 v17.2.2.1 ∧ @Eq PV l7 l7 ∧ @Eq PV (.con (.int .i64 (List.length l7 : Int))) (.con (.int .i64 (List.length l7 : Int))) ∧ @Eq PV v17.2.2.1 v17.2.2.1 ∧ @Eq PV l29 l29 ∧ @Eq PV (.con (.int .i64 (List.length l29 : Int))) (.con (.int .i64 (List.length l29 : Int))) ∧ True) ∧ @Eq Heap [[i1, i2, i3, i4, l5, s6, l7, l8], [i18, i19, i20, i21, l22, s23, l24, l25]] [[i1, i2, i3, i4, l5, s6, l7, l8], [i18, i19, i20, i21, l22, s23, l24, l25]] ∧ ∃ k38, k38 < n31 ∧ I30 k38 ((IntKind.wrap .i64 (v32.1 + 1)), ()))))
  ((@Eq PV (.ptr 0 0) (.ptr 0 0) ∧ @Eq PV i11 i11 ∧ @Eq PV i12 i12 ∧ @Eq PV b13 b13 ∧ @Eq PV l14 l14 ∧ @Eq PV (IntKind.wrap .i64 (v17.1 + i26)) (IntKind.wrap .i64 (v17.1 + i26)) ∧ @Eq PV (IntKind.wrap .i64 (v17.2.1 + i27)) (IntKind.wrap .i64 (v17.2.1 + i27)) ∧ @Eq PV v17.2.2.1 v17.2.2.1 ∧ @Eq PV l7 l7 ∧ @Eq PV (.con (.int .i64 (List.length l7 : Int))) (.con (.int .i64 (List.length l7 : Int))) ∧ @Eq PV v17.2.2.1 v17.2.2.1 ∧ @Eq PV l29 l29 ∧ @Eq PV (.con (.int .i64 (List.length l29 : Int))) (.con (.int .i64 (List.length l29 : Int))) ∧ True) ∧ @Eq Heap [[i1, i2, i3, i4, l5, s6, l7, l8], [i18, i19, i20, i21, l22, s23, l24, l25]] [[i1, i2, i3, i4, l5, s6, l7, l8], [i18, i19, i20, i21, l22, s23, l24, l25]] ∧ ∃ k39, k39 < n31 ∧ I30 k39 ((IntKind.wrap .i64 (v32.1 + 1)), ())))
  (∃ b40 : Bool, CallN Tryz.prog 30 [l14, s33] [[i1, i2, i3, i4, l5, s6, l7, l8], [i18, i19, i20, i21, l22, s23, l24, l25]] b40
  (br ((!b40))
  (Q (.con (.bool false)) [[i1, i2, i3, i4, l5, s6, l7, l8], [i18, i19, i20, i21, l22, s23, l24, l25]])
  ((@Eq PV (.ptr 0 0) (.ptr 0 0) ∧ @Eq PV i11 i11 ∧ @Eq PV i12 i12 ∧ @Eq PV b13 b13 ∧ @Eq PV l14 l14 ∧ @Eq PV (IntKind.wrap .i64 (v17.1 + i26)) (IntKind.wrap .i64 (v17.1 + i26)) ∧ @Eq PV (IntKind.wrap .i64 (v17.2.1 + i27)) (IntKind.wrap .i64 (v17.2.1 + i27)) ∧ @Eq PV v17.2.2.1 v17.2.2.1 ∧ @Eq PV l7 l7 ∧ @Eq PV (.con (.int .i64 (List.length l7 : Int))) (.con (.int .i64 (List.length l7 : Int))) ∧ @Eq PV v17.2.2.1 v17.2.2.1 ∧ @Eq PV l29 l29 ∧ @Eq PV (.con (.int .i64 (List.length l29 : Int))) (.con (.int .i64 (List.length l29 : Int))) ∧ True) ∧ @Eq Heap [[i1, i2, i3, i4, l5, s6, l7, l8], [i18, i19, i20, i21, l22, s23, l24, l25]] [[i1, i2, i3, i4, l5, s6, l7, l8], [i18, i19, i20, i21, l22, s23, l24, l25]] ∧ ∃ k41, k41 < n31 ∧ I30 k41 ((IntKind.wrap .i64 (v32.1 + 1)), ()))))))
  (∃ b42 : Bool, CallN Tryz.prog 30 [l14, s33] [[i1, i2, i3, i4, l5, s6, l7, l8], [i18, i19, i20, i21, l22, s23, l24, l25]] b42
  (br ((!b42))
  (Q (.con (.bool false)) [[i1, i2, i3, i4, l5, s6, l7, l8], [i18, i19, i20, i21, l22, s23, l24, l25]])
  ((@Eq PV (.ptr 0 0) (.ptr 0 0) ∧ @Eq PV i11 i11 ∧ @Eq PV i12 i12 ∧ @Eq PV b13 b13 ∧ @Eq PV l14 l14 ∧ @Eq PV (IntKind.wrap .i64 (v17.1 + i26)) (IntKind.wrap .i64 (v17.1 + i26)) ∧ @Eq PV (IntKind.wrap .i64 (v17.2.1 + i27)) (IntKind.wrap .i64 (v17.2.1 + i27)) ∧ @Eq PV v17.2.2.1 v17.2.2.1 ∧ @Eq PV l7 l7 ∧ @Eq PV (.con (.int .i64 (List.length l7 : Int))) (.con (.int .i64 (List.length l7 : Int))) ∧ @Eq PV v17.2.2.1 v17.2.2.1 ∧ @Eq PV l29 l29 ∧ @Eq PV (.con (.int .i64 (List.length l29 : Int))) (.con (.int .i64 (List.length l29 : Int))) ∧ True) ∧ @Eq Heap [[i1, i2, i3, i4, l5, s6, l7, l8], [i18, i19, i20, i21, l22, s23, l24, l25]] [[i1, i2, i3, i4, l5, s6, l7, l8], [i18, i19, i20, i21, l22, s23, l24, l25]] ∧ ∃ k43, k43 < n31 ∧ I30 k43 ((IntKind.wrap .i64 (v32.1 + 1)), ()))))))
  ((@Eq PV (.ptr 0 0) (.ptr 0 0) ∧ @Eq PV i11 i11 ∧ @Eq PV i12 i12 ∧ @Eq PV b13 b13 ∧ @Eq PV l14 l14 ∧ @Eq PV l7 l7 ∧ @Eq PV (.con (.int .i64 (List.length l7 : Int))) (.con (.int .i64 (List.length l7 : Int))) ∧ True) ∧ @Eq Heap [[i1, i2, i3, i4, l5, s6, l7, l8]] [[i1, i2, i3, i4, l5, s6, l7, l8]] ∧ ∃ k44, k44 < n16 ∧ I15 k44 ((IntKind.wrap .i64 (v17.1 + i26)), (IntKind.wrap .i64 (v17.2.1 + i27)), (IntKind.wrap .i64 (v17.2.2.1 + 1)), ())))))))
  (∃ l45 : List (List PV), CallN Tryz.prog 23 [(.agg [i18, i19, i20, i21, l22, s23, l24, l25])] [[i1, i2, i3, i4, l5, s6, l7, l8], [i18, i19, i20, i21, l22, s23, l24, l25]] l45
  (∃ I46 : Nat → ((Int) × Unit) → Prop, (∃ n, I46 n (0, ())) ∧ ∀ (n47 : Nat) (v48 : (Int) × Unit), I46 n47 v48 →
  (br ((decide ((v48.1 : Int) < (List.length l45 : Int))))
  (∃ s49 : ByteArray, IdxN l45 v48.1 [s49]
  (br (((v17.2.2.1 : Int) == 1))
  (br (((i1 : Int) == 6))
  (br ((!(ByteArray.toList s49 == ByteArray.toList s6)))
  (∃ b50 : Bool, CallN Tryz.prog 30 [l14, s49] [[i1, i2, i3, i4, l5, s6, l7, l8], [i18, i19, i20, i21, l22, s23, l24, l25]] b50
  (br ((!b50))
  (Q (.con (.bool false)) [[i1, i2, i3, i4, l5, s6, l7, l8], [i18, i19, i20, i21, l22, s23, l24, l25]])
  ((@Eq PV (.ptr 0 0) (.ptr 0 0) ∧ @Eq PV i11 i11 ∧ @Eq PV i12 i12 ∧ @Eq PV b13 b13 ∧ @Eq PV l14 l14 ∧ @Eq PV (IntKind.wrap .i64 (v17.1 + i26)) (IntKind.wrap .i64 (v17.1 + i26)) ∧ @Eq PV (IntKind.wrap .i64 (v17.2.1 + i27)) (IntKind.wrap .i64 (v17.2.1 + i27)) ∧ @Eq PV v17.2.2.1 v17.2.2.1 ∧ @Eq PV l7 l7 ∧ @Eq PV (.con (.int .i64 (List.length l7 : Int))) (.con (.int .i64 (List.length l7 : Int))) ∧ @Eq PV v17.2.2.1 v17.2.2.1 ∧ @Eq PV l45 l45 ∧ @Eq PV (.con (.int .i64 (List.length l45 : Int))) (.con (.int .i64 (List.length l45 : Int))) ∧ True) ∧ @Eq Heap [[i1, i2, i3, i4, l5, s6, l7, l8], [i18, i19, i20, i21, l22, s23, l24, l25]] [[i1, i2, i3, i4, l5, s6, l7, l8], [i18, i19, i20, i21, l22, s23, l24, l25]] ∧ ∃ k51, k51 < n47 ∧ I46 k51 ((IntKind.wrap .i64 (v48.1 + 1)), ()))))
  ((@Eq PV (.ptr 0 0) (.ptr 0 0) ∧ @Eq PV i11 i11 ∧ @Eq PV i12 i12 ∧ @Eq PV b13 b13 ∧ @Eq PV l14 l14 ∧ @Eq PV (IntKind.wrap .i64 (v17.1 + i26)) (IntKind.wrap .i64 (v17.1 + i26)) ∧ @Eq PV (IntKind.wrap .i64 (v17.2.1 + i27)) (IntKind.wrap .i64 (v17.2.1 + i27)) ∧ @Eq PV v17.2.2.1 v17.2.2.1 ∧ @Eq PV l7 l7 ∧ @Eq PV (.con (.int .i64 (List.length l7 : Int))) (.con (.int .i64 (List.length l7 : Int))) ∧ @Eq PV v17.2.2.1 v17.2.2.1 ∧ @Eq PV l45 l45 ∧ @Eq PV (.con (.int .i64 (List.length l45 : Int))) (.con (.int .i64 (List.length l45 : Int))) ∧ True) ∧ @Eq Heap [[i1, i2, i3, i4, l5, s6, l7, l8], [i18, i19, i20, i21, l22, s23, l24, l25]] [[i1, i2, i3, i4, l5, s6, l7, l8], [i18, i19, i20, i21, l22, s23, l24, l25]] ∧ ∃ k52, k52 < n47 ∧ I46 k52 ((IntKind.wrap .i64 (v48.1 + 1)), ())))
  (br (((i1 : Int) == 10))
  (br ((!(ByteArray.toList s49 == ByteArray.toList s6)))
  (∃ b53 : Bool, CallN Tryz.prog 30 [l14, s49] [[i1, i2, i3, i4, l5, s6, l7, l8], [i18, i19, i20, i21, l22, s23, l24, l25]] b53
  (br ((!b53))
  (Q (.con (.bool false)) [[i1, i2, i3, i4, l5, s6, l7, l8], [i18, i19, i20, i21, l22, s23, l24, l25]])
  ((@Eq PV (.ptr 0 0) (.ptr 0 0) ∧ @Eq PV i11 i11 ∧ @Eq PV i12 i12 ∧ @Eq PV b13 b13 ∧ @Eq PV l14 l14 ∧ @Eq PV (IntKind.wrap .i64 (v17.1 + i26)) (IntKind.wrap .i64 (v17.1 + i26)) ∧ @Eq PV (IntKind.wrap .i64 (v17.2.1 + i27)) (IntKind.wrap .i64 (v17.2.1 + i27)) ∧ @Eq PV v17.2.2.1 v17.2.2.1 ∧ @Eq PV l7 l7 ∧ @Eq PV (.con (.int .i64 (List.length l7 : Int))) (.con (.int .i64 (List.length l7 : Int))) ∧ @Eq PV v17.2.2.1 v17.2.2.1 ∧ @Eq PV l45 l45 ∧ @Eq PV (.con (.int .i64 (List.length l45 : Int))) (.con (.int .i64 (List.length l45 : Int))) ∧ True) ∧ @Eq Heap [[i1, i2, i3, i4, l5, s6, l7, l8], [i18, i19, i20, i21, l22, s23, l24, l25]] [[i1, i2, i3, i4, l5, s6, l7, l8], [i18, i19, i20, i21, l22, s23, l24, l25]] ∧ ∃ k54, k54 < n47 ∧ I46 k54 ((IntKind.wrap .i64 (v48.1 + 1)), ()))))
  ((@Eq PV (.ptr 0 0) (.ptr 0 0) ∧ @Eq PV i11 i11 ∧ @Eq PV i12 i12 ∧ @Eq PV b13 b13 ∧ @Eq PV l14 l14 ∧ @Eq PV (IntKind.wrap .i64 (v17.1 + i26)) (IntKind.wrap .i64 (v17.1 + i26)) ∧ @Eq PV (IntKind.wrap .i64 (v17.2.1 + i27)) (IntKind.wrap .i64 (v17.2.1 + i27)) ∧ @Eq PV v17.2.2.1 v17.2.2.1 ∧ @Eq PV l7 l7 ∧ @Eq PV (.con (.int .i64 (List.length l7 : Int))) (.con (.int .i64 (List.length l7 : Int))) ∧ @Eq PV v17.2.2.1 v17.2.2.1 ∧ @Eq PV l45 l45 ∧ @Eq PV (.con (.int .i64 (List.length l45 : Int))) (.con (.int .i64 (List.length l45 : Int))) ∧ True) ∧ @Eq Heap [[i1, i2, i3, i4, l5, s6, l7, l8], [i18, i19, i20, i21, l22, s23, l24, l25]] [[i1, i2, i3, i4, l5, s6, l7, l8], [i18, i19, i20, i21, l22, s23, l24, l25]] ∧ ∃ k55, k55 < n47 ∧ I46 k55 ((IntKind.wrap .i64 (v48.1 + 1)), ())))
  (∃ b56 : Bool, CallN Tryz.prog 30 [l14, s49] [[i1, i2, i3, i4, l5, s6, l7, l8], [i18, i19, i20, i21, l22, s23, l24, l25]] b56
  (br ((!b56))
  (Q (.con (.bool false)) [[i1, i2, i3, i4, l5, s6, l7, l8], [i18, i19, i20, i21, l22, s23, l24, l25]])
  ((@Eq PV (.ptr 0 0) (.ptr 0 0) ∧ @Eq PV i11 i11 ∧ @Eq PV i12 i12 ∧ @Eq PV b13 b13 ∧ @Eq PV l14 l14 ∧ @Eq PV (IntKind.wrap .i64 (v17.1 + i26)) (IntKind.wrap .i64 (v17.1 + i26)) ∧ @Eq PV (IntKind.wrap .i64 (v17.2.1 + i27)) (IntKind.wrap .i64 (v17.2.1 + i27)) ∧ @Eq PV v17.2.2.1 v17.2.2.1 ∧ @Eq PV l7 l7 ∧ @Eq PV (.con (.int .i64 (List.length l7 : Int))) (.con (.int .i64 (List.length l7 : Int))) ∧ @Eq PV v17.2.2.1 v17.2.2.1 ∧ @Eq PV l45 l45 ∧ @Eq PV (.con (.int .i64 (List.length l45 : Int))) (.con (.int .i64 (List.length l45 : Int))) ∧ True) ∧ @Eq Heap [[i1, i2, i3, i4, l5, s6, l7, l8], [i18, i19, i20, i21, l22, s23, l24, l25]] [[i1, i2, i3, i4, l5, s6, l7, l8], [i18, i19, i20, i21, l22, s23, l24, l25]] ∧ ∃ k57, k57 < n47 ∧ I46 k57 ((IntKind.wrap .i64 (v48.1 + 1)), ()))))))
  (∃ b58 : Bool, CallN Tryz.prog 30 [l14, s49] [[i1, i2, i3, i4, l5, s6, l7, l8], [i18, i19, i20, i21, l22, s23, l24, l25]] b58
  (br ((!b58))
  (Q (.con (.bool false)) [[i1, i2, i3, i4, l5, s6, l7, l8], [i18, i19, i20, i21, l22, s23, l24, l25]])
  ((@Eq PV (.ptr 0 0) (.ptr 0 0) ∧ @Eq PV i11 i11 ∧ @Eq PV i12 i12 ∧ @Eq PV b13 b13 ∧ @Eq PV l14 l14 ∧ @Eq PV (IntKind.wrap .i64 (v17.1 + i26)) (IntKind.wrap .i64 (v17.1 + i26)) ∧ @Eq PV (IntKind.wrap .i64 (v17.2.1 + i27)) (IntKind.wrap .i64 (v17.2.1 + i27)) ∧ @Eq PV v17.2.2.1 v17.2.2.1 ∧ @Eq PV l7 l7 ∧ @Eq PV (.con (.int .i64 (List.length l7 : Int))) (.con (.int .i64 (List.length l7 : Int))) ∧ @Eq PV v17.2.2.1 v17.2.2.1 ∧ @Eq PV l45 l45 ∧ @Eq PV (.con (.int .i64 (List.length l45 : Int))) (.con (.int .i64 (List.length l45 : Int))) ∧ True) ∧ @Eq Heap [[i1, i2, i3, i4, l5, s6, l7, l8], [i18, i19, i20, i21, l22, s23, l24, l25]] [[i1, i2, i3, i4, l5, s6, l7, l8], [i18, i19, i20, i21, l22, s23, l24, l25]] ∧ ∃ k59, k59 < n47 ∧ I46 k59 ((IntKind.wrap .i64 (v48.1 + 1)), ()))))))
  ((@Eq PV (.ptr 0 0) (.ptr 0 0) ∧ @Eq PV i11 i11 ∧ @Eq PV i12 i12 ∧ @Eq PV b13 b13 ∧ @Eq PV l14 l14 ∧ @Eq PV l7 l7 ∧ @Eq PV (.con (.int .i64 (List.length l7 : Int))) (.con (.int .i64 (List.length l7 : Int))) ∧ True) ∧ @Eq Heap [[i1, i2, i3, i4, l5, s6, l7, l8]] [[i1, i2, i3, i4, l5, s6, l7, l8]] ∧ ∃ k60, k60 < n16 ∧ I15 k60 ((IntKind.wrap .i64 (v17.1 + i26)), (IntKind.wrap .i64 (v17.2.1 + i27)), (IntKind.wrap .i64 (v17.2.2.1 + 1)), ()))))))))
  (∃ I61 : Nat → ((Int) × (Int) × (Int) × Unit) → Prop, (∃ n, I61 n (v17.1, v17.2.1, 0, ())) ∧ ∀ (n62 : Nat) (v63 : (Int) × (Int) × (Int) × Unit), I61 n62 v63 →
  (br ((decide ((v63.2.2.1 : Int) < (List.length l8 : Int))))
  (∃ i64 : Int, ∃ i65 : Int, ∃ i66 : Int, ∃ s67 : ByteArray, ∃ i68 : Int, ∃ l69 : List (List PV), ∃ i70 : Int, ∃ i71 : Int, ∃ i72 : Int, ∃ i73 : Int, ∃ l74 : List (List PV), ∃ s75 : ByteArray, ∃ l76 : List (List PV), ∃ l77 : List (List PV), IdxN l8 v63.2.2.1 [i64, i65, i66, s67, i68, l69, i70, i71, i72, i73, l74, s75, l76, l77]
  (∃ i78 : Int, ∃ i79 : Int, CallN Tryz.prog 21 [(.agg [i70, i71, i72, i73, l74, s75, l76, l77])] [[i1, i2, i3, i4, l5, s6, l7, l8], [i64, i65, i66, s67, i68, l69, i70, i71, i72, i73, l74, s75, l76, l77]] (.tup [i78, i79])
  (br (b13)
  (∃ b80 : Bool, CallN Tryz.prog 14 [(.agg [i70, i71, i72, i73, l74, s75, l76, l77])] [[i1, i2, i3, i4, l5, s6, l7, l8], [i64, i65, i66, s67, i68, l69, i70, i71, i72, i73, l74, s75, l76, l77]] b80
  (br ((!b80))
  (Q (.con (.bool false)) [[i1, i2, i3, i4, l5, s6, l7, l8], [i64, i65, i66, s67, i68, l69, i70, i71, i72, i73, l74, s75, l76, l77]])
  (∃ b81 : Bool, CallN Tryz.prog 16 [(.agg [i64, i65, i66, s67, i68, l69])] [[i1, i2, i3, i4, l5, s6, l7, l8], [i64, i65, i66, s67, i68, l69, i70, i71, i72, i73, l74, s75, l76, l77]] b81
  (br ((!b81))
  (Q (.con (.bool false)) [[i1, i2, i3, i4, l5, s6, l7, l8], [i64, i65, i66, s67, i68, l69, i70, i71, i72, i73, l74, s75, l76, l77]])
  (∃ l82 : List (List PV), CallN Tryz.prog 23 [(.agg [i70, i71, i72, i73, l74, s75, l76, l77])] [[i1, i2, i3, i4, l5, s6, l7, l8], [i64, i65, i66, s67, i68, l69, i70, i71, i72, i73, l74, s75, l76, l77]] l82
  (∃ I83 : Nat → ((Int) × Unit) → Prop, (∃ n, I83 n (0, ())) ∧ ∀ (n84 : Nat) (v85 : (Int) × Unit), I83 n84 v85 →
  (br ((decide ((v85.1 : Int) < (List.length l82 : Int))))
  (∃ s86 : ByteArray, IdxN l82 v85.1 [s86]
  (∃ l87 : List (List PV), CallN Tryz.prog 31 [(.agg [i64, i65, i66, s67, i68, l69])] [[i1, i2, i3, i4, l5, s6, l7, l8], [i64, i65, i66, s67, i68, l69, i70, i71, i72, i73, l74, s75, l76, l77]] l87
  (∃ b88 : Bool, CallN Tryz.prog 30 [l87, s86] [[i1, i2, i3, i4, l5, s6, l7, l8], [i64, i65, i66, s67, i68, l69, i70, i71, i72, i73, l74, s75, l76, l77]] b88
  (br ((!b88))
  (∃ b89 : Bool, CallN Tryz.prog 30 [l14, s86] [[i1, i2, i3, i4, l5, s6, l7, l8], [i64, i65, i66, s67, i68, l69, i70, i71, i72, i73, l74, s75, l76, l77]] b89
  (br ((!b89))
  (Q (.con (.bool false)) [[i1, i2, i3, i4, l5, s6, l7, l8], [i64, i65, i66, s67, i68, l69, i70, i71, i72, i73, l74, s75, l76, l77]])
  ((@Eq PV (.ptr 0 0) (.ptr 0 0) ∧ @Eq PV i11 i11 ∧ @Eq PV i12 i12 ∧ @Eq PV b13 b13 ∧ @Eq PV l14 l14 ∧ @Eq PV (IntKind.wrap .i64 (v63.1 + i78)) (IntKind.wrap .i64 (v63.1 + i78)) ∧ @Eq PV (IntKind.wrap .i64 (v63.2.1 + i79)) (IntKind.wrap .i64 (v63.2.1 + i79)) ∧ @Eq PV (.ptr 1 0) (.ptr 1 0) ∧ @Eq PV l8 l8 ∧ @Eq PV (.con (.int .i64 (List.length l8 : Int))) (.con (.int .i64 (List.length l8 : Int))) ∧ @Eq PV v63.2.2.1 v63.2.2.1 ∧ @Eq PV l82 l82 ∧ @Eq PV (.con (.int .i64 (List.length l82 : Int))) (.con (.int .i64 (List.length l82 : Int))) ∧ True) ∧ @Eq Heap [[i1, i2, i3, i4, l5, s6, l7, l8], [i64, i65, i66, s67, i68, l69, i70, i71, i72, i73, l74, s75, l76, l77]] [[i1, i2, i3, i4, l5, s6, l7, l8], [i64, i65, i66, s67, i68, l69, i70, i71, i72, i73, l74, s75, l76, l77]] ∧ ∃ k90, k90 < n84 ∧ I83 k90 ((IntKind.wrap .i64 (v85.1 + 1)), ()))))
  ((@Eq PV (.ptr 0 0) (.ptr 0 0) ∧ @Eq PV i11 i11 ∧ @Eq PV i12 i12 ∧ @Eq PV b13 b13 ∧ @Eq PV l14 l14 ∧ @Eq PV (IntKind.wrap .i64 (v63.1 + i78)) (IntKind.wrap .i64 (v63.1 + i78)) ∧ @Eq PV (IntKind.wrap .i64 (v63.2.1 + i79)) (IntKind.wrap .i64 (v63.2.1 + i79)) ∧ @Eq PV (.ptr 1 0) (.ptr 1 0) ∧ @Eq PV l8 l8 ∧ @Eq PV (.con (.int .i64 (List.length l8 : Int))) (.con (.int .i64 (List.length l8 : Int))) ∧ @Eq PV v63.2.2.1 v63.2.2.1 ∧ @Eq PV l82 l82 ∧ @Eq PV (.con (.int .i64 (List.length l82 : Int))) (.con (.int .i64 (List.length l82 : Int))) ∧ True) ∧ @Eq Heap [[i1, i2, i3, i4, l5, s6, l7, l8], [i64, i65, i66, s67, i68, l69, i70, i71, i72, i73, l74, s75, l76, l77]] [[i1, i2, i3, i4, l5, s6, l7, l8], [i64, i65, i66, s67, i68, l69, i70, i71, i72, i73, l74, s75, l76, l77]] ∧ ∃ k91, k91 < n84 ∧ I83 k91 ((IntKind.wrap .i64 (v85.1 + 1)), ()))))))
  ((@Eq PV (.ptr 0 0) (.ptr 0 0) ∧ @Eq PV i11 i11 ∧ @Eq PV i12 i12 ∧ @Eq PV b13 b13 ∧ @Eq PV l14 l14 ∧ @Eq PV l8 l8 ∧ @Eq PV (.con (.int .i64 (List.length l8 : Int))) (.con (.int .i64 (List.length l8 : Int))) ∧ True) ∧ @Eq Heap [[i1, i2, i3, i4, l5, s6, l7, l8]] [[i1, i2, i3, i4, l5, s6, l7, l8]] ∧ ∃ k92, k92 < n62 ∧ I61 k92 ((IntKind.wrap .i64 (v63.1 + i78)), (IntKind.wrap .i64 (v63.2.1 + i79)), (IntKind.wrap .i64 (v63.2.2.1 + 1)), ())))))))))
  (∃ l93 : List (List PV), CallN Tryz.prog 23 [(.agg [i70, i71, i72, i73, l74, s75, l76, l77])] [[i1, i2, i3, i4, l5, s6, l7, l8], [i64, i65, i66, s67, i68, l69, i70, i71, i72, i73, l74, s75, l76, l77]] l93
  (∃ I94 : Nat → ((Int) × Unit) → Prop, (∃ n, I94 n (0, ())) ∧ ∀ (n95 : Nat) (v96 : (Int) × Unit), I94 n95 v96 →
  (br ((decide ((v96.1 : Int) < (List.length l93 : Int))))
  (∃ s97 : ByteArray, IdxN l93 v96.1 [s97]
  (∃ l98 : List (List PV), CallN Tryz.prog 31 [(.agg [i64, i65, i66, s67, i68, l69])] [[i1, i2, i3, i4, l5, s6, l7, l8], [i64, i65, i66, s67, i68, l69, i70, i71, i72, i73, l74, s75, l76, l77]] l98
  (∃ b99 : Bool, CallN Tryz.prog 30 [l98, s97] [[i1, i2, i3, i4, l5, s6, l7, l8], [i64, i65, i66, s67, i68, l69, i70, i71, i72, i73, l74, s75, l76, l77]] b99
  (br ((!b99))
  (∃ b100 : Bool, CallN Tryz.prog 30 [l14, s97] [[i1, i2, i3, i4, l5, s6, l7, l8], [i64, i65, i66, s67, i68, l69, i70, i71, i72, i73, l74, s75, l76, l77]] b100
  (br ((!b100))
  (Q (.con (.bool false)) [[i1, i2, i3, i4, l5, s6, l7, l8], [i64, i65, i66, s67, i68, l69, i70, i71, i72, i73, l74, s75, l76, l77]])
  ((@Eq PV (.ptr 0 0) (.ptr 0 0) ∧ @Eq PV i11 i11 ∧ @Eq PV i12 i12 ∧ @Eq PV b13 b13 ∧ @Eq PV l14 l14 ∧ @Eq PV (IntKind.wrap .i64 (v63.1 + i78)) (IntKind.wrap .i64 (v63.1 + i78)) ∧ @Eq PV (IntKind.wrap .i64 (v63.2.1 + i79)) (IntKind.wrap .i64 (v63.2.1 + i79)) ∧ @Eq PV (.ptr 1 0) (.ptr 1 0) ∧ @Eq PV l8 l8 ∧ @Eq PV (.con (.int .i64 (List.length l8 : Int))) (.con (.int .i64 (List.length l8 : Int))) ∧ @Eq PV v63.2.2.1 v63.2.2.1 ∧ @Eq PV l93 l93 ∧ @Eq PV (.con (.int .i64 (List.length l93 : Int))) (.con (.int .i64 (List.length l93 : Int))) ∧ True) ∧ @Eq Heap [[i1, i2, i3, i4, l5, s6, l7, l8], [i64, i65, i66, s67, i68, l69, i70, i71, i72, i73, l74, s75, l76, l77]] [[i1, i2, i3, i4, l5, s6, l7, l8], [i64, i65, i66, s67, i68, l69, i70, i71, i72, i73, l74, s75, l76, l77]] ∧ ∃ k101, k101 < n95 ∧ I94 k101 ((IntKind.wrap .i64 (v96.1 + 1)), ()))))
  ((@Eq PV (.ptr 0 0) (.ptr 0 0) ∧ @Eq PV i11 i11 ∧ @Eq PV i12 i12 ∧ @Eq PV b13 b13 ∧ @Eq PV l14 l14 ∧ @Eq PV (IntKind.wrap .i64 (v63.1 + i78)) (IntKind.wrap .i64 (v63.1 + i78)) ∧ @Eq PV (IntKind.wrap .i64 (v63.2.1 + i79)) (IntKind.wrap .i64 (v63.2.1 + i79)) ∧ @Eq PV (.ptr 1 0) (.ptr 1 0) ∧ @Eq PV l8 l8 ∧ @Eq PV (.con (.int .i64 (List.length l8 : Int))) (.con (.int .i64 (List.length l8 : Int))) ∧ @Eq PV v63.2.2.1 v63.2.2.1 ∧ @Eq PV l93 l93 ∧ @Eq PV (.con (.int .i64 (List.length l93 : Int))) (.con (.int .i64 (List.length l93 : Int))) ∧ True) ∧ @Eq Heap [[i1, i2, i3, i4, l5, s6, l7, l8], [i64, i65, i66, s67, i68, l69, i70, i71, i72, i73, l74, s75, l76, l77]] [[i1, i2, i3, i4, l5, s6, l7, l8], [i64, i65, i66, s67, i68, l69, i70, i71, i72, i73, l74, s75, l76, l77]] ∧ ∃ k102, k102 < n95 ∧ I94 k102 ((IntKind.wrap .i64 (v96.1 + 1)), ()))))))
  ((@Eq PV (.ptr 0 0) (.ptr 0 0) ∧ @Eq PV i11 i11 ∧ @Eq PV i12 i12 ∧ @Eq PV b13 b13 ∧ @Eq PV l14 l14 ∧ @Eq PV l8 l8 ∧ @Eq PV (.con (.int .i64 (List.length l8 : Int))) (.con (.int .i64 (List.length l8 : Int))) ∧ True) ∧ @Eq Heap [[i1, i2, i3, i4, l5, s6, l7, l8]] [[i1, i2, i3, i4, l5, s6, l7, l8]] ∧ ∃ k103, k103 < n62 ∧ I61 k103 ((IntKind.wrap .i64 (v63.1 + i78)), (IntKind.wrap .i64 (v63.2.1 + i79)), (IntKind.wrap .i64 (v63.2.2.1 + 1)), ()))))))))
  (br (((i11 : Int) == v63.1))
  (br ((decide ((i12 : Int) ≥ (IntKind.wrap .i64 (v63.2.1 + (List.length l8 : Int))))))
  (∃ b104 : Bool, CallN Tryz.prog 28 [(.agg [i1, i2, i3, i4, l5, s6, l7, l8]), (.agg [i1, i2, i3, i4, l5, s6, l7, l8])] [[i1, i2, i3, i4, l5, s6, l7, l8]] b104
  (br (b104)
  (∃ b105 : Bool, CallN Tryz.prog 11 [] [[i1, i2, i3, i4, l5, s6, l7, l8]] b105
  (Q b105 [[i1, i2, i3, i4, l5, s6, l7, l8]]))
  (Q (.con (.bool false)) [[i1, i2, i3, i4, l5, s6, l7, l8]])))
  (Q (.con (.bool false)) [[i1, i2, i3, i4, l5, s6, l7, l8]]))
  (Q (.con (.bool false)) [[i1, i2, i3, i4, l5, s6, l7, l8]]))))))))))
theorem a5 (i1 i2 i3 i4 : Int) (l5 : List (List PV)) (s6 : ByteArray) (l7 l8 : List (List PV)) (Q : PV → Heap → Prop) (h : p5 i1 i2 i3 i4 l5 s6 l7 l8 Q) : ACalls Tryz.prog 5 [(.agg [i1, i2, i3, i4, l5, s6, l7, l8])] [] Q := by
  have hb : Option.some (bodyOf Tryz.f5) = Tryz.f5.body := by kernel_rfl
  exact acalls_eq (S := S) (L := loops5) mixed tok Tryz.func5 hb.symm (by kernel_rfl) h
end Go.Proofs.YtcmnjodjebcapaaGreat.Deep

namespace Go.Proofs.YtcmnjodjebcapaaGreat.Deep
open Go.RowKit
set_option linter.unusedVariables false
set_option linter.unusedSimpArgs false
theorem cntEs_take : ∀ (es : List Ex) (j : Nat) (h : j < es.length), cntEs (es.take (j + 1)) = cntEs (es.take j) + cntE es[j]
  | e :: es, 0, h => by simp [cntEs]
  | e :: es, j + 1, h => by
    have := cntEs_take es j (by simpa using h)
    simp only [List.take_succ_cons, cntEs, List.getElem_cons_succ, this]; omega
theorem cntQs_take : ∀ (es : List Ex) (j : Nat) (h : j < es.length), cntQs (es.take (j + 1)) = cntQs (es.take j) + cntQ es[j]
  | e :: es, 0, h => by simp [cntQs]
  | e :: es, j + 1, h => by
    have := cntQs_take es j (by simpa using h)
    simp only [List.take_succ_cons, cntQs, List.getElem_cons_succ, this]; omega
mutual
theorem cntP_u : ∀ t : Pt, cntP t = uP t
  | .mk _ _ _ _ _ ks => by unfold cntP uP; rw [(cntPs_u ks).1]; push_cast; rfl
theorem cntPs_u : ∀ ts : List Pt, cntPs ts = uPs ts ∧ (ts.length : Int) ≤ cntPs ts
  | [] => by simp [cntPs, uPs]
  | t :: ts => by
    obtain ⟨h1, h2⟩ := cntPs_u ts
    have h3 := cntP_u t
    have h4 : 1 ≤ uP t := by cases t; unfold uP; omega
    unfold cntPs uPs
    simp only [List.length_cons]
    push_cast
    omega
end
mutual
theorem cntQ_u : ∀ t : Ex, wfEx t → 0 ≤ cntQ t ∧ cntQ t ≤ uE t
  | .mk _ _ _ _ _ _ ks ps bs, h => by
    unfold wfEx at h
    have h1 := cntQs_u ks h.2.1
    have h2 := cntQa_u bs ps h.1 h.2.2
    unfold cntQ uE
    push_cast
    omega
theorem cntQs_u : ∀ ts : List Ex, wfExs ts → 0 ≤ cntQs ts ∧ cntQs ts ≤ uEs ts
  | [], _ => by simp [cntQs, uEs]
  | t :: ts, h => by
    have h1 := cntQ_u t h.1
    have h2 := cntQs_u ts h.2
    unfold cntQs uEs
    push_cast
    omega
theorem cntQa_u : ∀ (bs : List Ex) (ps : List Pt), ps.length = bs.length → wfExs bs → 0 ≤ cntPs ps + cntQs bs ∧ cntPs ps + cntQs bs ≤ uAr bs ps
  | [], [], _, _ => by simp [cntQs, cntPs, uAr]
  | [], p :: ps, h, _ => by simp at h
  | b :: bs, [], h, _ => by simp at h
  | b :: bs, p :: ps, h, hw => by
    have h1 := cntQ_u b hw.1
    have h2 := cntQa_u bs ps (by simpa using h) hw.2
    have h3 := cntP_u p
    unfold cntQs cntPs uAr
    push_cast
    omega
end
mutual
theorem fitPt_more : ∀ (t : Pt) (D : Nat), fitPt D t = true → fitPt (D + 1) t = true
  | .mk k li co n m ks, D, h => by
    cases D with
    | zero => unfold fitPt at h; cases h
    | succ D =>
      unfold fitPt at h ⊢
      rw [Bool.and_eq_true] at h ⊢
      exact ⟨h.1, fitPts_more ks D h.2⟩
theorem fitPts_more : ∀ (ts : List Pt) (D : Nat), ts.all (fitPt D) = true → ts.all (fitPt (D + 1)) = true
  | [], D, _ => rfl
  | t :: ts, D, h => by
    rw [List.all_cons, Bool.and_eq_true] at h ⊢
    exact ⟨fitPt_more t D h.1, fitPts_more ts D h.2⟩
end
mutual
theorem fitEx_more : ∀ (t : Ex) (D : Nat), fitEx D t = true → fitEx (D + 1) t = true
  | .mk k li co m b n ks ps bs, D, h => by
    cases D with
    | zero => unfold fitEx at h; cases h
    | succ D =>
      unfold fitEx at h ⊢
      simp only [Bool.and_eq_true] at h ⊢
      exact ⟨h.1, fitExs_more ks D h.2.1, fitPts_more ps D h.2.2.1, fitExs_more bs D h.2.2.2⟩
theorem fitExs_more : ∀ (ts : List Ex) (D : Nat), ts.all (fitEx D) = true → ts.all (fitEx (D + 1)) = true
  | [], D, _ => rfl
  | t :: ts, D, h => by
    rw [List.all_cons, Bool.and_eq_true] at h ⊢
    exact ⟨fitEx_more t D h.1, fitExs_more ts D h.2⟩
end
theorem fit_parts {k li co m : Int} {b : List UInt8} {n : ByteArray} {ks : List Ex} {ps : List Pt} {bs : List Ex} (h : fitEx 64 (.mk k li co m b n ks ps bs) = true) : (∀ e ∈ ks, fitEx 64 e = true) ∧ (∀ p ∈ ps, fitPt 64 p = true) ∧ ∀ e ∈ bs, fitEx 64 e = true := by
  unfold fitEx at h
  simp only [Bool.and_eq_true, List.all_eq_true] at h
  exact ⟨fun e he => fitEx_more e 63 (h.2.1 e he), fun p hp => fitPt_more p 63 (h.2.2.1 p hp), fun e he => fitEx_more e 63 (h.2.2.2 e he)⟩
set_option maxRecDepth 100000 in
theorem astParts_p (e : Ex) (hw : wfEx e) : PCalls Tryz.prog 5 [.agg (exP e)] (fun r => r = .con (.bool true)) := by
  have L1 := light_ex e hw 3000 (by omega) (by omega)
  have hsm := (lightEx_ok e 3000).2.2.2 (by omega)
  have hu := uE_few e
  obtain ⟨L, hL⟩ : ∃ L, lightEx e 3000 = L := ⟨_, rfl⟩
  rw [hL] at L1 hsm hu
  clear hL
  obtain ⟨k, li, co, m, b, n, ks, ps, bs⟩ := e
  refine a5 _ _ _ _ _ _ _ _ _ ?_
  unfold p5
  refine ⟨_, call_p (enters_of Tryz.func8 (by kernel_rfl) rfl) L1 rfl ?_⟩
  refine br_i (fun h => ⟨_, call_p (enters_of Tryz.func11 (by kernel_rfl) rfl) awake_p rfl ⟨rfl, rfl⟩⟩) (fun h1 => ?_)
  have h1 : 0 ≤ L := by simpa using h1
  have hs := hsm h1 hw
  have hue := hu h1
  clear hsm hu L1 h1
  have c1 := nodes_p _ hs hw
  have c2 := fit_exF' _ hs hw
  have c3 := free_c _ hs hw hue
  rw [free_eq _ hue] at c3
  have hself := same_ex _ hs hw _ hw
  rw [sameE_self] at hself
  have hcE : cntE (.mk k li co m b n ks ps bs) = 1 + (cntEs ks + cntEs bs) := by unfold cntE; rfl
  have hcQ : cntQ (.mk k li co m b n ks ps bs) = cntQs ks + (cntPs ps + cntQs bs) := by unfold cntQ; rfl
  have hqb := cntQ_u _ hw
  have hfp := @fit_parts k li co m b n ks ps bs
  obtain ⟨F, hF⟩ : ∃ F, freeR (.mk k li co m b n ks ps bs) [] [] = F := ⟨_, rfl⟩
  have hFl : F.length ≤ 1099511627776 := by
    have := freeR_len (.mk k li co m b n ks ps bs) [] []
    rw [hF] at this
    simp only [List.length_nil] at this
    omega
  have hFm : ∀ s, (fvK ks k n 0 s ∨ fvA bs ps s) → s ∈ F := fun s h => by
    rw [← hF, free_mem]; unfold fvE; exact .inr h
  rw [hF] at c3
  obtain ⟨B, hB⟩ : ∃ B, fitEx 64 (.mk k li co m b n ks ps bs) = B := ⟨_, rfl⟩
  rw [hB] at c2 hfp
  have hs0 := hs
  have hw0 := hw
  unfold smallEx at hs
  unfold wfEx at hw
  obtain ⟨hsb, hsn0, hsk, hsp, hsbs, hsks, hsps, hsbb⟩ := hs
  obtain ⟨hpl, hwk, hwb⟩ := hw
  unfold uE at hue
  have hxE := exPs_len ks
  have hxA := arPs_len bs ps hpl
  refine ⟨_, _, call_p (enters_of Tryz.func21 (by kernel_rfl) rfl) c1 rfl ?_⟩
  refine ⟨_, call_p (enters_of Tryz.func14 (by kernel_rfl) rfl) c2 rfl ?_⟩
  refine ⟨_, call_p (enters_of Tryz.func23 (by kernel_rfl) rfl) c3 rfl ?_⟩
  rw [hxE, hxA]
  refine ⟨fun c v => ∃ j : Nat, j ≤ ks.length ∧ c = ks.length - j ∧ v.1 = W (1 + cntEs (ks.take j)) ∧ v.2.1 = W (cntQs (ks.take j)) ∧ v.2.2.1 = (j : Int), ⟨_, 0, Nat.zero_le _, rfl, by simp only [List.take_zero, cntEs]; rfl, by simp only [List.take_zero, cntQs]; rfl, rfl⟩, ?_⟩
  rintro c ⟨a1, a2, i, u⟩ ⟨j, hj, rfl, ha1, ha2, hi⟩
  dsimp only at ha1 ha2 hi ⊢
  subst ha1 ha2 hi
  refine br_i (fun hlt => ?_) (fun hge => ?_)
  · have hlt : j < ks.length := by simpa using hlt
    have hu2 := uEs_take ks j hlt
    have hm := List.getElem_mem hlt
    have d1 := nodes_p ks[j] (smallExs_mem hsks _ hm) (wfExs_mem hwk _ hm)
    have d2 := fit_exF' ks[j] (smallExs_mem hsks _ hm) (wfExs_mem hwk _ hm)
    have d3 := free_c ks[j] (smallExs_mem hsks _ hm) (wfExs_mem hwk _ hm) (by omega)
    rw [free_eq _ (by omega)] at d3
    have hfit : B = true → fitEx 64 ks[j] = true := fun h => (hfp h).1 _ hm
    have hin : ∀ s ∈ freeR ks[j] [] [], s ∉ giv k n j → s ∈ F := fun s h1 h2 => hFm s (.inl (fvK_at ks k n 0 j hlt s ((free_mem _ s).1 h1) (by rw [Nat.zero_add]; exact h2)))
    have hKl := freeR_len ks[j] [] []
    obtain ⟨K, hK⟩ : ∃ K, freeR ks[j] [] [] = K := ⟨_, rfl⟩
    rw [hK] at d3 hin hKl
    simp only [List.length_nil] at hKl
    have hidx : (exPs ks)[j]? = some (exP ks[j]) := exPs_get ks j hlt
    obtain ⟨x0, x1, x2, x3, x4, x5, x6, x7, ex⟩ := cells_Expr ks[j]
    rw [ex] at hidx d1 d2 d3
    refine ⟨_, _, _, _, _, _, _, _, ⟨by omega, by rw [Int.toNat_natCast]; exact hidx, ?_⟩⟩
    refine ⟨_, _, call_p (enters_of Tryz.func21 (by kernel_rfl) rfl) d1 rfl ?_⟩
    refine br_i (fun hb => ?_) (fun hb => ?_)
    · rw [hfit hb] at d2
      refine ⟨_, call_p (enters_of Tryz.func14 (by kernel_rfl) rfl) d2 rfl ?_⟩
      refine br_i (fun q => by cases q) (fun _ => ?_)
      refine ⟨_, call_p (enters_of Tryz.func23 (by kernel_rfl) rfl) d3 rfl ?_⟩
      refine ⟨fun c v => ∃ j : Nat, j ≤ K.length ∧ c = K.length - j ∧ v.1 = (j : Int), ⟨_, 0, Nat.zero_le _, rfl, rfl⟩, ?_⟩
      rintro c2 ⟨i2, u2⟩ ⟨j2, hj2, rfl, hi2⟩
      dsimp only at hi2 ⊢
      subst hi2
      rw [nmP_len]
      refine br_i (fun hlt2 => ?_) (fun hge2 => ?_)
      · have hlt2 : j2 < K.length := by simpa using hlt2
        refine ⟨_, ⟨by omega, by rw [Int.toNat_natCast]; exact nmP_get K j2 hlt2, ?_⟩⟩
        obtain ⟨s, hs⟩ : ∃ s, K[j2] = s := ⟨_, rfl⟩
        have hsK : s ∈ K := hs ▸ List.getElem_mem hlt2
        rw [hs]
        refine br_i (fun q1 => ?_) (fun q1 => ?_)
        · have q1 : j = 1 := by have : (j : Int) = 1 := by simpa using q1
                                omega
          refine br_i (fun q2 => ?_) (fun q2 => ?_)
          · have q2 : k = 6 := by simpa using q2
            rw [beq_str]
            refine br_i (fun q3 => ?_) (fun q3 => ⟨(by (repeat refine And.intro rfl ?_); exact trivial), rfl, K.length - (j2 + 1), by omega, j2 + 1, by omega, rfl, by rw [wrap_id (by omega) (by omega)]; simp⟩)
            have hsF : s ∈ F := hin s hsK (by unfold giv; rw [if_pos ⟨q1, .inl q2⟩]; simpa using q3)
            have hh := rhas_p F s hFl
            rw [decide_eq_true hsF] at hh
            refine ⟨_, call_p (enters_of Tryz.func30 (by kernel_rfl) rfl) hh rfl ?_⟩
            exact br_i (fun q => by cases q) (fun _ => ⟨(by (repeat refine And.intro rfl ?_); exact trivial), rfl, K.length - (j2 + 1), by omega, j2 + 1, by omega, rfl, by rw [wrap_id (by omega) (by omega)]; simp⟩)
          have q2 : ¬ k = 6 := by simpa using q2
          refine br_i (fun q3 => ?_) (fun q3 => ?_)
          · have q3 : k = 10 := by simpa using q3
            rw [beq_str]
            refine br_i (fun q4 => ?_) (fun q4 => ⟨(by (repeat refine And.intro rfl ?_); exact trivial), rfl, K.length - (j2 + 1), by omega, j2 + 1, by omega, rfl, by rw [wrap_id (by omega) (by omega)]; simp⟩)
            have hsF : s ∈ F := hin s hsK (by unfold giv; rw [if_pos ⟨q1, .inr q3⟩]; simpa using q4)
            have hh := rhas_p F s hFl
            rw [decide_eq_true hsF] at hh
            refine ⟨_, call_p (enters_of Tryz.func30 (by kernel_rfl) rfl) hh rfl ?_⟩
            exact br_i (fun q => by cases q) (fun _ => ⟨(by (repeat refine And.intro rfl ?_); exact trivial), rfl, K.length - (j2 + 1), by omega, j2 + 1, by omega, rfl, by rw [wrap_id (by omega) (by omega)]; simp⟩)
          have q3 : ¬ k = 10 := by simpa using q3
          have hsF : s ∈ F := hin s hsK (by unfold giv; rw [if_neg (fun q => q.2.elim q2 q3)]; simp)
          have hh := rhas_p F s hFl
          rw [decide_eq_true hsF] at hh
          refine ⟨_, call_p (enters_of Tryz.func30 (by kernel_rfl) rfl) hh rfl ?_⟩
          exact br_i (fun q => by cases q) (fun _ => ⟨(by (repeat refine And.intro rfl ?_); exact trivial), rfl, K.length - (j2 + 1), by omega, j2 + 1, by omega, rfl, by rw [wrap_id (by omega) (by omega)]; simp⟩)
        have q1 : ¬ j = 1 := by have : ¬ (j : Int) = 1 := by simpa using q1
                                omega
        have hsF : s ∈ F := hin s hsK (by unfold giv; rw [if_neg (fun q => q1 q.1)]; simp)
        have hh := rhas_p F s hFl
        rw [decide_eq_true hsF] at hh
        refine ⟨_, call_p (enters_of Tryz.func30 (by kernel_rfl) rfl) hh rfl ?_⟩
        exact br_i (fun q => by cases q) (fun _ => ⟨(by (repeat refine And.intro rfl ?_); exact trivial), rfl, K.length - (j2 + 1), by omega, j2 + 1, by omega, rfl, by rw [wrap_id (by omega) (by omega)]; simp⟩)
      exact ⟨(by (repeat refine And.intro rfl ?_); exact trivial), rfl, ks.length - (j + 1), by omega, j + 1, by omega, rfl, by rw [W_lr, cntEs_take ks j hlt, Int.add_assoc], by rw [W_lr, cntQs_take ks j hlt], by rw [wrap_id (by omega) (by omega)]; simp⟩
    refine ⟨_, call_p (enters_of Tryz.func23 (by kernel_rfl) rfl) d3 rfl ?_⟩
    refine ⟨fun c v => ∃ j : Nat, j ≤ K.length ∧ c = K.length - j ∧ v.1 = (j : Int), ⟨_, 0, Nat.zero_le _, rfl, rfl⟩, ?_⟩
    rintro c2 ⟨i2, u2⟩ ⟨j2, hj2, rfl, hi2⟩
    dsimp only at hi2 ⊢
    subst hi2
    rw [nmP_len]
    refine br_i (fun hlt2 => ?_) (fun hge2 => ?_)
    · have hlt2 : j2 < K.length := by simpa using hlt2
      refine ⟨_, ⟨by omega, by rw [Int.toNat_natCast]; exact nmP_get K j2 hlt2, ?_⟩⟩
      obtain ⟨s, hs⟩ : ∃ s, K[j2] = s := ⟨_, rfl⟩
      have hsK : s ∈ K := hs ▸ List.getElem_mem hlt2
      rw [hs]
      refine br_i (fun q1 => ?_) (fun q1 => ?_)
      · have q1 : j = 1 := by have : (j : Int) = 1 := by simpa using q1
                              omega
        refine br_i (fun q2 => ?_) (fun q2 => ?_)
        · have q2 : k = 6 := by simpa using q2
          rw [beq_str]
          refine br_i (fun q3 => ?_) (fun q3 => ⟨(by (repeat refine And.intro rfl ?_); exact trivial), rfl, K.length - (j2 + 1), by omega, j2 + 1, by omega, rfl, by rw [wrap_id (by omega) (by omega)]; simp⟩)
          have hsF : s ∈ F := hin s hsK (by unfold giv; rw [if_pos ⟨q1, .inl q2⟩]; simpa using q3)
          have hh := rhas_p F s hFl
          rw [decide_eq_true hsF] at hh
          refine ⟨_, call_p (enters_of Tryz.func30 (by kernel_rfl) rfl) hh rfl ?_⟩
          exact br_i (fun q => by cases q) (fun _ => ⟨(by (repeat refine And.intro rfl ?_); exact trivial), rfl, K.length - (j2 + 1), by omega, j2 + 1, by omega, rfl, by rw [wrap_id (by omega) (by omega)]; simp⟩)
        have q2 : ¬ k = 6 := by simpa using q2
        refine br_i (fun q3 => ?_) (fun q3 => ?_)
        · have q3 : k = 10 := by simpa using q3
          rw [beq_str]
          refine br_i (fun q4 => ?_) (fun q4 => ⟨(by (repeat refine And.intro rfl ?_); exact trivial), rfl, K.length - (j2 + 1), by omega, j2 + 1, by omega, rfl, by rw [wrap_id (by omega) (by omega)]; simp⟩)
          have hsF : s ∈ F := hin s hsK (by unfold giv; rw [if_pos ⟨q1, .inr q3⟩]; simpa using q4)
          have hh := rhas_p F s hFl
          rw [decide_eq_true hsF] at hh
          refine ⟨_, call_p (enters_of Tryz.func30 (by kernel_rfl) rfl) hh rfl ?_⟩
          exact br_i (fun q => by cases q) (fun _ => ⟨(by (repeat refine And.intro rfl ?_); exact trivial), rfl, K.length - (j2 + 1), by omega, j2 + 1, by omega, rfl, by rw [wrap_id (by omega) (by omega)]; simp⟩)
        have q3 : ¬ k = 10 := by simpa using q3
        have hsF : s ∈ F := hin s hsK (by unfold giv; rw [if_neg (fun q => q.2.elim q2 q3)]; simp)
        have hh := rhas_p F s hFl
        rw [decide_eq_true hsF] at hh
        refine ⟨_, call_p (enters_of Tryz.func30 (by kernel_rfl) rfl) hh rfl ?_⟩
        exact br_i (fun q => by cases q) (fun _ => ⟨(by (repeat refine And.intro rfl ?_); exact trivial), rfl, K.length - (j2 + 1), by omega, j2 + 1, by omega, rfl, by rw [wrap_id (by omega) (by omega)]; simp⟩)
      have q1 : ¬ j = 1 := by have : ¬ (j : Int) = 1 := by simpa using q1
                              omega
      have hsF : s ∈ F := hin s hsK (by unfold giv; rw [if_neg (fun q => q1 q.1)]; simp)
      have hh := rhas_p F s hFl
      rw [decide_eq_true hsF] at hh
      refine ⟨_, call_p (enters_of Tryz.func30 (by kernel_rfl) rfl) hh rfl ?_⟩
      exact br_i (fun q => by cases q) (fun _ => ⟨(by (repeat refine And.intro rfl ?_); exact trivial), rfl, K.length - (j2 + 1), by omega, j2 + 1, by omega, rfl, by rw [wrap_id (by omega) (by omega)]; simp⟩)
    exact ⟨(by (repeat refine And.intro rfl ?_); exact trivial), rfl, ks.length - (j + 1), by omega, j + 1, by omega, rfl, by rw [W_lr, cntEs_take ks j hlt, Int.add_assoc], by rw [W_lr, cntQs_take ks j hlt], by rw [wrap_id (by omega) (by omega)]; simp⟩
  have hge : ¬ j < ks.length := by simpa using hge
  obtain rfl : j = ks.length := by omega
  rw [List.take_length]
  refine ⟨fun c v => ∃ j : Nat, j ≤ bs.length ∧ c = bs.length - j ∧ v.1 = W (1 + cntEs ks + cntEs (bs.take j)) ∧ v.2.1 = W (cntQs ks + cntQs (bs.take j)) ∧ v.2.2.1 = (j : Int), ⟨_, 0, Nat.zero_le _, rfl, by simp only [List.take_zero, cntEs, Int.add_zero], by simp only [List.take_zero, cntQs, Int.add_zero], rfl⟩, ?_⟩
  rintro c ⟨a1, a2, i, u⟩ ⟨j, hj, rfl, ha1, ha2, hi⟩
  dsimp only at ha1 ha2 hi ⊢
  subst ha1 ha2 hi
  refine br_i (fun hlt => ?_) (fun hge => ?_)
  · have hlt : j < bs.length := by simpa using hlt
    have hltp : j < ps.length := by omega
    have hu2 := uAr_take bs ps j hlt hltp
    have hm := List.getElem_mem hlt
    have hmp := List.getElem_mem hltp
    have d1 := nodes_p bs[j] (smallExs_mem hsbb _ hm) (wfExs_mem hwb _ hm)
    have d2 := fit_exF' bs[j] (smallExs_mem hsbb _ hm) (wfExs_mem hwb _ hm)
    have d4 := fit_ptF' ps[j] (smallPts_mem hsps _ hmp)
    have d3 := free_c bs[j] (smallExs_mem hsbb _ hm) (wfExs_mem hwb _ hm) (by omega)
    rw [free_eq _ (by omega)] at d3
    have hv := rvars_p ps[j] (smallPts_mem hsps _ hmp) (by omega)
    have hvl := varsP_len ps[j]
    have hfit : B = true → fitEx 64 bs[j] = true := fun h => (hfp h).2.2 _ hm
    have hfit2 : B = true → fitPt 64 ps[j] = true := fun h => (hfp h).2.1 _ hmp
    have hin : ∀ s ∈ freeR bs[j] [] [], s ∉ varsP ps[j] → s ∈ F := fun s h1 h2 => hFm s (.inr (fvA_at bs ps j hlt hltp s ((free_mem _ s).1 h1) h2))
    have hKl := freeR_len bs[j] [] []
    obtain ⟨K, hK⟩ : ∃ K, freeR bs[j] [] [] = K := ⟨_, rfl⟩
    rw [hK] at d3 hin hKl
    simp only [List.length_nil] at hKl
    obtain ⟨V, hV⟩ : ∃ V, varsP ps[j] = V := ⟨_, rfl⟩
    rw [hV] at hv hvl hin hu2
    obtain ⟨Be, hBe⟩ : ∃ x, cntE bs[j] = x := ⟨_, rfl⟩
    obtain ⟨Bq, hBq⟩ : ∃ x, cntQ bs[j] = x := ⟨_, rfl⟩
    rw [hBe, hBq] at d1
    have hidx : (arPs bs ps)[j]? = some (ptP ps[j] ++ exP bs[j]) := arPs_get bs ps j hlt hltp
    obtain ⟨x0, x1, x2, x3, x4, x5, ex⟩ := cells_Pat ps[j]
    obtain ⟨y0, y1, y2, y3, y4, y5, y6, y7, ey⟩ := cells_Expr bs[j]
    rw [ey] at d1 d2 d3
    rw [ex] at hv d4
    rw [ex, ey] at hidx
    refine ⟨_, _, _, _, _, _, _, _, _, _, _, _, _, _, ⟨by omega, by rw [Int.toNat_natCast]; exact hidx, ?_⟩⟩
    refine ⟨_, _, call_p (enters_of Tryz.func21 (by kernel_rfl) rfl) d1 rfl ?_⟩
    refine br_i (fun hb => ?_) (fun hb => ?_)
    · rw [hfit hb] at d2
      rw [hfit2 hb] at d4
      refine ⟨_, call_p (enters_of Tryz.func14 (by kernel_rfl) rfl) d2 rfl ?_⟩
      refine br_i (fun q => by cases q) (fun _ => ?_)
      refine ⟨_, call_p (enters_of Tryz.func16 (by kernel_rfl) rfl) d4 rfl ?_⟩
      refine br_i (fun q => by cases q) (fun _ => ?_)
      refine ⟨_, call_p (enters_of Tryz.func23 (by kernel_rfl) rfl) d3 rfl ?_⟩
      refine ⟨fun c v => ∃ j : Nat, j ≤ K.length ∧ c = K.length - j ∧ v.1 = (j : Int), ⟨_, 0, Nat.zero_le _, rfl, rfl⟩, ?_⟩
      rintro c2 ⟨i2, u2⟩ ⟨j2, hj2, rfl, hi2⟩
      dsimp only at hi2 ⊢
      subst hi2
      rw [nmP_len]
      refine br_i (fun hlt2 => ?_) (fun hge2 => ?_)
      · have hlt2 : j2 < K.length := by simpa using hlt2
        refine ⟨_, ⟨by omega, by rw [Int.toNat_natCast]; exact nmP_get K j2 hlt2, ?_⟩⟩
        obtain ⟨s, hs⟩ : ∃ s, K[j2] = s := ⟨_, rfl⟩
        have hsK : s ∈ K := hs ▸ List.getElem_mem hlt2
        rw [hs]
        refine ⟨_, call_p (enters_of Tryz.func31 (by kernel_rfl) rfl) hv rfl ?_⟩
        refine ⟨_, call_p (enters_of Tryz.func30 (by kernel_rfl) rfl) (rhas_p V s (by omega)) rfl ?_⟩
        refine br_i (fun q1 => ?_) (fun q1 => ⟨(by (repeat refine And.intro rfl ?_); exact trivial), rfl, K.length - (j2 + 1), by omega, j2 + 1, by omega, rfl, by rw [wrap_id (by omega) (by omega)]; simp⟩)
        have hsF : s ∈ F := hin s hsK (by simpa using q1)
        have hh := rhas_p F s hFl
        rw [decide_eq_true hsF] at hh
        refine ⟨_, call_p (enters_of Tryz.func30 (by kernel_rfl) rfl) hh rfl ?_⟩
        exact br_i (fun q => by cases q) (fun _ => ⟨(by (repeat refine And.intro rfl ?_); exact trivial), rfl, K.length - (j2 + 1), by omega, j2 + 1, by omega, rfl, by rw [wrap_id (by omega) (by omega)]; simp⟩)
      exact ⟨(by (repeat refine And.intro rfl ?_); exact trivial), rfl, bs.length - (j + 1), by omega, j + 1, by omega, rfl, by rw [W_lr, cntEs_take bs j hlt, hBe, Int.add_assoc], by rw [W_lr, cntQs_take bs j hlt, hBq, Int.add_assoc], by rw [wrap_id (by omega) (by omega)]; simp⟩
    refine ⟨_, call_p (enters_of Tryz.func23 (by kernel_rfl) rfl) d3 rfl ?_⟩
    refine ⟨fun c v => ∃ j : Nat, j ≤ K.length ∧ c = K.length - j ∧ v.1 = (j : Int), ⟨_, 0, Nat.zero_le _, rfl, rfl⟩, ?_⟩
    rintro c2 ⟨i2, u2⟩ ⟨j2, hj2, rfl, hi2⟩
    dsimp only at hi2 ⊢
    subst hi2
    rw [nmP_len]
    refine br_i (fun hlt2 => ?_) (fun hge2 => ?_)
    · have hlt2 : j2 < K.length := by simpa using hlt2
      refine ⟨_, ⟨by omega, by rw [Int.toNat_natCast]; exact nmP_get K j2 hlt2, ?_⟩⟩
      obtain ⟨s, hs⟩ : ∃ s, K[j2] = s := ⟨_, rfl⟩
      have hsK : s ∈ K := hs ▸ List.getElem_mem hlt2
      rw [hs]
      refine ⟨_, call_p (enters_of Tryz.func31 (by kernel_rfl) rfl) hv rfl ?_⟩
      refine ⟨_, call_p (enters_of Tryz.func30 (by kernel_rfl) rfl) (rhas_p V s (by omega)) rfl ?_⟩
      refine br_i (fun q1 => ?_) (fun q1 => ⟨(by (repeat refine And.intro rfl ?_); exact trivial), rfl, K.length - (j2 + 1), by omega, j2 + 1, by omega, rfl, by rw [wrap_id (by omega) (by omega)]; simp⟩)
      have hsF : s ∈ F := hin s hsK (by simpa using q1)
      have hh := rhas_p F s hFl
      rw [decide_eq_true hsF] at hh
      refine ⟨_, call_p (enters_of Tryz.func30 (by kernel_rfl) rfl) hh rfl ?_⟩
      exact br_i (fun q => by cases q) (fun _ => ⟨(by (repeat refine And.intro rfl ?_); exact trivial), rfl, K.length - (j2 + 1), by omega, j2 + 1, by omega, rfl, by rw [wrap_id (by omega) (by omega)]; simp⟩)
    exact ⟨(by (repeat refine And.intro rfl ?_); exact trivial), rfl, bs.length - (j + 1), by omega, j + 1, by omega, rfl, by rw [W_lr, cntEs_take bs j hlt, hBe, Int.add_assoc], by rw [W_lr, cntQs_take bs j hlt, hBq, Int.add_assoc], by rw [wrap_id (by omega) (by omega)]; simp⟩
  have hge : ¬ j < bs.length := by simpa using hge
  obtain rfl : j = bs.length := by omega
  rw [List.take_length, W_l, hcE, show 1 + cntEs ks + cntEs bs = 1 + (cntEs ks + cntEs bs) by omega]
  refine br_i (fun _ => ?_) (fun h => by simp at h)
  have hp := (cntPs_u ps).2
  rw [hcQ] at hqb
  have hq0 := (cntQs_u ks hwk).1
  have hq1 : 0 ≤ cntQs bs := (cntQs_u bs hwb).1
  have hub : uE (.mk k li co m b n ks ps bs) ≤ 1000000 := by unfold uE; exact hue
  rw [hcQ, W_id (n := cntQs ks + (cntPs ps + cntQs bs)) (by omega) (by omega), W_id (n := cntQs ks + cntQs bs + (bs.length : Int)) (by omega) (by omega)]
  refine br_i (fun _ => ?_) (fun h => by simp at h; omega)
  refine ⟨_, call_p (enters_of Tryz.func28 (by kernel_rfl) rfl) hself rfl ?_⟩
  refine br_i (fun _ => ⟨_, call_p (enters_of Tryz.func11 (by kernel_rfl) rfl) awake_p rfl ⟨rfl, rfl⟩⟩) (fun h => by cases h)
end Go.Proofs.YtcmnjodjebcapaaGreat.Deep
