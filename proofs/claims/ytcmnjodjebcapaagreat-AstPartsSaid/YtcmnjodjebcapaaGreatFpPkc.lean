/-
  Texts of one proof, in their order. No condition.
-/
import Derived.Test.YtcmnjodjebcapaaGreatFpNm
import Derived.WalkKit
import Derived.ProofKit
import Derived.OpenShut
import Derived.Carry
import Derived.ChangeSlices
import Derived.Test.YtcmnjodjebcapaaGreatFpTreeE
import Derived.Laws.BitsLemmas
import Derived.Maps.Views
import Derived.Test.YtcmnjodjebcapaaGreatFpPkb
namespace Go.Proofs.YtcmnjodjebcapaaGreat.Deep
open Go.RowKit
set_option linter.unusedVariables false
mutual
def ptP : Pt → List PV
  | .mk k li co n m ks => [.con (.int .i64 k), .con (.int .i64 li), .con (.int .i64 co), .con (.string n), .con (.int .i64 m), .sl (ptPs ks)]
def ptPs : List Pt → List (List PV)
  | [] => []
  | t :: ts => ptP t :: ptPs ts
end
def byP (b : List UInt8) : List (List PV) := b.map fun x => [.con (.int .u8 (x.toNat : Int))]
mutual
def exP : Ex → List PV
  | .mk k li co m b n ks ps bs => [.con (.int .i64 k), .con (.int .i64 li), .con (.int .i64 co), .con (.int .i64 m), .sl (byP b), .con (.string n), .sl (exPs ks), .sl (arPs bs ps)]
def exPs : List Ex → List (List PV)
  | [] => []
  | t :: ts => exP t :: exPs ts
def arPs : List Ex → List Pt → List (List PV)
  | b :: bs, p :: ps => (ptP p ++ exP b) :: arPs bs ps
  | _, _ => []
end
theorem ptPs_len : ∀ ts : List Pt, (ptPs ts).length = ts.length
  | [] => rfl
  | t :: ts => by simp [ptPs, ptPs_len ts]
theorem exPs_len : ∀ ts : List Ex, (exPs ts).length = ts.length
  | [] => rfl
  | t :: ts => by simp [exPs, exPs_len ts]
theorem arPs_len : ∀ (bs : List Ex) (ps : List Pt), ps.length = bs.length → (arPs bs ps).length = bs.length
  | [], ps, _ => by cases ps <;> rfl
  | b :: bs, [], h => by simp at h
  | b :: bs, p :: ps, h => by simp [arPs, arPs_len bs ps (by simpa using h)]
theorem ptPs_get : ∀ (ts : List Pt) (i : Nat) (h : i < ts.length), (ptPs ts)[i]? = some (ptP ts[i])
  | t :: ts, 0, _ => rfl
  | t :: ts, i + 1, h => by simpa [ptPs] using ptPs_get ts i (by simpa using h)
theorem exPs_get : ∀ (ts : List Ex) (i : Nat) (h : i < ts.length), (exPs ts)[i]? = some (exP ts[i])
  | t :: ts, 0, _ => rfl
  | t :: ts, i + 1, h => by simpa [exPs] using exPs_get ts i (by simpa using h)
theorem arPs_get : ∀ (bs : List Ex) (ps : List Pt) (i : Nat) (h : i < bs.length) (h2 : i < ps.length), (arPs bs ps)[i]? = some (ptP ps[i] ++ exP bs[i])
  | b :: bs, p :: ps, 0, _, _ => rfl
  | b :: bs, p :: ps, i + 1, h, h2 => by simpa [arPs] using arPs_get bs ps i (by simpa using h) (by simpa using h2)
mutual
theorem Ty.ind {M : Ty → Prop} (h : ∀ k n ps, (∀ i, (hi : i < ps.length) → M ps[i]) → M (.mk k n ps)) : ∀ t, M t
  | .mk k n ps => h k n ps (Ty.inds h ps)
theorem Ty.inds {M : Ty → Prop} (h : ∀ k n ps, (∀ i, (hi : i < ps.length) → M ps[i]) → M (.mk k n ps)) : ∀ (ts : List Ty) i, (hi : i < ts.length) → M ts[i]
  | t :: ts, 0, _ => Ty.ind h t
  | t :: ts, i + 1, hi => by simpa using Ty.inds h ts i (by simpa using hi)
end
mutual
theorem Pt.ind {M : Pt → Prop} (h : ∀ k li co n m ps, (∀ i, (hi : i < ps.length) → M ps[i]) → M (.mk k li co n m ps)) : ∀ t, M t
  | .mk k li co n m ps => h k li co n m ps (Pt.inds h ps)
theorem Pt.inds {M : Pt → Prop} (h : ∀ k li co n m ps, (∀ i, (hi : i < ps.length) → M ps[i]) → M (.mk k li co n m ps)) : ∀ (ts : List Pt) i, (hi : i < ts.length) → M ts[i]
  | t :: ts, 0, _ => Pt.ind h t
  | t :: ts, i + 1, hi => by simpa using Pt.inds h ts i (by simpa using hi)
end
mutual
theorem Ex.ind {M : Ex → Prop} (h : ∀ k li co m b n ks ps bs, (∀ i, (hi : i < ks.length) → M ks[i]) → (∀ i, (hi : i < bs.length) → M bs[i]) → M (.mk k li co m b n ks ps bs)) : ∀ t, M t
  | .mk k li co m b n ks ps bs => h k li co m b n ks ps bs (Ex.inds h ks) (Ex.inds h bs)
theorem Ex.inds {M : Ex → Prop} (h : ∀ k li co m b n ks ps bs, (∀ i, (hi : i < ks.length) → M ks[i]) → (∀ i, (hi : i < bs.length) → M bs[i]) → M (.mk k li co m b n ks ps bs)) : ∀ (ts : List Ex) i, (hi : i < ts.length) → M ts[i]
  | t :: ts, 0, _ => Ex.ind h t
  | t :: ts, i + 1, hi => by simpa using Ex.inds h ts i (by simpa using hi)
end
theorem pcalls_of {P : Program} {f : FuncId} {us : List Value} {v : Value} (h : ∀ w, Calls P f us.toArray w fun e w' => e = .returned v ∧ Below w.heap.size w w') : PCalls P f (us.map .con) (fun r => r = .con v) := by
  intro G m w vs hs ha
  obtain ⟨a1, a2⟩ := ha
  have e : vs = us.toArray := by
    apply Array.ext
    · simpa using a1
    · intro i hi1 hi2
      have hi3 : i < us.length := by simpa using hi2
      have h0 := a2 i (by simpa using hi3)
      rw [List.getD_eq_getElem?_getD, List.getElem?_map, List.getElem?_eq_getElem hi3] at h0
      have h1 := h0.con_eq
      simpa [Array.getD_eq_getD_getElem?, Array.getElem?_eq_getElem hi1] using h1
  subst e
  exact (h w).mono fun e w' ⟨he, hb⟩ => ⟨_, _, [], G, m, he, ⟨rfl, rfl⟩, .con _ _, (hs.later hb).1, (hs.later hb).2⟩
theorem still_below {P : Program} {f : FuncId} {us : Array Value} {v : Value} {w : World} (h : Calls P f us w fun e w' => e = .returned v ∧ w = w') : Calls P f us w fun e w' => e = .returned v ∧ Below w.heap.size w w' :=
  h.mono fun e w' ⟨he, hw⟩ => ⟨he, hw ▸ Below.refl _ _⟩
theorem min_take (n : Nat) : minI (n : Int) 1048576 = take20 n := by unfold minI take20; split <;> split <;> omega
theorem light_pt (t : Pt) : ∀ l : Int, -1099511627776 ≤ l → l ≤ 3000 → PCalls Tryz.prog 9 [.agg (ptP t), .con (.int .i64 l)] (fun r => r = .con (.int .i64 (lightPt t l))) := by
  induction t using Pt.ind with
  | h k li co n m ps ih =>
  intro l h0 h1
  have hn := take20_le n.size
  refine a9 _ _ _ _ _ _ _ _ ?_
  unfold p9
  rw [min_take, wrap_id (n := l - 1) (by omega) (by omega), wrap_id (by omega) (by omega)]
  obtain ⟨L, hL⟩ : ∃ L, lightPt (.mk k li co n m ps) l = L := ⟨_, rfl⟩
  rw [hL]
  unfold lightPt at hL
  rw [ptPs_len]
  refine ⟨fun c v => ∃ j : Nat, j ≤ ps.length ∧ c = ps.length - j ∧ v.2.1 = (j : Int) ∧ lightPts (ps.drop j) v.1 = L ∧ -1099513627776 ≤ v.1 ∧ v.1 + j ≤ 3000, ⟨_, 0, Nat.zero_le _, rfl, rfl, by simpa using hL, by dsimp only; omega, by dsimp only; omega⟩, ?_⟩
  rintro c ⟨cur, i, u⟩ ⟨j, hj, rfl, hi, hLj, b0, b1⟩
  dsimp only at hi hLj b0 b1 ⊢
  subst hi
  refine br_i (fun hlt => ?_) (fun hge => ?_)
  · have hlt : j < ps.length := by simpa using hlt
    rw [List.drop_eq_getElem_cons hlt, lightPts] at hLj
    refine br_i (fun hc => ?_) (fun hc => ?_)
    · have hc : 0 ≤ cur := by simpa using hc
      rw [if_neg (by omega)] at hLj
      have hx := ptPs_get ps j hlt
      obtain ⟨a1, a2, a3, a4⟩ := lightPt_ok ps[j] cur
      have hi := ih j hlt cur (by omega) (by omega)
      obtain ⟨k', li', co', n', m', ps', hp⟩ : ∃ k' li' co' n' m' ps', ps[j] = .mk k' li' co' n' m' ps' := by cases ps[j]; exact ⟨_, _, _, _, _, _, rfl⟩
      rw [hp] at hx hi hLj a1 a2
      refine ⟨_, _, _, _, _, _, ⟨by omega, by rw [Int.toNat_natCast]; exact hx, ?_⟩⟩
      refine ⟨_, call_p (enters_of Tryz.func9 (by kernel_rfl) rfl) hi rfl ⟨⟨rfl, trivial⟩, rfl, ps.length - (j + 1), by omega, j + 1, by omega, rfl, ?_, hLj, ?_, ?_⟩⟩
      · rw [wrap_id (by omega) (by omega)]; simp
      · have := a2 hc; omega
      · omega
    · have hc : cur < 0 := by have : ¬ 0 ≤ cur := by simpa using hc
                              omega
      rw [if_pos hc] at hLj
      exact ⟨by rw [← hLj], rfl⟩
  · have hge : ¬ j < ps.length := by simpa using hge
    rw [List.drop_of_length_le (by omega), lightPts] at hLj
    exact ⟨by rw [← hLj], rfl⟩
theorem wfExs_at : ∀ (ks : List Ex), wfExs ks → ∀ i (h : i < ks.length), wfEx ks[i]
  | t :: ts, hs, 0, _ => by unfold wfExs at hs; exact hs.1
  | t :: ts, hs, i + 1, h => by unfold wfExs at hs; simpa using wfExs_at ts hs.2 i (by simpa using h)
theorem light_ex (t : Ex) : wfEx t → ∀ l : Int, -1099511627776 ≤ l → l ≤ 3000 → PCalls Tryz.prog 8 [.agg (exP t), .con (.int .i64 l)] (fun r => r = .con (.int .i64 (lightEx t l))) := by
  induction t using Ex.ind with
  | h k li co m b n ks ps bs ihk ihb =>
  intro hw l h0 h1
  have hn := take20_le n.size
  have hbb := take20_le b.length
  unfold wfEx at hw
  obtain ⟨hpb, hwk, hwb⟩ := hw
  refine a8 _ _ _ _ _ _ _ _ _ _ ?_
  unfold p8
  rw [min_take, show (byP b).length = b.length by simp [byP], min_take, wrap_id (n := l - 1) (by omega) (by omega), wrap_id (n := l - 1 - take20 b.length) (by omega) (by omega), wrap_id (by omega) (by omega)]
  obtain ⟨L, hL⟩ : ∃ L, lightEx (.mk k li co m b n ks ps bs) l = L := ⟨_, rfl⟩
  rw [hL]
  unfold lightEx at hL
  rw [exPs_len, arPs_len bs ps hpb]
  refine ⟨fun c v => ∃ j : Nat, j ≤ ks.length ∧ c = ks.length - j ∧ v.2.1 = (j : Int) ∧ lightArms bs ps (lightExs (ks.drop j) v.1) = L ∧ -1099513727776 ≤ v.1 ∧ v.1 + j ≤ 3000, ⟨_, 0, Nat.zero_le _, rfl, rfl, by simpa using hL, by dsimp only; omega, by dsimp only; omega⟩, ?_⟩
  rintro c ⟨cur, i, u⟩ ⟨j, hj, rfl, hi, hLj, b0, b1⟩
  dsimp only at hi hLj b0 b1 ⊢
  subst hi
  by_cases hgo : j < ks.length ∧ 0 ≤ cur
  · obtain ⟨hlt, hc⟩ := hgo
    rw [List.drop_eq_getElem_cons hlt, lightExs, if_neg (by omega)] at hLj
    have hx := exPs_get ks j hlt
    obtain ⟨a1, a2, a3, a4⟩ := lightEx_ok ks[j] cur
    have hi := ihk j hlt (wfExs_at ks hwk j hlt) cur (by omega) (by omega)
    obtain ⟨k', li', co', m', b', n', ks', ps', bs', hp⟩ : ∃ k' li' co' m' b' n' ks' ps' bs', ks[j] = .mk k' li' co' m' b' n' ks' ps' bs' := by cases ks[j]; exact ⟨_, _, _, _, _, _, _, _, _, rfl⟩
    rw [hp] at hx hi hLj a1 a2
    refine br_i (fun _ => br_i (fun _ => ?_) (fun hf => absurd hc (by simpa using hf))) (fun hf => absurd hlt (by simpa using hf))
    refine ⟨_, _, _, _, _, _, _, _, ⟨by omega, by rw [Int.toNat_natCast]; exact hx, ?_⟩⟩
    refine ⟨_, call_p (enters_of Tryz.func8 (by kernel_rfl) rfl) hi rfl ⟨⟨rfl, trivial⟩, rfl, ks.length - (j + 1), by omega, j + 1, by omega, rfl, ?_, hLj, ?_, ?_⟩⟩
    · rw [wrap_id (by omega) (by omega)]; simp
    · have := a2 hc; omega
    · omega
  replace hLj : lightArms bs ps cur = L := by
    by_cases hlt : j < ks.length
    · rw [List.drop_eq_getElem_cons hlt, lightExs, if_pos (by omega)] at hLj; exact hLj
    · rw [List.drop_of_length_le (by omega), lightExs] at hLj; exact hLj
  refine br_i (fun hlt => br_i (fun hc => absurd ⟨by simpa using hlt, by simpa using hc⟩ hgo) (fun hc => ?_)) (fun hge => ?_)
  all_goals
    refine ⟨fun c v => ∃ j : Nat, j ≤ bs.length ∧ c = bs.length - j ∧ v.2.1 = (j : Int) ∧ lightArms (bs.drop j) (ps.drop j) v.1 = L ∧ -1099513827776 ≤ v.1 ∧ v.1 + j ≤ 3000, ⟨_, 0, Nat.zero_le _, rfl, rfl, by simpa using hLj, by dsimp only; omega, by dsimp only; omega⟩, ?_⟩
    rintro c ⟨cur2, i, u⟩ ⟨j2, hj2, rfl, hi, hLj2, b2, b3⟩
    dsimp only at hi hLj2 b2 b3 ⊢
    subst hi
    refine br_i (fun hlt2 => ?_) (fun hge2 => ?_)
    · have hlt2 : j2 < bs.length := by simpa using hlt2
      have hlt3 : j2 < ps.length := by omega
      rw [List.drop_eq_getElem_cons hlt2, List.drop_eq_getElem_cons hlt3, lightArms] at hLj2
      refine br_i (fun hc2 => ?_) (fun hc2 => ?_)
      · have hc2 : 0 ≤ cur2 := by simpa using hc2
        rw [if_neg (by omega)] at hLj2
        have hx := arPs_get bs ps j2 hlt2 hlt3
        obtain ⟨a1, a2, a3, a4⟩ := lightPt_ok ps[j2] cur2
        have q2 := a2 hc2
        obtain ⟨c1, c2, c3, c4⟩ := lightEx_ok bs[j2] (lightPt ps[j2] cur2)
        have q3 : -4194304 - 2097153 ≤ lightEx bs[j2] (lightPt ps[j2] cur2) := by
          by_cases hneg : lightPt ps[j2] cur2 < 0
          · have := c3 hneg; omega
          · have := c2 (by omega); omega
        have hp1 := light_pt ps[j2] cur2 (by omega) (by omega)
        have hi := ihb j2 hlt2 (wfExs_at bs hwb j2 hlt2) (lightPt ps[j2] cur2) (by omega) (by omega)
        obtain ⟨k', li', co', m', b', n', ks', ps', bs', hp⟩ : ∃ k' li' co' m' b' n' ks' ps' bs', bs[j2] = .mk k' li' co' m' b' n' ks' ps' bs' := by cases bs[j2]; exact ⟨_, _, _, _, _, _, _, _, _, rfl⟩
        obtain ⟨k2', li2', co2', n2', m2', ps2', hp2⟩ : ∃ k' li' co' n' m' ps', ps[j2] = .mk k' li' co' n' m' ps' := by cases ps[j2]; exact ⟨_, _, _, _, _, _, rfl⟩
        rw [hp, hp2] at hx hi hLj2 c1 q3
        rw [hp2] at hp1 a1
        refine ⟨_, _, _, _, _, _, _, _, _, _, _, _, _, _, ⟨by omega, by rw [Int.toNat_natCast]; exact hx, ?_⟩⟩
        refine ⟨_, _, _, _, _, _, _, _, _, _, _, _, _, _, ⟨by omega, by rw [Int.toNat_natCast]; exact hx, ?_⟩⟩
        refine ⟨_, call_p (enters_of Tryz.func9 (by kernel_rfl) rfl) hp1 rfl ?_⟩
        refine ⟨_, call_p (enters_of Tryz.func8 (by kernel_rfl) rfl) hi rfl ⟨⟨rfl, trivial⟩, rfl, bs.length - (j2 + 1), by omega, j2 + 1, by omega, rfl, ?_, hLj2, ?_, ?_⟩⟩
        · rw [wrap_id (by omega) (by omega)]; simp
        · omega
        · omega
      · have hc2 : cur2 < 0 := by have : ¬ 0 ≤ cur2 := by simpa using hc2
                                  omega
        rw [if_pos hc2] at hLj2
        exact ⟨by rw [← hLj2], rfl⟩
    · have hge2 : ¬ j2 < bs.length := by simpa using hge2
      rw [List.drop_of_length_le (by omega), lightArms] at hLj2
      · exact ⟨by rw [← hLj2], rfl⟩
      · simp
end Go.Proofs.YtcmnjodjebcapaaGreat.Deep

namespace Go.Proofs.YtcmnjodjebcapaaGreat.Deep
open Go.RowKit
set_option linter.unusedVariables false
set_option linter.unusedSimpArgs false
theorem fitPt_pos' {D : Int} (h : 0 < D) (k li co : Int) (n : ByteArray) (m : Int) (ks : List Pt) : fitPt D.toNat (.mk k li co n m ks) = (shapePt k n m ks.length && ks.all (fitPt (D.toNat - 1))) := by
  obtain ⟨d, hd⟩ : ∃ d, D.toNat = d + 1 := ⟨D.toNat - 1, by omega⟩
  rw [hd, fitPt]; rfl
theorem smallPts_get : ∀ (ps : List Pt), smallPts ps → ∀ i (h : i < ps.length), smallPt ps[i]
  | t :: ts, hs, 0, _ => by unfold smallPts at hs; exact hs.1
  | t :: ts, hs, i + 1, h => by unfold smallPts at hs; simpa using smallPts_get ts hs.2 i (by simpa using h)
end Go.Proofs.YtcmnjodjebcapaaGreat.Deep

namespace Go.Proofs.YtcmnjodjebcapaaGreat.Deep
open Go.RowKit
set_option linter.unusedVariables false
set_option linter.unusedSimpArgs false
theorem fitEx_pos' {D : Int} (h : 0 < D) (k li co m : Int) (b : List UInt8) (n : ByteArray) (ks : List Ex) (ps : List Pt) (bs : List Ex) : fitEx D.toNat (.mk k li co m b n ks ps bs) = (shapeEx k m b.length n ks.length bs.length && (ks.all (fitEx (D.toNat - 1)) && (ps.all (fitPt (D.toNat - 1)) && bs.all (fitEx (D.toNat - 1))))) := by
  obtain ⟨d, hd⟩ : ∃ d, D.toNat = d + 1 := ⟨D.toNat - 1, by omega⟩
  rw [hd, fitEx]; rfl
theorem smallExs_get : ∀ (ps : List Ex), smallExs ps → ∀ i (h : i < ps.length), smallEx ps[i]
  | t :: ts, hs, 0, _ => by unfold smallExs at hs; exact hs.1
  | t :: ts, hs, i + 1, h => by unfold smallExs at hs; simpa using smallExs_get ts hs.2 i (by simpa using h)
end Go.Proofs.YtcmnjodjebcapaaGreat.Deep

namespace Go.Proofs.YtcmnjodjebcapaaGreat.Deep
open Go.RowKit
set_option linter.unusedVariables false
set_option linter.unusedSimpArgs false
structure Pa where
  name : ByteArray
  ty : Ty
structure Ha where
  line : Int
  col : Int
  name : ByteArray
  param : Pa
  cap : Int
  body : Ex
theorem pt_mk (t : Pt) : ∃ k li co n m ps, t = .mk k li co n m ps := by cases t; exact ⟨_, _, _, _, _, _, rfl⟩
theorem ex_mk (t : Ex) : ∃ k li co m b n ks ps bs, t = .mk k li co m b n ks ps bs := by cases t; exact ⟨_, _, _, _, _, _, _, _, _, rfl⟩
theorem map_get {α : Type} (f : α → List PV) (l : List α) (j : Nat) (h : j < l.length) : (l.map f)[j]? = some (f l[j]) := by
  rw [List.getElem?_map, List.getElem?_eq_getElem h]; rfl
end Go.Proofs.YtcmnjodjebcapaaGreat.Deep

namespace Go.Proofs.YtcmnjodjebcapaaGreat.Deep
open Go.RowKit
set_option linter.unusedVariables false
def I3 : TI := ⟨true, 1, false, false, 0, false, false, [], false, some [.con (.int .i64 0)], 8, none, some .i64⟩
theorem T3 : T 3 = some I3 := by kernel_rfl
def I2 : TI := ⟨true, 1, false, false, 0, false, false, [], false, some [.con (.int .i64 0)], 8, none, some .i64⟩
theorem T2 : T 2 = some I2 := by kernel_rfl
def I5 : TI := ⟨true, 1, false, false, 0, false, false, [], false, some [.con (.int .u8 0)], 1, none, some .u8⟩
def I9 : TI := ⟨true, 1, false, false, 0, true, false, [], false, some [.con (.string ⟨#[]⟩)], 16, none, none⟩
theorem T9 : T 9 = some I9 := by kernel_rfl
def I23 : TI := ⟨true, 1, false, true, 75, false, false, [], false, some [.con (.slice none 0 0)], 24, none, none⟩
def I26 : TI := ⟨true, 3, true, false, 0, false, false, [(0, 3), (1, 9), (2, 24)], true, some [.con (.int .i64 0), .con (.string ⟨#[]⟩), .con (.slice none 0 0)], 48, none, none⟩
def I28 : TI := ⟨true, 2, true, false, 0, false, false, [(0, 3), (1, 3)], true, some [.con (.int .i64 0), .con (.int .i64 0)], 16, none, none⟩
theorem T28 : T 28 = some I28 := by kernel_rfl
def I29 : TI := ⟨true, 1, false, true, 5, false, false, [], false, some [.con (.slice none 0 0)], 24, none, none⟩
theorem T29 : T 29 = some I29 := by kernel_rfl
def I30 : TI := ⟨true, 1, false, true, 33, false, false, [], false, some [.con (.slice none 0 0)], 24, none, none⟩
theorem T30 : T 30 = some I30 := by kernel_rfl
def I31 : TI := ⟨true, 1, false, true, 59, false, false, [], false, some [.con (.slice none 0 0)], 24, none, none⟩
theorem T31 : T 31 = some I31 := by kernel_rfl
def I33 : TI := ⟨true, 8, true, false, 0, false, false, [(0, 3), (1, 28), (3, 2), (4, 29), (5, 9), (6, 30), (7, 31)], true, some [.con (.int .i64 0), .con (.int .i64 0), .con (.int .i64 0), .con (.int .i64 0), .con (.slice none 0 0), .con (.string ⟨#[]⟩), .con (.slice none 0 0), .con (.slice none 0 0)], 120, none, none⟩
theorem T33 : T 33 = some I33 := by kernel_rfl
def I37 : TI := ⟨true, 1, false, true, 39, false, false, [], false, some [.con (.slice none 0 0)], 24, none, none⟩
theorem T37 : T 37 = some I37 := by kernel_rfl
def I39 : TI := ⟨true, 6, true, false, 0, false, false, [(0, 3), (1, 28), (3, 9), (4, 2), (5, 37)], true, some [.con (.int .i64 0), .con (.int .i64 0), .con (.int .i64 0), .con (.string ⟨#[]⟩), .con (.int .i64 0), .con (.slice none 0 0)], 72, none, none⟩
theorem T39 : T 39 = some I39 := by kernel_rfl
def I59 : TI := ⟨true, 14, true, false, 0, false, false, [(0, 39), (6, 33)], true, some [.con (.int .i64 0), .con (.int .i64 0), .con (.int .i64 0), .con (.string ⟨#[]⟩), .con (.int .i64 0), .con (.slice none 0 0), .con (.int .i64 0), .con (.int .i64 0), .con (.int .i64 0), .con (.int .i64 0), .con (.slice none 0 0), .con (.string ⟨#[]⟩), .con (.slice none 0 0), .con (.slice none 0 0)], 192, none, none⟩
theorem T59 : T 59 = some I59 := by kernel_rfl
theorem u3 : Tryz.prog.underlying 3 = some (.int .i64) := by kernel_rfl
theorem u2 : Tryz.prog.underlying 2 = some (.int .i64) := by kernel_rfl
theorem u5 : Tryz.prog.underlying 5 = some (.int .u8) := by kernel_rfl
theorem u9 : Tryz.prog.underlying 9 = some .string := by kernel_rfl
theorem u37 : Tryz.prog.underlying 37 = some (.slice 39) := by kernel_rfl
theorem u29 : Tryz.prog.underlying 29 = some (.slice 5) := by kernel_rfl
theorem u30 : Tryz.prog.underlying 30 = some (.slice 33) := by kernel_rfl
theorem u31 : Tryz.prog.underlying 31 = some (.slice 59) := by kernel_rfl
theorem z39 : 0 < Tryz.prog.cellsOf 39 := by rw [show Tryz.prog.cellsOf 39 = 6 by kernel_rfl]; decide
theorem z5 : 0 < Tryz.prog.cellsOf 5 := by rw [show Tryz.prog.cellsOf 5 = 1 by kernel_rfl]; decide
theorem z33 : 0 < Tryz.prog.cellsOf 33 := by rw [show Tryz.prog.cellsOf 33 = 8 by kernel_rfl]; decide
theorem z59 : 0 < Tryz.prog.cellsOf 59 := by rw [show Tryz.prog.cellsOf 59 = 14 by kernel_rfl]; decide
theorem CR.last {w : World} {cs : List Value} {o n : Nat} {p : List PV} (h : CR w ((cs.drop o).take n) p) (hl : cs.length = o + n) : CR w (cs.drop o) p := by
  rwa [List.take_of_length_le (by rw [List.length_drop]; omega)] at h
theorem ptPs_map : ∀ ts : List Pt, ptPs ts = ts.map ptP
  | [] => rfl
  | t :: ts => by rw [ptPs, ptPs_map ts]; rfl
theorem exPs_map : ∀ ts : List Ex, exPs ts = ts.map exP
  | [] => rfl
  | t :: ts => by rw [exPs, exPs_map ts]; rfl
def arP (a : Pt × Ex) : List PV := ptP a.1 ++ exP a.2
theorem arPs_map : ∀ l : List (Pt × Ex), arPs (l.map Prod.snd) (l.map Prod.fst) = l.map arP
  | [] => rfl
  | a :: l => by rw [List.map_cons, List.map_cons, arPs, arPs_map l]; rfl
theorem wfExs_of : ∀ es : List Ex, (∀ e ∈ es, wfEx e) → wfExs es
  | [], _ => trivial
  | e :: es, h => by rw [wfExs]; exact ⟨h e (by simp), wfExs_of es (fun x hx => h x (by simp [hx]))⟩
section
variable {H : Type} {enc : TypeId × Value → H} {w : World} {spare : Nat → Bool} {held : Bool}
theorem op_i {P : Program} {t : TypeId} {k : IntKind} (u : P.underlying t = some (.int k)) {fuel : Nat} {cs : List Value} {x : DataW H × List MemPlace} (h : DataW.trod enc P w 0 spare held fuel t cs = some x) : ∃ n : Int, (Lit.int k n).wf = true ∧ CR w cs [.con (.int k n)] := by
  obtain ⟨n, rfl, _, hw⟩ := DataW.trod_int u h
  exact ⟨n, hw, .int _ _ _⟩
theorem op_s {P : Program} {t : TypeId} (u : P.underlying t = some .string) {fuel : Nat} {cs : List Value} {x : DataW H × List MemPlace} (h : DataW.trod enc P w 0 spare held fuel t cs = some x) : ∃ s : ByteArray, s.size ≤ maxLen ∧ CR w cs [.con (.string s)] := by
  obtain ⟨s, rfl, _, hs⟩ := DataW.trod_string u h
  exact ⟨s, hs, .str _ _⟩
theorem op_pos {fuel : Nat} {cs : List Value} {x : DataW H × List MemPlace} (h : DataW.trod enc Tryz.prog w 0 spare held fuel 28 cs = some x) : ∃ l c : Int, CR w cs [.con (.int .i64 l), .con (.int .i64 c)] := by
  obtain ⟨n, hn, hl, hf⟩ := open_flds tok T28 rfl h
  obtain ⟨y0, h0⟩ := hf 0 0 3 I3 rfl T3
  obtain ⟨y1, h1⟩ := hf 1 1 3 I3 rfl T3
  obtain ⟨l, _, c0⟩ := op_i u3 h0
  obtain ⟨c, _, c1⟩ := op_i u3 h1
  exact ⟨l, c, CR.seg (o := 0) c0 (CR.last c1 hl)⟩
theorem op_by {fuel : Nat} {cs : List Value} {x : DataW H × List MemPlace} (h : DataW.trod enc Tryz.prog w 0 spare held fuel 29 cs = some x) : ∃ b : List UInt8, CR w cs [.sl (byP b)] := by
  obtain ⟨b, _, c⟩ := open_slice (fun x : UInt8 => [.con (.int .u8 (x.toNat : Int))]) (fun _ => True) u29 z5 h (fun m us y hm _ hu => by
    obtain ⟨n, hw, c⟩ := op_i u5 hu
    have hb : 0 ≤ n ∧ n ≤ 255 := by
      simp only [Lit.wf, Bool.and_eq_true, decide_eq_true_eq] at hw
      exact hw
    refine ⟨UInt8.ofNat n.toNat, trivial, ?_⟩
    rwa [show ((UInt8.ofNat n.toNat).toNat : Int) = n by rw [UInt8.toNat_ofNat']; omega])
  exact ⟨b, c⟩
theorem open_pt (fuel : Nat) : ∀ (cs : List Value) (x : DataW H × List MemPlace), DataW.trod enc Tryz.prog w 0 spare held fuel 39 cs = some x → ∃ a : Pt, CR w cs (ptP a) := by
  induction fuel using Nat.strongRecOn with
  | _ fuel ih =>
  intro cs x h
  obtain ⟨n, hn, hl, hf⟩ := open_flds tok T39 rfl h
  obtain ⟨y0, h0⟩ := hf 0 0 3 I3 rfl T3
  obtain ⟨k, _, c0⟩ := op_i u3 h0
  obtain ⟨y1, h1⟩ := hf 1 1 28 I28 rfl T28
  obtain ⟨l, c, c1⟩ := op_pos h1
  obtain ⟨y2, h2⟩ := hf 2 3 9 I9 rfl T9
  obtain ⟨s, _, c2⟩ := op_s u9 h2
  obtain ⟨y3, h3⟩ := hf 3 4 2 I2 rfl T2
  obtain ⟨m, _, c3⟩ := op_i u2 h3
  obtain ⟨y4, h4⟩ := hf 4 5 37 I37 rfl T37
  obtain ⟨ps, _, c4⟩ := open_slice ptP (fun _ => True) u37 z39 h4 (fun m us y hm _ hu => by obtain ⟨a, ha⟩ := ih m (by omega) us y hu; exact ⟨a, trivial, ha⟩)
  refine ⟨.mk k l c s m ps, ?_⟩
  rw [ptP, ptPs_map]
  have hz := CR.seg (o := 0) c0 (CR.seg c1 (CR.seg c2 (CR.seg c3 (CR.last c4 hl))))
  exact hz
theorem open_ex (fuel : Nat) : ∀ (cs : List Value) (x : DataW H × List MemPlace), DataW.trod enc Tryz.prog w 0 spare held fuel 33 cs = some x → ∃ a : Ex, wfEx a ∧ CR w cs (exP a) := by
  induction fuel using Nat.strongRecOn with
  | _ fuel ih =>
  intro cs x h
  obtain ⟨n, hn, hl, hf⟩ := open_flds tok T33 rfl h
  obtain ⟨y0, h0⟩ := hf 0 0 3 I3 rfl T3
  obtain ⟨k, _, c0⟩ := op_i u3 h0
  obtain ⟨y1, h1⟩ := hf 1 1 28 I28 rfl T28
  obtain ⟨l, c, c1⟩ := op_pos h1
  obtain ⟨y2, h2⟩ := hf 2 3 2 I2 rfl T2
  obtain ⟨m, _, c2⟩ := op_i u2 h2
  obtain ⟨y3, h3⟩ := hf 3 4 29 I29 rfl T29
  obtain ⟨b, c3⟩ := op_by h3
  obtain ⟨y4, h4⟩ := hf 4 5 9 I9 rfl T9
  obtain ⟨s, _, c4⟩ := op_s u9 h4
  obtain ⟨y5, h5⟩ := hf 5 6 30 I30 rfl T30
  obtain ⟨ks, hks, c5⟩ := open_slice exP wfEx u30 z33 h5 (fun m us y hm _ hu => ih m (by omega) us y hu)
  obtain ⟨y6, h6⟩ := hf 6 7 31 I31 rfl T31
  obtain ⟨ars, har, c6⟩ := open_slice arP (fun a => wfEx a.2) u31 z59 h6 (fun m us y hm _ hu => by
    obtain ⟨n', hn', hl', hf'⟩ := open_flds tok T59 rfl hu
    obtain ⟨y0', h0'⟩ := hf' 0 0 39 I39 rfl T39
    obtain ⟨y1', h1'⟩ := hf' 1 6 33 I33 rfl T33
    obtain ⟨p, c0'⟩ := open_pt n' _ _ h0'
    obtain ⟨e, he, c1'⟩ := ih n' (by omega) _ _ h1'
    exact ⟨(p, e), he, CR.seg (o := 0) c0' (CR.last c1' hl')⟩)
  refine ⟨.mk k l c m b s ks (ars.map Prod.fst) (ars.map Prod.snd), by rw [wfEx]; exact ⟨by simp, wfExs_of ks hks, wfExs_of _ (fun e he => by obtain ⟨a, ha, rfl⟩ := List.mem_map.1 he; exact har a ha)⟩, ?_⟩
  rw [exP, exPs_map, arPs_map]
  have hz := CR.seg (o := 0) c0 (CR.seg c1 (CR.seg c2 (CR.seg c3 (CR.seg c4 (CR.seg c5 (CR.last c6 hl))))))
  exact hz
end
theorem CR.agg {w : World} {vs : Array Value} {ps : List PV} (h : CR w vs.toList ps) : Rep (blockCells w) (fun _ => ⟨0, 0⟩) w 0 (.agg vs) (.agg ps) := by
  have := Rep.agg (G := blockCells w) (m := fun _ => ⟨0, 0⟩) (w := w) 0 vs.toList ps h.len h.rep
  simpa using this
end Go.Proofs.YtcmnjodjebcapaaGreat.Deep

namespace Go.Proofs.YtcmnjodjebcapaaGreat.Deep
open Go.ChangeShapes Go.WideShapes Go.ChangeAt Go.RowKit
set_option linter.unusedVariables false
theorem args_again {H : Type} {enc : TypeId × Value → H} {P : Program} {W W' : World} (hl : laidOutB P = true) (hb : Below W.heap.size W W') : ∀ (ts : List TypeId), (∀ t ∈ ts, P.readableRec t = true ∧ t < P.types.size) → ∀ (vs : List Value) (ds : List (DataW H)) (ps : List MemPlace),
    DataW.TrodAll enc P W 0 (fun _ => true) true ts vs ds ps → (∀ x ∈ ps, x.block < W.heap.size) → ∀ sp : Nat → Bool, (∀ x ∈ ps, sp x.block = true) → DataW.TrodAll enc P W' 0 sp true ts vs ds ps := by
  intro ts
  induction ts with
  | nil => intro _ vs ds ps h _ sp _; obtain ⟨rfl, rfl, rfl⟩ := trodAll_nil h; exact trodAll_mk0
  | cons t ts ih =>
    intro ht vs ds ps h hlt sp hsp
    obtain ⟨v, vs1, d, ds1, a, b, rfl, rfl, rfl, h1, h2⟩ := trodAll_cons h
    have h0 := ht t (by simp)
    exact trodAll_cons_mk (WideElems.Trod_stays hl h0.1 h0.2 h1 (fun x hx => hb.same (hlt x (List.mem_append_left _ hx))) (fun x hx => hsp x (List.mem_append_left _ hx)))
      (ih (fun t h => ht t (by simp [h])) _ _ _ h2 (fun x hx => hlt x (List.mem_append_right _ hx)) sp (fun x hx => hsp x (List.mem_append_right _ hx)))
theorem post_law {H : Type} {enc : TypeId × Value → H} {P : Program} {f : Func} {s : ChangeSpec} {apart fresh handsOn : Bool} {W W' : World} {args : Array Value} {v : Value} {ds gs : List (DataW H)} {before pa pv : List MemPlace}
    (hW : DataW.Whole enc P f.params.toList s.vars apart W args.toList ds gs before)
    (hres : ∀ (b : Nat) (sp : Nat → Bool) (hd : Bool), DataW.TrodAll enc P W' b sp hd f.resultTypes.toList (v.resultList f.resultTypes.size) (s.fn H (ds ++ gs)).results [])
    (hargs : ∀ sp : Nat → Bool, (∀ p ∈ before, sp p.block = true) → DataW.TrodAll enc P W' 0 sp true f.params.toList args.toList (s.fn H (ds ++ gs)).args pa)
    (hvars : ∀ sp : Nat → Bool, (∀ p ∈ before, sp p.block = true) → DataW.TrodVars enc P W' sp s.vars (s.fn H (ds ++ gs)).vars pv)
    (hps : before = pa ++ pv) (hb : Below W.heap.size W W') : s.post enc P f apart fresh handsOn false W args v W' := by
  have hold : ∀ p ∈ before, (fun b => decide (b < W.heap.size)) p.block = true := fun p hp => by simpa using hW.lt p hp
  exact ⟨ds, gs, before, [], pa, pv, hW, hres _ _ _, hargs _ hold, hvars _ hold, World.keptBut_mono (fun p hp => ⟨hp, Or.inr (List.mem_append.1 (hps ▸ hp))⟩) (hb.frame (· ∈ before)), fun h => by cases h⟩
theorem struct_of {P : Program} {T : TypeId → Option TI} (hT : Tok P T) {t : TypeId} {ti : TI} (hi : T t = some ti) (hst : ti.isStruct = true) : ∃ fs, P.underlying t = some (.struct fs) := by
  obtain ⟨h1, h2⟩ := hT t ti hi
  obtain ⟨d, hd⟩ := Option.isSome_iff_exists.1 h2
  subst h1
  unfold infoP at hst
  dsimp only at hst
  rw [hd] at hst
  cases d <;> first | exact ⟨_, hd⟩ | (exact absurd hst Bool.false_ne_true)
theorem open_arg {P : Program} {T : TypeId → Option TI} (hT : Tok P T) {α : Type} {H : Type} {enc : TypeId × Value → H} {M : α → Prop} {view : α → List PV} {t : TypeId} {ti : TI} (hi : T t = some ti) (hst : ti.isStruct = true) {W : World} {r : Reach} {b0 : Nat} {v : Value} {d : DataW H} {p : List MemPlace} (hv : Value.okWide P W r b0 t v)
    (h : DataW.Trod enc P W 0 (fun _ => true) true t v d p) (ho : ∀ (fuel : Nat) (cs : List Value) (x : DataW H × List MemPlace), DataW.trod enc P W 0 (fun _ => true) true fuel t cs = some x → ∃ a : α, M a ∧ CR W cs (view a)) :
    ∃ a : α, M a ∧ Rep (blockCells W) (fun _ => ⟨0, 0⟩) W 0 v (.agg (view a)) := by
  obtain ⟨fs, hfs⟩ := struct_of hT hi hst
  obtain ⟨cs, rfl, _⟩ := okWide_struct hfs hv
  obtain ⟨fuel, h⟩ := h
  obtain ⟨a, ha, hc⟩ := ho _ _ _ h
  exact ⟨a, ha, hc.agg⟩
theorem hs_start (P : Program) (W : World) : HS P (blockCells W) (fun _ => ⟨0, 0⟩) W [] := ⟨fun b hb => absurd hb (Nat.not_lt_zero _), fun b _ hb => absurd hb (Nat.not_lt_zero _), block_old⟩
theorem law_calls {f : FuncId} {ps : List PV} (h : PCalls Tryz.prog f ps (fun r => r = .con (.bool true))) {W : World} {vs : Array Value} (ha : Args (blockCells W) (fun _ => ⟨0, 0⟩) W 0 vs ps) : Calls Tryz.prog f vs W fun e W' => e = .returned (.bool true) ∧ Below W.heap.size W W' :=
  (h (blockCells W) (fun _ => ⟨0, 0⟩) W vs (hs_start _ W) ha).mono fun e W' ⟨v, r, h', G', m', he, ⟨hr, _⟩, hrep, _, hg⟩ => by
    subst hr
    obtain rfl := hrep.con_eq
    exact ⟨he, hg.below⟩
theorem args_list {w : World} {G : Nat → Nat} {m : Nat → Pl} {n : Nat} : ∀ (vs : List Value) (ps : List PV), vs.length = ps.length → (∀ i (h : i < vs.length) (h2 : i < ps.length), Rep G m w n vs[i] ps[i]) → Args G m w n vs.toArray ps := fun vs ps hl h => by
  refine ⟨by simpa using hl, fun i hi => ?_⟩
  have := h i (by omega) hi
  simp only [List.getD_eq_getElem?_getD, List.getElem?_eq_getElem hi, Option.getD_some]
  simpa [Array.getD, hl, hi] using this
end Go.Proofs.YtcmnjodjebcapaaGreat.Deep

namespace Go.Proofs.YtcmnjodjebcapaaGreat.Deep
open Go.RowKit
set_option linter.unusedVariables false
def loops33 (id : Nat) : Option (List Nat × List (Nat × Sh)) := none
def p33 (i1 i2 : Int) (Q : PV → Heap → Prop) : Prop :=
Q (.agg [i1, i2]) [[i1, i2]]
theorem a33 (i1 i2 : Int) (Q : PV → Heap → Prop) (h : p33 i1 i2 Q) : ACalls Tryz.prog 33 [i1, i2] [] Q := by
  have hb : Option.some (bodyOf Tryz.f33) = Tryz.f33.body := by kernel_rfl
  exact acalls_eq (S := S) (L := loops33) mixed tok Tryz.func33 hb.symm (by kernel_rfl) h
def p106 (i1 : Int) (Q : PV → Heap → Prop) : Prop :=
∃ i2 : Int, ∃ i3 : Int, ∃ i4 : Int, ∃ i5 : Int, ∃ i6 : Int, ∃ i7 : Int, ∃ i8 : Int, ∃ i9 : Int, CallN Tryz.prog 163 [] [[(.con .nilFunc), (.con (.int .i64 0)), (.con (.int .i64 0)), (.con (.int .i64 0)), (.con (.int .i64 0)), (.con (.int .i64 0)), (.con (.int .i64 0)), (.con (.int .i64 0)), (.con (.int .i64 0))]] (.agg [(.fn 195 []), i2, i3, i4, i5, i6, i7, i8, i9])
  (br (((i1 : Int) == 0))
  (Q (.agg [(.fn 164 []), i2, i3, i4, i5, i6, i7, i8, i9]) [[(.fn 164 []), i2, i3, i4, i5, i6, i7, i8, i9], [(.fn 164 []), i2, i3, i4, i5, i6, i7, i8, i9]])
  (br (((i1 : Int) == 1))
  (Q (.agg [(.fn 92 []), i2, i3, i4, i5, i6, i7, i8, i9]) [[(.fn 92 []), i2, i3, i4, i5, i6, i7, i8, i9], [(.fn 92 []), i2, i3, i4, i5, i6, i7, i8, i9]])
  (br (((i1 : Int) == 2))
  (∃ i10 : Int, ∃ i11 : Int, CallN Tryz.prog 33 [(.con (.int .i64 (-4611686018427387903))), (.con (.int .i64 4611686018427387903))] [[(.con .nilFunc), (.con (.int .i64 0)), (.con (.int .i64 0)), (.con (.int .i64 0)), (.con (.int .i64 0)), (.con (.int .i64 0)), (.con (.int .i64 0)), (.con (.int .i64 0)), (.con (.int .i64 0))], [(.fn 195 []), i2, i3, i4, i5, i6, i7, i8, i9]] (.agg [i10, i11])
  (Q (.agg [(.fn 164 []), i10, i11, i4, i5, i6, i7, i8, i9]) [[(.fn 164 []), i10, i11, i4, i5, i6, i7, i8, i9], [(.fn 164 []), i10, i11, i4, i5, i6, i7, i8, i9]]))
  (br (((i1 : Int) == 3))
  (∃ i12 : Int, ∃ i13 : Int, CallN Tryz.prog 33 [(.con (.int .i64 0)), (.con (.int .i64 6))] [[(.con .nilFunc), (.con (.int .i64 0)), (.con (.int .i64 0)), (.con (.int .i64 0)), (.con (.int .i64 0)), (.con (.int .i64 0)), (.con (.int .i64 0)), (.con (.int .i64 0)), (.con (.int .i64 0))], [(.fn 195 []), i2, i3, i4, i5, i6, i7, i8, i9]] (.agg [i12, i13])
  (Q (.agg [(.fn 156 []), i2, i3, i4, i5, i12, i13, i8, i9]) [[(.fn 156 []), i2, i3, i4, i5, i12, i13, i8, i9], [(.fn 156 []), i2, i3, i4, i5, i12, i13, i8, i9]]))
  (br (((i1 : Int) == 4))
  (∃ i14 : Int, ∃ i15 : Int, CallN Tryz.prog 33 [(.con (.int .i64 2)), (.con (.int .i64 6))] [[(.con .nilFunc), (.con (.int .i64 0)), (.con (.int .i64 0)), (.con (.int .i64 0)), (.con (.int .i64 0)), (.con (.int .i64 0)), (.con (.int .i64 0)), (.con (.int .i64 0)), (.con (.int .i64 0))], [(.fn 195 []), i2, i3, i4, i5, i6, i7, i8, i9]] (.agg [i14, i15])
  (Q (.agg [(.fn 164 []), i2, i3, i4, i5, i14, i15, i8, i9]) [[(.fn 164 []), i2, i3, i4, i5, i14, i15, i8, i9], [(.fn 164 []), i2, i3, i4, i5, i14, i15, i8, i9]]))
  (Q (.agg [(.fn 195 []), i2, i3, i4, i5, i6, i7, i8, i9]) [[(.fn 195 []), i2, i3, i4, i5, i6, i7, i8, i9], [(.fn 195 []), i2, i3, i4, i5, i6, i7, i8, i9]]))))))
theorem a106 (i1 : Int) (Q : PV → Heap → Prop) (h : p106 i1 Q) : ACalls Tryz.prog 106 [i1] [] Q := by
  have hb : Option.some (bodyOf Tryz.f106) = Tryz.f106.body := by kernel_rfl
  exact acalls_eq (S := S) (L := loops33) mixed tok Tryz.func106 hb.symm (by kernel_rfl) h
def p163  (Q : PV → Heap → Prop) : Prop :=
Q (.agg [(.fn 195 []), (.con (.int .i64 0)), (.con (.int .i64 0)), (.con (.int .i64 0)), (.con (.int .i64 0)), (.con (.int .i64 0)), (.con (.int .i64 0)), (.con (.int .i64 0)), (.con (.int .i64 0))]) [[(.fn 195 []), (.con (.int .i64 0)), (.con (.int .i64 0)), (.con (.int .i64 0)), (.con (.int .i64 0)), (.con (.int .i64 0)), (.con (.int .i64 0)), (.con (.int .i64 0)), (.con (.int .i64 0))]]
theorem a163  (Q : PV → Heap → Prop) (h : p163  Q) : ACalls Tryz.prog 163 [] [] Q := by
  have hb : Option.some (bodyOf Tryz.f163) = Tryz.f163.body := by kernel_rfl
  exact acalls_eq (S := S) (L := loops33) mixed tok Tryz.func163 hb.symm (by kernel_rfl) h
def p79 (i1 i2 i3 : Int) (Q : PV → Heap → Prop) : Prop :=
br ((decide ((i1 : Int) ≤ i3)))
  (Q (.con (.bool (decide ((i3 : Int) ≤ i2)))) [[i1, i2]])
  (Q (.con (.bool false)) [[i1, i2]])
theorem a79 (i1 i2 i3 : Int) (Q : PV → Heap → Prop) (h : p79 i1 i2 i3 Q) : ACalls Tryz.prog 79 [(.agg [i1, i2]), i3] [] Q := by
  have hb : Option.some (bodyOf Tryz.f79) = Tryz.f79.body := by kernel_rfl
  exact acalls_eq (S := S) (L := loops33) mixed tok Tryz.func79 hb.symm (by kernel_rfl) h
def p34 (i1 i2 i3 : Int) (Q : PV → Heap → Prop) : Prop :=
∃ b4 : Bool, CallN Tryz.prog 79 [(.agg [i1, i2]), i3] [[i1, i2]] b4
  (Q b4 [[i1, i2]])
theorem a34 (i1 i2 i3 : Int) (Q : PV → Heap → Prop) (h : p34 i1 i2 i3 Q) : ACalls Tryz.prog 34 [(.agg [i1, i2]), i3] [] Q := by
  have hb : Option.some (bodyOf Tryz.f34) = Tryz.f34.body := by kernel_rfl
  exact acalls_eq (S := S) (L := loops33) mixed tok Tryz.func34 hb.symm (by kernel_rfl) h
def p166 (i1 : Int) (Q : PV → Heap → Prop) : Prop :=
Q (.agg [i1, i1]) [[i1, i1]]
theorem a166 (i1 : Int) (Q : PV → Heap → Prop) (h : p166 i1 Q) : ACalls Tryz.prog 166 [i1] [] Q := by
  have hb : Option.some (bodyOf Tryz.f166) = Tryz.f166.body := by kernel_rfl
  exact acalls_eq (S := S) (L := loops33) mixed tok Tryz.func166 hb.symm (by kernel_rfl) h
def p47 (i1 i2 i3 : Int) (s4 : ByteArray) (i5 : Int) (l6 : List (List PV)) (i7 : Int) (Q : PV → Heap → Prop) : Prop :=
(∃ i8 : Int, ∃ i9 : Int, ∃ i10 : Int, ∃ i11 : Int, ∃ i12 : Int, ∃ i13 : Int, ∃ i14 : Int, ∃ i15 : Int, CallN Tryz.prog 106 [i1] [[i1, i2, i3, s4, i5, l6], [i7]] (.agg [(.fn 195 []), i8, i9, i10, i11, i12, i13, i14, i15])
  (br ((decide ((i7 : Int) > 0)))
  (∃ b16 : Bool, CallN Tryz.prog 195 [s4] [[i1, i2, i3, s4, i5, l6], [i7], [(.fn 195 []), i8, i9, i10, i11, i12, i13, i14, i15]] b16
  (br (b16)
  (∃ b17 : Bool, CallN Tryz.prog 79 [(.agg [i8, i9]), i5] [[i1, i2, i3, s4, i5, l6], [i7], [(.fn 195 []), i8, i9, i10, i11, i12, i13, i14, i15]] b17
  (br (b17)
  (∃ b18 : Bool, CallN Tryz.prog 34 [(.agg [i12, i13]), (.con (.int .i64 (List.length l6 : Int)))] [[i1, i2, i3, s4, i5, l6], [i7], [(.fn 195 []), i8, i9, i10, i11, i12, i13, i14, i15]] b18
  (br (b18)
  (∃ b19 : Bool, CallN Tryz.prog 107 [l6, (.fn 108 [(.ept [i7] 0)])] [[i1, i2, i3, s4, i5, l6], [], [(.fn 195 []), i8, i9, i10, i11, i12, i13, i14, i15]] b19
  (Q b19 [[i1, i2, i3, s4, i5, l6], [], [(.fn 195 []), i8, i9, i10, i11, i12, i13, i14, i15]]))
  (Q (.con (.bool false)) [[i1, i2, i3, s4, i5, l6], [i7], [(.fn 195 []), i8, i9, i10, i11, i12, i13, i14, i15]])))
  (Q (.con (.bool false)) [[i1, i2, i3, s4, i5, l6], [i7], [(.fn 195 []), i8, i9, i10, i11, i12, i13, i14, i15]])))
  (Q (.con (.bool false)) [[i1, i2, i3, s4, i5, l6], [i7], [(.fn 195 []), i8, i9, i10, i11, i12, i13, i14, i15]])))
  (Q (.con (.bool false)) [[i1, i2, i3, s4, i5, l6], [i7], [(.fn 195 []), i8, i9, i10, i11, i12, i13, i14, i15]]))) ∨ (∃ i20 : Int, ∃ i21 : Int, ∃ i22 : Int, ∃ i23 : Int, ∃ i24 : Int, ∃ i25 : Int, ∃ i26 : Int, ∃ i27 : Int, CallN Tryz.prog 106 [i1] [[i1, i2, i3, s4, i5, l6], [i7]] (.agg [(.fn 164 []), i20, i21, i22, i23, i24, i25, i26, i27])
  (br ((decide ((i7 : Int) > 0)))
  (∃ b28 : Bool, CallN Tryz.prog 164 [s4] [[i1, i2, i3, s4, i5, l6], [i7], [(.fn 164 []), i20, i21, i22, i23, i24, i25, i26, i27]] b28
  (br (b28)
  (∃ b29 : Bool, CallN Tryz.prog 79 [(.agg [i20, i21]), i5] [[i1, i2, i3, s4, i5, l6], [i7], [(.fn 164 []), i20, i21, i22, i23, i24, i25, i26, i27]] b29
  (br (b29)
  (∃ b30 : Bool, CallN Tryz.prog 34 [(.agg [i24, i25]), (.con (.int .i64 (List.length l6 : Int)))] [[i1, i2, i3, s4, i5, l6], [i7], [(.fn 164 []), i20, i21, i22, i23, i24, i25, i26, i27]] b30
  (br (b30)
  (∃ b31 : Bool, CallN Tryz.prog 107 [l6, (.fn 108 [(.ept [i7] 0)])] [[i1, i2, i3, s4, i5, l6], [], [(.fn 164 []), i20, i21, i22, i23, i24, i25, i26, i27]] b31
  (Q b31 [[i1, i2, i3, s4, i5, l6], [], [(.fn 164 []), i20, i21, i22, i23, i24, i25, i26, i27]]))
  (Q (.con (.bool false)) [[i1, i2, i3, s4, i5, l6], [i7], [(.fn 164 []), i20, i21, i22, i23, i24, i25, i26, i27]])))
  (Q (.con (.bool false)) [[i1, i2, i3, s4, i5, l6], [i7], [(.fn 164 []), i20, i21, i22, i23, i24, i25, i26, i27]])))
  (Q (.con (.bool false)) [[i1, i2, i3, s4, i5, l6], [i7], [(.fn 164 []), i20, i21, i22, i23, i24, i25, i26, i27]])))
  (Q (.con (.bool false)) [[i1, i2, i3, s4, i5, l6], [i7], [(.fn 164 []), i20, i21, i22, i23, i24, i25, i26, i27]]))) ∨ (∃ i32 : Int, ∃ i33 : Int, ∃ i34 : Int, ∃ i35 : Int, ∃ i36 : Int, ∃ i37 : Int, ∃ i38 : Int, ∃ i39 : Int, CallN Tryz.prog 106 [i1] [[i1, i2, i3, s4, i5, l6], [i7]] (.agg [(.fn 92 []), i32, i33, i34, i35, i36, i37, i38, i39])
  (br ((decide ((i7 : Int) > 0)))
  (∃ b40 : Bool, CallN Tryz.prog 92 [s4] [[i1, i2, i3, s4, i5, l6], [i7], [(.fn 92 []), i32, i33, i34, i35, i36, i37, i38, i39]] b40
  (br (b40)
  (∃ b41 : Bool, CallN Tryz.prog 79 [(.agg [i32, i33]), i5] [[i1, i2, i3, s4, i5, l6], [i7], [(.fn 92 []), i32, i33, i34, i35, i36, i37, i38, i39]] b41
  (br (b41)
  (∃ b42 : Bool, CallN Tryz.prog 34 [(.agg [i36, i37]), (.con (.int .i64 (List.length l6 : Int)))] [[i1, i2, i3, s4, i5, l6], [i7], [(.fn 92 []), i32, i33, i34, i35, i36, i37, i38, i39]] b42
  (br (b42)
  (∃ b43 : Bool, CallN Tryz.prog 107 [l6, (.fn 108 [(.ept [i7] 0)])] [[i1, i2, i3, s4, i5, l6], [], [(.fn 92 []), i32, i33, i34, i35, i36, i37, i38, i39]] b43
  (Q b43 [[i1, i2, i3, s4, i5, l6], [], [(.fn 92 []), i32, i33, i34, i35, i36, i37, i38, i39]]))
  (Q (.con (.bool false)) [[i1, i2, i3, s4, i5, l6], [i7], [(.fn 92 []), i32, i33, i34, i35, i36, i37, i38, i39]])))
  (Q (.con (.bool false)) [[i1, i2, i3, s4, i5, l6], [i7], [(.fn 92 []), i32, i33, i34, i35, i36, i37, i38, i39]])))
  (Q (.con (.bool false)) [[i1, i2, i3, s4, i5, l6], [i7], [(.fn 92 []), i32, i33, i34, i35, i36, i37, i38, i39]])))
  (Q (.con (.bool false)) [[i1, i2, i3, s4, i5, l6], [i7], [(.fn 92 []), i32, i33, i34, i35, i36, i37, i38, i39]]))) ∨ (∃ i44 : Int, ∃ i45 : Int, ∃ i46 : Int, ∃ i47 : Int, ∃ i48 : Int, ∃ i49 : Int, ∃ i50 : Int, ∃ i51 : Int, CallN Tryz.prog 106 [i1] [[i1, i2, i3, s4, i5, l6], [i7]] (.agg [(.fn 156 []), i44, i45, i46, i47, i48, i49, i50, i51])
  (br ((decide ((i7 : Int) > 0)))
  (∃ b52 : Bool, CallN Tryz.prog 156 [s4] [[i1, i2, i3, s4, i5, l6], [i7], [(.fn 156 []), i44, i45, i46, i47, i48, i49, i50, i51]] b52
  (br (b52)
  (∃ b53 : Bool, CallN Tryz.prog 79 [(.agg [i44, i45]), i5] [[i1, i2, i3, s4, i5, l6], [i7], [(.fn 156 []), i44, i45, i46, i47, i48, i49, i50, i51]] b53
  (br (b53)
  (∃ b54 : Bool, CallN Tryz.prog 34 [(.agg [i48, i49]), (.con (.int .i64 (List.length l6 : Int)))] [[i1, i2, i3, s4, i5, l6], [i7], [(.fn 156 []), i44, i45, i46, i47, i48, i49, i50, i51]] b54
  (br (b54)
  (∃ b55 : Bool, CallN Tryz.prog 107 [l6, (.fn 108 [(.ept [i7] 0)])] [[i1, i2, i3, s4, i5, l6], [], [(.fn 156 []), i44, i45, i46, i47, i48, i49, i50, i51]] b55
  (Q b55 [[i1, i2, i3, s4, i5, l6], [], [(.fn 156 []), i44, i45, i46, i47, i48, i49, i50, i51]]))
  (Q (.con (.bool false)) [[i1, i2, i3, s4, i5, l6], [i7], [(.fn 156 []), i44, i45, i46, i47, i48, i49, i50, i51]])))
  (Q (.con (.bool false)) [[i1, i2, i3, s4, i5, l6], [i7], [(.fn 156 []), i44, i45, i46, i47, i48, i49, i50, i51]])))
  (Q (.con (.bool false)) [[i1, i2, i3, s4, i5, l6], [i7], [(.fn 156 []), i44, i45, i46, i47, i48, i49, i50, i51]])))
  (Q (.con (.bool false)) [[i1, i2, i3, s4, i5, l6], [i7], [(.fn 156 []), i44, i45, i46, i47, i48, i49, i50, i51]])))
theorem a47 (i1 i2 i3 : Int) (s4 : ByteArray) (i5 : Int) (l6 : List (List PV)) (i7 : Int) (Q : PV → Heap → Prop) (h : p47 i1 i2 i3 s4 i5 l6 i7 Q) : ACalls Tryz.prog 47 [(.agg [i1, i2, i3, s4, i5, l6]), i7] [] Q := by
  have hb : Option.some (bodyOf Tryz.f47) = Tryz.f47.body := by kernel_rfl
  exact acalls_eq (S := S) (L := loops33) mixed tok Tryz.func47 hb.symm (by kernel_rfl) h
def p16 (i1 i2 i3 : Int) (s4 : ByteArray) (i5 : Int) (l6 : List (List PV)) (Q : PV → Heap → Prop) : Prop :=
∃ b7 : Bool, CallN Tryz.prog 47 [(.agg [i1, i2, i3, s4, i5, l6]), (.con (.int .i64 64))] [[i1, i2, i3, s4, i5, l6]] b7
  (Q b7 [[i1, i2, i3, s4, i5, l6]])
theorem a16 (i1 i2 i3 : Int) (s4 : ByteArray) (i5 : Int) (l6 : List (List PV)) (Q : PV → Heap → Prop) (h : p16 i1 i2 i3 s4 i5 l6 Q) : ACalls Tryz.prog 16 [(.agg [i1, i2, i3, s4, i5, l6])] [] Q := by
  have hb : Option.some (bodyOf Tryz.f16) = Tryz.f16.body := by kernel_rfl
  exact acalls_eq (S := S) (L := loops33) mixed tok Tryz.func16 hb.symm (by kernel_rfl) h
def p108c (i1 i2 i3 : Int) (s4 : ByteArray) (i5 : Int) (l6 : List (List PV)) (i7 : Int) (Q : PV → Heap → Prop) : Prop :=
∃ b8 : Bool, CallN Tryz.prog 47 [(.agg [i1, i2, i3, s4, i5, l6]), (IntKind.wrap .i64 (i7 - 1))] [[i1, i2, i3, s4, i5, l6]] b8
  (Q b8 [[i1, i2, i3, s4, i5, l6]])
theorem a108c (i1 i2 i3 : Int) (s4 : ByteArray) (i5 : Int) (l6 : List (List PV)) (i7 : Int) (Q : PV → Heap → Prop) (h : p108c i1 i2 i3 s4 i5 l6 i7 Q) : ACalls Tryz.prog 108 [(.agg [i1, i2, i3, s4, i5, l6]), (.ept [i7] 0)] [] Q := by
  have hb : Option.some (bodyOf Tryz.f108) = Tryz.f108.body := by kernel_rfl
  exact acalls_eq (S := S) (L := loops33) mixed tok Tryz.func108 hb.symm (by kernel_rfl) h
def p45 (i1 i2 i3 i4 : Int) (l5 : List (List PV)) (s6 : ByteArray) (l7 l8 : List (List PV)) (i9 : Int) (Q : PV → Heap → Prop) : Prop :=
(∃ i10 : Int, ∃ i11 : Int, ∃ i12 : Int, ∃ i13 : Int, ∃ i14 : Int, ∃ i15 : Int, ∃ i16 : Int, ∃ i17 : Int, CallN Tryz.prog 100 [i1, i4] [[i1, i2, i3, i4, l5, s6, l7, l8], [i9]] (.agg [(.fn 195 []), i10, i11, i12, i13, i14, i15, i16, i17])
  (br ((decide ((i9 : Int) > 0)))
  (∃ b18 : Bool, CallN Tryz.prog 195 [s6] [[i1, i2, i3, i4, l5, s6, l7, l8], [i9], [(.fn 195 []), i10, i11, i12, i13, i14, i15, i16, i17]] b18
  (br (b18)
  (∃ b19 : Bool, CallN Tryz.prog 79 [(.agg [i10, i11]), i4] [[i1, i2, i3, i4, l5, s6, l7, l8], [i9], [(.fn 195 []), i10, i11, i12, i13, i14, i15, i16, i17]] b19
  (br (b19)
  (∃ b20 : Bool, CallN Tryz.prog 34 [(.agg [i12, i13]), (.con (.int .i64 (List.length l5 : Int)))] [[i1, i2, i3, i4, l5, s6, l7, l8], [i9], [(.fn 195 []), i10, i11, i12, i13, i14, i15, i16, i17]] b20
  (br (b20)
  (∃ b21 : Bool, CallN Tryz.prog 34 [(.agg [i14, i15]), (.con (.int .i64 (List.length l7 : Int)))] [[i1, i2, i3, i4, l5, s6, l7, l8], [i9], [(.fn 195 []), i10, i11, i12, i13, i14, i15, i16, i17]] b21
  (br (b21)
  (∃ b22 : Bool, CallN Tryz.prog 34 [(.agg [i16, i17]), (.con (.int .i64 (List.length l8 : Int)))] [[i1, i2, i3, i4, l5, s6, l7, l8], [i9], [(.fn 195 []), i10, i11, i12, i13, i14, i15, i16, i17]] b22
  (br (b22)
  (∃ b23 : Bool, CallN Tryz.prog 101 [l7, (.fn 102 [(.ept [i9] 0)])] [[i1, i2, i3, i4, l5, s6, l7, l8], [], [(.fn 195 []), i10, i11, i12, i13, i14, i15, i16, i17]] b23
  (br (b23)
  (∃ b24 : Bool, CallN Tryz.prog 103 [l8, (.fn 104 [(.ept [i9] 0)])] [[i1, i2, i3, i4, l5, s6, l7, l8], [], [(.fn 195 []), i10, i11, i12, i13, i14, i15, i16, i17]] b24
  (Q b24 [[i1, i2, i3, i4, l5, s6, l7, l8], [], [(.fn 195 []), i10, i11, i12, i13, i14, i15, i16, i17]]))
  (Q (.con (.bool false)) [[i1, i2, i3, i4, l5, s6, l7, l8], [], [(.fn 195 []), i10, i11, i12, i13, i14, i15, i16, i17]])))
  (Q (.con (.bool false)) [[i1, i2, i3, i4, l5, s6, l7, l8], [i9], [(.fn 195 []), i10, i11, i12, i13, i14, i15, i16, i17]])))
  (Q (.con (.bool false)) [[i1, i2, i3, i4, l5, s6, l7, l8], [i9], [(.fn 195 []), i10, i11, i12, i13, i14, i15, i16, i17]])))
  (Q (.con (.bool false)) [[i1, i2, i3, i4, l5, s6, l7, l8], [i9], [(.fn 195 []), i10, i11, i12, i13, i14, i15, i16, i17]])))
  (Q (.con (.bool false)) [[i1, i2, i3, i4, l5, s6, l7, l8], [i9], [(.fn 195 []), i10, i11, i12, i13, i14, i15, i16, i17]])))
  (Q (.con (.bool false)) [[i1, i2, i3, i4, l5, s6, l7, l8], [i9], [(.fn 195 []), i10, i11, i12, i13, i14, i15, i16, i17]])))
  (Q (.con (.bool false)) [[i1, i2, i3, i4, l5, s6, l7, l8], [i9], [(.fn 195 []), i10, i11, i12, i13, i14, i15, i16, i17]]))) ∨ (∃ i25 : Int, ∃ i26 : Int, ∃ i27 : Int, ∃ i28 : Int, ∃ i29 : Int, ∃ i30 : Int, ∃ i31 : Int, ∃ i32 : Int, CallN Tryz.prog 100 [i1, i4] [[i1, i2, i3, i4, l5, s6, l7, l8], [i9]] (.agg [(.fn 164 []), i25, i26, i27, i28, i29, i30, i31, i32])
  (br ((decide ((i9 : Int) > 0)))
  (∃ b33 : Bool, CallN Tryz.prog 164 [s6] [[i1, i2, i3, i4, l5, s6, l7, l8], [i9], [(.fn 164 []), i25, i26, i27, i28, i29, i30, i31, i32]] b33
  (br (b33)
  (∃ b34 : Bool, CallN Tryz.prog 79 [(.agg [i25, i26]), i4] [[i1, i2, i3, i4, l5, s6, l7, l8], [i9], [(.fn 164 []), i25, i26, i27, i28, i29, i30, i31, i32]] b34
  (br (b34)
  (∃ b35 : Bool, CallN Tryz.prog 34 [(.agg [i27, i28]), (.con (.int .i64 (List.length l5 : Int)))] [[i1, i2, i3, i4, l5, s6, l7, l8], [i9], [(.fn 164 []), i25, i26, i27, i28, i29, i30, i31, i32]] b35
  (br (b35)
  (∃ b36 : Bool, CallN Tryz.prog 34 [(.agg [i29, i30]), (.con (.int .i64 (List.length l7 : Int)))] [[i1, i2, i3, i4, l5, s6, l7, l8], [i9], [(.fn 164 []), i25, i26, i27, i28, i29, i30, i31, i32]] b36
  (br (b36)
  (∃ b37 : Bool, CallN Tryz.prog 34 [(.agg [i31, i32]), (.con (.int .i64 (List.length l8 : Int)))] [[i1, i2, i3, i4, l5, s6, l7, l8], [i9], [(.fn 164 []), i25, i26, i27, i28, i29, i30, i31, i32]] b37
  (br (b37)
  (∃ b38 : Bool, CallN Tryz.prog 101 [l7, (.fn 102 [(.ept [i9] 0)])] [[i1, i2, i3, i4, l5, s6, l7, l8], [], [(.fn 164 []), i25, i26, i27, i28, i29, i30, i31, i32]] b38
  (br (b38)
  (∃ b39 : Bool, CallN Tryz.prog 103 [l8, (.fn 104 [(.ept [i9] 0)])] [[i1, i2, i3, i4, l5, s6, l7, l8], [], [(.fn 164 []), i25, i26, i27, i28, i29, i30, i31, i32]] b39
  (Q b39 [[i1, i2, i3, i4, l5, s6, l7, l8], [], [(.fn 164 []), i25, i26, i27, i28, i29, i30, i31, i32]]))
  (Q (.con (.bool false)) [[i1, i2, i3, i4, l5, s6, l7, l8], [], [(.fn 164 []), i25, i26, i27, i28, i29, i30, i31, i32]])))
  (Q (.con (.bool false)) [[i1, i2, i3, i4, l5, s6, l7, l8], [i9], [(.fn 164 []), i25, i26, i27, i28, i29, i30, i31, i32]])))
  (Q (.con (.bool false)) [[i1, i2, i3, i4, l5, s6, l7, l8], [i9], [(.fn 164 []), i25, i26, i27, i28, i29, i30, i31, i32]])))
  (Q (.con (.bool false)) [[i1, i2, i3, i4, l5, s6, l7, l8], [i9], [(.fn 164 []), i25, i26, i27, i28, i29, i30, i31, i32]])))
  (Q (.con (.bool false)) [[i1, i2, i3, i4, l5, s6, l7, l8], [i9], [(.fn 164 []), i25, i26, i27, i28, i29, i30, i31, i32]])))
  (Q (.con (.bool false)) [[i1, i2, i3, i4, l5, s6, l7, l8], [i9], [(.fn 164 []), i25, i26, i27, i28, i29, i30, i31, i32]])))
  (Q (.con (.bool false)) [[i1, i2, i3, i4, l5, s6, l7, l8], [i9], [(.fn 164 []), i25, i26, i27, i28, i29, i30, i31, i32]]))) ∨ (∃ i40 : Int, ∃ i41 : Int, ∃ i42 : Int, ∃ i43 : Int, ∃ i44 : Int, ∃ i45 : Int, ∃ i46 : Int, ∃ i47 : Int, CallN Tryz.prog 100 [i1, i4] [[i1, i2, i3, i4, l5, s6, l7, l8], [i9]] (.agg [(.fn 165 []), i40, i41, i42, i43, i44, i45, i46, i47])
  (br ((decide ((i9 : Int) > 0)))
  (∃ b48 : Bool, CallN Tryz.prog 165 [s6] [[i1, i2, i3, i4, l5, s6, l7, l8], [i9], [(.fn 165 []), i40, i41, i42, i43, i44, i45, i46, i47]] b48
  (br (b48)
  (∃ b49 : Bool, CallN Tryz.prog 79 [(.agg [i40, i41]), i4] [[i1, i2, i3, i4, l5, s6, l7, l8], [i9], [(.fn 165 []), i40, i41, i42, i43, i44, i45, i46, i47]] b49
  (br (b49)
  (∃ b50 : Bool, CallN Tryz.prog 34 [(.agg [i42, i43]), (.con (.int .i64 (List.length l5 : Int)))] [[i1, i2, i3, i4, l5, s6, l7, l8], [i9], [(.fn 165 []), i40, i41, i42, i43, i44, i45, i46, i47]] b50
  (br (b50)
  (∃ b51 : Bool, CallN Tryz.prog 34 [(.agg [i44, i45]), (.con (.int .i64 (List.length l7 : Int)))] [[i1, i2, i3, i4, l5, s6, l7, l8], [i9], [(.fn 165 []), i40, i41, i42, i43, i44, i45, i46, i47]] b51
  (br (b51)
  (∃ b52 : Bool, CallN Tryz.prog 34 [(.agg [i46, i47]), (.con (.int .i64 (List.length l8 : Int)))] [[i1, i2, i3, i4, l5, s6, l7, l8], [i9], [(.fn 165 []), i40, i41, i42, i43, i44, i45, i46, i47]] b52
  (br (b52)
  (∃ b53 : Bool, CallN Tryz.prog 101 [l7, (.fn 102 [(.ept [i9] 0)])] [[i1, i2, i3, i4, l5, s6, l7, l8], [], [(.fn 165 []), i40, i41, i42, i43, i44, i45, i46, i47]] b53
  (br (b53)
  (∃ b54 : Bool, CallN Tryz.prog 103 [l8, (.fn 104 [(.ept [i9] 0)])] [[i1, i2, i3, i4, l5, s6, l7, l8], [], [(.fn 165 []), i40, i41, i42, i43, i44, i45, i46, i47]] b54
  (Q b54 [[i1, i2, i3, i4, l5, s6, l7, l8], [], [(.fn 165 []), i40, i41, i42, i43, i44, i45, i46, i47]]))
  (Q (.con (.bool false)) [[i1, i2, i3, i4, l5, s6, l7, l8], [], [(.fn 165 []), i40, i41, i42, i43, i44, i45, i46, i47]])))
  (Q (.con (.bool false)) [[i1, i2, i3, i4, l5, s6, l7, l8], [i9], [(.fn 165 []), i40, i41, i42, i43, i44, i45, i46, i47]])))
  (Q (.con (.bool false)) [[i1, i2, i3, i4, l5, s6, l7, l8], [i9], [(.fn 165 []), i40, i41, i42, i43, i44, i45, i46, i47]])))
  (Q (.con (.bool false)) [[i1, i2, i3, i4, l5, s6, l7, l8], [i9], [(.fn 165 []), i40, i41, i42, i43, i44, i45, i46, i47]])))
  (Q (.con (.bool false)) [[i1, i2, i3, i4, l5, s6, l7, l8], [i9], [(.fn 165 []), i40, i41, i42, i43, i44, i45, i46, i47]])))
  (Q (.con (.bool false)) [[i1, i2, i3, i4, l5, s6, l7, l8], [i9], [(.fn 165 []), i40, i41, i42, i43, i44, i45, i46, i47]])))
  (Q (.con (.bool false)) [[i1, i2, i3, i4, l5, s6, l7, l8], [i9], [(.fn 165 []), i40, i41, i42, i43, i44, i45, i46, i47]]))) ∨ (∃ i55 : Int, ∃ i56 : Int, ∃ i57 : Int, ∃ i58 : Int, ∃ i59 : Int, ∃ i60 : Int, ∃ i61 : Int, ∃ i62 : Int, CallN Tryz.prog 100 [i1, i4] [[i1, i2, i3, i4, l5, s6, l7, l8], [i9]] (.agg [(.fn 156 []), i55, i56, i57, i58, i59, i60, i61, i62])
  (br ((decide ((i9 : Int) > 0)))
  (∃ b63 : Bool, CallN Tryz.prog 156 [s6] [[i1, i2, i3, i4, l5, s6, l7, l8], [i9], [(.fn 156 []), i55, i56, i57, i58, i59, i60, i61, i62]] b63
  (br (b63)
  (∃ b64 : Bool, CallN Tryz.prog 79 [(.agg [i55, i56]), i4] [[i1, i2, i3, i4, l5, s6, l7, l8], [i9], [(.fn 156 []), i55, i56, i57, i58, i59, i60, i61, i62]] b64
  (br (b64)
  (∃ b65 : Bool, CallN Tryz.prog 34 [(.agg [i57, i58]), (.con (.int .i64 (List.length l5 : Int)))] [[i1, i2, i3, i4, l5, s6, l7, l8], [i9], [(.fn 156 []), i55, i56, i57, i58, i59, i60, i61, i62]] b65
  (br (b65)
  (∃ b66 : Bool, CallN Tryz.prog 34 [(.agg [i59, i60]), (.con (.int .i64 (List.length l7 : Int)))] [[i1, i2, i3, i4, l5, s6, l7, l8], [i9], [(.fn 156 []), i55, i56, i57, i58, i59, i60, i61, i62]] b66
  (br (b66)
  (∃ b67 : Bool, CallN Tryz.prog 34 [(.agg [i61, i62]), (.con (.int .i64 (List.length l8 : Int)))] [[i1, i2, i3, i4, l5, s6, l7, l8], [i9], [(.fn 156 []), i55, i56, i57, i58, i59, i60, i61, i62]] b67
  (br (b67)
  (∃ b68 : Bool, CallN Tryz.prog 101 [l7, (.fn 102 [(.ept [i9] 0)])] [[i1, i2, i3, i4, l5, s6, l7, l8], [], [(.fn 156 []), i55, i56, i57, i58, i59, i60, i61, i62]] b68
  (br (b68)
  (∃ b69 : Bool, CallN Tryz.prog 103 [l8, (.fn 104 [(.ept [i9] 0)])] [[i1, i2, i3, i4, l5, s6, l7, l8], [], [(.fn 156 []), i55, i56, i57, i58, i59, i60, i61, i62]] b69
  (Q b69 [[i1, i2, i3, i4, l5, s6, l7, l8], [], [(.fn 156 []), i55, i56, i57, i58, i59, i60, i61, i62]]))
  (Q (.con (.bool false)) [[i1, i2, i3, i4, l5, s6, l7, l8], [], [(.fn 156 []), i55, i56, i57, i58, i59, i60, i61, i62]])))
  (Q (.con (.bool false)) [[i1, i2, i3, i4, l5, s6, l7, l8], [i9], [(.fn 156 []), i55, i56, i57, i58, i59, i60, i61, i62]])))
  (Q (.con (.bool false)) [[i1, i2, i3, i4, l5, s6, l7, l8], [i9], [(.fn 156 []), i55, i56, i57, i58, i59, i60, i61, i62]])))
  (Q (.con (.bool false)) [[i1, i2, i3, i4, l5, s6, l7, l8], [i9], [(.fn 156 []), i55, i56, i57, i58, i59, i60, i61, i62]])))
  (Q (.con (.bool false)) [[i1, i2, i3, i4, l5, s6, l7, l8], [i9], [(.fn 156 []), i55, i56, i57, i58, i59, i60, i61, i62]])))
  (Q (.con (.bool false)) [[i1, i2, i3, i4, l5, s6, l7, l8], [i9], [(.fn 156 []), i55, i56, i57, i58, i59, i60, i61, i62]])))
  (Q (.con (.bool false)) [[i1, i2, i3, i4, l5, s6, l7, l8], [i9], [(.fn 156 []), i55, i56, i57, i58, i59, i60, i61, i62]]))) ∨ (∃ i70 : Int, ∃ i71 : Int, ∃ i72 : Int, ∃ i73 : Int, ∃ i74 : Int, ∃ i75 : Int, ∃ i76 : Int, ∃ i77 : Int, CallN Tryz.prog 100 [i1, i4] [[i1, i2, i3, i4, l5, s6, l7, l8], [i9]] (.agg [(.fn 87 []), i70, i71, i72, i73, i74, i75, i76, i77])
  (br ((decide ((i9 : Int) > 0)))
  (∃ b78 : Bool, CallN Tryz.prog 87 [s6] [[i1, i2, i3, i4, l5, s6, l7, l8], [i9], [(.fn 87 []), i70, i71, i72, i73, i74, i75, i76, i77]] b78
  (br (b78)
  (∃ b79 : Bool, CallN Tryz.prog 79 [(.agg [i70, i71]), i4] [[i1, i2, i3, i4, l5, s6, l7, l8], [i9], [(.fn 87 []), i70, i71, i72, i73, i74, i75, i76, i77]] b79
  (br (b79)
  (∃ b80 : Bool, CallN Tryz.prog 34 [(.agg [i72, i73]), (.con (.int .i64 (List.length l5 : Int)))] [[i1, i2, i3, i4, l5, s6, l7, l8], [i9], [(.fn 87 []), i70, i71, i72, i73, i74, i75, i76, i77]] b80
  (br (b80)
  (∃ b81 : Bool, CallN Tryz.prog 34 [(.agg [i74, i75]), (.con (.int .i64 (List.length l7 : Int)))] [[i1, i2, i3, i4, l5, s6, l7, l8], [i9], [(.fn 87 []), i70, i71, i72, i73, i74, i75, i76, i77]] b81
  (br (b81)
  (∃ b82 : Bool, CallN Tryz.prog 34 [(.agg [i76, i77]), (.con (.int .i64 (List.length l8 : Int)))] [[i1, i2, i3, i4, l5, s6, l7, l8], [i9], [(.fn 87 []), i70, i71, i72, i73, i74, i75, i76, i77]] b82
  (br (b82)
  (∃ b83 : Bool, CallN Tryz.prog 101 [l7, (.fn 102 [(.ept [i9] 0)])] [[i1, i2, i3, i4, l5, s6, l7, l8], [], [(.fn 87 []), i70, i71, i72, i73, i74, i75, i76, i77]] b83
  (br (b83)
  (∃ b84 : Bool, CallN Tryz.prog 103 [l8, (.fn 104 [(.ept [i9] 0)])] [[i1, i2, i3, i4, l5, s6, l7, l8], [], [(.fn 87 []), i70, i71, i72, i73, i74, i75, i76, i77]] b84
  (Q b84 [[i1, i2, i3, i4, l5, s6, l7, l8], [], [(.fn 87 []), i70, i71, i72, i73, i74, i75, i76, i77]]))
  (Q (.con (.bool false)) [[i1, i2, i3, i4, l5, s6, l7, l8], [], [(.fn 87 []), i70, i71, i72, i73, i74, i75, i76, i77]])))
  (Q (.con (.bool false)) [[i1, i2, i3, i4, l5, s6, l7, l8], [i9], [(.fn 87 []), i70, i71, i72, i73, i74, i75, i76, i77]])))
  (Q (.con (.bool false)) [[i1, i2, i3, i4, l5, s6, l7, l8], [i9], [(.fn 87 []), i70, i71, i72, i73, i74, i75, i76, i77]])))
  (Q (.con (.bool false)) [[i1, i2, i3, i4, l5, s6, l7, l8], [i9], [(.fn 87 []), i70, i71, i72, i73, i74, i75, i76, i77]])))
  (Q (.con (.bool false)) [[i1, i2, i3, i4, l5, s6, l7, l8], [i9], [(.fn 87 []), i70, i71, i72, i73, i74, i75, i76, i77]])))
  (Q (.con (.bool false)) [[i1, i2, i3, i4, l5, s6, l7, l8], [i9], [(.fn 87 []), i70, i71, i72, i73, i74, i75, i76, i77]])))
  (Q (.con (.bool false)) [[i1, i2, i3, i4, l5, s6, l7, l8], [i9], [(.fn 87 []), i70, i71, i72, i73, i74, i75, i76, i77]]))) ∨ (∃ i85 : Int, ∃ i86 : Int, ∃ i87 : Int, ∃ i88 : Int, ∃ i89 : Int, ∃ i90 : Int, ∃ i91 : Int, ∃ i92 : Int, CallN Tryz.prog 100 [i1, i4] [[i1, i2, i3, i4, l5, s6, l7, l8], [i9]] (.agg [(.fn 92 []), i85, i86, i87, i88, i89, i90, i91, i92])
  (br ((decide ((i9 : Int) > 0)))
  (∃ b93 : Bool, CallN Tryz.prog 92 [s6] [[i1, i2, i3, i4, l5, s6, l7, l8], [i9], [(.fn 92 []), i85, i86, i87, i88, i89, i90, i91, i92]] b93
  (br (b93)
  (∃ b94 : Bool, CallN Tryz.prog 79 [(.agg [i85, i86]), i4] [[i1, i2, i3, i4, l5, s6, l7, l8], [i9], [(.fn 92 []), i85, i86, i87, i88, i89, i90, i91, i92]] b94
  (br (b94)
  (∃ b95 : Bool, CallN Tryz.prog 34 [(.agg [i87, i88]), (.con (.int .i64 (List.length l5 : Int)))] [[i1, i2, i3, i4, l5, s6, l7, l8], [i9], [(.fn 92 []), i85, i86, i87, i88, i89, i90, i91, i92]] b95
  (br (b95)
  (∃ b96 : Bool, CallN Tryz.prog 34 [(.agg [i89, i90]), (.con (.int .i64 (List.length l7 : Int)))] [[i1, i2, i3, i4, l5, s6, l7, l8], [i9], [(.fn 92 []), i85, i86, i87, i88, i89, i90, i91, i92]] b96
  (br (b96)
  (∃ b97 : Bool, CallN Tryz.prog 34 [(.agg [i91, i92]), (.con (.int .i64 (List.length l8 : Int)))] [[i1, i2, i3, i4, l5, s6, l7, l8], [i9], [(.fn 92 []), i85, i86, i87, i88, i89, i90, i91, i92]] b97
  (br (b97)
  (∃ b98 : Bool, CallN Tryz.prog 101 [l7, (.fn 102 [(.ept [i9] 0)])] [[i1, i2, i3, i4, l5, s6, l7, l8], [], [(.fn 92 []), i85, i86, i87, i88, i89, i90, i91, i92]] b98
  (br (b98)
  (∃ b99 : Bool, CallN Tryz.prog 103 [l8, (.fn 104 [(.ept [i9] 0)])] [[i1, i2, i3, i4, l5, s6, l7, l8], [], [(.fn 92 []), i85, i86, i87, i88, i89, i90, i91, i92]] b99
  (Q b99 [[i1, i2, i3, i4, l5, s6, l7, l8], [], [(.fn 92 []), i85, i86, i87, i88, i89, i90, i91, i92]]))
  (Q (.con (.bool false)) [[i1, i2, i3, i4, l5, s6, l7, l8], [], [(.fn 92 []), i85, i86, i87, i88, i89, i90, i91, i92]])))
  (Q (.con (.bool false)) [[i1, i2, i3, i4, l5, s6, l7, l8], [i9], [(.fn 92 []), i85, i86, i87, i88, i89, i90, i91, i92]])))
  (Q (.con (.bool false)) [[i1, i2, i3, i4, l5, s6, l7, l8], [i9], [(.fn 92 []), i85, i86, i87, i88, i89, i90, i91, i92]])))
  (Q (.con (.bool false)) [[i1, i2, i3, i4, l5, s6, l7, l8], [i9], [(.fn 92 []), i85, i86, i87, i88, i89, i90, i91, i92]])))
  (Q (.con (.bool false)) [[i1, i2, i3, i4, l5, s6, l7, l8], [i9], [(.fn 92 []), i85, i86, i87, i88, i89, i90, i91, i92]])))
  (Q (.con (.bool false)) [[i1, i2, i3, i4, l5, s6, l7, l8], [i9], [(.fn 92 []), i85, i86, i87, i88, i89, i90, i91, i92]])))
  (Q (.con (.bool false)) [[i1, i2, i3, i4, l5, s6, l7, l8], [i9], [(.fn 92 []), i85, i86, i87, i88, i89, i90, i91, i92]])))
theorem a45 (i1 i2 i3 i4 : Int) (l5 : List (List PV)) (s6 : ByteArray) (l7 l8 : List (List PV)) (i9 : Int) (Q : PV → Heap → Prop) (h : p45 i1 i2 i3 i4 l5 s6 l7 l8 i9 Q) : ACalls Tryz.prog 45 [(.agg [i1, i2, i3, i4, l5, s6, l7, l8]), i9] [] Q := by
  have hb : Option.some (bodyOf Tryz.f45) = Tryz.f45.body := by kernel_rfl
  exact acalls_eq (S := S) (L := loops33) mixed tok Tryz.func45 hb.symm (by kernel_rfl) h
def p14 (i1 i2 i3 i4 : Int) (l5 : List (List PV)) (s6 : ByteArray) (l7 l8 : List (List PV)) (Q : PV → Heap → Prop) : Prop :=
∃ b9 : Bool, CallN Tryz.prog 45 [(.agg [i1, i2, i3, i4, l5, s6, l7, l8]), (.con (.int .i64 64))] [[i1, i2, i3, i4, l5, s6, l7, l8]] b9
  (Q b9 [[i1, i2, i3, i4, l5, s6, l7, l8]])
theorem a14 (i1 i2 i3 i4 : Int) (l5 : List (List PV)) (s6 : ByteArray) (l7 l8 : List (List PV)) (Q : PV → Heap → Prop) (h : p14 i1 i2 i3 i4 l5 s6 l7 l8 Q) : ACalls Tryz.prog 14 [(.agg [i1, i2, i3, i4, l5, s6, l7, l8])] [] Q := by
  have hb : Option.some (bodyOf Tryz.f14) = Tryz.f14.body := by kernel_rfl
  exact acalls_eq (S := S) (L := loops33) mixed tok Tryz.func14 hb.symm (by kernel_rfl) h
def p102d (i1 i2 i3 i4 : Int) (l5 : List (List PV)) (s6 : ByteArray) (l7 l8 : List (List PV)) (i9 : Int) (Q : PV → Heap → Prop) : Prop :=
∃ b10 : Bool, CallN Tryz.prog 45 [(.agg [i1, i2, i3, i4, l5, s6, l7, l8]), (IntKind.wrap .i64 (i9 - 1))] [[i1, i2, i3, i4, l5, s6, l7, l8]] b10
  (Q b10 [[i1, i2, i3, i4, l5, s6, l7, l8]])
theorem a102d (i1 i2 i3 i4 : Int) (l5 : List (List PV)) (s6 : ByteArray) (l7 l8 : List (List PV)) (i9 : Int) (Q : PV → Heap → Prop) (h : p102d i1 i2 i3 i4 l5 s6 l7 l8 i9 Q) : ACalls Tryz.prog 102 [(.agg [i1, i2, i3, i4, l5, s6, l7, l8]), (.ept [i9] 0)] [] Q := by
  have hb : Option.some (bodyOf Tryz.f102) = Tryz.f102.body := by kernel_rfl
  exact acalls_eq (S := S) (L := loops33) mixed tok Tryz.func102 hb.symm (by kernel_rfl) h
def p104e (i1 i2 i3 : Int) (s4 : ByteArray) (i5 : Int) (l6 : List (List PV)) (i7 i8 i9 i10 : Int) (l11 : List (List PV)) (s12 : ByteArray) (l13 l14 : List (List PV)) (i15 : Int) (Q : PV → Heap → Prop) : Prop :=
∃ b16 : Bool, CallN Tryz.prog 47 [(.agg [i1, i2, i3, s4, i5, l6]), (IntKind.wrap .i64 (i15 - 1))] [[i1, i2, i3, s4, i5, l6, i7, i8, i9, i10, l11, s12, l13, l14]] b16
  (br (b16)
  (∃ b17 : Bool, CallN Tryz.prog 45 [(.agg [i7, i8, i9, i10, l11, s12, l13, l14]), (IntKind.wrap .i64 (i15 - 1))] [[i1, i2, i3, s4, i5, l6, i7, i8, i9, i10, l11, s12, l13, l14]] b17
  (Q b17 [[i1, i2, i3, s4, i5, l6, i7, i8, i9, i10, l11, s12, l13, l14]]))
  (Q (.con (.bool false)) [[i1, i2, i3, s4, i5, l6, i7, i8, i9, i10, l11, s12, l13, l14]]))
theorem a104e (i1 i2 i3 : Int) (s4 : ByteArray) (i5 : Int) (l6 : List (List PV)) (i7 i8 i9 i10 : Int) (l11 : List (List PV)) (s12 : ByteArray) (l13 l14 : List (List PV)) (i15 : Int) (Q : PV → Heap → Prop) (h : p104e i1 i2 i3 s4 i5 l6 i7 i8 i9 i10 l11 s12 l13 l14 i15 Q) : ACalls Tryz.prog 104 [(.agg [i1, i2, i3, s4, i5, l6, i7, i8, i9, i10, l11, s12, l13, l14]), (.ept [i15] 0)] [] Q := by
  have hb : Option.some (bodyOf Tryz.f104) = Tryz.f104.body := by kernel_rfl
  exact acalls_eq (S := S) (L := loops33) mixed tok Tryz.func104 hb.symm (by kernel_rfl) h
def p100 (i1 i2 : Int) (Q : PV → Heap → Prop) : Prop :=
∃ i3 : Int, ∃ i4 : Int, ∃ i5 : Int, ∃ i6 : Int, ∃ i7 : Int, ∃ i8 : Int, ∃ i9 : Int, ∃ i10 : Int, CallN Tryz.prog 163 [] [[(.con .nilFunc), (.con (.int .i64 0)), (.con (.int .i64 0)), (.con (.int .i64 0)), (.con (.int .i64 0)), (.con (.int .i64 0)), (.con (.int .i64 0)), (.con (.int .i64 0)), (.con (.int .i64 0))]] (.agg [(.fn 195 []), i3, i4, i5, i6, i7, i8, i9, i10])
  (br (((i1 : Int) == 0))
  (∃ i11 : Int, ∃ i12 : Int, CallN Tryz.prog 33 [(.con (.int .i64 (-4611686018427387903))), (.con (.int .i64 4611686018427387903))] [[(.con .nilFunc), (.con (.int .i64 0)), (.con (.int .i64 0)), (.con (.int .i64 0)), (.con (.int .i64 0)), (.con (.int .i64 0)), (.con (.int .i64 0)), (.con (.int .i64 0)), (.con (.int .i64 0))], [(.fn 195 []), i3, i4, i5, i6, i7, i8, i9, i10]] (.agg [i11, i12])
  (Q (.agg [(.fn 164 []), i11, i12, i5, i6, i7, i8, i9, i10]) [[(.fn 164 []), i11, i12, i5, i6, i7, i8, i9, i10], [(.fn 164 []), i11, i12, i5, i6, i7, i8, i9, i10]]))
  (br (((i1 : Int) == 1))
  (∃ i13 : Int, ∃ i14 : Int, CallN Tryz.prog 33 [(.con (.int .i64 0)), (.con (.int .i64 64))] [[(.con .nilFunc), (.con (.int .i64 0)), (.con (.int .i64 0)), (.con (.int .i64 0)), (.con (.int .i64 0)), (.con (.int .i64 0)), (.con (.int .i64 0)), (.con (.int .i64 0)), (.con (.int .i64 0))], [(.fn 195 []), i3, i4, i5, i6, i7, i8, i9, i10]] (.agg [i13, i14])
  (Q (.agg [(.fn 164 []), i3, i4, i13, i14, i7, i8, i9, i10]) [[(.fn 164 []), i3, i4, i13, i14, i7, i8, i9, i10], [(.fn 164 []), i3, i4, i13, i14, i7, i8, i9, i10]]))
  (br (((i1 : Int) == 2))
  (Q (.agg [(.fn 165 []), i3, i4, i5, i6, i7, i8, i9, i10]) [[(.fn 165 []), i3, i4, i5, i6, i7, i8, i9, i10], [(.fn 165 []), i3, i4, i5, i6, i7, i8, i9, i10]])
  (br (((i1 : Int) == 3))
  (∃ i15 : Int, ∃ i16 : Int, CallN Tryz.prog 33 [(.con (.int .i64 0)), (.con (.int .i64 6))] [[(.con .nilFunc), (.con (.int .i64 0)), (.con (.int .i64 0)), (.con (.int .i64 0)), (.con (.int .i64 0)), (.con (.int .i64 0)), (.con (.int .i64 0)), (.con (.int .i64 0)), (.con (.int .i64 0))], [(.fn 195 []), i3, i4, i5, i6, i7, i8, i9, i10]] (.agg [i15, i16])
  (Q (.agg [(.fn 156 []), i3, i4, i5, i6, i15, i16, i9, i10]) [[(.fn 156 []), i3, i4, i5, i6, i15, i16, i9, i10], [(.fn 156 []), i3, i4, i5, i6, i15, i16, i9, i10]]))
  (br (((i1 : Int) == 4))
  (∃ i17 : Int, ∃ i18 : Int, CallN Tryz.prog 33 [(.con (.int .i64 2)), (.con (.int .i64 6))] [[(.con .nilFunc), (.con (.int .i64 0)), (.con (.int .i64 0)), (.con (.int .i64 0)), (.con (.int .i64 0)), (.con (.int .i64 0)), (.con (.int .i64 0)), (.con (.int .i64 0)), (.con (.int .i64 0))], [(.fn 195 []), i3, i4, i5, i6, i7, i8, i9, i10]] (.agg [i17, i18])
  (Q (.agg [(.fn 164 []), i3, i4, i5, i6, i17, i18, i9, i10]) [[(.fn 164 []), i3, i4, i5, i6, i17, i18, i9, i10], [(.fn 164 []), i3, i4, i5, i6, i17, i18, i9, i10]]))
  (br (((i1 : Int) == 5))
  (∃ i19 : Int, ∃ i20 : Int, CallN Tryz.prog 33 [(.con (.int .i64 1)), (.con (.int .i64 6))] [[(.con .nilFunc), (.con (.int .i64 0)), (.con (.int .i64 0)), (.con (.int .i64 0)), (.con (.int .i64 0)), (.con (.int .i64 0)), (.con (.int .i64 0)), (.con (.int .i64 0)), (.con (.int .i64 0))], [(.fn 195 []), i3, i4, i5, i6, i7, i8, i9, i10]] (.agg [i19, i20])
  (Q (.agg [(.fn 87 []), i3, i4, i5, i6, i19, i20, i9, i10]) [[(.fn 87 []), i3, i4, i5, i6, i19, i20, i9, i10], [(.fn 87 []), i3, i4, i5, i6, i19, i20, i9, i10]]))
  (br (((i1 : Int) == 6))
  (∃ i21 : Int, ∃ i22 : Int, CallN Tryz.prog 166 [(.con (.int .i64 2))] [[(.con .nilFunc), (.con (.int .i64 0)), (.con (.int .i64 0)), (.con (.int .i64 0)), (.con (.int .i64 0)), (.con (.int .i64 0)), (.con (.int .i64 0)), (.con (.int .i64 0)), (.con (.int .i64 0))], [(.fn 195 []), i3, i4, i5, i6, i7, i8, i9, i10]] (.agg [i21, i22])
  (Q (.agg [(.fn 92 []), i3, i4, i5, i6, i21, i22, i9, i10]) [[(.fn 92 []), i3, i4, i5, i6, i21, i22, i9, i10], [(.fn 92 []), i3, i4, i5, i6, i21, i22, i9, i10]]))
  (br (((i1 : Int) == 7))
  (∃ i23 : Int, ∃ i24 : Int, CallN Tryz.prog 166 [(.con (.int .i64 3))] [[(.con .nilFunc), (.con (.int .i64 0)), (.con (.int .i64 0)), (.con (.int .i64 0)), (.con (.int .i64 0)), (.con (.int .i64 0)), (.con (.int .i64 0)), (.con (.int .i64 0)), (.con (.int .i64 0))], [(.fn 195 []), i3, i4, i5, i6, i7, i8, i9, i10]] (.agg [i23, i24])
  (Q (.agg [(.fn 164 []), i3, i4, i5, i6, i23, i24, i9, i10]) [[(.fn 164 []), i3, i4, i5, i6, i23, i24, i9, i10], [(.fn 164 []), i3, i4, i5, i6, i23, i24, i9, i10]]))
  (br (((i1 : Int) == 8))
  (∃ i25 : Int, ∃ i26 : Int, CallN Tryz.prog 166 [(.con (.int .i64 1))] [[(.con .nilFunc), (.con (.int .i64 0)), (.con (.int .i64 0)), (.con (.int .i64 0)), (.con (.int .i64 0)), (.con (.int .i64 0)), (.con (.int .i64 0)), (.con (.int .i64 0)), (.con (.int .i64 0))], [(.fn 195 []), i3, i4, i5, i6, i7, i8, i9, i10]] (.agg [i25, i26])
  (∃ i27 : Int, ∃ i28 : Int, CallN Tryz.prog 33 [(.con (.int .i64 1)), (.con (.int .i64 32))] [[(.con .nilFunc), (.con (.int .i64 0)), (.con (.int .i64 0)), (.con (.int .i64 0)), (.con (.int .i64 0)), (.con (.int .i64 0)), (.con (.int .i64 0)), (.con (.int .i64 0)), (.con (.int .i64 0))], [(.fn 195 []), i3, i4, i5, i6, i7, i8, i9, i10]] (.agg [i27, i28])
  (Q (.agg [(.fn 164 []), i3, i4, i5, i6, i25, i26, i27, i28]) [[(.fn 164 []), i3, i4, i5, i6, i25, i26, i27, i28], [(.fn 164 []), i3, i4, i5, i6, i25, i26, i27, i28]])))
  (br (((i1 : Int) == 9))
  (∃ i29 : Int, ∃ i30 : Int, CallN Tryz.prog 33 [(.con (.int .i64 0)), (.con (.int .i64 11))] [[(.con .nilFunc), (.con (.int .i64 0)), (.con (.int .i64 0)), (.con (.int .i64 0)), (.con (.int .i64 0)), (.con (.int .i64 0)), (.con (.int .i64 0)), (.con (.int .i64 0)), (.con (.int .i64 0))], [(.fn 195 []), i3, i4, i5, i6, i7, i8, i9, i10]] (.agg [i29, i30])
  (∃ i31 : Int, CallN Tryz.prog 167 [i2] [[(.con .nilFunc), (.con (.int .i64 0)), (.con (.int .i64 0)), (.con (.int .i64 0)), (.con (.int .i64 0)), (.con (.int .i64 0)), (.con (.int .i64 0)), (.con (.int .i64 0)), (.con (.int .i64 0))], [(.fn 195 []), i3, i4, i5, i6, i7, i8, i9, i10]] i31
  (∃ i32 : Int, ∃ i33 : Int, CallN Tryz.prog 166 [i31] [[(.con .nilFunc), (.con (.int .i64 0)), (.con (.int .i64 0)), (.con (.int .i64 0)), (.con (.int .i64 0)), (.con (.int .i64 0)), (.con (.int .i64 0)), (.con (.int .i64 0)), (.con (.int .i64 0))], [(.fn 195 []), i3, i4, i5, i6, i7, i8, i9, i10]] (.agg [i32, i33])
  (Q (.agg [(.fn 164 []), i29, i30, i5, i6, i32, i33, i9, i10]) [[(.fn 164 []), i29, i30, i5, i6, i32, i33, i9, i10], [(.fn 164 []), i29, i30, i5, i6, i32, i33, i9, i10]]))))
  (br (((i1 : Int) == 10))
  (∃ i34 : Int, ∃ i35 : Int, CallN Tryz.prog 33 [(.con (.int .i64 0)), (.con (.int .i64 1000))] [[(.con .nilFunc), (.con (.int .i64 0)), (.con (.int .i64 0)), (.con (.int .i64 0)), (.con (.int .i64 0)), (.con (.int .i64 0)), (.con (.int .i64 0)), (.con (.int .i64 0)), (.con (.int .i64 0))], [(.fn 195 []), i3, i4, i5, i6, i7, i8, i9, i10]] (.agg [i34, i35])
  (∃ i36 : Int, ∃ i37 : Int, CallN Tryz.prog 166 [(.con (.int .i64 2))] [[(.con .nilFunc), (.con (.int .i64 0)), (.con (.int .i64 0)), (.con (.int .i64 0)), (.con (.int .i64 0)), (.con (.int .i64 0)), (.con (.int .i64 0)), (.con (.int .i64 0)), (.con (.int .i64 0))], [(.fn 195 []), i3, i4, i5, i6, i7, i8, i9, i10]] (.agg [i36, i37])
  (Q (.agg [(.fn 92 []), i34, i35, i5, i6, i36, i37, i9, i10]) [[(.fn 92 []), i34, i35, i5, i6, i36, i37, i9, i10], [(.fn 92 []), i34, i35, i5, i6, i36, i37, i9, i10]])))
  (Q (.agg [(.fn 195 []), i3, i4, i5, i6, i7, i8, i9, i10]) [[(.fn 195 []), i3, i4, i5, i6, i7, i8, i9, i10], [(.fn 195 []), i3, i4, i5, i6, i7, i8, i9, i10]]))))))))))))
theorem a100 (i1 i2 : Int) (Q : PV → Heap → Prop) (h : p100 i1 i2 Q) : ACalls Tryz.prog 100 [i1, i2] [] Q := by
  have hb : Option.some (bodyOf Tryz.f100) = Tryz.f100.body := by kernel_rfl
  exact acalls_eq (S := S) (L := loops33) mixed tok Tryz.func100 hb.symm (by kernel_rfl) h
def p107c (l1 : List (List PV)) (i2 : Int) (Q : PV → Heap → Prop) : Prop :=
∃ b3 : Bool, CallN Tryz.prog 171 [l1, (.con (.bool true)), (.fn 172 [(.ept [(.fn 108 [(.ept [i2] 0)])] 0)])] [[]] b3
  (Q b3 [[]])
theorem a107c (l1 : List (List PV)) (i2 : Int) (Q : PV → Heap → Prop) (h : p107c l1 i2 Q) : ACalls Tryz.prog 107 [l1, (.fn 108 [(.ept [i2] 0)])] [] Q := by
  have hb : Option.some (bodyOf Tryz.f107) = Tryz.f107.body := by kernel_rfl
  exact acalls_eq (S := S) (L := loops33) mixed tok Tryz.func107 hb.symm (by kernel_rfl) h
def loops171c (id : Nat) : Option (List Nat × List (Nat × Sh)) := match Nat.beq id 2 with | true => some ([2, 9, 10], [(1, .bool), (11, .int .i64)]) | false => none
def p171c (l1 : List (List PV)) (b2 : Bool) (i3 : Int) (Q : PV → Heap → Prop) : Prop :=
∃ I4 : Nat → ((Bool) × (Int) × Unit) → Prop, (∃ n, I4 n (b2, 0, ())) ∧ ∀ (n5 : Nat) (v6 : (Bool) × (Int) × Unit), I4 n5 v6 →
  (br ((decide ((v6.2.1 : Int) < (List.length l1 : Int))))
  (∃ i7 : Int, ∃ i8 : Int, ∃ i9 : Int, ∃ s10 : ByteArray, ∃ i11 : Int, ∃ l12 : List (List PV), IdxN l1 v6.2.1 [i7, i8, i9, s10, i11, l12]
  (∃ b13 : Bool, CallN Tryz.prog 172 [v6.1, v6.2.1, (.agg [i7, i8, i9, s10, i11, l12]), (.ept [(.fn 108 [(.ept [i3] 0)])] 0)] [[i7, i8, i9, s10, i11, l12]] b13
  ((@Eq PV (.fn 172 [(.ept [(.fn 108 [(.ept [i3] 0)])] 0)]) (.fn 172 [(.ept [(.fn 108 [(.ept [i3] 0)])] 0)]) ∧ @Eq PV l1 l1 ∧ @Eq PV (.con (.int .i64 (List.length l1 : Int))) (.con (.int .i64 (List.length l1 : Int))) ∧ True) ∧ @Eq Heap [] [] ∧ ∃ k14, k14 < n5 ∧ I4 k14 (b13, (IntKind.wrap .i64 (v6.2.1 + 1)), ()))))
  (Q v6.1 []))
theorem a171c (l1 : List (List PV)) (b2 : Bool) (i3 : Int) (Q : PV → Heap → Prop) (h : p171c l1 b2 i3 Q) : ACalls Tryz.prog 171 [l1, b2, (.fn 172 [(.ept [(.fn 108 [(.ept [i3] 0)])] 0)])] [] Q := by
  have hb : Option.some (bodyOf Tryz.f171) = Tryz.f171.body := by kernel_rfl
  exact acalls_eq (S := S) (L := loops171c) mixed tok Tryz.func171 hb.symm (by kernel_rfl) h
def p172c (b1 : Bool) (i2 i3 i4 i5 : Int) (s6 : ByteArray) (i7 : Int) (l8 : List (List PV)) (i9 : Int) (Q : PV → Heap → Prop) : Prop :=
br (b1)
  (∃ b10 : Bool, CallN Tryz.prog 108 [(.agg [i3, i4, i5, s6, i7, l8]), (.ept [i9] 0)] [[i3, i4, i5, s6, i7, l8]] b10
  (Q b10 [[i3, i4, i5, s6, i7, l8]]))
  (Q (.con (.bool false)) [[i3, i4, i5, s6, i7, l8]])
theorem a172c (b1 : Bool) (i2 i3 i4 i5 : Int) (s6 : ByteArray) (i7 : Int) (l8 : List (List PV)) (i9 : Int) (Q : PV → Heap → Prop) (h : p172c b1 i2 i3 i4 i5 s6 i7 l8 i9 Q) : ACalls Tryz.prog 172 [b1, i2, (.agg [i3, i4, i5, s6, i7, l8]), (.ept [(.fn 108 [(.ept [i9] 0)])] 0)] [] Q := by
  have hb : Option.some (bodyOf Tryz.f172) = Tryz.f172.body := by kernel_rfl
  exact acalls_eq (S := S) (L := loops33) mixed tok Tryz.func172 hb.symm (by kernel_rfl) h
def p101d (l1 : List (List PV)) (i2 : Int) (Q : PV → Heap → Prop) : Prop :=
∃ b3 : Bool, CallN Tryz.prog 149 [l1, (.con (.bool true)), (.fn 168 [(.ept [(.fn 102 [(.ept [i2] 0)])] 0)])] [[]] b3
  (Q b3 [[]])
theorem a101d (l1 : List (List PV)) (i2 : Int) (Q : PV → Heap → Prop) (h : p101d l1 i2 Q) : ACalls Tryz.prog 101 [l1, (.fn 102 [(.ept [i2] 0)])] [] Q := by
  have hb : Option.some (bodyOf Tryz.f101) = Tryz.f101.body := by kernel_rfl
  exact acalls_eq (S := S) (L := loops33) mixed tok Tryz.func101 hb.symm (by kernel_rfl) h
def loops149d (id : Nat) : Option (List Nat × List (Nat × Sh)) := match Nat.beq id 2 with | true => some ([2, 9, 10], [(1, .bool), (11, .int .i64)]) | false => none
def p149d (l1 : List (List PV)) (b2 : Bool) (i3 : Int) (Q : PV → Heap → Prop) : Prop :=
∃ I4 : Nat → ((Bool) × (Int) × Unit) → Prop, (∃ n, I4 n (b2, 0, ())) ∧ ∀ (n5 : Nat) (v6 : (Bool) × (Int) × Unit), I4 n5 v6 →
  (br ((decide ((v6.2.1 : Int) < (List.length l1 : Int))))
  (∃ i7 : Int, ∃ i8 : Int, ∃ i9 : Int, ∃ i10 : Int, ∃ l11 : List (List PV), ∃ s12 : ByteArray, ∃ l13 : List (List PV), ∃ l14 : List (List PV), IdxN l1 v6.2.1 [i7, i8, i9, i10, l11, s12, l13, l14]
  (∃ b15 : Bool, CallN Tryz.prog 168 [v6.1, v6.2.1, (.agg [i7, i8, i9, i10, l11, s12, l13, l14]), (.ept [(.fn 102 [(.ept [i3] 0)])] 0)] [[i7, i8, i9, i10, l11, s12, l13, l14]] b15
  ((@Eq PV (.fn 168 [(.ept [(.fn 102 [(.ept [i3] 0)])] 0)]) (.fn 168 [(.ept [(.fn 102 [(.ept [i3] 0)])] 0)]) ∧ @Eq PV l1 l1 ∧ @Eq PV (.con (.int .i64 (List.length l1 : Int))) (.con (.int .i64 (List.length l1 : Int))) ∧ True) ∧ @Eq Heap [] [] ∧ ∃ k16, k16 < n5 ∧ I4 k16 (b15, (IntKind.wrap .i64 (v6.2.1 + 1)), ()))))
  (Q v6.1 []))
theorem a149d (l1 : List (List PV)) (b2 : Bool) (i3 : Int) (Q : PV → Heap → Prop) (h : p149d l1 b2 i3 Q) : ACalls Tryz.prog 149 [l1, b2, (.fn 168 [(.ept [(.fn 102 [(.ept [i3] 0)])] 0)])] [] Q := by
  have hb : Option.some (bodyOf Tryz.f149) = Tryz.f149.body := by kernel_rfl
  exact acalls_eq (S := S) (L := loops149d) mixed tok Tryz.func149 hb.symm (by kernel_rfl) h
def p168d (b1 : Bool) (i2 i3 i4 i5 i6 : Int) (l7 : List (List PV)) (s8 : ByteArray) (l9 l10 : List (List PV)) (i11 : Int) (Q : PV → Heap → Prop) : Prop :=
br (b1)
  (∃ b12 : Bool, CallN Tryz.prog 102 [(.agg [i3, i4, i5, i6, l7, s8, l9, l10]), (.ept [i11] 0)] [[i3, i4, i5, i6, l7, s8, l9, l10]] b12
  (Q b12 [[i3, i4, i5, i6, l7, s8, l9, l10]]))
  (Q (.con (.bool false)) [[i3, i4, i5, i6, l7, s8, l9, l10]])
theorem a168d (b1 : Bool) (i2 i3 i4 i5 i6 : Int) (l7 : List (List PV)) (s8 : ByteArray) (l9 l10 : List (List PV)) (i11 : Int) (Q : PV → Heap → Prop) (h : p168d b1 i2 i3 i4 i5 i6 l7 s8 l9 l10 i11 Q) : ACalls Tryz.prog 168 [b1, i2, (.agg [i3, i4, i5, i6, l7, s8, l9, l10]), (.ept [(.fn 102 [(.ept [i11] 0)])] 0)] [] Q := by
  have hb : Option.some (bodyOf Tryz.f168) = Tryz.f168.body := by kernel_rfl
  exact acalls_eq (S := S) (L := loops33) mixed tok Tryz.func168 hb.symm (by kernel_rfl) h
def p103e (l1 : List (List PV)) (i2 : Int) (Q : PV → Heap → Prop) : Prop :=
∃ b3 : Bool, CallN Tryz.prog 151 [l1, (.con (.bool true)), (.fn 169 [(.ept [(.fn 104 [(.ept [i2] 0)])] 0)])] [[]] b3
  (Q b3 [[]])
theorem a103e (l1 : List (List PV)) (i2 : Int) (Q : PV → Heap → Prop) (h : p103e l1 i2 Q) : ACalls Tryz.prog 103 [l1, (.fn 104 [(.ept [i2] 0)])] [] Q := by
  have hb : Option.some (bodyOf Tryz.f103) = Tryz.f103.body := by kernel_rfl
  exact acalls_eq (S := S) (L := loops33) mixed tok Tryz.func103 hb.symm (by kernel_rfl) h
def loops151e (id : Nat) : Option (List Nat × List (Nat × Sh)) := match Nat.beq id 2 with | true => some ([2, 9, 10], [(1, .bool), (11, .int .i64)]) | false => none
def p151e (l1 : List (List PV)) (b2 : Bool) (i3 : Int) (Q : PV → Heap → Prop) : Prop :=
∃ I4 : Nat → ((Bool) × (Int) × Unit) → Prop, (∃ n, I4 n (b2, 0, ())) ∧ ∀ (n5 : Nat) (v6 : (Bool) × (Int) × Unit), I4 n5 v6 →
  (br ((decide ((v6.2.1 : Int) < (List.length l1 : Int))))
  (∃ i7 : Int, ∃ i8 : Int, ∃ i9 : Int, ∃ s10 : ByteArray, ∃ i11 : Int, ∃ l12 : List (List PV), ∃ i13 : Int, ∃ i14 : Int, ∃ i15 : Int, ∃ i16 : Int, ∃ l17 : List (List PV), ∃ s18 : ByteArray, ∃ l19 : List (List PV), ∃ l20 : List (List PV), IdxN l1 v6.2.1 [i7, i8, i9, s10, i11, l12, i13, i14, i15, i16, l17, s18, l19, l20]
  (∃ b21 : Bool, CallN Tryz.prog 169 [v6.1, v6.2.1, (.agg [i7, i8, i9, s10, i11, l12, i13, i14, i15, i16, l17, s18, l19, l20]), (.ept [(.fn 104 [(.ept [i3] 0)])] 0)] [[i7, i8, i9, s10, i11, l12, i13, i14, i15, i16, l17, s18, l19, l20]] b21
  ((@Eq PV (.fn 169 [(.ept [(.fn 104 [(.ept [i3] 0)])] 0)]) (.fn 169 [(.ept [(.fn 104 [(.ept [i3] 0)])] 0)]) ∧ @Eq PV l1 l1 ∧ @Eq PV (.con (.int .i64 (List.length l1 : Int))) (.con (.int .i64 (List.length l1 : Int))) ∧ True) ∧ @Eq Heap [] [] ∧ ∃ k22, k22 < n5 ∧ I4 k22 (b21, (IntKind.wrap .i64 (v6.2.1 + 1)), ()))))
  (Q v6.1 []))
theorem a151e (l1 : List (List PV)) (b2 : Bool) (i3 : Int) (Q : PV → Heap → Prop) (h : p151e l1 b2 i3 Q) : ACalls Tryz.prog 151 [l1, b2, (.fn 169 [(.ept [(.fn 104 [(.ept [i3] 0)])] 0)])] [] Q := by
  have hb : Option.some (bodyOf Tryz.f151) = Tryz.f151.body := by kernel_rfl
  exact acalls_eq (S := S) (L := loops151e) mixed tok Tryz.func151 hb.symm (by kernel_rfl) h
def p169e (b1 : Bool) (i2 i3 i4 i5 : Int) (s6 : ByteArray) (i7 : Int) (l8 : List (List PV)) (i9 i10 i11 i12 : Int) (l13 : List (List PV)) (s14 : ByteArray) (l15 l16 : List (List PV)) (i17 : Int) (Q : PV → Heap → Prop) : Prop :=
br (b1)
  (∃ b18 : Bool, CallN Tryz.prog 104 [(.agg [i3, i4, i5, s6, i7, l8, i9, i10, i11, i12, l13, s14, l15, l16]), (.ept [i17] 0)] [[i3, i4, i5, s6, i7, l8, i9, i10, i11, i12, l13, s14, l15, l16]] b18
  (Q b18 [[i3, i4, i5, s6, i7, l8, i9, i10, i11, i12, l13, s14, l15, l16]]))
  (Q (.con (.bool false)) [[i3, i4, i5, s6, i7, l8, i9, i10, i11, i12, l13, s14, l15, l16]])
theorem a169e (b1 : Bool) (i2 i3 i4 i5 : Int) (s6 : ByteArray) (i7 : Int) (l8 : List (List PV)) (i9 i10 i11 i12 : Int) (l13 : List (List PV)) (s14 : ByteArray) (l15 l16 : List (List PV)) (i17 : Int) (Q : PV → Heap → Prop) (h : p169e b1 i2 i3 i4 i5 s6 i7 l8 i9 i10 i11 i12 l13 s14 l15 l16 i17 Q) : ACalls Tryz.prog 169 [b1, i2, (.agg [i3, i4, i5, s6, i7, l8, i9, i10, i11, i12, l13, s14, l15, l16]), (.ept [(.fn 104 [(.ept [i17] 0)])] 0)] [] Q := by
  have hb : Option.some (bodyOf Tryz.f169) = Tryz.f169.body := by kernel_rfl
  exact acalls_eq (S := S) (L := loops33) mixed tok Tryz.func169 hb.symm (by kernel_rfl) h
end Go.Proofs.YtcmnjodjebcapaaGreat.Deep

namespace Go.Proofs.YtcmnjodjebcapaaGreat.Deep
open Go.RowKit
set_option linter.unusedVariables false
set_option linter.unusedSimpArgs false
theorem clo_c (b c : Bool) (i : Int) (x0 : Int) (x1 : Int) (x2 : Int) (x3 : ByteArray) (x4 : Int) (x5 : List (List PV)) (d : Int) (h : PCalls Tryz.prog 108 [.agg [.con (.int .i64 x0), .con (.int .i64 x1), .con (.int .i64 x2), .con (.string x3), .con (.int .i64 x4), .sl x5], .ept [.con (.int .i64 d)] 0] (fun r => r = .con (.bool c))) : PCalls Tryz.prog 172 [.con (.bool b), .con (.int .i64 i), .agg [.con (.int .i64 x0), .con (.int .i64 x1), .con (.int .i64 x2), .con (.string x3), .con (.int .i64 x4), .sl x5], .ept [.fn 108 [.ept [.con (.int .i64 d)] 0]] 0] (fun r => r = .con (.bool (b && c))) := by
  refine a172c _ _ _ _ _ _ _ _ _ _ ?_
  unfold p172c
  refine br_i (fun hb => ?_) (fun hb => ⟨by rw [hb]; rfl, rfl⟩)
  exact ⟨_, call_p (enters_of Tryz.func108 (by kernel_rfl) rfl) h rfl ⟨by rw [hb]; rfl, rfl⟩⟩
theorem fold_c (l : List (List PV)) (n : Nat) (hn : l.length = n) (hm : n ≤ 9223372036854775806) (d : Int) (q : Nat → Bool) (H : ∀ j, j < n → ∃ x0 : Int, ∃ x1 : Int, ∃ x2 : Int, ∃ x3 : ByteArray, ∃ x4 : Int, ∃ x5 : List (List PV), l[j]? = some [.con (.int .i64 x0), .con (.int .i64 x1), .con (.int .i64 x2), .con (.string x3), .con (.int .i64 x4), .sl x5] ∧ PCalls Tryz.prog 108 [.agg [.con (.int .i64 x0), .con (.int .i64 x1), .con (.int .i64 x2), .con (.string x3), .con (.int .i64 x4), .sl x5], .ept [.con (.int .i64 d)] 0] (fun r => r = .con (.bool (q j)))) (b0 : Bool) : PCalls Tryz.prog 171 [.sl l, .con (.bool b0), .fn 172 [.ept [.fn 108 [.ept [.con (.int .i64 d)] 0]] 0]] (fun r => r = .con (.bool (AllTo b0 q n))) := by
  refine a171c _ _ _ _ ?_
  unfold p171c
  rw [hn]
  refine ⟨fun c v => ∃ j : Nat, j ≤ n ∧ c = n - j ∧ v.2.1 = (j : Int) ∧ v.1 = AllTo b0 q j, ⟨_, 0, Nat.zero_le _, rfl, rfl, by simp [AllTo]⟩, ?_⟩
  rintro c ⟨b, i, u⟩ ⟨j, hj, rfl, hi, hb⟩
  dsimp only at hi hb ⊢
  subst hi hb
  refine br_i (fun hlt => ?_) (fun hge => ?_)
  · have hlt : j < n := by simpa using hlt
    obtain ⟨x0, x1, x2, x3, x4, x5, hx, hc⟩ := H j hlt
    refine ⟨_, _, _, _, _, _, ⟨by omega, by rw [Int.toNat_natCast]; exact hx, ?_⟩⟩
    refine ⟨_, call_p (enters_of Tryz.func172 (by kernel_rfl) rfl) (clo_c (AllTo b0 q j) (q j) j _ _ _ _ _ _ _ hc) rfl ⟨⟨by trivial, by trivial, by trivial, trivial⟩, by trivial, n - (j + 1), by omega, j + 1, by omega, rfl, ?_, ?_⟩⟩
    · rw [wrap_id (by omega) (by omega)]; simp
    · rw [AllTo.succ]
  · have hge : ¬ j < n := by simpa using hge
    obtain rfl : j = n := by omega
    exact ⟨rfl, rfl⟩
theorem all_c (l : List (List PV)) (n : Nat) (hn : l.length = n) (hm : n ≤ 9223372036854775806) (d : Int) (q : Nat → Bool) (H : ∀ j, j < n → ∃ x0 : Int, ∃ x1 : Int, ∃ x2 : Int, ∃ x3 : ByteArray, ∃ x4 : Int, ∃ x5 : List (List PV), l[j]? = some [.con (.int .i64 x0), .con (.int .i64 x1), .con (.int .i64 x2), .con (.string x3), .con (.int .i64 x4), .sl x5] ∧ PCalls Tryz.prog 108 [.agg [.con (.int .i64 x0), .con (.int .i64 x1), .con (.int .i64 x2), .con (.string x3), .con (.int .i64 x4), .sl x5], .ept [.con (.int .i64 d)] 0] (fun r => r = .con (.bool (q j)))) : PCalls Tryz.prog 107 [.sl l, .fn 108 [.ept [.con (.int .i64 d)] 0]] (fun r => r = .con (.bool ((List.range n).all q))) := by
  have h := fold_c l n hn hm _ q H true
  rw [show AllTo true q n = (List.range n).all q by simp [AllTo]] at h
  refine a107c _ _ _ ?_
  unfold p107c
  exact ⟨_, call_p (enters_of Tryz.func171 (by kernel_rfl) rfl) h rfl ⟨rfl, rfl⟩⟩
theorem clo_d (b c : Bool) (i : Int) (x0 : Int) (x1 : Int) (x2 : Int) (x3 : Int) (x4 : List (List PV)) (x5 : ByteArray) (x6 : List (List PV)) (x7 : List (List PV)) (d : Int) (h : PCalls Tryz.prog 102 [.agg [.con (.int .i64 x0), .con (.int .i64 x1), .con (.int .i64 x2), .con (.int .i64 x3), .sl x4, .con (.string x5), .sl x6, .sl x7], .ept [.con (.int .i64 d)] 0] (fun r => r = .con (.bool c))) : PCalls Tryz.prog 168 [.con (.bool b), .con (.int .i64 i), .agg [.con (.int .i64 x0), .con (.int .i64 x1), .con (.int .i64 x2), .con (.int .i64 x3), .sl x4, .con (.string x5), .sl x6, .sl x7], .ept [.fn 102 [.ept [.con (.int .i64 d)] 0]] 0] (fun r => r = .con (.bool (b && c))) := by
  refine a168d _ _ _ _ _ _ _ _ _ _ _ _ ?_
  unfold p168d
  refine br_i (fun hb => ?_) (fun hb => ⟨by rw [hb]; rfl, rfl⟩)
  exact ⟨_, call_p (enters_of Tryz.func102 (by kernel_rfl) rfl) h rfl ⟨by rw [hb]; rfl, rfl⟩⟩
theorem fold_d (l : List (List PV)) (n : Nat) (hn : l.length = n) (hm : n ≤ 9223372036854775806) (d : Int) (q : Nat → Bool) (H : ∀ j, j < n → ∃ x0 : Int, ∃ x1 : Int, ∃ x2 : Int, ∃ x3 : Int, ∃ x4 : List (List PV), ∃ x5 : ByteArray, ∃ x6 : List (List PV), ∃ x7 : List (List PV), l[j]? = some [.con (.int .i64 x0), .con (.int .i64 x1), .con (.int .i64 x2), .con (.int .i64 x3), .sl x4, .con (.string x5), .sl x6, .sl x7] ∧ PCalls Tryz.prog 102 [.agg [.con (.int .i64 x0), .con (.int .i64 x1), .con (.int .i64 x2), .con (.int .i64 x3), .sl x4, .con (.string x5), .sl x6, .sl x7], .ept [.con (.int .i64 d)] 0] (fun r => r = .con (.bool (q j)))) (b0 : Bool) : PCalls Tryz.prog 149 [.sl l, .con (.bool b0), .fn 168 [.ept [.fn 102 [.ept [.con (.int .i64 d)] 0]] 0]] (fun r => r = .con (.bool (AllTo b0 q n))) := by
  refine a149d _ _ _ _ ?_
  unfold p149d
  rw [hn]
  refine ⟨fun c v => ∃ j : Nat, j ≤ n ∧ c = n - j ∧ v.2.1 = (j : Int) ∧ v.1 = AllTo b0 q j, ⟨_, 0, Nat.zero_le _, rfl, rfl, by simp [AllTo]⟩, ?_⟩
  rintro c ⟨b, i, u⟩ ⟨j, hj, rfl, hi, hb⟩
  dsimp only at hi hb ⊢
  subst hi hb
  refine br_i (fun hlt => ?_) (fun hge => ?_)
  · have hlt : j < n := by simpa using hlt
    obtain ⟨x0, x1, x2, x3, x4, x5, x6, x7, hx, hc⟩ := H j hlt
    refine ⟨_, _, _, _, _, _, _, _, ⟨by omega, by rw [Int.toNat_natCast]; exact hx, ?_⟩⟩
    refine ⟨_, call_p (enters_of Tryz.func168 (by kernel_rfl) rfl) (clo_d (AllTo b0 q j) (q j) j _ _ _ _ _ _ _ _ _ hc) rfl ⟨⟨by trivial, by trivial, by trivial, trivial⟩, by trivial, n - (j + 1), by omega, j + 1, by omega, rfl, ?_, ?_⟩⟩
    · rw [wrap_id (by omega) (by omega)]; simp
    · rw [AllTo.succ]
  · have hge : ¬ j < n := by simpa using hge
    obtain rfl : j = n := by omega
    exact ⟨rfl, rfl⟩
theorem all_d (l : List (List PV)) (n : Nat) (hn : l.length = n) (hm : n ≤ 9223372036854775806) (d : Int) (q : Nat → Bool) (H : ∀ j, j < n → ∃ x0 : Int, ∃ x1 : Int, ∃ x2 : Int, ∃ x3 : Int, ∃ x4 : List (List PV), ∃ x5 : ByteArray, ∃ x6 : List (List PV), ∃ x7 : List (List PV), l[j]? = some [.con (.int .i64 x0), .con (.int .i64 x1), .con (.int .i64 x2), .con (.int .i64 x3), .sl x4, .con (.string x5), .sl x6, .sl x7] ∧ PCalls Tryz.prog 102 [.agg [.con (.int .i64 x0), .con (.int .i64 x1), .con (.int .i64 x2), .con (.int .i64 x3), .sl x4, .con (.string x5), .sl x6, .sl x7], .ept [.con (.int .i64 d)] 0] (fun r => r = .con (.bool (q j)))) : PCalls Tryz.prog 101 [.sl l, .fn 102 [.ept [.con (.int .i64 d)] 0]] (fun r => r = .con (.bool ((List.range n).all q))) := by
  have h := fold_d l n hn hm _ q H true
  rw [show AllTo true q n = (List.range n).all q by simp [AllTo]] at h
  refine a101d _ _ _ ?_
  unfold p101d
  exact ⟨_, call_p (enters_of Tryz.func149 (by kernel_rfl) rfl) h rfl ⟨rfl, rfl⟩⟩
theorem clo_e (b c : Bool) (i : Int) (x0 : Int) (x1 : Int) (x2 : Int) (x3 : ByteArray) (x4 : Int) (x5 : List (List PV)) (x6 : Int) (x7 : Int) (x8 : Int) (x9 : Int) (x10 : List (List PV)) (x11 : ByteArray) (x12 : List (List PV)) (x13 : List (List PV)) (d : Int) (h : PCalls Tryz.prog 104 [.agg [.con (.int .i64 x0), .con (.int .i64 x1), .con (.int .i64 x2), .con (.string x3), .con (.int .i64 x4), .sl x5, .con (.int .i64 x6), .con (.int .i64 x7), .con (.int .i64 x8), .con (.int .i64 x9), .sl x10, .con (.string x11), .sl x12, .sl x13], .ept [.con (.int .i64 d)] 0] (fun r => r = .con (.bool c))) : PCalls Tryz.prog 169 [.con (.bool b), .con (.int .i64 i), .agg [.con (.int .i64 x0), .con (.int .i64 x1), .con (.int .i64 x2), .con (.string x3), .con (.int .i64 x4), .sl x5, .con (.int .i64 x6), .con (.int .i64 x7), .con (.int .i64 x8), .con (.int .i64 x9), .sl x10, .con (.string x11), .sl x12, .sl x13], .ept [.fn 104 [.ept [.con (.int .i64 d)] 0]] 0] (fun r => r = .con (.bool (b && c))) := by
  refine a169e _ _ _ _ _ _ _ _ _ _ _ _ _ _ _ _ _ _ ?_
  unfold p169e
  refine br_i (fun hb => ?_) (fun hb => ⟨by rw [hb]; rfl, rfl⟩)
  exact ⟨_, call_p (enters_of Tryz.func104 (by kernel_rfl) rfl) h rfl ⟨by rw [hb]; rfl, rfl⟩⟩
theorem fold_e (l : List (List PV)) (n : Nat) (hn : l.length = n) (hm : n ≤ 9223372036854775806) (d : Int) (q : Nat → Bool) (H : ∀ j, j < n → ∃ x0 : Int, ∃ x1 : Int, ∃ x2 : Int, ∃ x3 : ByteArray, ∃ x4 : Int, ∃ x5 : List (List PV), ∃ x6 : Int, ∃ x7 : Int, ∃ x8 : Int, ∃ x9 : Int, ∃ x10 : List (List PV), ∃ x11 : ByteArray, ∃ x12 : List (List PV), ∃ x13 : List (List PV), l[j]? = some [.con (.int .i64 x0), .con (.int .i64 x1), .con (.int .i64 x2), .con (.string x3), .con (.int .i64 x4), .sl x5, .con (.int .i64 x6), .con (.int .i64 x7), .con (.int .i64 x8), .con (.int .i64 x9), .sl x10, .con (.string x11), .sl x12, .sl x13] ∧ PCalls Tryz.prog 104 [.agg [.con (.int .i64 x0), .con (.int .i64 x1), .con (.int .i64 x2), .con (.string x3), .con (.int .i64 x4), .sl x5, .con (.int .i64 x6), .con (.int .i64 x7), .con (.int .i64 x8), .con (.int .i64 x9), .sl x10, .con (.string x11), .sl x12, .sl x13], .ept [.con (.int .i64 d)] 0] (fun r => r = .con (.bool (q j)))) (b0 : Bool) : PCalls Tryz.prog 151 [.sl l, .con (.bool b0), .fn 169 [.ept [.fn 104 [.ept [.con (.int .i64 d)] 0]] 0]] (fun r => r = .con (.bool (AllTo b0 q n))) := by
  refine a151e _ _ _ _ ?_
  unfold p151e
  rw [hn]
  refine ⟨fun c v => ∃ j : Nat, j ≤ n ∧ c = n - j ∧ v.2.1 = (j : Int) ∧ v.1 = AllTo b0 q j, ⟨_, 0, Nat.zero_le _, rfl, rfl, by simp [AllTo]⟩, ?_⟩
  rintro c ⟨b, i, u⟩ ⟨j, hj, rfl, hi, hb⟩
  dsimp only at hi hb ⊢
  subst hi hb
  refine br_i (fun hlt => ?_) (fun hge => ?_)
  · have hlt : j < n := by simpa using hlt
    obtain ⟨x0, x1, x2, x3, x4, x5, x6, x7, x8, x9, x10, x11, x12, x13, hx, hc⟩ := H j hlt
    refine ⟨_, _, _, _, _, _, _, _, _, _, _, _, _, _, ⟨by omega, by rw [Int.toNat_natCast]; exact hx, ?_⟩⟩
    refine ⟨_, call_p (enters_of Tryz.func169 (by kernel_rfl) rfl) (clo_e (AllTo b0 q j) (q j) j _ _ _ _ _ _ _ _ _ _ _ _ _ _ _ hc) rfl ⟨⟨by trivial, by trivial, by trivial, trivial⟩, by trivial, n - (j + 1), by omega, j + 1, by omega, rfl, ?_, ?_⟩⟩
    · rw [wrap_id (by omega) (by omega)]; simp
    · rw [AllTo.succ]
  · have hge : ¬ j < n := by simpa using hge
    obtain rfl : j = n := by omega
    exact ⟨rfl, rfl⟩
theorem all_e (l : List (List PV)) (n : Nat) (hn : l.length = n) (hm : n ≤ 9223372036854775806) (d : Int) (q : Nat → Bool) (H : ∀ j, j < n → ∃ x0 : Int, ∃ x1 : Int, ∃ x2 : Int, ∃ x3 : ByteArray, ∃ x4 : Int, ∃ x5 : List (List PV), ∃ x6 : Int, ∃ x7 : Int, ∃ x8 : Int, ∃ x9 : Int, ∃ x10 : List (List PV), ∃ x11 : ByteArray, ∃ x12 : List (List PV), ∃ x13 : List (List PV), l[j]? = some [.con (.int .i64 x0), .con (.int .i64 x1), .con (.int .i64 x2), .con (.string x3), .con (.int .i64 x4), .sl x5, .con (.int .i64 x6), .con (.int .i64 x7), .con (.int .i64 x8), .con (.int .i64 x9), .sl x10, .con (.string x11), .sl x12, .sl x13] ∧ PCalls Tryz.prog 104 [.agg [.con (.int .i64 x0), .con (.int .i64 x1), .con (.int .i64 x2), .con (.string x3), .con (.int .i64 x4), .sl x5, .con (.int .i64 x6), .con (.int .i64 x7), .con (.int .i64 x8), .con (.int .i64 x9), .sl x10, .con (.string x11), .sl x12, .sl x13], .ept [.con (.int .i64 d)] 0] (fun r => r = .con (.bool (q j)))) : PCalls Tryz.prog 103 [.sl l, .fn 104 [.ept [.con (.int .i64 d)] 0]] (fun r => r = .con (.bool ((List.range n).all q))) := by
  have h := fold_e l n hn hm _ q H true
  rw [show AllTo true q n = (List.range n).all q by simp [AllTo]] at h
  refine a103e _ _ _ ?_
  unfold p103e
  exact ⟨_, call_p (enters_of Tryz.func151 (by kernel_rfl) rfl) h rfl ⟨rfl, rfl⟩⟩
end Go.Proofs.YtcmnjodjebcapaaGreat.Deep

namespace Go.Proofs.YtcmnjodjebcapaaGreat.Deep
open Go.RowKit
set_option linter.unusedVariables false
set_option linter.unusedSimpArgs false
theorem any_p : PCalls Tryz.prog 163 [] (fun r => r = .agg [.fn 195 [], .con (.int .i64 0), .con (.int .i64 0), .con (.int .i64 0), .con (.int .i64 0), .con (.int .i64 0), .con (.int .i64 0), .con (.int .i64 0), .con (.int .i64 0)]) := by
  refine a163 _ ?_
  unfold p163
  exact ⟨rfl, rfl⟩
theorem from_p (a b : Int) : PCalls Tryz.prog 33 [.con (.int .i64 a), .con (.int .i64 b)] (fun r => r = .agg [.con (.int .i64 a), .con (.int .i64 b)]) := by
  refine a33 _ _ _ ?_
  unfold p33
  exact ⟨rfl, rfl⟩
theorem just_p (a : Int) : PCalls Tryz.prog 166 [.con (.int .i64 a)] (fun r => r = .agg [.con (.int .i64 a), .con (.int .i64 a)]) := by
  refine a166 _ _ ?_
  unfold p166
  exact ⟨rfl, rfl⟩
theorem has_p (a b n : Int) : PCalls Tryz.prog 79 [.agg [.con (.int .i64 a), .con (.int .i64 b)], .con (.int .i64 n)] (fun r => r = .con (.bool (inB a b n))) := by
  refine a79 _ _ _ _ ?_
  unfold p79 inB
  exact br_i (fun h => ⟨by rw [h]; rfl, rfl⟩) (fun h => ⟨by rw [h]; rfl, rfl⟩)
theorem many_p (a b n : Int) : PCalls Tryz.prog 34 [.agg [.con (.int .i64 a), .con (.int .i64 b)], .con (.int .i64 n)] (fun r => r = .con (.bool (inB a b n))) := by
  refine a34 _ _ _ _ ?_
  unfold p34
  exact ⟨_, call_p (enters_of Tryz.func79 (by kernel_rfl) rfl) (has_p a b n) rfl ⟨rfl, rfl⟩⟩
theorem operands_p (m : Int) : PCalls Tryz.prog 167 [.con (.int .i64 m)] (fun r => r = .con (.int .i64 (argsOf m))) := pcalls_of (us := [.int .i64 m]) (fun w => still_below (operands_any m w))
theorem empty_p (s : ByteArray) : PCalls Tryz.prog 164 [.con (.string s)] (fun r => r = .con (.bool (noneB s))) := pcalls_of (us := [.string s]) (fun w => still_below (empty_any s w))
theorem nothing_p (s : ByteArray) : PCalls Tryz.prog 195 [.con (.string s)] (fun r => r = .con (.bool false)) := pcalls_of (us := [.string s]) (fun w => still_below (nothing_any s w))
theorem small_p (s : ByteArray) (hs : s.size ≤ 3000) : PCalls Tryz.prog 92 [.con (.string s)] (fun r => r = .con (.bool (namedB s false))) := pcalls_of (us := [.string s]) (small_any s (by omega))
theorem great_p (s : ByteArray) (hs : s.size ≤ 3000) : PCalls Tryz.prog 156 [.con (.string s)] (fun r => r = .con (.bool (namedB s true))) := pcalls_of (us := [.string s]) (great_any s (by omega))
theorem var_p (s : ByteArray) (hs : s.size ≤ 3000) : PCalls Tryz.prog 165 [.con (.string s)] (fun r => r = .con (.bool (varB s))) := pcalls_of (us := [.string s]) (var_any s (by omega))
theorem offun_p (s : ByteArray) (hs : s.size ≤ 3000) : PCalls Tryz.prog 87 [.con (.string s)] (fun r => r = .con (.bool (funB s))) := pcalls_of (us := [.string s]) (offun_any s (by omega))
theorem in_n (c : Nat) (n : Nat) : inB c c n = decide (n = c) := by unfold inB; rw [Bool.eq_iff_iff]; simp; omega
theorem in_0 (n : Nat) : inB 0 0 n = decide (n = 0) := in_n 0 n
theorem in_1 (n : Nat) : inB 1 1 n = decide (n = 1) := in_n 1 n
theorem in_2 (n : Nat) : inB 2 2 n = decide (n = 2) := in_n 2 n
theorem in_3 (n : Nat) : inB 3 3 n = decide (n = 3) := in_n 3 n
theorem in_i (c n : Int) : inB c c n = decide (n = c) := by unfold inB; rw [Bool.eq_iff_iff]; simp; omega
theorem in_z (n : Int) : inB 0 0 n = decide (n = 0) := in_i 0 n
theorem range_all {α : Type} (l : List α) (d : α) (f : α → Bool) : (List.range l.length).all (fun j => f (l.getD j d)) = l.all f := by
  rw [Bool.eq_iff_iff]
  simp only [List.all_eq_true, List.mem_range]
  constructor
  · intro h x hx
    obtain ⟨i, hi, rfl⟩ := List.getElem_of_mem hx
    have := h i hi
    rwa [List.getD_eq_getElem?_getD, List.getElem?_eq_getElem hi] at this
  · intro h i hi
    rw [List.getD_eq_getElem?_getD, List.getElem?_eq_getElem hi]
    exact h _ (List.getElem_mem hi)
theorem getD_at {α : Type} (l : List α) (d : α) (j : Nat) (h : j < l.length) : l.getD j d = l[j] := by
  rw [List.getD_eq_getElem?_getD, List.getElem?_eq_getElem h]; rfl
theorem pt_shape0  : PCalls Tryz.prog 106 [.con (.int .i64 0)] (fun r => r = .agg [.fn 164 [], .con (.int .i64 0), .con (.int .i64 0), .con (.int .i64 0), .con (.int .i64 0), .con (.int .i64 0), .con (.int .i64 0), .con (.int .i64 0), .con (.int .i64 0)]) := by
  refine a106 _ _ ?_
  unfold p106
  refine ⟨_, _, _, _, _, _, _, _, call_p (enters_of Tryz.func163 (by kernel_rfl) rfl) any_p rfl ?_⟩
  refine br_i (fun _ => ?_) (fun h => absurd h (by decide))
  exact ⟨rfl, rfl⟩
theorem pt_shape1  : PCalls Tryz.prog 106 [.con (.int .i64 1)] (fun r => r = .agg [.fn 92 [], .con (.int .i64 0), .con (.int .i64 0), .con (.int .i64 0), .con (.int .i64 0), .con (.int .i64 0), .con (.int .i64 0), .con (.int .i64 0), .con (.int .i64 0)]) := by
  refine a106 _ _ ?_
  unfold p106
  refine ⟨_, _, _, _, _, _, _, _, call_p (enters_of Tryz.func163 (by kernel_rfl) rfl) any_p rfl ?_⟩
  refine br_i (fun h => absurd h (by decide)) (fun _ => ?_)
  refine br_i (fun _ => ?_) (fun h => absurd h (by decide))
  exact ⟨rfl, rfl⟩
theorem pt_shape2  : PCalls Tryz.prog 106 [.con (.int .i64 2)] (fun r => r = .agg [.fn 164 [], .con (.int .i64 (-4611686018427387903)), .con (.int .i64 4611686018427387903), .con (.int .i64 0), .con (.int .i64 0), .con (.int .i64 0), .con (.int .i64 0), .con (.int .i64 0), .con (.int .i64 0)]) := by
  refine a106 _ _ ?_
  unfold p106
  refine ⟨_, _, _, _, _, _, _, _, call_p (enters_of Tryz.func163 (by kernel_rfl) rfl) any_p rfl ?_⟩
  refine br_i (fun h => absurd h (by decide)) (fun _ => ?_)
  refine br_i (fun h => absurd h (by decide)) (fun _ => ?_)
  refine br_i (fun _ => ?_) (fun h => absurd h (by decide))
  refine ⟨_, _, call_p (enters_of Tryz.func33 (by kernel_rfl) rfl) (from_p (-4611686018427387903) 4611686018427387903) rfl ?_⟩
  exact ⟨rfl, rfl⟩
theorem pt_shape3  : PCalls Tryz.prog 106 [.con (.int .i64 3)] (fun r => r = .agg [.fn 156 [], .con (.int .i64 0), .con (.int .i64 0), .con (.int .i64 0), .con (.int .i64 0), .con (.int .i64 0), .con (.int .i64 6), .con (.int .i64 0), .con (.int .i64 0)]) := by
  refine a106 _ _ ?_
  unfold p106
  refine ⟨_, _, _, _, _, _, _, _, call_p (enters_of Tryz.func163 (by kernel_rfl) rfl) any_p rfl ?_⟩
  refine br_i (fun h => absurd h (by decide)) (fun _ => ?_)
  refine br_i (fun h => absurd h (by decide)) (fun _ => ?_)
  refine br_i (fun h => absurd h (by decide)) (fun _ => ?_)
  refine br_i (fun _ => ?_) (fun h => absurd h (by decide))
  refine ⟨_, _, call_p (enters_of Tryz.func33 (by kernel_rfl) rfl) (from_p 0 6) rfl ?_⟩
  exact ⟨rfl, rfl⟩
theorem pt_shape4  : PCalls Tryz.prog 106 [.con (.int .i64 4)] (fun r => r = .agg [.fn 164 [], .con (.int .i64 0), .con (.int .i64 0), .con (.int .i64 0), .con (.int .i64 0), .con (.int .i64 2), .con (.int .i64 6), .con (.int .i64 0), .con (.int .i64 0)]) := by
  refine a106 _ _ ?_
  unfold p106
  refine ⟨_, _, _, _, _, _, _, _, call_p (enters_of Tryz.func163 (by kernel_rfl) rfl) any_p rfl ?_⟩
  refine br_i (fun h => absurd h (by decide)) (fun _ => ?_)
  refine br_i (fun h => absurd h (by decide)) (fun _ => ?_)
  refine br_i (fun h => absurd h (by decide)) (fun _ => ?_)
  refine br_i (fun h => absurd h (by decide)) (fun _ => ?_)
  refine br_i (fun _ => ?_) (fun h => absurd h (by decide))
  refine ⟨_, _, call_p (enters_of Tryz.func33 (by kernel_rfl) rfl) (from_p 2 6) rfl ?_⟩
  exact ⟨rfl, rfl⟩
theorem pt_shape_no (k : Int)  (h0 : k ≠ 0) (h1 : k ≠ 1) (h2 : k ≠ 2) (h3 : k ≠ 3) (h4 : k ≠ 4) : PCalls Tryz.prog 106 [.con (.int .i64 k)] (fun r => r = .agg [.fn 195 [], .con (.int .i64 0), .con (.int .i64 0), .con (.int .i64 0), .con (.int .i64 0), .con (.int .i64 0), .con (.int .i64 0), .con (.int .i64 0), .con (.int .i64 0)]) := by
  refine a106 _ _ ?_
  unfold p106
  refine ⟨_, _, _, _, _, _, _, _, call_p (enters_of Tryz.func163 (by kernel_rfl) rfl) any_p rfl ?_⟩
  refine br_i (fun h => absurd (by simpa using h) h0) (fun _ => ?_)
  refine br_i (fun h => absurd (by simpa using h) h1) (fun _ => ?_)
  refine br_i (fun h => absurd (by simpa using h) h2) (fun _ => ?_)
  refine br_i (fun h => absurd (by simpa using h) h3) (fun _ => ?_)
  refine br_i (fun h => absurd (by simpa using h) h4) (fun _ => ?_)
  exact ⟨rfl, rfl⟩
theorem ex_shape0 (m : Int) : PCalls Tryz.prog 100 [.con (.int .i64 0), .con (.int .i64 m)] (fun r => r = .agg [.fn 164 [], .con (.int .i64 (-4611686018427387903)), .con (.int .i64 4611686018427387903), .con (.int .i64 0), .con (.int .i64 0), .con (.int .i64 0), .con (.int .i64 0), .con (.int .i64 0), .con (.int .i64 0)]) := by
  refine a100 _ _ _ ?_
  unfold p100
  refine ⟨_, _, _, _, _, _, _, _, call_p (enters_of Tryz.func163 (by kernel_rfl) rfl) any_p rfl ?_⟩
  refine br_i (fun _ => ?_) (fun h => absurd h (by decide))
  refine ⟨_, _, call_p (enters_of Tryz.func33 (by kernel_rfl) rfl) (from_p (-4611686018427387903) 4611686018427387903) rfl ?_⟩
  exact ⟨rfl, rfl⟩
theorem ex_shape1 (m : Int) : PCalls Tryz.prog 100 [.con (.int .i64 1), .con (.int .i64 m)] (fun r => r = .agg [.fn 164 [], .con (.int .i64 0), .con (.int .i64 0), .con (.int .i64 0), .con (.int .i64 64), .con (.int .i64 0), .con (.int .i64 0), .con (.int .i64 0), .con (.int .i64 0)]) := by
  refine a100 _ _ _ ?_
  unfold p100
  refine ⟨_, _, _, _, _, _, _, _, call_p (enters_of Tryz.func163 (by kernel_rfl) rfl) any_p rfl ?_⟩
  refine br_i (fun h => absurd h (by decide)) (fun _ => ?_)
  refine br_i (fun _ => ?_) (fun h => absurd h (by decide))
  refine ⟨_, _, call_p (enters_of Tryz.func33 (by kernel_rfl) rfl) (from_p 0 64) rfl ?_⟩
  exact ⟨rfl, rfl⟩
theorem ex_shape2 (m : Int) : PCalls Tryz.prog 100 [.con (.int .i64 2), .con (.int .i64 m)] (fun r => r = .agg [.fn 165 [], .con (.int .i64 0), .con (.int .i64 0), .con (.int .i64 0), .con (.int .i64 0), .con (.int .i64 0), .con (.int .i64 0), .con (.int .i64 0), .con (.int .i64 0)]) := by
  refine a100 _ _ _ ?_
  unfold p100
  refine ⟨_, _, _, _, _, _, _, _, call_p (enters_of Tryz.func163 (by kernel_rfl) rfl) any_p rfl ?_⟩
  refine br_i (fun h => absurd h (by decide)) (fun _ => ?_)
  refine br_i (fun h => absurd h (by decide)) (fun _ => ?_)
  refine br_i (fun _ => ?_) (fun h => absurd h (by decide))
  exact ⟨rfl, rfl⟩
theorem ex_shape3 (m : Int) : PCalls Tryz.prog 100 [.con (.int .i64 3), .con (.int .i64 m)] (fun r => r = .agg [.fn 156 [], .con (.int .i64 0), .con (.int .i64 0), .con (.int .i64 0), .con (.int .i64 0), .con (.int .i64 0), .con (.int .i64 6), .con (.int .i64 0), .con (.int .i64 0)]) := by
  refine a100 _ _ _ ?_
  unfold p100
  refine ⟨_, _, _, _, _, _, _, _, call_p (enters_of Tryz.func163 (by kernel_rfl) rfl) any_p rfl ?_⟩
  refine br_i (fun h => absurd h (by decide)) (fun _ => ?_)
  refine br_i (fun h => absurd h (by decide)) (fun _ => ?_)
  refine br_i (fun h => absurd h (by decide)) (fun _ => ?_)
  refine br_i (fun _ => ?_) (fun h => absurd h (by decide))
  refine ⟨_, _, call_p (enters_of Tryz.func33 (by kernel_rfl) rfl) (from_p 0 6) rfl ?_⟩
  exact ⟨rfl, rfl⟩
theorem ex_shape4 (m : Int) : PCalls Tryz.prog 100 [.con (.int .i64 4), .con (.int .i64 m)] (fun r => r = .agg [.fn 164 [], .con (.int .i64 0), .con (.int .i64 0), .con (.int .i64 0), .con (.int .i64 0), .con (.int .i64 2), .con (.int .i64 6), .con (.int .i64 0), .con (.int .i64 0)]) := by
  refine a100 _ _ _ ?_
  unfold p100
  refine ⟨_, _, _, _, _, _, _, _, call_p (enters_of Tryz.func163 (by kernel_rfl) rfl) any_p rfl ?_⟩
  refine br_i (fun h => absurd h (by decide)) (fun _ => ?_)
  refine br_i (fun h => absurd h (by decide)) (fun _ => ?_)
  refine br_i (fun h => absurd h (by decide)) (fun _ => ?_)
  refine br_i (fun h => absurd h (by decide)) (fun _ => ?_)
  refine br_i (fun _ => ?_) (fun h => absurd h (by decide))
  refine ⟨_, _, call_p (enters_of Tryz.func33 (by kernel_rfl) rfl) (from_p 2 6) rfl ?_⟩
  exact ⟨rfl, rfl⟩
theorem ex_shape5 (m : Int) : PCalls Tryz.prog 100 [.con (.int .i64 5), .con (.int .i64 m)] (fun r => r = .agg [.fn 87 [], .con (.int .i64 0), .con (.int .i64 0), .con (.int .i64 0), .con (.int .i64 0), .con (.int .i64 1), .con (.int .i64 6), .con (.int .i64 0), .con (.int .i64 0)]) := by
  refine a100 _ _ _ ?_
  unfold p100
  refine ⟨_, _, _, _, _, _, _, _, call_p (enters_of Tryz.func163 (by kernel_rfl) rfl) any_p rfl ?_⟩
  refine br_i (fun h => absurd h (by decide)) (fun _ => ?_)
  refine br_i (fun h => absurd h (by decide)) (fun _ => ?_)
  refine br_i (fun h => absurd h (by decide)) (fun _ => ?_)
  refine br_i (fun h => absurd h (by decide)) (fun _ => ?_)
  refine br_i (fun h => absurd h (by decide)) (fun _ => ?_)
  refine br_i (fun _ => ?_) (fun h => absurd h (by decide))
  refine ⟨_, _, call_p (enters_of Tryz.func33 (by kernel_rfl) rfl) (from_p 1 6) rfl ?_⟩
  exact ⟨rfl, rfl⟩
theorem ex_shape6 (m : Int) : PCalls Tryz.prog 100 [.con (.int .i64 6), .con (.int .i64 m)] (fun r => r = .agg [.fn 92 [], .con (.int .i64 0), .con (.int .i64 0), .con (.int .i64 0), .con (.int .i64 0), .con (.int .i64 2), .con (.int .i64 2), .con (.int .i64 0), .con (.int .i64 0)]) := by
  refine a100 _ _ _ ?_
  unfold p100
  refine ⟨_, _, _, _, _, _, _, _, call_p (enters_of Tryz.func163 (by kernel_rfl) rfl) any_p rfl ?_⟩
  refine br_i (fun h => absurd h (by decide)) (fun _ => ?_)
  refine br_i (fun h => absurd h (by decide)) (fun _ => ?_)
  refine br_i (fun h => absurd h (by decide)) (fun _ => ?_)
  refine br_i (fun h => absurd h (by decide)) (fun _ => ?_)
  refine br_i (fun h => absurd h (by decide)) (fun _ => ?_)
  refine br_i (fun h => absurd h (by decide)) (fun _ => ?_)
  refine br_i (fun _ => ?_) (fun h => absurd h (by decide))
  refine ⟨_, _, call_p (enters_of Tryz.func166 (by kernel_rfl) rfl) (just_p 2) rfl ?_⟩
  exact ⟨rfl, rfl⟩
theorem ex_shape7 (m : Int) : PCalls Tryz.prog 100 [.con (.int .i64 7), .con (.int .i64 m)] (fun r => r = .agg [.fn 164 [], .con (.int .i64 0), .con (.int .i64 0), .con (.int .i64 0), .con (.int .i64 0), .con (.int .i64 3), .con (.int .i64 3), .con (.int .i64 0), .con (.int .i64 0)]) := by
  refine a100 _ _ _ ?_
  unfold p100
  refine ⟨_, _, _, _, _, _, _, _, call_p (enters_of Tryz.func163 (by kernel_rfl) rfl) any_p rfl ?_⟩
  refine br_i (fun h => absurd h (by decide)) (fun _ => ?_)
  refine br_i (fun h => absurd h (by decide)) (fun _ => ?_)
  refine br_i (fun h => absurd h (by decide)) (fun _ => ?_)
  refine br_i (fun h => absurd h (by decide)) (fun _ => ?_)
  refine br_i (fun h => absurd h (by decide)) (fun _ => ?_)
  refine br_i (fun h => absurd h (by decide)) (fun _ => ?_)
  refine br_i (fun h => absurd h (by decide)) (fun _ => ?_)
  refine br_i (fun _ => ?_) (fun h => absurd h (by decide))
  refine ⟨_, _, call_p (enters_of Tryz.func166 (by kernel_rfl) rfl) (just_p 3) rfl ?_⟩
  exact ⟨rfl, rfl⟩
theorem ex_shape8 (m : Int) : PCalls Tryz.prog 100 [.con (.int .i64 8), .con (.int .i64 m)] (fun r => r = .agg [.fn 164 [], .con (.int .i64 0), .con (.int .i64 0), .con (.int .i64 0), .con (.int .i64 0), .con (.int .i64 1), .con (.int .i64 1), .con (.int .i64 1), .con (.int .i64 32)]) := by
  refine a100 _ _ _ ?_
  unfold p100
  refine ⟨_, _, _, _, _, _, _, _, call_p (enters_of Tryz.func163 (by kernel_rfl) rfl) any_p rfl ?_⟩
  refine br_i (fun h => absurd h (by decide)) (fun _ => ?_)
  refine br_i (fun h => absurd h (by decide)) (fun _ => ?_)
  refine br_i (fun h => absurd h (by decide)) (fun _ => ?_)
  refine br_i (fun h => absurd h (by decide)) (fun _ => ?_)
  refine br_i (fun h => absurd h (by decide)) (fun _ => ?_)
  refine br_i (fun h => absurd h (by decide)) (fun _ => ?_)
  refine br_i (fun h => absurd h (by decide)) (fun _ => ?_)
  refine br_i (fun h => absurd h (by decide)) (fun _ => ?_)
  refine br_i (fun _ => ?_) (fun h => absurd h (by decide))
  refine ⟨_, _, call_p (enters_of Tryz.func166 (by kernel_rfl) rfl) (just_p 1) rfl ?_⟩
  refine ⟨_, _, call_p (enters_of Tryz.func33 (by kernel_rfl) rfl) (from_p 1 32) rfl ?_⟩
  exact ⟨rfl, rfl⟩
theorem ex_shape9 (m : Int) : PCalls Tryz.prog 100 [.con (.int .i64 9), .con (.int .i64 m)] (fun r => r = .agg [.fn 164 [], .con (.int .i64 0), .con (.int .i64 11), .con (.int .i64 0), .con (.int .i64 0), .con (.int .i64 (argsOf m)), .con (.int .i64 (argsOf m)), .con (.int .i64 0), .con (.int .i64 0)]) := by
  refine a100 _ _ _ ?_
  unfold p100
  refine ⟨_, _, _, _, _, _, _, _, call_p (enters_of Tryz.func163 (by kernel_rfl) rfl) any_p rfl ?_⟩
  refine br_i (fun h => absurd h (by decide)) (fun _ => ?_)
  refine br_i (fun h => absurd h (by decide)) (fun _ => ?_)
  refine br_i (fun h => absurd h (by decide)) (fun _ => ?_)
  refine br_i (fun h => absurd h (by decide)) (fun _ => ?_)
  refine br_i (fun h => absurd h (by decide)) (fun _ => ?_)
  refine br_i (fun h => absurd h (by decide)) (fun _ => ?_)
  refine br_i (fun h => absurd h (by decide)) (fun _ => ?_)
  refine br_i (fun h => absurd h (by decide)) (fun _ => ?_)
  refine br_i (fun h => absurd h (by decide)) (fun _ => ?_)
  refine br_i (fun _ => ?_) (fun h => absurd h (by decide))
  refine ⟨_, _, call_p (enters_of Tryz.func33 (by kernel_rfl) rfl) (from_p 0 11) rfl ?_⟩
  refine ⟨_, call_p (enters_of Tryz.func167 (by kernel_rfl) rfl) (operands_p m) rfl ?_⟩
  refine ⟨_, _, call_p (enters_of Tryz.func166 (by kernel_rfl) rfl) (just_p (argsOf m)) rfl ?_⟩
  exact ⟨rfl, rfl⟩
theorem ex_shape10 (m : Int) : PCalls Tryz.prog 100 [.con (.int .i64 10), .con (.int .i64 m)] (fun r => r = .agg [.fn 92 [], .con (.int .i64 0), .con (.int .i64 1000), .con (.int .i64 0), .con (.int .i64 0), .con (.int .i64 2), .con (.int .i64 2), .con (.int .i64 0), .con (.int .i64 0)]) := by
  refine a100 _ _ _ ?_
  unfold p100
  refine ⟨_, _, _, _, _, _, _, _, call_p (enters_of Tryz.func163 (by kernel_rfl) rfl) any_p rfl ?_⟩
  refine br_i (fun h => absurd h (by decide)) (fun _ => ?_)
  refine br_i (fun h => absurd h (by decide)) (fun _ => ?_)
  refine br_i (fun h => absurd h (by decide)) (fun _ => ?_)
  refine br_i (fun h => absurd h (by decide)) (fun _ => ?_)
  refine br_i (fun h => absurd h (by decide)) (fun _ => ?_)
  refine br_i (fun h => absurd h (by decide)) (fun _ => ?_)
  refine br_i (fun h => absurd h (by decide)) (fun _ => ?_)
  refine br_i (fun h => absurd h (by decide)) (fun _ => ?_)
  refine br_i (fun h => absurd h (by decide)) (fun _ => ?_)
  refine br_i (fun h => absurd h (by decide)) (fun _ => ?_)
  refine br_i (fun _ => ?_) (fun h => absurd h (by decide))
  refine ⟨_, _, call_p (enters_of Tryz.func33 (by kernel_rfl) rfl) (from_p 0 1000) rfl ?_⟩
  refine ⟨_, _, call_p (enters_of Tryz.func166 (by kernel_rfl) rfl) (just_p 2) rfl ?_⟩
  exact ⟨rfl, rfl⟩
theorem ex_shape_no (k : Int) (m : Int) (h0 : k ≠ 0) (h1 : k ≠ 1) (h2 : k ≠ 2) (h3 : k ≠ 3) (h4 : k ≠ 4) (h5 : k ≠ 5) (h6 : k ≠ 6) (h7 : k ≠ 7) (h8 : k ≠ 8) (h9 : k ≠ 9) (h10 : k ≠ 10) : PCalls Tryz.prog 100 [.con (.int .i64 k), .con (.int .i64 m)] (fun r => r = .agg [.fn 195 [], .con (.int .i64 0), .con (.int .i64 0), .con (.int .i64 0), .con (.int .i64 0), .con (.int .i64 0), .con (.int .i64 0), .con (.int .i64 0), .con (.int .i64 0)]) := by
  refine a100 _ _ _ ?_
  unfold p100
  refine ⟨_, _, _, _, _, _, _, _, call_p (enters_of Tryz.func163 (by kernel_rfl) rfl) any_p rfl ?_⟩
  refine br_i (fun h => absurd (by simpa using h) h0) (fun _ => ?_)
  refine br_i (fun h => absurd (by simpa using h) h1) (fun _ => ?_)
  refine br_i (fun h => absurd (by simpa using h) h2) (fun _ => ?_)
  refine br_i (fun h => absurd (by simpa using h) h3) (fun _ => ?_)
  refine br_i (fun h => absurd (by simpa using h) h4) (fun _ => ?_)
  refine br_i (fun h => absurd (by simpa using h) h5) (fun _ => ?_)
  refine br_i (fun h => absurd (by simpa using h) h6) (fun _ => ?_)
  refine br_i (fun h => absurd (by simpa using h) h7) (fun _ => ?_)
  refine br_i (fun h => absurd (by simpa using h) h8) (fun _ => ?_)
  refine br_i (fun h => absurd (by simpa using h) h9) (fun _ => ?_)
  refine br_i (fun h => absurd (by simpa using h) h10) (fun _ => ?_)
  exact ⟨rfl, rfl⟩
theorem fit_pt' (t : Pt) : smallPt t → ∀ D : Int, 0 ≤ D → D ≤ 64 → PCalls Tryz.prog 47 [.agg (ptP t), .con (.int .i64 D)] (fun r => r = .con (.bool (fitPt D.toNat t))) := by
  induction t using Pt.ind with
  | h k li co n m ps ih =>
  intro hs D h0 h1
  unfold smallPt at hs
  obtain ⟨hn, hlen, hss⟩ := hs
  refine a47 _ _ _ _ _ _ _ _ ?_
  unfold p47
  rw [ptPs_len]
  by_cases hd : 0 < D
  case neg =>
    rw [show D.toNat = 0 by omega, fitPt]
    by_cases hk0 : k = 0
    · subst hk0
      refine Or.inr (Or.inl ?_)
      exact ⟨_, _, _, _, _, _, _, _, call_p (enters_of Tryz.func106 (by kernel_rfl) rfl) (pt_shape0) rfl (br_i (fun hf => absurd (by simpa using hf) hd) (fun _ => ⟨rfl, rfl⟩))⟩
    by_cases hk1 : k = 1
    · subst hk1
      refine Or.inr (Or.inr (Or.inl ?_))
      exact ⟨_, _, _, _, _, _, _, _, call_p (enters_of Tryz.func106 (by kernel_rfl) rfl) (pt_shape1) rfl (br_i (fun hf => absurd (by simpa using hf) hd) (fun _ => ⟨rfl, rfl⟩))⟩
    by_cases hk2 : k = 2
    · subst hk2
      refine Or.inr (Or.inl ?_)
      exact ⟨_, _, _, _, _, _, _, _, call_p (enters_of Tryz.func106 (by kernel_rfl) rfl) (pt_shape2) rfl (br_i (fun hf => absurd (by simpa using hf) hd) (fun _ => ⟨rfl, rfl⟩))⟩
    by_cases hk3 : k = 3
    · subst hk3
      refine Or.inr (Or.inr (Or.inr (?_)))
      exact ⟨_, _, _, _, _, _, _, _, call_p (enters_of Tryz.func106 (by kernel_rfl) rfl) (pt_shape3) rfl (br_i (fun hf => absurd (by simpa using hf) hd) (fun _ => ⟨rfl, rfl⟩))⟩
    by_cases hk4 : k = 4
    · subst hk4
      refine Or.inr (Or.inl ?_)
      exact ⟨_, _, _, _, _, _, _, _, call_p (enters_of Tryz.func106 (by kernel_rfl) rfl) (pt_shape4) rfl (br_i (fun hf => absurd (by simpa using hf) hd) (fun _ => ⟨rfl, rfl⟩))⟩
    refine Or.inl ?_
    exact ⟨_, _, _, _, _, _, _, _, call_p (enters_of Tryz.func106 (by kernel_rfl) rfl) (pt_shape_no k hk0 hk1 hk2 hk3 hk4) rfl (br_i (fun hf => absurd (by simpa using hf) hd) (fun _ => ⟨rfl, rfl⟩))⟩
  rw [fitPt_pos' hd]
  have hA : PCalls Tryz.prog 107 [.sl (ptPs ps), .fn 108 [.ept [.con (.int .i64 D)] 0]] (fun r => r = .con (.bool (ps.all (fitPt (D.toNat - 1))))) := by
    rw [← range_all ps Pt.zero (fitPt (D.toNat - 1))]
    refine all_c (ptPs ps) ps.length (ptPs_len ps) (by omega) D (fun j => fitPt (D.toNat - 1) (ps.getD j Pt.zero)) (fun j hj => ?_)
    have hx := ptPs_get ps j hj
    have hi := ih j hj (smallPts_get ps hss j hj) (D - 1) (by omega) (by omega)
    rw [show (D - 1).toNat = D.toNat - 1 by omega] at hi
    rw [getD_at ps Pt.zero j hj]
    obtain ⟨k', li', co', n', m', ps', hp⟩ := pt_mk ps[j]
    rw [hp] at hx hi ⊢
    refine ⟨_, _, _, _, _, _, hx, a108c _ _ _ _ _ _ _ _ ?_⟩
    unfold p108c
    rw [wrap_id (n := D - 1) (by omega) (by omega)]
    exact ⟨_, call_p (enters_of Tryz.func47 (by kernel_rfl) rfl) hi rfl ⟨rfl, rfl⟩⟩
  have eA := enters_of Tryz.func107 (by kernel_rfl) rfl
  obtain ⟨V, hV0⟩ : ∃ V, shapePt k n m ps.length = V := ⟨_, rfl⟩
  rw [hV0]
  by_cases hk0 : k = 0
  · subst hk0
    have hV : V = (noneB n && (inB 0 0 m && inB 0 0 (ps.length : Int))) := by rw [← hV0]; simp [shapePt, in_0, in_z, numB]
    refine Or.inr (Or.inl ?_)
    refine ⟨_, _, _, _, _, _, _, _, call_p (enters_of Tryz.func106 (by kernel_rfl) rfl) pt_shape0 rfl ?_⟩
    refine br_i (fun _ => ?_) (fun hf => absurd hd (by simpa using hf))
    refine ⟨_, call_p (enters_of Tryz.func164 (by kernel_rfl) rfl) (empty_p n) rfl ?_⟩
    refine br_i (fun hx => ?_) (fun hx => ⟨by rw [hV, hx]; simp, rfl⟩)
    rw [hx, Bool.true_and] at hV
    clear hx
    refine ⟨_, call_p (enters_of Tryz.func79 (by kernel_rfl) rfl) (has_p 0 0 m) rfl ?_⟩
    refine br_i (fun hx => ?_) (fun hx => ⟨by rw [hV, hx]; simp, rfl⟩)
    rw [hx, Bool.true_and] at hV
    clear hx
    refine ⟨_, call_p (enters_of Tryz.func34 (by kernel_rfl) rfl) (many_p 0 0 ps.length) rfl ?_⟩
    refine br_i (fun hx => ?_) (fun hx => ⟨by rw [hV, hx]; simp, rfl⟩)
    rw [hx] at hV
    clear hx
    exact ⟨_, call_p eA hA rfl ⟨by rw [hV, Bool.true_and], rfl⟩⟩
  by_cases hk1 : k = 1
  · subst hk1
    have hV : V = (namedB n false && (inB 0 0 m && inB 0 0 (ps.length : Int))) := by rw [← hV0]; simp [shapePt, in_0, in_z, numB]
    refine Or.inr (Or.inr (Or.inl ?_))
    refine ⟨_, _, _, _, _, _, _, _, call_p (enters_of Tryz.func106 (by kernel_rfl) rfl) pt_shape1 rfl ?_⟩
    refine br_i (fun _ => ?_) (fun hf => absurd hd (by simpa using hf))
    refine ⟨_, call_p (enters_of Tryz.func92 (by kernel_rfl) rfl) (small_p n hn) rfl ?_⟩
    refine br_i (fun hx => ?_) (fun hx => ⟨by rw [hV, hx]; simp, rfl⟩)
    rw [hx, Bool.true_and] at hV
    clear hx
    refine ⟨_, call_p (enters_of Tryz.func79 (by kernel_rfl) rfl) (has_p 0 0 m) rfl ?_⟩
    refine br_i (fun hx => ?_) (fun hx => ⟨by rw [hV, hx]; simp, rfl⟩)
    rw [hx, Bool.true_and] at hV
    clear hx
    refine ⟨_, call_p (enters_of Tryz.func34 (by kernel_rfl) rfl) (many_p 0 0 ps.length) rfl ?_⟩
    refine br_i (fun hx => ?_) (fun hx => ⟨by rw [hV, hx]; simp, rfl⟩)
    rw [hx] at hV
    clear hx
    exact ⟨_, call_p eA hA rfl ⟨by rw [hV, Bool.true_and], rfl⟩⟩
  by_cases hk2 : k = 2
  · subst hk2
    have hV : V = (noneB n && (inB (-4611686018427387903) 4611686018427387903 m && inB 0 0 (ps.length : Int))) := by rw [← hV0]; simp [shapePt, in_0, in_z, numB]
    refine Or.inr (Or.inl ?_)
    refine ⟨_, _, _, _, _, _, _, _, call_p (enters_of Tryz.func106 (by kernel_rfl) rfl) pt_shape2 rfl ?_⟩
    refine br_i (fun _ => ?_) (fun hf => absurd hd (by simpa using hf))
    refine ⟨_, call_p (enters_of Tryz.func164 (by kernel_rfl) rfl) (empty_p n) rfl ?_⟩
    refine br_i (fun hx => ?_) (fun hx => ⟨by rw [hV, hx]; simp, rfl⟩)
    rw [hx, Bool.true_and] at hV
    clear hx
    refine ⟨_, call_p (enters_of Tryz.func79 (by kernel_rfl) rfl) (has_p (-4611686018427387903) 4611686018427387903 m) rfl ?_⟩
    refine br_i (fun hx => ?_) (fun hx => ⟨by rw [hV, hx]; simp, rfl⟩)
    rw [hx, Bool.true_and] at hV
    clear hx
    refine ⟨_, call_p (enters_of Tryz.func34 (by kernel_rfl) rfl) (many_p 0 0 ps.length) rfl ?_⟩
    refine br_i (fun hx => ?_) (fun hx => ⟨by rw [hV, hx]; simp, rfl⟩)
    rw [hx] at hV
    clear hx
    exact ⟨_, call_p eA hA rfl ⟨by rw [hV, Bool.true_and], rfl⟩⟩
  by_cases hk3 : k = 3
  · subst hk3
    have hV : V = (namedB n true && (inB 0 0 m && inB 0 6 (ps.length : Int))) := by rw [← hV0]; simp [shapePt, in_0, in_z, numB]
    refine Or.inr (Or.inr (Or.inr (?_)))
    refine ⟨_, _, _, _, _, _, _, _, call_p (enters_of Tryz.func106 (by kernel_rfl) rfl) pt_shape3 rfl ?_⟩
    refine br_i (fun _ => ?_) (fun hf => absurd hd (by simpa using hf))
    refine ⟨_, call_p (enters_of Tryz.func156 (by kernel_rfl) rfl) (great_p n hn) rfl ?_⟩
    refine br_i (fun hx => ?_) (fun hx => ⟨by rw [hV, hx]; simp, rfl⟩)
    rw [hx, Bool.true_and] at hV
    clear hx
    refine ⟨_, call_p (enters_of Tryz.func79 (by kernel_rfl) rfl) (has_p 0 0 m) rfl ?_⟩
    refine br_i (fun hx => ?_) (fun hx => ⟨by rw [hV, hx]; simp, rfl⟩)
    rw [hx, Bool.true_and] at hV
    clear hx
    refine ⟨_, call_p (enters_of Tryz.func34 (by kernel_rfl) rfl) (many_p 0 6 ps.length) rfl ?_⟩
    refine br_i (fun hx => ?_) (fun hx => ⟨by rw [hV, hx]; simp, rfl⟩)
    rw [hx] at hV
    clear hx
    exact ⟨_, call_p eA hA rfl ⟨by rw [hV, Bool.true_and], rfl⟩⟩
  by_cases hk4 : k = 4
  · subst hk4
    have hV : V = (noneB n && (inB 0 0 m && inB 2 6 (ps.length : Int))) := by rw [← hV0]; simp [shapePt, in_0, in_z, numB]
    refine Or.inr (Or.inl ?_)
    refine ⟨_, _, _, _, _, _, _, _, call_p (enters_of Tryz.func106 (by kernel_rfl) rfl) pt_shape4 rfl ?_⟩
    refine br_i (fun _ => ?_) (fun hf => absurd hd (by simpa using hf))
    refine ⟨_, call_p (enters_of Tryz.func164 (by kernel_rfl) rfl) (empty_p n) rfl ?_⟩
    refine br_i (fun hx => ?_) (fun hx => ⟨by rw [hV, hx]; simp, rfl⟩)
    rw [hx, Bool.true_and] at hV
    clear hx
    refine ⟨_, call_p (enters_of Tryz.func79 (by kernel_rfl) rfl) (has_p 0 0 m) rfl ?_⟩
    refine br_i (fun hx => ?_) (fun hx => ⟨by rw [hV, hx]; simp, rfl⟩)
    rw [hx, Bool.true_and] at hV
    clear hx
    refine ⟨_, call_p (enters_of Tryz.func34 (by kernel_rfl) rfl) (many_p 2 6 ps.length) rfl ?_⟩
    refine br_i (fun hx => ?_) (fun hx => ⟨by rw [hV, hx]; simp, rfl⟩)
    rw [hx] at hV
    clear hx
    exact ⟨_, call_p eA hA rfl ⟨by rw [hV, Bool.true_and], rfl⟩⟩
  have hV : V = false := by rw [← hV0]; simp [shapePt, hk0, hk1, hk2, hk3, hk4]
  refine Or.inl ?_
  refine ⟨_, _, _, _, _, _, _, _, call_p (enters_of Tryz.func106 (by kernel_rfl) rfl) (pt_shape_no k hk0 hk1 hk2 hk3 hk4) rfl ?_⟩
  refine br_i (fun _ => ?_) (fun hf => absurd hd (by simpa using hf))
  refine ⟨_, call_p (enters_of Tryz.func195 (by kernel_rfl) rfl) (nothing_p n) rfl ?_⟩
  exact br_i (fun hx => by cases hx) (fun hx => ⟨by rw [hV]; rfl, rfl⟩)
theorem fit_ptF' (t : Pt) (hs : smallPt t) : PCalls Tryz.prog 16 [.agg (ptP t)] (fun r => r = .con (.bool (fitPt 64 t))) := by
  have h := fit_pt' t hs 64 (by omega) (by omega)
  obtain ⟨k', li', co', n', m', ps', hp⟩ := pt_mk t
  subst hp
  refine a16 _ _ _ _ _ _ _ ?_
  unfold p16
  exact ⟨_, call_p (enters_of Tryz.func47 (by kernel_rfl) rfl) h rfl ⟨rfl, rfl⟩⟩
set_option maxHeartbeats 2000000 in
theorem fit_ex' (t : Ex) : smallEx t → wfEx t → ∀ D : Int, 0 ≤ D → D ≤ 64 → PCalls Tryz.prog 45 [.agg (exP t), .con (.int .i64 D)] (fun r => r = .con (.bool (fitEx D.toNat t))) := by
  induction t using Ex.ind with
  | h k li co m b n ks ps bs ihk ihb =>
  intro hs hw D h0 h1
  unfold smallEx at hs
  unfold wfEx at hw
  obtain ⟨hpb, hwk, hwb⟩ := hw
  obtain ⟨hb3, hn, hlk, hlp, hlb, hsk, hsp, hsb⟩ := hs
  refine a45 _ _ _ _ _ _ _ _ _ _ ?_
  unfold p45
  rw [exPs_len, arPs_len bs ps hpb, show (byP b).length = b.length by simp [byP]]
  by_cases hd : 0 < D
  case neg =>
    rw [show D.toNat = 0 by omega, fitEx]
    by_cases hk0 : k = 0
    · subst hk0
      refine Or.inr (Or.inl ?_)
      exact ⟨_, _, _, _, _, _, _, _, call_p (enters_of Tryz.func100 (by kernel_rfl) rfl) (ex_shape0 m) rfl (br_i (fun hf => absurd (by simpa using hf) hd) (fun _ => ⟨rfl, rfl⟩))⟩
    by_cases hk1 : k = 1
    · subst hk1
      refine Or.inr (Or.inl ?_)
      exact ⟨_, _, _, _, _, _, _, _, call_p (enters_of Tryz.func100 (by kernel_rfl) rfl) (ex_shape1 m) rfl (br_i (fun hf => absurd (by simpa using hf) hd) (fun _ => ⟨rfl, rfl⟩))⟩
    by_cases hk2 : k = 2
    · subst hk2
      refine Or.inr (Or.inr (Or.inl ?_))
      exact ⟨_, _, _, _, _, _, _, _, call_p (enters_of Tryz.func100 (by kernel_rfl) rfl) (ex_shape2 m) rfl (br_i (fun hf => absurd (by simpa using hf) hd) (fun _ => ⟨rfl, rfl⟩))⟩
    by_cases hk3 : k = 3
    · subst hk3
      refine Or.inr (Or.inr (Or.inr (Or.inl ?_)))
      exact ⟨_, _, _, _, _, _, _, _, call_p (enters_of Tryz.func100 (by kernel_rfl) rfl) (ex_shape3 m) rfl (br_i (fun hf => absurd (by simpa using hf) hd) (fun _ => ⟨rfl, rfl⟩))⟩
    by_cases hk4 : k = 4
    · subst hk4
      refine Or.inr (Or.inl ?_)
      exact ⟨_, _, _, _, _, _, _, _, call_p (enters_of Tryz.func100 (by kernel_rfl) rfl) (ex_shape4 m) rfl (br_i (fun hf => absurd (by simpa using hf) hd) (fun _ => ⟨rfl, rfl⟩))⟩
    by_cases hk5 : k = 5
    · subst hk5
      refine Or.inr (Or.inr (Or.inr (Or.inr (Or.inl ?_))))
      exact ⟨_, _, _, _, _, _, _, _, call_p (enters_of Tryz.func100 (by kernel_rfl) rfl) (ex_shape5 m) rfl (br_i (fun hf => absurd (by simpa using hf) hd) (fun _ => ⟨rfl, rfl⟩))⟩
    by_cases hk6 : k = 6
    · subst hk6
      refine Or.inr (Or.inr (Or.inr (Or.inr (Or.inr (?_)))))
      exact ⟨_, _, _, _, _, _, _, _, call_p (enters_of Tryz.func100 (by kernel_rfl) rfl) (ex_shape6 m) rfl (br_i (fun hf => absurd (by simpa using hf) hd) (fun _ => ⟨rfl, rfl⟩))⟩
    by_cases hk7 : k = 7
    · subst hk7
      refine Or.inr (Or.inl ?_)
      exact ⟨_, _, _, _, _, _, _, _, call_p (enters_of Tryz.func100 (by kernel_rfl) rfl) (ex_shape7 m) rfl (br_i (fun hf => absurd (by simpa using hf) hd) (fun _ => ⟨rfl, rfl⟩))⟩
    by_cases hk8 : k = 8
    · subst hk8
      refine Or.inr (Or.inl ?_)
      exact ⟨_, _, _, _, _, _, _, _, call_p (enters_of Tryz.func100 (by kernel_rfl) rfl) (ex_shape8 m) rfl (br_i (fun hf => absurd (by simpa using hf) hd) (fun _ => ⟨rfl, rfl⟩))⟩
    by_cases hk9 : k = 9
    · subst hk9
      refine Or.inr (Or.inl ?_)
      exact ⟨_, _, _, _, _, _, _, _, call_p (enters_of Tryz.func100 (by kernel_rfl) rfl) (ex_shape9 m) rfl (br_i (fun hf => absurd (by simpa using hf) hd) (fun _ => ⟨rfl, rfl⟩))⟩
    by_cases hk10 : k = 10
    · subst hk10
      refine Or.inr (Or.inr (Or.inr (Or.inr (Or.inr (?_)))))
      exact ⟨_, _, _, _, _, _, _, _, call_p (enters_of Tryz.func100 (by kernel_rfl) rfl) (ex_shape10 m) rfl (br_i (fun hf => absurd (by simpa using hf) hd) (fun _ => ⟨rfl, rfl⟩))⟩
    refine Or.inl ?_
    exact ⟨_, _, _, _, _, _, _, _, call_p (enters_of Tryz.func100 (by kernel_rfl) rfl) (ex_shape_no k m hk0 hk1 hk2 hk3 hk4 hk5 hk6 hk7 hk8 hk9 hk10) rfl (br_i (fun hf => absurd (by simpa using hf) hd) (fun _ => ⟨rfl, rfl⟩))⟩
  rw [fitEx_pos' hd]
  have hA : PCalls Tryz.prog 101 [.sl (exPs ks), .fn 102 [.ept [.con (.int .i64 D)] 0]] (fun r => r = .con (.bool (ks.all (fitEx (D.toNat - 1))))) := by
    rw [← range_all ks Ex.zero (fitEx (D.toNat - 1))]
    refine all_d (exPs ks) ks.length (exPs_len ks) (by omega) D (fun j => fitEx (D.toNat - 1) (ks.getD j Ex.zero)) (fun j hj => ?_)
    have hx := exPs_get ks j hj
    have hi := ihk j hj (smallExs_get ks hsk j hj) (wfExs_at ks hwk j hj) (D - 1) (by omega) (by omega)
    rw [show (D - 1).toNat = D.toNat - 1 by omega] at hi
    rw [getD_at ks Ex.zero j hj]
    obtain ⟨k', li', co', m', b', n', ks', ps', bs', hp⟩ := ex_mk ks[j]
    rw [hp] at hx hi ⊢
    refine ⟨_, _, _, _, _, _, _, _, hx, a102d _ _ _ _ _ _ _ _ _ _ ?_⟩
    unfold p102d
    rw [wrap_id (n := D - 1) (by omega) (by omega)]
    exact ⟨_, call_p (enters_of Tryz.func45 (by kernel_rfl) rfl) hi rfl ⟨rfl, rfl⟩⟩
  have eA := enters_of Tryz.func101 (by kernel_rfl) rfl
  have hB : PCalls Tryz.prog 103 [.sl (arPs bs ps), .fn 104 [.ept [.con (.int .i64 D)] 0]] (fun r => r = .con (.bool (ps.all (fitPt (D.toNat - 1)) && bs.all (fitEx (D.toNat - 1))))) := by
    rw [← arms_all ps bs hpb Pt.zero Ex.zero]
    refine all_e (arPs bs ps) bs.length (arPs_len bs ps hpb) (by omega) D (fun j => fitPt (D.toNat - 1) (ps.getD j Pt.zero) && fitEx (D.toNat - 1) (bs.getD j Ex.zero)) (fun j hj => ?_)
    have hj2 : j < ps.length := by omega
    have hx := arPs_get bs ps j hj hj2
    have hi := ihb j hj (smallExs_get bs hsb j hj) (wfExs_at bs hwb j hj) (D - 1) (by omega) (by omega)
    have hi1 := fit_pt' ps[j] (smallPts_get ps hsp j hj2) (D - 1) (by omega) (by omega)
    rw [show (D - 1).toNat = D.toNat - 1 by omega] at hi hi1
    rw [getD_at bs Ex.zero j hj, getD_at ps Pt.zero j hj2]
    obtain ⟨k', li', co', m', b', n', ks', ps', bs', hp⟩ := ex_mk bs[j]
    obtain ⟨k2', li2', co2', n2', m2', ps2', hp2⟩ := pt_mk ps[j]
    rw [hp, hp2] at hx ⊢
    rw [hp] at hi
    rw [hp2] at hi1
    refine ⟨_, _, _, _, _, _, _, _, _, _, _, _, _, _, hx, a104e _ _ _ _ _ _ _ _ _ _ _ _ _ _ _ _ ?_⟩
    unfold p104e
    rw [wrap_id (n := D - 1) (by omega) (by omega)]
    refine ⟨_, call_p (enters_of Tryz.func47 (by kernel_rfl) rfl) hi1 rfl ?_⟩
    refine br_i (fun hx => ?_) (fun hx => ⟨by rw [hx]; rfl, rfl⟩)
    exact ⟨_, call_p (enters_of Tryz.func45 (by kernel_rfl) rfl) hi rfl ⟨by rw [hx]; rfl, rfl⟩⟩
  have eB := enters_of Tryz.func103 (by kernel_rfl) rfl
  obtain ⟨V, hV0⟩ : ∃ V, shapeEx k m b.length n ks.length bs.length = V := ⟨_, rfl⟩
  rw [hV0]
  by_cases hk0 : k = 0
  · subst hk0
    have hV : V = (noneB n && (inB (-4611686018427387903) 4611686018427387903 m && (inB 0 0 (b.length : Int) && (inB 0 0 (ks.length : Int) && inB 0 0 (bs.length : Int))))) := by rw [← hV0]; simp [shapeEx, in_0, in_1, in_2, in_3, in_z, numB]
    refine Or.inr (Or.inl ?_)
    refine ⟨_, _, _, _, _, _, _, _, call_p (enters_of Tryz.func100 (by kernel_rfl) rfl) (ex_shape0 m) rfl ?_⟩
    refine br_i (fun _ => ?_) (fun hf => absurd hd (by simpa using hf))
    refine ⟨_, call_p (enters_of Tryz.func164 (by kernel_rfl) rfl) (empty_p n) rfl ?_⟩
    refine br_i (fun hx => ?_) (fun hx => ⟨by rw [hV, hx]; simp, rfl⟩)
    rw [hx, Bool.true_and] at hV
    clear hx
    refine ⟨_, call_p (enters_of Tryz.func79 (by kernel_rfl) rfl) (has_p (-4611686018427387903) 4611686018427387903 m) rfl ?_⟩
    refine br_i (fun hx => ?_) (fun hx => ⟨by rw [hV, hx]; simp, rfl⟩)
    rw [hx, Bool.true_and] at hV
    clear hx
    refine ⟨_, call_p (enters_of Tryz.func34 (by kernel_rfl) rfl) (many_p 0 0 b.length) rfl ?_⟩
    refine br_i (fun hx => ?_) (fun hx => ⟨by rw [hV, hx]; simp, rfl⟩)
    rw [hx, Bool.true_and] at hV
    clear hx
    refine ⟨_, call_p (enters_of Tryz.func34 (by kernel_rfl) rfl) (many_p 0 0 ks.length) rfl ?_⟩
    refine br_i (fun hx => ?_) (fun hx => ⟨by rw [hV, hx]; simp, rfl⟩)
    rw [hx, Bool.true_and] at hV
    clear hx
    refine ⟨_, call_p (enters_of Tryz.func34 (by kernel_rfl) rfl) (many_p 0 0 bs.length) rfl ?_⟩
    refine br_i (fun hx => ?_) (fun hx => ⟨by rw [hV, hx]; simp, rfl⟩)
    rw [hx] at hV
    clear hx
    rw [hV, Bool.true_and]
    refine ⟨_, call_p eA hA rfl ?_⟩
    refine br_i (fun hx => ?_) (fun hx => ⟨by rw [hx]; rfl, rfl⟩)
    exact ⟨_, call_p eB hB rfl ⟨by rw [hx, Bool.true_and], rfl⟩⟩
  by_cases hk1 : k = 1
  · subst hk1
    have hV : V = (noneB n && (inB 0 0 m && (inB 0 64 (b.length : Int) && (inB 0 0 (ks.length : Int) && inB 0 0 (bs.length : Int))))) := by rw [← hV0]; simp [shapeEx, in_0, in_1, in_2, in_3, in_z, numB]
    refine Or.inr (Or.inl ?_)
    refine ⟨_, _, _, _, _, _, _, _, call_p (enters_of Tryz.func100 (by kernel_rfl) rfl) (ex_shape1 m) rfl ?_⟩
    refine br_i (fun _ => ?_) (fun hf => absurd hd (by simpa using hf))
    refine ⟨_, call_p (enters_of Tryz.func164 (by kernel_rfl) rfl) (empty_p n) rfl ?_⟩
    refine br_i (fun hx => ?_) (fun hx => ⟨by rw [hV, hx]; simp, rfl⟩)
    rw [hx, Bool.true_and] at hV
    clear hx
    refine ⟨_, call_p (enters_of Tryz.func79 (by kernel_rfl) rfl) (has_p 0 0 m) rfl ?_⟩
    refine br_i (fun hx => ?_) (fun hx => ⟨by rw [hV, hx]; simp, rfl⟩)
    rw [hx, Bool.true_and] at hV
    clear hx
    refine ⟨_, call_p (enters_of Tryz.func34 (by kernel_rfl) rfl) (many_p 0 64 b.length) rfl ?_⟩
    refine br_i (fun hx => ?_) (fun hx => ⟨by rw [hV, hx]; simp, rfl⟩)
    rw [hx, Bool.true_and] at hV
    clear hx
    refine ⟨_, call_p (enters_of Tryz.func34 (by kernel_rfl) rfl) (many_p 0 0 ks.length) rfl ?_⟩
    refine br_i (fun hx => ?_) (fun hx => ⟨by rw [hV, hx]; simp, rfl⟩)
    rw [hx, Bool.true_and] at hV
    clear hx
    refine ⟨_, call_p (enters_of Tryz.func34 (by kernel_rfl) rfl) (many_p 0 0 bs.length) rfl ?_⟩
    refine br_i (fun hx => ?_) (fun hx => ⟨by rw [hV, hx]; simp, rfl⟩)
    rw [hx] at hV
    clear hx
    rw [hV, Bool.true_and]
    refine ⟨_, call_p eA hA rfl ?_⟩
    refine br_i (fun hx => ?_) (fun hx => ⟨by rw [hx]; rfl, rfl⟩)
    exact ⟨_, call_p eB hB rfl ⟨by rw [hx, Bool.true_and], rfl⟩⟩
  by_cases hk2 : k = 2
  · subst hk2
    have hV : V = (varB n && (inB 0 0 m && (inB 0 0 (b.length : Int) && (inB 0 0 (ks.length : Int) && inB 0 0 (bs.length : Int))))) := by rw [← hV0]; simp [shapeEx, in_0, in_1, in_2, in_3, in_z, numB]
    refine Or.inr (Or.inr (Or.inl ?_))
    refine ⟨_, _, _, _, _, _, _, _, call_p (enters_of Tryz.func100 (by kernel_rfl) rfl) (ex_shape2 m) rfl ?_⟩
    refine br_i (fun _ => ?_) (fun hf => absurd hd (by simpa using hf))
    refine ⟨_, call_p (enters_of Tryz.func165 (by kernel_rfl) rfl) (var_p n hn) rfl ?_⟩
    refine br_i (fun hx => ?_) (fun hx => ⟨by rw [hV, hx]; simp, rfl⟩)
    rw [hx, Bool.true_and] at hV
    clear hx
    refine ⟨_, call_p (enters_of Tryz.func79 (by kernel_rfl) rfl) (has_p 0 0 m) rfl ?_⟩
    refine br_i (fun hx => ?_) (fun hx => ⟨by rw [hV, hx]; simp, rfl⟩)
    rw [hx, Bool.true_and] at hV
    clear hx
    refine ⟨_, call_p (enters_of Tryz.func34 (by kernel_rfl) rfl) (many_p 0 0 b.length) rfl ?_⟩
    refine br_i (fun hx => ?_) (fun hx => ⟨by rw [hV, hx]; simp, rfl⟩)
    rw [hx, Bool.true_and] at hV
    clear hx
    refine ⟨_, call_p (enters_of Tryz.func34 (by kernel_rfl) rfl) (many_p 0 0 ks.length) rfl ?_⟩
    refine br_i (fun hx => ?_) (fun hx => ⟨by rw [hV, hx]; simp, rfl⟩)
    rw [hx, Bool.true_and] at hV
    clear hx
    refine ⟨_, call_p (enters_of Tryz.func34 (by kernel_rfl) rfl) (many_p 0 0 bs.length) rfl ?_⟩
    refine br_i (fun hx => ?_) (fun hx => ⟨by rw [hV, hx]; simp, rfl⟩)
    rw [hx] at hV
    clear hx
    rw [hV, Bool.true_and]
    refine ⟨_, call_p eA hA rfl ?_⟩
    refine br_i (fun hx => ?_) (fun hx => ⟨by rw [hx]; rfl, rfl⟩)
    exact ⟨_, call_p eB hB rfl ⟨by rw [hx, Bool.true_and], rfl⟩⟩
  by_cases hk3 : k = 3
  · subst hk3
    have hV : V = (namedB n true && (inB 0 0 m && (inB 0 0 (b.length : Int) && (inB 0 6 (ks.length : Int) && inB 0 0 (bs.length : Int))))) := by rw [← hV0]; simp [shapeEx, in_0, in_1, in_2, in_3, in_z, numB]
    refine Or.inr (Or.inr (Or.inr (Or.inl ?_)))
    refine ⟨_, _, _, _, _, _, _, _, call_p (enters_of Tryz.func100 (by kernel_rfl) rfl) (ex_shape3 m) rfl ?_⟩
    refine br_i (fun _ => ?_) (fun hf => absurd hd (by simpa using hf))
    refine ⟨_, call_p (enters_of Tryz.func156 (by kernel_rfl) rfl) (great_p n hn) rfl ?_⟩
    refine br_i (fun hx => ?_) (fun hx => ⟨by rw [hV, hx]; simp, rfl⟩)
    rw [hx, Bool.true_and] at hV
    clear hx
    refine ⟨_, call_p (enters_of Tryz.func79 (by kernel_rfl) rfl) (has_p 0 0 m) rfl ?_⟩
    refine br_i (fun hx => ?_) (fun hx => ⟨by rw [hV, hx]; simp, rfl⟩)
    rw [hx, Bool.true_and] at hV
    clear hx
    refine ⟨_, call_p (enters_of Tryz.func34 (by kernel_rfl) rfl) (many_p 0 0 b.length) rfl ?_⟩
    refine br_i (fun hx => ?_) (fun hx => ⟨by rw [hV, hx]; simp, rfl⟩)
    rw [hx, Bool.true_and] at hV
    clear hx
    refine ⟨_, call_p (enters_of Tryz.func34 (by kernel_rfl) rfl) (many_p 0 6 ks.length) rfl ?_⟩
    refine br_i (fun hx => ?_) (fun hx => ⟨by rw [hV, hx]; simp, rfl⟩)
    rw [hx, Bool.true_and] at hV
    clear hx
    refine ⟨_, call_p (enters_of Tryz.func34 (by kernel_rfl) rfl) (many_p 0 0 bs.length) rfl ?_⟩
    refine br_i (fun hx => ?_) (fun hx => ⟨by rw [hV, hx]; simp, rfl⟩)
    rw [hx] at hV
    clear hx
    rw [hV, Bool.true_and]
    refine ⟨_, call_p eA hA rfl ?_⟩
    refine br_i (fun hx => ?_) (fun hx => ⟨by rw [hx]; rfl, rfl⟩)
    exact ⟨_, call_p eB hB rfl ⟨by rw [hx, Bool.true_and], rfl⟩⟩
  by_cases hk4 : k = 4
  · subst hk4
    have hV : V = (noneB n && (inB 0 0 m && (inB 0 0 (b.length : Int) && (inB 2 6 (ks.length : Int) && inB 0 0 (bs.length : Int))))) := by rw [← hV0]; simp [shapeEx, in_0, in_1, in_2, in_3, in_z, numB]
    refine Or.inr (Or.inl ?_)
    refine ⟨_, _, _, _, _, _, _, _, call_p (enters_of Tryz.func100 (by kernel_rfl) rfl) (ex_shape4 m) rfl ?_⟩
    refine br_i (fun _ => ?_) (fun hf => absurd hd (by simpa using hf))
    refine ⟨_, call_p (enters_of Tryz.func164 (by kernel_rfl) rfl) (empty_p n) rfl ?_⟩
    refine br_i (fun hx => ?_) (fun hx => ⟨by rw [hV, hx]; simp, rfl⟩)
    rw [hx, Bool.true_and] at hV
    clear hx
    refine ⟨_, call_p (enters_of Tryz.func79 (by kernel_rfl) rfl) (has_p 0 0 m) rfl ?_⟩
    refine br_i (fun hx => ?_) (fun hx => ⟨by rw [hV, hx]; simp, rfl⟩)
    rw [hx, Bool.true_and] at hV
    clear hx
    refine ⟨_, call_p (enters_of Tryz.func34 (by kernel_rfl) rfl) (many_p 0 0 b.length) rfl ?_⟩
    refine br_i (fun hx => ?_) (fun hx => ⟨by rw [hV, hx]; simp, rfl⟩)
    rw [hx, Bool.true_and] at hV
    clear hx
    refine ⟨_, call_p (enters_of Tryz.func34 (by kernel_rfl) rfl) (many_p 2 6 ks.length) rfl ?_⟩
    refine br_i (fun hx => ?_) (fun hx => ⟨by rw [hV, hx]; simp, rfl⟩)
    rw [hx, Bool.true_and] at hV
    clear hx
    refine ⟨_, call_p (enters_of Tryz.func34 (by kernel_rfl) rfl) (many_p 0 0 bs.length) rfl ?_⟩
    refine br_i (fun hx => ?_) (fun hx => ⟨by rw [hV, hx]; simp, rfl⟩)
    rw [hx] at hV
    clear hx
    rw [hV, Bool.true_and]
    refine ⟨_, call_p eA hA rfl ?_⟩
    refine br_i (fun hx => ?_) (fun hx => ⟨by rw [hx]; rfl, rfl⟩)
    exact ⟨_, call_p eB hB rfl ⟨by rw [hx, Bool.true_and], rfl⟩⟩
  by_cases hk5 : k = 5
  · subst hk5
    have hV : V = (funB n && (inB 0 0 m && (inB 0 0 (b.length : Int) && (inB 1 6 (ks.length : Int) && inB 0 0 (bs.length : Int))))) := by rw [← hV0]; simp [shapeEx, in_0, in_1, in_2, in_3, in_z, numB]
    refine Or.inr (Or.inr (Or.inr (Or.inr (Or.inl ?_))))
    refine ⟨_, _, _, _, _, _, _, _, call_p (enters_of Tryz.func100 (by kernel_rfl) rfl) (ex_shape5 m) rfl ?_⟩
    refine br_i (fun _ => ?_) (fun hf => absurd hd (by simpa using hf))
    refine ⟨_, call_p (enters_of Tryz.func87 (by kernel_rfl) rfl) (offun_p n hn) rfl ?_⟩
    refine br_i (fun hx => ?_) (fun hx => ⟨by rw [hV, hx]; simp, rfl⟩)
    rw [hx, Bool.true_and] at hV
    clear hx
    refine ⟨_, call_p (enters_of Tryz.func79 (by kernel_rfl) rfl) (has_p 0 0 m) rfl ?_⟩
    refine br_i (fun hx => ?_) (fun hx => ⟨by rw [hV, hx]; simp, rfl⟩)
    rw [hx, Bool.true_and] at hV
    clear hx
    refine ⟨_, call_p (enters_of Tryz.func34 (by kernel_rfl) rfl) (many_p 0 0 b.length) rfl ?_⟩
    refine br_i (fun hx => ?_) (fun hx => ⟨by rw [hV, hx]; simp, rfl⟩)
    rw [hx, Bool.true_and] at hV
    clear hx
    refine ⟨_, call_p (enters_of Tryz.func34 (by kernel_rfl) rfl) (many_p 1 6 ks.length) rfl ?_⟩
    refine br_i (fun hx => ?_) (fun hx => ⟨by rw [hV, hx]; simp, rfl⟩)
    rw [hx, Bool.true_and] at hV
    clear hx
    refine ⟨_, call_p (enters_of Tryz.func34 (by kernel_rfl) rfl) (many_p 0 0 bs.length) rfl ?_⟩
    refine br_i (fun hx => ?_) (fun hx => ⟨by rw [hV, hx]; simp, rfl⟩)
    rw [hx] at hV
    clear hx
    rw [hV, Bool.true_and]
    refine ⟨_, call_p eA hA rfl ?_⟩
    refine br_i (fun hx => ?_) (fun hx => ⟨by rw [hx]; rfl, rfl⟩)
    exact ⟨_, call_p eB hB rfl ⟨by rw [hx, Bool.true_and], rfl⟩⟩
  by_cases hk6 : k = 6
  · subst hk6
    have hV : V = (namedB n false && (inB 0 0 m && (inB 0 0 (b.length : Int) && (inB 2 2 (ks.length : Int) && inB 0 0 (bs.length : Int))))) := by rw [← hV0]; simp [shapeEx, in_0, in_1, in_2, in_3, in_z, numB]
    refine Or.inr (Or.inr (Or.inr (Or.inr (Or.inr (?_)))))
    refine ⟨_, _, _, _, _, _, _, _, call_p (enters_of Tryz.func100 (by kernel_rfl) rfl) (ex_shape6 m) rfl ?_⟩
    refine br_i (fun _ => ?_) (fun hf => absurd hd (by simpa using hf))
    refine ⟨_, call_p (enters_of Tryz.func92 (by kernel_rfl) rfl) (small_p n hn) rfl ?_⟩
    refine br_i (fun hx => ?_) (fun hx => ⟨by rw [hV, hx]; simp, rfl⟩)
    rw [hx, Bool.true_and] at hV
    clear hx
    refine ⟨_, call_p (enters_of Tryz.func79 (by kernel_rfl) rfl) (has_p 0 0 m) rfl ?_⟩
    refine br_i (fun hx => ?_) (fun hx => ⟨by rw [hV, hx]; simp, rfl⟩)
    rw [hx, Bool.true_and] at hV
    clear hx
    refine ⟨_, call_p (enters_of Tryz.func34 (by kernel_rfl) rfl) (many_p 0 0 b.length) rfl ?_⟩
    refine br_i (fun hx => ?_) (fun hx => ⟨by rw [hV, hx]; simp, rfl⟩)
    rw [hx, Bool.true_and] at hV
    clear hx
    refine ⟨_, call_p (enters_of Tryz.func34 (by kernel_rfl) rfl) (many_p 2 2 ks.length) rfl ?_⟩
    refine br_i (fun hx => ?_) (fun hx => ⟨by rw [hV, hx]; simp, rfl⟩)
    rw [hx, Bool.true_and] at hV
    clear hx
    refine ⟨_, call_p (enters_of Tryz.func34 (by kernel_rfl) rfl) (many_p 0 0 bs.length) rfl ?_⟩
    refine br_i (fun hx => ?_) (fun hx => ⟨by rw [hV, hx]; simp, rfl⟩)
    rw [hx] at hV
    clear hx
    rw [hV, Bool.true_and]
    refine ⟨_, call_p eA hA rfl ?_⟩
    refine br_i (fun hx => ?_) (fun hx => ⟨by rw [hx]; rfl, rfl⟩)
    exact ⟨_, call_p eB hB rfl ⟨by rw [hx, Bool.true_and], rfl⟩⟩
  by_cases hk7 : k = 7
  · subst hk7
    have hV : V = (noneB n && (inB 0 0 m && (inB 0 0 (b.length : Int) && (inB 3 3 (ks.length : Int) && inB 0 0 (bs.length : Int))))) := by rw [← hV0]; simp [shapeEx, in_0, in_1, in_2, in_3, in_z, numB]
    refine Or.inr (Or.inl ?_)
    refine ⟨_, _, _, _, _, _, _, _, call_p (enters_of Tryz.func100 (by kernel_rfl) rfl) (ex_shape7 m) rfl ?_⟩
    refine br_i (fun _ => ?_) (fun hf => absurd hd (by simpa using hf))
    refine ⟨_, call_p (enters_of Tryz.func164 (by kernel_rfl) rfl) (empty_p n) rfl ?_⟩
    refine br_i (fun hx => ?_) (fun hx => ⟨by rw [hV, hx]; simp, rfl⟩)
    rw [hx, Bool.true_and] at hV
    clear hx
    refine ⟨_, call_p (enters_of Tryz.func79 (by kernel_rfl) rfl) (has_p 0 0 m) rfl ?_⟩
    refine br_i (fun hx => ?_) (fun hx => ⟨by rw [hV, hx]; simp, rfl⟩)
    rw [hx, Bool.true_and] at hV
    clear hx
    refine ⟨_, call_p (enters_of Tryz.func34 (by kernel_rfl) rfl) (many_p 0 0 b.length) rfl ?_⟩
    refine br_i (fun hx => ?_) (fun hx => ⟨by rw [hV, hx]; simp, rfl⟩)
    rw [hx, Bool.true_and] at hV
    clear hx
    refine ⟨_, call_p (enters_of Tryz.func34 (by kernel_rfl) rfl) (many_p 3 3 ks.length) rfl ?_⟩
    refine br_i (fun hx => ?_) (fun hx => ⟨by rw [hV, hx]; simp, rfl⟩)
    rw [hx, Bool.true_and] at hV
    clear hx
    refine ⟨_, call_p (enters_of Tryz.func34 (by kernel_rfl) rfl) (many_p 0 0 bs.length) rfl ?_⟩
    refine br_i (fun hx => ?_) (fun hx => ⟨by rw [hV, hx]; simp, rfl⟩)
    rw [hx] at hV
    clear hx
    rw [hV, Bool.true_and]
    refine ⟨_, call_p eA hA rfl ?_⟩
    refine br_i (fun hx => ?_) (fun hx => ⟨by rw [hx]; rfl, rfl⟩)
    exact ⟨_, call_p eB hB rfl ⟨by rw [hx, Bool.true_and], rfl⟩⟩
  by_cases hk8 : k = 8
  · subst hk8
    have hV : V = (noneB n && (inB 0 0 m && (inB 0 0 (b.length : Int) && (inB 1 1 (ks.length : Int) && inB 1 32 (bs.length : Int))))) := by rw [← hV0]; simp [shapeEx, in_0, in_1, in_2, in_3, in_z, numB]
    refine Or.inr (Or.inl ?_)
    refine ⟨_, _, _, _, _, _, _, _, call_p (enters_of Tryz.func100 (by kernel_rfl) rfl) (ex_shape8 m) rfl ?_⟩
    refine br_i (fun _ => ?_) (fun hf => absurd hd (by simpa using hf))
    refine ⟨_, call_p (enters_of Tryz.func164 (by kernel_rfl) rfl) (empty_p n) rfl ?_⟩
    refine br_i (fun hx => ?_) (fun hx => ⟨by rw [hV, hx]; simp, rfl⟩)
    rw [hx, Bool.true_and] at hV
    clear hx
    refine ⟨_, call_p (enters_of Tryz.func79 (by kernel_rfl) rfl) (has_p 0 0 m) rfl ?_⟩
    refine br_i (fun hx => ?_) (fun hx => ⟨by rw [hV, hx]; simp, rfl⟩)
    rw [hx, Bool.true_and] at hV
    clear hx
    refine ⟨_, call_p (enters_of Tryz.func34 (by kernel_rfl) rfl) (many_p 0 0 b.length) rfl ?_⟩
    refine br_i (fun hx => ?_) (fun hx => ⟨by rw [hV, hx]; simp, rfl⟩)
    rw [hx, Bool.true_and] at hV
    clear hx
    refine ⟨_, call_p (enters_of Tryz.func34 (by kernel_rfl) rfl) (many_p 1 1 ks.length) rfl ?_⟩
    refine br_i (fun hx => ?_) (fun hx => ⟨by rw [hV, hx]; simp, rfl⟩)
    rw [hx, Bool.true_and] at hV
    clear hx
    refine ⟨_, call_p (enters_of Tryz.func34 (by kernel_rfl) rfl) (many_p 1 32 bs.length) rfl ?_⟩
    refine br_i (fun hx => ?_) (fun hx => ⟨by rw [hV, hx]; simp, rfl⟩)
    rw [hx] at hV
    clear hx
    rw [hV, Bool.true_and]
    refine ⟨_, call_p eA hA rfl ?_⟩
    refine br_i (fun hx => ?_) (fun hx => ⟨by rw [hx]; rfl, rfl⟩)
    exact ⟨_, call_p eB hB rfl ⟨by rw [hx, Bool.true_and], rfl⟩⟩
  by_cases hk9 : k = 9
  · subst hk9
    have hV : V = (noneB n && (inB 0 11 m && (inB 0 0 (b.length : Int) && (inB (argsOf m) (argsOf m) (ks.length : Int) && inB 0 0 (bs.length : Int))))) := by rw [← hV0]; simp [shapeEx, in_0, in_1, in_2, in_3, in_z, in_i, numB]
    refine Or.inr (Or.inl ?_)
    refine ⟨_, _, _, _, _, _, _, _, call_p (enters_of Tryz.func100 (by kernel_rfl) rfl) (ex_shape9 m) rfl ?_⟩
    refine br_i (fun _ => ?_) (fun hf => absurd hd (by simpa using hf))
    refine ⟨_, call_p (enters_of Tryz.func164 (by kernel_rfl) rfl) (empty_p n) rfl ?_⟩
    refine br_i (fun hx => ?_) (fun hx => ⟨by rw [hV, hx]; simp, rfl⟩)
    rw [hx, Bool.true_and] at hV
    clear hx
    refine ⟨_, call_p (enters_of Tryz.func79 (by kernel_rfl) rfl) (has_p 0 11 m) rfl ?_⟩
    refine br_i (fun hx => ?_) (fun hx => ⟨by rw [hV, hx]; simp, rfl⟩)
    rw [hx, Bool.true_and] at hV
    clear hx
    refine ⟨_, call_p (enters_of Tryz.func34 (by kernel_rfl) rfl) (many_p 0 0 b.length) rfl ?_⟩
    refine br_i (fun hx => ?_) (fun hx => ⟨by rw [hV, hx]; simp, rfl⟩)
    rw [hx, Bool.true_and] at hV
    clear hx
    refine ⟨_, call_p (enters_of Tryz.func34 (by kernel_rfl) rfl) (many_p (argsOf m) (argsOf m) ks.length) rfl ?_⟩
    refine br_i (fun hx => ?_) (fun hx => ⟨by rw [hV, hx]; simp, rfl⟩)
    rw [hx, Bool.true_and] at hV
    clear hx
    refine ⟨_, call_p (enters_of Tryz.func34 (by kernel_rfl) rfl) (many_p 0 0 bs.length) rfl ?_⟩
    refine br_i (fun hx => ?_) (fun hx => ⟨by rw [hV, hx]; simp, rfl⟩)
    rw [hx] at hV
    clear hx
    rw [hV, Bool.true_and]
    refine ⟨_, call_p eA hA rfl ?_⟩
    refine br_i (fun hx => ?_) (fun hx => ⟨by rw [hx]; rfl, rfl⟩)
    exact ⟨_, call_p eB hB rfl ⟨by rw [hx, Bool.true_and], rfl⟩⟩
  by_cases hk10 : k = 10
  · subst hk10
    have hV : V = (namedB n false && (inB 0 1000 m && (inB 0 0 (b.length : Int) && (inB 2 2 (ks.length : Int) && inB 0 0 (bs.length : Int))))) := by rw [← hV0]; simp [shapeEx, in_0, in_1, in_2, in_3, in_z, numB]
    refine Or.inr (Or.inr (Or.inr (Or.inr (Or.inr (?_)))))
    refine ⟨_, _, _, _, _, _, _, _, call_p (enters_of Tryz.func100 (by kernel_rfl) rfl) (ex_shape10 m) rfl ?_⟩
    refine br_i (fun _ => ?_) (fun hf => absurd hd (by simpa using hf))
    refine ⟨_, call_p (enters_of Tryz.func92 (by kernel_rfl) rfl) (small_p n hn) rfl ?_⟩
    refine br_i (fun hx => ?_) (fun hx => ⟨by rw [hV, hx]; simp, rfl⟩)
    rw [hx, Bool.true_and] at hV
    clear hx
    refine ⟨_, call_p (enters_of Tryz.func79 (by kernel_rfl) rfl) (has_p 0 1000 m) rfl ?_⟩
    refine br_i (fun hx => ?_) (fun hx => ⟨by rw [hV, hx]; simp, rfl⟩)
    rw [hx, Bool.true_and] at hV
    clear hx
    refine ⟨_, call_p (enters_of Tryz.func34 (by kernel_rfl) rfl) (many_p 0 0 b.length) rfl ?_⟩
    refine br_i (fun hx => ?_) (fun hx => ⟨by rw [hV, hx]; simp, rfl⟩)
    rw [hx, Bool.true_and] at hV
    clear hx
    refine ⟨_, call_p (enters_of Tryz.func34 (by kernel_rfl) rfl) (many_p 2 2 ks.length) rfl ?_⟩
    refine br_i (fun hx => ?_) (fun hx => ⟨by rw [hV, hx]; simp, rfl⟩)
    rw [hx, Bool.true_and] at hV
    clear hx
    refine ⟨_, call_p (enters_of Tryz.func34 (by kernel_rfl) rfl) (many_p 0 0 bs.length) rfl ?_⟩
    refine br_i (fun hx => ?_) (fun hx => ⟨by rw [hV, hx]; simp, rfl⟩)
    rw [hx] at hV
    clear hx
    rw [hV, Bool.true_and]
    refine ⟨_, call_p eA hA rfl ?_⟩
    refine br_i (fun hx => ?_) (fun hx => ⟨by rw [hx]; rfl, rfl⟩)
    exact ⟨_, call_p eB hB rfl ⟨by rw [hx, Bool.true_and], rfl⟩⟩
  have hV : V = false := by rw [← hV0]; simp [shapeEx, hk0, hk1, hk2, hk3, hk4, hk5, hk6, hk7, hk8, hk9, hk10]
  refine Or.inl ?_
  refine ⟨_, _, _, _, _, _, _, _, call_p (enters_of Tryz.func100 (by kernel_rfl) rfl) (ex_shape_no k m hk0 hk1 hk2 hk3 hk4 hk5 hk6 hk7 hk8 hk9 hk10) rfl ?_⟩
  refine br_i (fun _ => ?_) (fun hf => absurd hd (by simpa using hf))
  refine ⟨_, call_p (enters_of Tryz.func195 (by kernel_rfl) rfl) (nothing_p n) rfl ?_⟩
  exact br_i (fun hx => by cases hx) (fun hx => ⟨by rw [hV]; rfl, rfl⟩)
theorem fit_exF' (t : Ex) (hs : smallEx t) (hw : wfEx t) : PCalls Tryz.prog 14 [.agg (exP t)] (fun r => r = .con (.bool (fitEx 64 t))) := by
  have h := fit_ex' t hs hw 64 (by omega) (by omega)
  obtain ⟨k', li', co', m', b', n', ks', ps', bs', hp⟩ := ex_mk t
  subst hp
  refine a14 _ _ _ _ _ _ _ _ _ ?_
  unfold p14
  exact ⟨_, call_p (enters_of Tryz.func45 (by kernel_rfl) rfl) h rfl ⟨rfl, rfl⟩⟩
end Go.Proofs.YtcmnjodjebcapaaGreat.Deep

namespace Go.Proofs.YtcmnjodjebcapaaGreat.Deep
open Go.RowKit
set_option linter.unusedVariables false
def p21 (i1 i2 i3 i4 : Int) (l5 : List (List PV)) (s6 : ByteArray) (l7 l8 : List (List PV)) (Q : PV → Heap → Prop) : Prop :=
∃ i9 : Int, ∃ i10 : Int, CallN Tryz.prog 59 [(.agg [(.con (.int .i64 0)), (.con (.int .i64 0))]), (.agg [i1, i2, i3, i4, l5, s6, l7, l8])] [[i1, i2, i3, i4, l5, s6, l7, l8]] (.agg [i9, i10])
  (Q (.tup [i9, i10]) [[i1, i2, i3, i4, l5, s6, l7, l8], [i9, i10]])
theorem a21 (i1 i2 i3 i4 : Int) (l5 : List (List PV)) (s6 : ByteArray) (l7 l8 : List (List PV)) (Q : PV → Heap → Prop) (h : p21 i1 i2 i3 i4 l5 s6 l7 l8 Q) : ACalls Tryz.prog 21 [(.agg [i1, i2, i3, i4, l5, s6, l7, l8])] [] Q := by
  have hb : Option.some (bodyOf Tryz.f21) = Tryz.f21.body := by kernel_rfl
  exact acalls_eq (S := S) (L := loops33) mixed tok Tryz.func21 hb.symm (by kernel_rfl) h
def p59 (i1 i2 i3 i4 i5 i6 : Int) (l7 : List (List PV)) (s8 : ByteArray) (l9 l10 : List (List PV)) (Q : PV → Heap → Prop) : Prop :=
∃ i11 : Int, ∃ i12 : Int, CallN Tryz.prog 127 [l9, (.agg [(IntKind.wrap .i64 (i1 + 1)), i2]), (.fn 128 [])] [[(IntKind.wrap .i64 (i1 + 1)), i2], [i3, i4, i5, i6, l7, s8, l9, l10], [(.con (.int .i64 0)), (.con (.int .i64 0))]] (.agg [i11, i12])
  (∃ i13 : Int, ∃ i14 : Int, CallN Tryz.prog 129 [l10, (.agg [i11, i12]), (.fn 130 [])] [[i11, i12], [i3, i4, i5, i6, l7, s8, l9, l10], [(.con (.int .i64 0)), (.con (.int .i64 0))]] (.agg [i13, i14])
  (Q (.agg [i13, i14]) [[i11, i12], [i3, i4, i5, i6, l7, s8, l9, l10], [i13, i14]]))
theorem a59 (i1 i2 i3 i4 i5 i6 : Int) (l7 : List (List PV)) (s8 : ByteArray) (l9 l10 : List (List PV)) (Q : PV → Heap → Prop) (h : p59 i1 i2 i3 i4 i5 i6 l7 s8 l9 l10 Q) : ACalls Tryz.prog 59 [(.agg [i1, i2]), (.agg [i3, i4, i5, i6, l7, s8, l9, l10])] [] Q := by
  have hb : Option.some (bodyOf Tryz.f59) = Tryz.f59.body := by kernel_rfl
  exact acalls_eq (S := S) (L := loops33) mixed tok Tryz.func59 hb.symm (by kernel_rfl) h
def p131 (i1 i2 i3 i4 i5 : Int) (s6 : ByteArray) (i7 : Int) (l8 : List (List PV)) (Q : PV → Heap → Prop) : Prop :=
∃ i9 : Int, ∃ i10 : Int, CallN Tryz.prog 186 [l8, (.agg [i1, (IntKind.wrap .i64 (i2 + 1))]), (.fn 187 [])] [[i1, (IntKind.wrap .i64 (i2 + 1))], [i3, i4, i5, s6, i7, l8], [(.con (.int .i64 0)), (.con (.int .i64 0))]] (.agg [i9, i10])
  (Q (.agg [i9, i10]) [[i1, (IntKind.wrap .i64 (i2 + 1))], [i3, i4, i5, s6, i7, l8], [i9, i10]])
theorem a131 (i1 i2 i3 i4 i5 : Int) (s6 : ByteArray) (i7 : Int) (l8 : List (List PV)) (Q : PV → Heap → Prop) (h : p131 i1 i2 i3 i4 i5 s6 i7 l8 Q) : ACalls Tryz.prog 131 [(.agg [i1, i2]), (.agg [i3, i4, i5, s6, i7, l8])] [] Q := by
  have hb : Option.some (bodyOf Tryz.f131) = Tryz.f131.body := by kernel_rfl
  exact acalls_eq (S := S) (L := loops33) mixed tok Tryz.func131 hb.symm (by kernel_rfl) h
def p128 (i1 i2 i3 i4 i5 i6 i7 : Int) (l8 : List (List PV)) (s9 : ByteArray) (l10 l11 : List (List PV)) (Q : PV → Heap → Prop) : Prop :=
∃ i12 : Int, ∃ i13 : Int, CallN Tryz.prog 59 [(.agg [i1, i2]), (.agg [i4, i5, i6, i7, l8, s9, l10, l11])] [[i1, i2], [i4, i5, i6, i7, l8, s9, l10, l11], [(.con (.int .i64 0)), (.con (.int .i64 0))]] (.agg [i12, i13])
  (Q (.agg [i12, i13]) [[i1, i2], [i4, i5, i6, i7, l8, s9, l10, l11], [i12, i13]])
theorem a128 (i1 i2 i3 i4 i5 i6 i7 : Int) (l8 : List (List PV)) (s9 : ByteArray) (l10 l11 : List (List PV)) (Q : PV → Heap → Prop) (h : p128 i1 i2 i3 i4 i5 i6 i7 l8 s9 l10 l11 Q) : ACalls Tryz.prog 128 [(.agg [i1, i2]), i3, (.agg [i4, i5, i6, i7, l8, s9, l10, l11])] [] Q := by
  have hb : Option.some (bodyOf Tryz.f128) = Tryz.f128.body := by kernel_rfl
  exact acalls_eq (S := S) (L := loops33) mixed tok Tryz.func128 hb.symm (by kernel_rfl) h
def p130 (i1 i2 i3 i4 i5 i6 : Int) (s7 : ByteArray) (i8 : Int) (l9 : List (List PV)) (i10 i11 i12 i13 : Int) (l14 : List (List PV)) (s15 : ByteArray) (l16 l17 : List (List PV)) (Q : PV → Heap → Prop) : Prop :=
∃ i18 : Int, ∃ i19 : Int, CallN Tryz.prog 131 [(.agg [i1, i2]), (.agg [i4, i5, i6, s7, i8, l9])] [[i1, i2], [i4, i5, i6, s7, i8, l9, i10, i11, i12, i13, l14, s15, l16, l17], [(.con (.int .i64 0)), (.con (.int .i64 0))]] (.agg [i18, i19])
  (∃ i20 : Int, ∃ i21 : Int, CallN Tryz.prog 59 [(.agg [i18, i19]), (.agg [i10, i11, i12, i13, l14, s15, l16, l17])] [[i1, i2], [i4, i5, i6, s7, i8, l9, i10, i11, i12, i13, l14, s15, l16, l17], [(.con (.int .i64 0)), (.con (.int .i64 0))]] (.agg [i20, i21])
  (Q (.agg [i20, i21]) [[i1, i2], [i4, i5, i6, s7, i8, l9, i10, i11, i12, i13, l14, s15, l16, l17], [i20, i21]]))
theorem a130 (i1 i2 i3 i4 i5 i6 : Int) (s7 : ByteArray) (i8 : Int) (l9 : List (List PV)) (i10 i11 i12 i13 : Int) (l14 : List (List PV)) (s15 : ByteArray) (l16 l17 : List (List PV)) (Q : PV → Heap → Prop) (h : p130 i1 i2 i3 i4 i5 i6 s7 i8 l9 i10 i11 i12 i13 l14 s15 l16 l17 Q) : ACalls Tryz.prog 130 [(.agg [i1, i2]), i3, (.agg [i4, i5, i6, s7, i8, l9, i10, i11, i12, i13, l14, s15, l16, l17])] [] Q := by
  have hb : Option.some (bodyOf Tryz.f130) = Tryz.f130.body := by kernel_rfl
  exact acalls_eq (S := S) (L := loops33) mixed tok Tryz.func130 hb.symm (by kernel_rfl) h
def p187 (i1 i2 i3 i4 i5 i6 : Int) (s7 : ByteArray) (i8 : Int) (l9 : List (List PV)) (Q : PV → Heap → Prop) : Prop :=
∃ i10 : Int, ∃ i11 : Int, CallN Tryz.prog 131 [(.agg [i1, i2]), (.agg [i4, i5, i6, s7, i8, l9])] [[i1, i2], [i4, i5, i6, s7, i8, l9], [(.con (.int .i64 0)), (.con (.int .i64 0))]] (.agg [i10, i11])
  (Q (.agg [i10, i11]) [[i1, i2], [i4, i5, i6, s7, i8, l9], [i10, i11]])
theorem a187 (i1 i2 i3 i4 i5 i6 : Int) (s7 : ByteArray) (i8 : Int) (l9 : List (List PV)) (Q : PV → Heap → Prop) (h : p187 i1 i2 i3 i4 i5 i6 s7 i8 l9 Q) : ACalls Tryz.prog 187 [(.agg [i1, i2]), i3, (.agg [i4, i5, i6, s7, i8, l9])] [] Q := by
  have hb : Option.some (bodyOf Tryz.f187) = Tryz.f187.body := by kernel_rfl
  exact acalls_eq (S := S) (L := loops33) mixed tok Tryz.func187 hb.symm (by kernel_rfl) h
def loops127k (id : Nat) : Option (List Nat × List (Nat × Sh)) := match Nat.beq id 2 with | true => some ([2, 4, 6, 9, 10], [(11, .int .i64), (1000000, .int .i64), (1000001, .int .i64)]) | false => none
def p127k (l1 : List (List PV)) (i2 i3 : Int) (Q : PV → Heap → Prop) : Prop :=
∃ I4 : Nat → ((Int) × (Int) × (Int) × Unit) → Prop, (∃ n, I4 n (0, i2, i3, ())) ∧ ∀ (n5 : Nat) (v6 : (Int) × (Int) × (Int) × Unit), I4 n5 v6 →
  (br ((decide ((v6.1 : Int) < (List.length l1 : Int))))
  (∃ i7 : Int, ∃ i8 : Int, ∃ i9 : Int, ∃ i10 : Int, ∃ l11 : List (List PV), ∃ s12 : ByteArray, ∃ l13 : List (List PV), ∃ l14 : List (List PV), IdxN l1 v6.1 [i7, i8, i9, i10, l11, s12, l13, l14]
  (∃ i15 : Int, ∃ i16 : Int, CallN Tryz.prog 128 [(.agg [v6.2.1, v6.2.2.1]), v6.1, (.agg [i7, i8, i9, i10, l11, s12, l13, l14])] [[v6.2.1, v6.2.2.1], [(.con (.int .i64 0)), (.con (.int .i64 0))], [i7, i8, i9, i10, l11, s12, l13, l14]] (.agg [i15, i16])
  ((@Eq PV (.fn 128 []) (.fn 128 []) ∧ @Eq PV (.ptr 0 0) (.ptr 0 0) ∧ @Eq PV (.ptr 1 0) (.ptr 1 0) ∧ @Eq PV l1 l1 ∧ @Eq PV (.con (.int .i64 (List.length l1 : Int))) (.con (.int .i64 (List.length l1 : Int))) ∧ True) ∧ @Eq Heap [[i15, i16], [(.con (.int .i64 0)), (.con (.int .i64 0))]] [[i15, i16], [(.con (.int .i64 0)), (.con (.int .i64 0))]] ∧ ∃ k17, k17 < n5 ∧ I4 k17 ((IntKind.wrap .i64 (v6.1 + 1)), i15, i16, ()))))
  (Q (.agg [v6.2.1, v6.2.2.1]) [[v6.2.1, v6.2.2.1], [v6.2.1, v6.2.2.1]]))
theorem a127k (l1 : List (List PV)) (i2 i3 : Int) (Q : PV → Heap → Prop) (h : p127k l1 i2 i3 Q) : ACalls Tryz.prog 127 [l1, (.agg [i2, i3]), (.fn 128 [])] [] Q := by
  have hb : Option.some (bodyOf Tryz.f127) = Tryz.f127.body := by kernel_rfl
  exact acalls_eq (S := S) (L := loops127k) mixed tok Tryz.func127 hb.symm (by kernel_rfl) h
def loops129k (id : Nat) : Option (List Nat × List (Nat × Sh)) := match Nat.beq id 2 with | true => some ([2, 4, 6, 9, 10], [(11, .int .i64), (1000000, .int .i64), (1000001, .int .i64)]) | false => none
def p129k (l1 : List (List PV)) (i2 i3 : Int) (Q : PV → Heap → Prop) : Prop :=
∃ I4 : Nat → ((Int) × (Int) × (Int) × Unit) → Prop, (∃ n, I4 n (0, i2, i3, ())) ∧ ∀ (n5 : Nat) (v6 : (Int) × (Int) × (Int) × Unit), I4 n5 v6 →
  (br ((decide ((v6.1 : Int) < (List.length l1 : Int))))
  (∃ i7 : Int, ∃ i8 : Int, ∃ i9 : Int, ∃ s10 : ByteArray, ∃ i11 : Int, ∃ l12 : List (List PV), ∃ i13 : Int, ∃ i14 : Int, ∃ i15 : Int, ∃ i16 : Int, ∃ l17 : List (List PV), ∃ s18 : ByteArray, ∃ l19 : List (List PV), ∃ l20 : List (List PV), IdxN l1 v6.1 [i7, i8, i9, s10, i11, l12, i13, i14, i15, i16, l17, s18, l19, l20]
  (∃ i21 : Int, ∃ i22 : Int, CallN Tryz.prog 130 [(.agg [v6.2.1, v6.2.2.1]), v6.1, (.agg [i7, i8, i9, s10, i11, l12, i13, i14, i15, i16, l17, s18, l19, l20])] [[v6.2.1, v6.2.2.1], [(.con (.int .i64 0)), (.con (.int .i64 0))], [i7, i8, i9, s10, i11, l12, i13, i14, i15, i16, l17, s18, l19, l20]] (.agg [i21, i22])
  ((@Eq PV (.fn 130 []) (.fn 130 []) ∧ @Eq PV (.ptr 0 0) (.ptr 0 0) ∧ @Eq PV (.ptr 1 0) (.ptr 1 0) ∧ @Eq PV l1 l1 ∧ @Eq PV (.con (.int .i64 (List.length l1 : Int))) (.con (.int .i64 (List.length l1 : Int))) ∧ True) ∧ @Eq Heap [[i21, i22], [(.con (.int .i64 0)), (.con (.int .i64 0))]] [[i21, i22], [(.con (.int .i64 0)), (.con (.int .i64 0))]] ∧ ∃ k23, k23 < n5 ∧ I4 k23 ((IntKind.wrap .i64 (v6.1 + 1)), i21, i22, ()))))
  (Q (.agg [v6.2.1, v6.2.2.1]) [[v6.2.1, v6.2.2.1], [v6.2.1, v6.2.2.1]]))
theorem a129k (l1 : List (List PV)) (i2 i3 : Int) (Q : PV → Heap → Prop) (h : p129k l1 i2 i3 Q) : ACalls Tryz.prog 129 [l1, (.agg [i2, i3]), (.fn 130 [])] [] Q := by
  have hb : Option.some (bodyOf Tryz.f129) = Tryz.f129.body := by kernel_rfl
  exact acalls_eq (S := S) (L := loops129k) mixed tok Tryz.func129 hb.symm (by kernel_rfl) h
def loops186k (id : Nat) : Option (List Nat × List (Nat × Sh)) := match Nat.beq id 2 with | true => some ([2, 4, 6, 9, 10], [(11, .int .i64), (1000000, .int .i64), (1000001, .int .i64)]) | false => none
def p186k (l1 : List (List PV)) (i2 i3 : Int) (Q : PV → Heap → Prop) : Prop :=
∃ I4 : Nat → ((Int) × (Int) × (Int) × Unit) → Prop, (∃ n, I4 n (0, i2, i3, ())) ∧ ∀ (n5 : Nat) (v6 : (Int) × (Int) × (Int) × Unit), I4 n5 v6 →
  (br ((decide ((v6.1 : Int) < (List.length l1 : Int))))
  (∃ i7 : Int, ∃ i8 : Int, ∃ i9 : Int, ∃ s10 : ByteArray, ∃ i11 : Int, ∃ l12 : List (List PV), IdxN l1 v6.1 [i7, i8, i9, s10, i11, l12]
  (∃ i13 : Int, ∃ i14 : Int, CallN Tryz.prog 187 [(.agg [v6.2.1, v6.2.2.1]), v6.1, (.agg [i7, i8, i9, s10, i11, l12])] [[v6.2.1, v6.2.2.1], [(.con (.int .i64 0)), (.con (.int .i64 0))], [i7, i8, i9, s10, i11, l12]] (.agg [i13, i14])
  ((@Eq PV (.fn 187 []) (.fn 187 []) ∧ @Eq PV (.ptr 0 0) (.ptr 0 0) ∧ @Eq PV (.ptr 1 0) (.ptr 1 0) ∧ @Eq PV l1 l1 ∧ @Eq PV (.con (.int .i64 (List.length l1 : Int))) (.con (.int .i64 (List.length l1 : Int))) ∧ True) ∧ @Eq Heap [[i13, i14], [(.con (.int .i64 0)), (.con (.int .i64 0))]] [[i13, i14], [(.con (.int .i64 0)), (.con (.int .i64 0))]] ∧ ∃ k15, k15 < n5 ∧ I4 k15 ((IntKind.wrap .i64 (v6.1 + 1)), i13, i14, ()))))
  (Q (.agg [v6.2.1, v6.2.2.1]) [[v6.2.1, v6.2.2.1], [v6.2.1, v6.2.2.1]]))
theorem a186k (l1 : List (List PV)) (i2 i3 : Int) (Q : PV → Heap → Prop) (h : p186k l1 i2 i3 Q) : ACalls Tryz.prog 186 [l1, (.agg [i2, i3]), (.fn 187 [])] [] Q := by
  have hb : Option.some (bodyOf Tryz.f186) = Tryz.f186.body := by kernel_rfl
  exact acalls_eq (S := S) (L := loops186k) mixed tok Tryz.func186 hb.symm (by kernel_rfl) h
end Go.Proofs.YtcmnjodjebcapaaGreat.Deep

namespace Go.Proofs.YtcmnjodjebcapaaGreat.Deep
open Go.RowKit
set_option linter.unusedVariables false
set_option linter.unusedSimpArgs false
def W (n : Int) : Int := IntKind.i64.wrap n
theorem W_l (a b : Int) : IntKind.i64.wrap (W a + b) = W (a + b) := by unfold W; simp only [IntKind.wrap_i64]; omega
theorem W_lr (a b : Int) : IntKind.i64.wrap (W a + W b) = W (a + b) := by unfold W; simp only [IntKind.wrap_i64]; omega
theorem W_zero : W 0 = 0 := by decide
theorem W_id {n : Int} (h1 : -9223372036854775808 ≤ n) (h2 : n ≤ 9223372036854775807) : W n = n := wrap_id h1 h2
mutual
def cntP : Pt → Int
  | .mk _ _ _ _ _ ks => 1 + cntPs ks
def cntPs : List Pt → Int
  | [] => 0
  | t :: ts => cntP t + cntPs ts
end
mutual
def cntE : Ex → Int
  | .mk _ _ _ _ _ _ ks _ bs => 1 + (cntEs ks + cntEs bs)
def cntEs : List Ex → Int
  | [] => 0
  | t :: ts => cntE t + cntEs ts
end
mutual
def cntQ : Ex → Int
  | .mk _ _ _ _ _ _ ks ps bs => cntQs ks + (cntPs ps + cntQs bs)
def cntQs : List Ex → Int
  | [] => 0
  | t :: ts => cntQ t + cntQs ts
end
def sumTo (f : Nat → Int) : Nat → Int
  | 0 => 0
  | n + 1 => sumTo f n + f n
theorem sumTo_add (f g : Nat → Int) : ∀ n, sumTo (fun j => f j + g j) n = sumTo f n + sumTo g n
  | 0 => rfl
  | n + 1 => by simp only [sumTo]; rw [sumTo_add f g n]; omega
theorem sumTo_zero : ∀ n, sumTo (fun _ => 0) n = 0
  | 0 => rfl
  | n + 1 => by simp only [sumTo]; rw [sumTo_zero n]; rfl
theorem sumTo_shift (f : Nat → Int) : ∀ n, sumTo f (n + 1) = f 0 + sumTo (fun j => f (j + 1)) n
  | 0 => by simp [sumTo]
  | n + 1 => by rw [sumTo, sumTo_shift f n, sumTo]; omega
theorem cntPs_sum (d : Pt) : ∀ ts : List Pt, cntPs ts = sumTo (fun j => cntP (ts.getD j d)) ts.length
  | [] => rfl
  | t :: ts => by rw [cntPs, cntPs_sum d ts, List.length_cons, sumTo_shift]; rfl
theorem cntEs_sum (d : Ex) : ∀ ts : List Ex, cntEs ts = sumTo (fun j => cntE (ts.getD j d)) ts.length
  | [] => rfl
  | t :: ts => by rw [cntEs, cntEs_sum d ts, List.length_cons, sumTo_shift]; rfl
theorem cntQs_sum (d : Ex) : ∀ ts : List Ex, cntQs ts = sumTo (fun j => cntQ (ts.getD j d)) ts.length
  | [] => rfl
  | t :: ts => by rw [cntQs, cntQs_sum d ts, List.length_cons, sumTo_shift]; rfl
def cP (a b : Int) : PV := .agg [.con (.int .i64 (W a)), .con (.int .i64 (W b))]
theorem countE (l : List (List PV)) (n : Nat) (hn : l.length = n) (hm : n ≤ 9223372036854775806) (f g : Nat → Int) (H : ∀ j, j < n → ∃ x0 : Int, ∃ x1 : Int, ∃ x2 : Int, ∃ x3 : Int, ∃ x4 : List (List PV), ∃ x5 : ByteArray, ∃ x6 : List (List PV), ∃ x7 : List (List PV), l[j]? = some [.con (.int .i64 x0), .con (.int .i64 x1), .con (.int .i64 x2), .con (.int .i64 x3), .sl x4, .con (.string x5), .sl x6, .sl x7] ∧ ∀ a b : Int, PCalls Tryz.prog 128 [cP a b, .con (.int .i64 j), .agg [.con (.int .i64 x0), .con (.int .i64 x1), .con (.int .i64 x2), .con (.int .i64 x3), .sl x4, .con (.string x5), .sl x6, .sl x7]] (fun r => r = cP (a + f j) (b + g j))) (a b : Int) : PCalls Tryz.prog 127 [.sl l, cP a b, .fn 128 []] (fun r => r = cP (a + sumTo f n) (b + sumTo g n)) := by
  refine a127k _ _ _ _ ?_
  unfold p127k
  rw [hn]
  refine ⟨fun c v => ∃ j : Nat, j ≤ n ∧ c = n - j ∧ v.1 = (j : Int) ∧ v.2.1 = W (a + sumTo f j) ∧ v.2.2.1 = W (b + sumTo g j), ⟨_, 0, Nat.zero_le _, rfl, rfl, by simp [sumTo], by simp [sumTo]⟩, ?_⟩
  rintro c ⟨i, p, q, u⟩ ⟨j, hj, rfl, hi, hp, hq⟩
  dsimp only at hi hp hq ⊢
  subst hi hp hq
  refine br_i (fun hlt => ?_) (fun hge => ?_)
  · have hlt : j < n := by simpa using hlt
    obtain ⟨x0, x1, x2, x3, x4, x5, x6, x7, hx, hc⟩ := H j hlt
    refine ⟨_, _, _, _, _, _, _, _, ⟨by omega, by rw [Int.toNat_natCast]; exact hx, ?_⟩⟩
    refine ⟨_, _, call_p (enters_of Tryz.func128 (by kernel_rfl) rfl) (hc (a + sumTo f j) (b + sumTo g j)) rfl ⟨⟨by trivial, by trivial, by trivial, by trivial, by trivial, trivial⟩, by trivial, n - (j + 1), by omega, j + 1, by omega, rfl, ?_, ?_, ?_⟩⟩
    · rw [wrap_id (by omega) (by omega)]; simp
    · rw [sumTo, Int.add_assoc]
    · rw [sumTo, Int.add_assoc]
  · have hge : ¬ j < n := by simpa using hge
    obtain rfl : j = n := by omega
    exact ⟨rfl, rfl⟩
theorem countA (l : List (List PV)) (n : Nat) (hn : l.length = n) (hm : n ≤ 9223372036854775806) (f g : Nat → Int) (H : ∀ j, j < n → ∃ x0 : Int, ∃ x1 : Int, ∃ x2 : Int, ∃ x3 : ByteArray, ∃ x4 : Int, ∃ x5 : List (List PV), ∃ x6 : Int, ∃ x7 : Int, ∃ x8 : Int, ∃ x9 : Int, ∃ x10 : List (List PV), ∃ x11 : ByteArray, ∃ x12 : List (List PV), ∃ x13 : List (List PV), l[j]? = some [.con (.int .i64 x0), .con (.int .i64 x1), .con (.int .i64 x2), .con (.string x3), .con (.int .i64 x4), .sl x5, .con (.int .i64 x6), .con (.int .i64 x7), .con (.int .i64 x8), .con (.int .i64 x9), .sl x10, .con (.string x11), .sl x12, .sl x13] ∧ ∀ a b : Int, PCalls Tryz.prog 130 [cP a b, .con (.int .i64 j), .agg [.con (.int .i64 x0), .con (.int .i64 x1), .con (.int .i64 x2), .con (.string x3), .con (.int .i64 x4), .sl x5, .con (.int .i64 x6), .con (.int .i64 x7), .con (.int .i64 x8), .con (.int .i64 x9), .sl x10, .con (.string x11), .sl x12, .sl x13]] (fun r => r = cP (a + f j) (b + g j))) (a b : Int) : PCalls Tryz.prog 129 [.sl l, cP a b, .fn 130 []] (fun r => r = cP (a + sumTo f n) (b + sumTo g n)) := by
  refine a129k _ _ _ _ ?_
  unfold p129k
  rw [hn]
  refine ⟨fun c v => ∃ j : Nat, j ≤ n ∧ c = n - j ∧ v.1 = (j : Int) ∧ v.2.1 = W (a + sumTo f j) ∧ v.2.2.1 = W (b + sumTo g j), ⟨_, 0, Nat.zero_le _, rfl, rfl, by simp [sumTo], by simp [sumTo]⟩, ?_⟩
  rintro c ⟨i, p, q, u⟩ ⟨j, hj, rfl, hi, hp, hq⟩
  dsimp only at hi hp hq ⊢
  subst hi hp hq
  refine br_i (fun hlt => ?_) (fun hge => ?_)
  · have hlt : j < n := by simpa using hlt
    obtain ⟨x0, x1, x2, x3, x4, x5, x6, x7, x8, x9, x10, x11, x12, x13, hx, hc⟩ := H j hlt
    refine ⟨_, _, _, _, _, _, _, _, _, _, _, _, _, _, ⟨by omega, by rw [Int.toNat_natCast]; exact hx, ?_⟩⟩
    refine ⟨_, _, call_p (enters_of Tryz.func130 (by kernel_rfl) rfl) (hc (a + sumTo f j) (b + sumTo g j)) rfl ⟨⟨by trivial, by trivial, by trivial, by trivial, by trivial, trivial⟩, by trivial, n - (j + 1), by omega, j + 1, by omega, rfl, ?_, ?_, ?_⟩⟩
    · rw [wrap_id (by omega) (by omega)]; simp
    · rw [sumTo, Int.add_assoc]
    · rw [sumTo, Int.add_assoc]
  · have hge : ¬ j < n := by simpa using hge
    obtain rfl : j = n := by omega
    exact ⟨rfl, rfl⟩
theorem countP (l : List (List PV)) (n : Nat) (hn : l.length = n) (hm : n ≤ 9223372036854775806) (f g : Nat → Int) (H : ∀ j, j < n → ∃ x0 : Int, ∃ x1 : Int, ∃ x2 : Int, ∃ x3 : ByteArray, ∃ x4 : Int, ∃ x5 : List (List PV), l[j]? = some [.con (.int .i64 x0), .con (.int .i64 x1), .con (.int .i64 x2), .con (.string x3), .con (.int .i64 x4), .sl x5] ∧ ∀ a b : Int, PCalls Tryz.prog 187 [cP a b, .con (.int .i64 j), .agg [.con (.int .i64 x0), .con (.int .i64 x1), .con (.int .i64 x2), .con (.string x3), .con (.int .i64 x4), .sl x5]] (fun r => r = cP (a + f j) (b + g j))) (a b : Int) : PCalls Tryz.prog 186 [.sl l, cP a b, .fn 187 []] (fun r => r = cP (a + sumTo f n) (b + sumTo g n)) := by
  refine a186k _ _ _ _ ?_
  unfold p186k
  rw [hn]
  refine ⟨fun c v => ∃ j : Nat, j ≤ n ∧ c = n - j ∧ v.1 = (j : Int) ∧ v.2.1 = W (a + sumTo f j) ∧ v.2.2.1 = W (b + sumTo g j), ⟨_, 0, Nat.zero_le _, rfl, rfl, by simp [sumTo], by simp [sumTo]⟩, ?_⟩
  rintro c ⟨i, p, q, u⟩ ⟨j, hj, rfl, hi, hp, hq⟩
  dsimp only at hi hp hq ⊢
  subst hi hp hq
  refine br_i (fun hlt => ?_) (fun hge => ?_)
  · have hlt : j < n := by simpa using hlt
    obtain ⟨x0, x1, x2, x3, x4, x5, hx, hc⟩ := H j hlt
    refine ⟨_, _, _, _, _, _, ⟨by omega, by rw [Int.toNat_natCast]; exact hx, ?_⟩⟩
    refine ⟨_, _, call_p (enters_of Tryz.func187 (by kernel_rfl) rfl) (hc (a + sumTo f j) (b + sumTo g j)) rfl ⟨⟨by trivial, by trivial, by trivial, by trivial, by trivial, trivial⟩, by trivial, n - (j + 1), by omega, j + 1, by omega, rfl, ?_, ?_, ?_⟩⟩
    · rw [wrap_id (by omega) (by omega)]; simp
    · rw [sumTo, Int.add_assoc]
    · rw [sumTo, Int.add_assoc]
  · have hge : ¬ j < n := by simpa using hge
    obtain rfl : j = n := by omega
    exact ⟨rfl, rfl⟩
theorem cnt_pt (t : Pt) : smallPt t → ∀ a b : Int, PCalls Tryz.prog 131 [cP a b, .agg (ptP t)] (fun r => r = cP a (b + cntP t)) := by
  induction t using Pt.ind with
  | h k li co n m ps ih =>
  intro hs a b
  unfold smallPt at hs
  have hF := countP (ptPs ps) ps.length (ptPs_len ps) (by omega) (fun _ => 0) (fun j => cntP (ps.getD j Pt.zero)) (fun j hj => by
    have hx := ptPs_get ps j hj
    have hi := ih j hj (smallPts_get ps hs.2.2 j hj)
    rw [getD_at ps Pt.zero j hj]
    obtain ⟨k', li', co', n', m', ps', hp⟩ := pt_mk ps[j]
    rw [hp] at hx hi ⊢
    refine ⟨_, _, _, _, _, _, hx, fun a b => ?_⟩
    refine a187 _ _ _ _ _ _ _ _ _ _ ?_
    unfold p187
    rw [Int.add_zero]
    exact ⟨_, _, call_p (enters_of Tryz.func131 (by kernel_rfl) rfl) (hi a b) rfl ⟨rfl, rfl⟩⟩) a (b + 1)
  rw [sumTo_zero, Int.add_zero, ← cntPs_sum, Int.add_assoc] at hF
  unfold cntP
  refine a131 _ _ _ _ _ _ _ _ _ ?_
  unfold p131
  rw [W_l]
  exact ⟨_, _, call_p (enters_of Tryz.func186 (by kernel_rfl) rfl) hF rfl ⟨rfl, rfl⟩⟩
theorem cnt_ex (t : Ex) : smallEx t → wfEx t → ∀ a b : Int, PCalls Tryz.prog 59 [cP a b, .agg (exP t)] (fun r => r = cP (a + cntE t) (b + cntQ t)) := by
  induction t using Ex.ind with
  | h k li co m by_ n ks ps bs ihk ihb =>
  intro hs hw a b
  unfold smallEx at hs
  unfold wfEx at hw
  obtain ⟨hpb, hwk, hwb⟩ := hw
  have hK := countE (exPs ks) ks.length (exPs_len ks) (by omega) (fun j => cntE (ks.getD j Ex.zero)) (fun j => cntQ (ks.getD j Ex.zero)) (fun j hj => by
    have hx := exPs_get ks j hj
    have hi := ihk j hj (smallExs_get ks (by simp only [hs]) j hj) (wfExs_at ks hwk j hj)
    rw [getD_at ks Ex.zero j hj]
    obtain ⟨k', li', co', m', b', n', ks', ps', bs', hp⟩ := ex_mk ks[j]
    rw [hp] at hx hi ⊢
    refine ⟨_, _, _, _, _, _, _, _, hx, fun a b => ?_⟩
    refine a128 _ _ _ _ _ _ _ _ _ _ _ _ ?_
    unfold p128
    exact ⟨_, _, call_p (enters_of Tryz.func59 (by kernel_rfl) rfl) (hi a b) rfl ⟨rfl, rfl⟩⟩) (a + 1) b
  have hA := countA (arPs bs ps) bs.length (arPs_len bs ps hpb) (by omega) (fun j => cntE (bs.getD j Ex.zero)) (fun j => cntP (ps.getD j Pt.zero) + cntQ (bs.getD j Ex.zero)) (fun j hj => by
    have hjp : j < ps.length := by omega
    have hx := arPs_get bs ps j hj hjp
    have hi := ihb j hj (smallExs_get bs (by simp only [hs]) j hj) (wfExs_at bs hwb j hj)
    have hq := cnt_pt ps[j] (smallPts_get ps (by simp only [hs]) j hjp)
    rw [getD_at bs Ex.zero j hj, getD_at ps Pt.zero j hjp]
    obtain ⟨k', li', co', m', b', n', ks', ps', bs', hp⟩ := ex_mk bs[j]
    obtain ⟨k2, li2, co2, n2, m2, ps2, hp2⟩ := pt_mk ps[j]
    rw [hp] at hx hi ⊢
    rw [hp2] at hx hq ⊢
    refine ⟨_, _, _, _, _, _, _, _, _, _, _, _, _, _, hx, fun a b => ?_⟩
    refine a130 _ _ _ _ _ _ _ _ _ _ _ _ _ _ _ _ _ _ ?_
    unfold p130
    refine ⟨_, _, call_p (enters_of Tryz.func131 (by kernel_rfl) rfl) (hq a b) rfl ?_⟩
    rw [← Int.add_assoc]
    exact ⟨_, _, call_p (enters_of Tryz.func59 (by kernel_rfl) rfl) (hi a (b + cntP (.mk k2 li2 co2 n2 m2 ps2))) rfl ⟨rfl, rfl⟩⟩) (a + 1 + cntEs ks) (b + cntQs ks)
  rw [← cntEs_sum, ← cntQs_sum] at hK
  rw [sumTo_add, ← cntEs_sum, ← cntQs_sum, ← hpb, ← cntPs_sum] at hA
  rw [show a + cntE (.mk k li co m by_ n ks ps bs) = a + 1 + cntEs ks + cntEs bs by rw [cntE]; omega, show b + cntQ (.mk k li co m by_ n ks ps bs) = b + cntQs ks + (cntPs ps + cntQs bs) by rw [cntQ]; omega]
  refine a59 _ _ _ _ _ _ _ _ _ _ _ ?_
  unfold p59
  rw [W_l]
  refine ⟨_, _, call_p (enters_of Tryz.func127 (by kernel_rfl) rfl) hK rfl ?_⟩
  exact ⟨_, _, call_p (enters_of Tryz.func129 (by kernel_rfl) rfl) hA rfl ⟨rfl, rfl⟩⟩
theorem nodes_p (t : Ex) (hs : smallEx t) (hw : wfEx t) : PCalls Tryz.prog 21 [.agg (exP t)] (fun r => r = .tup [.con (.int .i64 (W (cntE t))), .con (.int .i64 (W (cntQ t)))]) := by
  have h := cnt_ex t hs hw 0 0
  rw [Int.zero_add, Int.zero_add] at h
  unfold cP at h
  rw [W_zero] at h
  obtain ⟨k', li', co', m', b', n', ks', ps', bs', hp⟩ := ex_mk t
  subst hp
  refine a21 _ _ _ _ _ _ _ _ _ ?_
  unfold p21
  exact ⟨_, _, call_p (enters_of Tryz.func59 (by kernel_rfl) rfl) h rfl ⟨rfl, rfl⟩⟩
end Go.Proofs.YtcmnjodjebcapaaGreat.Deep

namespace Go.Proofs.YtcmnjodjebcapaaGreat.Deep
open Go.RowKit
set_option linter.unusedVariables false
def p136 (i1 i2 i3 i4 : Int) (l5 : List (List PV)) (s6 : ByteArray) (l7 l8 : List (List PV)) (i9 : Int) (Q : PV → Heap → Prop) : Prop :=
br (((i9 : Int) == 1))
  (br (((i1 : Int) == 6))
  (Q (.own 1 9 1 [[s6]]) [[i1, i2, i3, i4, l5, s6, l7, l8], [.tip]])
  (br (((i1 : Int) == 10))
  (Q (.own 1 9 1 [[s6]]) [[i1, i2, i3, i4, l5, s6, l7, l8], [.tip]])
  (Q (.con (.slice none 0 0)) [[i1, i2, i3, i4, l5, s6, l7, l8]])))
  (Q (.con (.slice none 0 0)) [[i1, i2, i3, i4, l5, s6, l7, l8]])
theorem a136 (i1 i2 i3 i4 : Int) (l5 : List (List PV)) (s6 : ByteArray) (l7 l8 : List (List PV)) (i9 : Int) (Q : PV → Heap → Prop) (h : p136 i1 i2 i3 i4 l5 s6 l7 l8 i9 Q) : ACalls Tryz.prog 136 [(.agg [i1, i2, i3, i4, l5, s6, l7, l8]), i9] [] Q := by
  have hb : Option.some (bodyOf Tryz.f136) = Tryz.f136.body := by kernel_rfl
  exact acalls_eq (S := S) (L := loops33) mixed tok Tryz.func136 hb.symm (by kernel_rfl) h
def p139 (l1 : List (List PV)) (i2 i3 i4 i5 : Int) (s6 : ByteArray) (i7 : Int) (l8 : List (List PV)) (Q : PV → Heap → Prop) : Prop :=
br (((i3 : Int) == 1))
  (AppN l1 [[s6]] 1 16 PV.one
  (∃ l9 : List (List PV), CallF Tryz.prog 189 [l8, (.own 0 9 1 (l1 ++ ([[s6]] : List (List PV)))), (.fn 139 [])] [[.tip]] (.own 1 9 1 l9) [[], [.tip]]
  (Q (.own 1 9 1 l9) [[], [.tip]])))
  (∃ l10 : List (List PV), CallF Tryz.prog 189 [l8, (.own 0 9 1 l1), (.fn 139 [])] [[.tip]] (.own 1 9 1 l10) [[], [.tip]]
  (Q (.own 1 9 1 l10) [[], [.tip]]))
theorem a139 (l1 : List (List PV)) (i2 i3 i4 i5 : Int) (s6 : ByteArray) (i7 : Int) (l8 : List (List PV)) (Q : PV → Heap → Prop) (h : p139 l1 i2 i3 i4 i5 s6 i7 l8 Q) : ACalls Tryz.prog 139 [(.own 0 9 1 l1), i2, (.agg [i3, i4, i5, s6, i7, l8])] [[.tip]] Q := by
  have hb : Option.some (bodyOf Tryz.f139) = Tryz.f139.body := by kernel_rfl
  exact acalls_canon (res := [.cell (.own 1 9 1)]) (post := [.dead, .tip]) (acalls_eq (S := S) (L := loops33) mixed tok Tryz.func139 hb.symm (by kernel_rfl) h)
def loops189k (id : Nat) : Option (List Nat × List (Nat × Sh)) := match Nat.beq id 2 with | true => some ([2, 9, 10], [(1, .own 0 9 1), (11, .int .i64)]) | false => none
def p189k (l1 l2 : List (List PV)) (Q : PV → Heap → Prop) : Prop :=
∃ I3 : Nat → ((List (List PV)) × (Int) × Unit) → Prop, (∃ n, I3 n (l2, 0, ())) ∧ ∀ (n4 : Nat) (v5 : (List (List PV)) × (Int) × Unit), I3 n4 v5 →
  (br ((decide ((v5.2.1 : Int) < (List.length l1 : Int))))
  (∃ i6 : Int, ∃ i7 : Int, ∃ i8 : Int, ∃ s9 : ByteArray, ∃ i10 : Int, ∃ l11 : List (List PV), IdxN l1 v5.2.1 [i6, i7, i8, s9, i10, l11]
  (∃ l12 : List (List PV), CallF Tryz.prog 139 [(.own 0 9 1 v5.1), v5.2.1, (.agg [i6, i7, i8, s9, i10, l11])] [[.tip]] (.own 1 9 1 l12) [[], [.tip]]
  ((@Eq PV (.fn 139 []) (.fn 139 []) ∧ @Eq PV l1 l1 ∧ @Eq PV (.con (.int .i64 (List.length l1 : Int))) (.con (.int .i64 (List.length l1 : Int))) ∧ True) ∧ @Eq Heap [[]] [[]] ∧ ∃ k13, k13 < n4 ∧ I3 k13 (l12, (IntKind.wrap .i64 (v5.2.1 + 1)), ()))))
  (Q (.own 1 9 1 v5.1) [[], [.tip]]))
theorem a189k (l1 l2 : List (List PV)) (Q : PV → Heap → Prop) (h : p189k l1 l2 Q) : ACalls Tryz.prog 189 [l1, (.own 0 9 1 l2), (.fn 139 [])] [[.tip]] Q := by
  have hb : Option.some (bodyOf Tryz.f189) = Tryz.f189.body := by kernel_rfl
  exact acalls_canon (res := [.cell (.own 1 9 1)]) (post := [.dead, .tip]) (acalls_eq (S := S) (L := loops189k) mixed tok Tryz.func189 hb.symm (by kernel_rfl) h)
def p188 (s1 : ByteArray) (l2 : List (List PV)) (n3 : Nat) (D4 : DataW Unit) (n5 : Nat) (D6 : DataW Unit) (Q : PV → Heap → Prop) : Prop :=
∃ c7 : Int, MapN D4 s1 .i64 c7
  (MapU n3 s1 .i64 (IntKind.wrap .i64 (c7 - 1))
  (∃ c8 : Int, MapN (DataW.put D4 (.string (Array.toList (ByteArray.data s1))) (.lit (.int .i64 (IntKind.wrap .i64 (c7 - 1))))) s1 .i64 c8
  (br (((c8 : Int) == 0))
  (MapD s1
  (Q (.tup []) [[(.mp 1), (.mp 2), (.own 3 9 1 l2)], [(.mpc 9 3 (n3 + 1) (DataW.del (DataW.put D4 (.string (Array.toList (ByteArray.data s1))) (.lit (.int .i64 (IntKind.wrap .i64 (c7 - 1))))) (.string (Array.toList (ByteArray.data s1)))))], [(.mpc 9 3 n5 D6)], [.tip]]))
  (Q (.tup []) [[(.mp 1), (.mp 2), (.own 3 9 1 l2)], [(.mpc 9 3 (n3 + 1) (DataW.put D4 (.string (Array.toList (ByteArray.data s1))) (.lit (.int .i64 (IntKind.wrap .i64 (c7 - 1))))))], [(.mpc 9 3 n5 D6)], [.tip]]))))
theorem a188 (s1 : ByteArray) (l2 : List (List PV)) (n3 : Nat) (D4 : DataW Unit) (n5 : Nat) (D6 : DataW Unit) (Q : PV → Heap → Prop) (h : p188 s1 l2 n3 D4 n5 D6 Q) : ACalls Tryz.prog 188 [(.ptr 0 0), s1] [[(.mp 1), (.mp 2), (.own 3 9 1 l2)], [(.mpc 9 3 n3 D4)], [(.mpc 9 3 n5 D6)], [.tip]] Q := by
  have hb : Option.some (bodyOf Tryz.f188) = Tryz.f188.body := by kernel_rfl
  exact acalls_canon (res := []) (post := [.keep, .cells [.mpc 9 3], .keep, .keep]) (acalls_eq (S := S) (L := loops33) mixed tok Tryz.func188 hb.symm (by kernel_rfl) h)
def p132 (s1 : ByteArray) (l2 : List (List PV)) (n3 : Nat) (D4 : DataW Unit) (n5 : Nat) (D6 : DataW Unit) (Q : PV → Heap → Prop) : Prop :=
∃ c7 : Int, MapN D4 s1 .i64 c7
  (br ((decide ((c7 : Int) > 0)))
  (Q (.tup []) [[(.mp 1), (.mp 2), (.own 4 9 1 l2)], [(.mpc 9 3 n3 D4)], [(.mpc 9 3 n5 D6)], [], [.tip]])
  (∃ c8 : Int, MapN D6 s1 .i64 c8
  (br ((decide ((c8 : Int) > 0)))
  (Q (.tup []) [[(.mp 1), (.mp 2), (.own 4 9 1 l2)], [(.mpc 9 3 n3 D4)], [(.mpc 9 3 n5 D6)], [], [.tip]])
  (∃ c9 : Int, MapN D6 s1 .i64 c9
  (MapU n5 s1 .i64 (IntKind.wrap .i64 (c9 + 1))
  (AppN l2 [[s1]] 1 16 PV.one
  (Q (.tup []) [[(.mp 1), (.mp 2), (.own 4 9 1 (l2 ++ ([[s1]] : List (List PV))))], [(.mpc 9 3 n3 D4)], [(.mpc 9 3 (n5 + 1) (DataW.put D6 (.string (Array.toList (ByteArray.data s1))) (.lit (.int .i64 (IntKind.wrap .i64 (c9 + 1))))))], [], [.tip]])))))))
theorem a132 (s1 : ByteArray) (l2 : List (List PV)) (n3 : Nat) (D4 : DataW Unit) (n5 : Nat) (D6 : DataW Unit) (Q : PV → Heap → Prop) (h : p132 s1 l2 n3 D4 n5 D6 Q) : ACalls Tryz.prog 132 [(.ptr 0 0), s1] [[(.mp 1), (.mp 2), (.own 3 9 1 l2)], [(.mpc 9 3 n3 D4)], [(.mpc 9 3 n5 D6)], [.tip]] Q := by
  have hb : Option.some (bodyOf Tryz.f132) = Tryz.f132.body := by kernel_rfl
  exact acalls_canon (res := []) (post := [.cells [.mp 1, .mp 2, .own 4 9 1], .cells [.mpc 9 3], .cells [.mpc 9 3], .dead, .tip]) (acalls_eq (S := S) (L := loops33) mixed tok Tryz.func132 hb.symm (by kernel_rfl) h)
def loops135 (id : Nat) : Option (List Nat × List (Nat × Sh)) := match Nat.beq id 8 with | true => some ([0, 28, 29], [(30, .int .i64), (1001000, .mpc 9 3)]) | false => match Nat.beq id 2 with | true => some ([0, 1, 5, 11, 12], [(13, .int .i64), (1001000, .mpc 9 3)]) | false => none
def p135 (l1 : List (List PV)) (i2 i3 i4 i5 : Int) (l6 : List (List PV)) (s7 : ByteArray) (l8 l9 l10 : List (List PV)) (n11 : Nat) (D12 : DataW Unit) (n13 : Nat) (D14 : DataW Unit) (Q : PV → Heap → Prop) : Prop :=
∃ I15 : Nat → ((Int) × ((Nat × DataW Unit)) × Unit) → Prop, (∃ n, I15 n (0, (n11, D12), ())) ∧ ∀ (n16 : Nat) (v17 : (Int) × ((Nat × DataW Unit)) × Unit), I15 n16 v17 →
  (br ((decide ((v17.1 : Int) < (List.length l1 : Int))))
  (∃ s18 : ByteArray, IdxN l1 v17.1 [s18]
  (∃ c19 : Int, MapN v17.2.1.2 s18 .i64 c19
  (MapU v17.2.1.1 s18 .i64 (IntKind.wrap .i64 (c19 + 1))
  ((@Eq PV (.ptr 0 0) (.ptr 0 0) ∧ @Eq PV l1 l1 ∧ @Eq PV (.ptr 4 0) (.ptr 4 0) ∧ @Eq PV l1 l1 ∧ @Eq PV (.con (.int .i64 (List.length l1 : Int))) (.con (.int .i64 (List.length l1 : Int))) ∧ True) ∧ @Eq Heap [[(.mp 1), (.mp 2), (.own 3 9 1 l10)], [(.mpc 9 3 (v17.2.1.1 + 1) (DataW.put v17.2.1.2 (.string (Array.toList (ByteArray.data s18))) (.lit (.int .i64 (IntKind.wrap .i64 (c19 + 1))))))], [(.mpc 9 3 n13 D14)], [.tip], [i2, i3, i4, i5, l6, s7, l8, l9]] [[(.mp 1), (.mp 2), (.own 3 9 1 l10)], [(.mpc 9 3 (v17.2.1.1 + 1) (DataW.put v17.2.1.2 (.string (Array.toList (ByteArray.data s18))) (.lit (.int .i64 (IntKind.wrap .i64 (c19 + 1))))))], [(.mpc 9 3 n13 D14)], [.tip], [i2, i3, i4, i5, l6, s7, l8, l9]] ∧ ∃ k20, k20 < n16 ∧ I15 k20 ((IntKind.wrap .i64 (v17.1 + 1)), ((v17.2.1.1 + 1), (DataW.put v17.2.1.2 (.string (Array.toList (ByteArray.data s18))) (.lit (.int .i64 (IntKind.wrap .i64 (c19 + 1)))))), ())))))
  (∃ l21 : List (List PV), ∃ n22 : Nat, ∃ D23 : DataW Unit, ∃ n24 : Nat, ∃ D25 : DataW Unit, CallF Tryz.prog 61 [(.ptr 0 0), (.agg [i2, i3, i4, i5, l6, s7, l8, l9])] [[(.mp 1), (.mp 2), (.own 3 9 1 l10)], [(.mpc 9 3 v17.2.1.1 v17.2.1.2)], [(.mpc 9 3 n13 D14)], [.tip]] (.ptr 0 0) [[(.mp 1), (.mp 2), (.own 4 9 1 l21)], [(.mpc 9 3 n22 D23)], [(.mpc 9 3 n24 D25)], [], [.tip]]
  (∃ I26 : Nat → ((Int) × ((Nat × DataW Unit)) × Unit) → Prop, (∃ n, I26 n (0, (n22, D23), ())) ∧ ∀ (n27 : Nat) (v28 : (Int) × ((Nat × DataW Unit)) × Unit), I26 n27 v28 →
  (br ((decide ((v28.1 : Int) < (List.length l1 : Int))))
  (∃ s29 : ByteArray, IdxN l1 v28.1 [s29]
  (∃ n30 : Nat, ∃ D31 : DataW Unit, CallF Tryz.prog 188 [(.ptr 0 0), s29] [[(.mp 1), (.mp 2), (.own 3 9 1 l21)], [(.mpc 9 3 v28.2.1.1 v28.2.1.2)], [(.mpc 9 3 n24 D25)], [.tip]] (.tup []) [[(.mp 1), (.mp 2), (.own 3 9 1 l21)], [(.mpc 9 3 n30 D31)], [(.mpc 9 3 n24 D25)], [.tip]]
  ((@Eq PV (.ptr 0 0) (.ptr 0 0) ∧ @Eq PV l1 l1 ∧ @Eq PV (.con (.int .i64 (List.length l1 : Int))) (.con (.int .i64 (List.length l1 : Int))) ∧ True) ∧ @Eq Heap [[(.mp 1), (.mp 2), (.own 9 9 1 l21)], [(.mpc 9 3 n30 D31)], [(.mpc 9 3 n24 D25)], [], [i2, i3, i4, i5, l6, s7, l8, l9], [.tip], [.tip], [.tip], [.tip], [.tip]] [[(.mp 1), (.mp 2), (.own 9 9 1 l21)], [(.mpc 9 3 n30 D31)], [(.mpc 9 3 n24 D25)], [], [i2, i3, i4, i5, l6, s7, l8, l9], [.tip], [.tip], [.tip], [.tip], [.tip]] ∧ ∃ k32, k32 < n27 ∧ I26 k32 ((IntKind.wrap .i64 (v28.1 + 1)), (n30, D31), ()))))
  (Q (.ptr 0 0) [[(.mp 1), (.mp 2), (.own 4 9 1 l21)], [(.mpc 9 3 v28.2.1.1 v28.2.1.2)], [(.mpc 9 3 n24 D25)], [], [.tip]])))))
theorem a135 (l1 : List (List PV)) (i2 i3 i4 i5 : Int) (l6 : List (List PV)) (s7 : ByteArray) (l8 l9 l10 : List (List PV)) (n11 : Nat) (D12 : DataW Unit) (n13 : Nat) (D14 : DataW Unit) (Q : PV → Heap → Prop) (h : p135 l1 i2 i3 i4 i5 l6 s7 l8 l9 l10 n11 D12 n13 D14 Q) : ACalls Tryz.prog 135 [(.ptr 0 0), l1, (.agg [i2, i3, i4, i5, l6, s7, l8, l9])] [[(.mp 1), (.mp 2), (.own 3 9 1 l10)], [(.mpc 9 3 n11 D12)], [(.mpc 9 3 n13 D14)], [.tip]] Q := by
  have hb : Option.some (bodyOf Tryz.f135) = Tryz.f135.body := by kernel_rfl
  exact acalls_canon (res := [.cell (.ptr 0 0)]) (post := [.cells [.mp 1, .mp 2, .own 4 9 1], .cells [.mpc 9 3], .cells [.mpc 9 3], .dead, .tip]) (acalls_eq (S := S) (L := loops135) mixed tok Tryz.func135 hb.symm (by kernel_rfl) h)
def p134k (i1 i2 i3 i4 i5 : Int) (l6 : List (List PV)) (s7 : ByteArray) (l8 l9 : List (List PV)) (i10 i11 i12 i13 : Int) (l14 : List (List PV)) (s15 : ByteArray) (l16 l17 l18 : List (List PV)) (n19 : Nat) (D20 : DataW Unit) (n21 : Nat) (D22 : DataW Unit) (Q : PV → Heap → Prop) : Prop :=
∃ l23 : List (List PV), CallN Tryz.prog 136 [(.agg [i10, i11, i12, i13, l14, s15, l16, l17]), i1] [[(.mp 1), (.mp 2), (.own 3 9 1 l18)], [(.mpc 9 3 n19 D20)], [(.mpc 9 3 n21 D22)], [.tip], [i2, i3, i4, i5, l6, s7, l8, l9]] l23
  (∃ l24 : List (List PV), ∃ n25 : Nat, ∃ D26 : DataW Unit, ∃ n27 : Nat, ∃ D28 : DataW Unit, CallF Tryz.prog 135 [(.ptr 0 0), l23, (.agg [i2, i3, i4, i5, l6, s7, l8, l9])] [[(.mp 1), (.mp 2), (.own 3 9 1 l18)], [(.mpc 9 3 n19 D20)], [(.mpc 9 3 n21 D22)], [.tip]] (.ptr 0 0) [[(.mp 1), (.mp 2), (.own 4 9 1 l24)], [(.mpc 9 3 n25 D26)], [(.mpc 9 3 n27 D28)], [], [.tip]]
  (Q (.ptr 0 0) [[(.mp 1), (.mp 2), (.own 4 9 1 l24)], [(.mpc 9 3 n25 D26)], [(.mpc 9 3 n27 D28)], [], [.tip]]))
theorem a134k (i1 i2 i3 i4 i5 : Int) (l6 : List (List PV)) (s7 : ByteArray) (l8 l9 : List (List PV)) (i10 i11 i12 i13 : Int) (l14 : List (List PV)) (s15 : ByteArray) (l16 l17 l18 : List (List PV)) (n19 : Nat) (D20 : DataW Unit) (n21 : Nat) (D22 : DataW Unit) (Q : PV → Heap → Prop) (h : p134k i1 i2 i3 i4 i5 l6 s7 l8 l9 i10 i11 i12 i13 l14 s15 l16 l17 l18 n19 D20 n21 D22 Q) : ACalls Tryz.prog 134 [(.ptr 0 0), i1, (.agg [i2, i3, i4, i5, l6, s7, l8, l9]), (.ept [i10, i11, i12, i13, l14, s15, l16, l17] 0)] [[(.mp 1), (.mp 2), (.own 3 9 1 l18)], [(.mpc 9 3 n19 D20)], [(.mpc 9 3 n21 D22)], [.tip]] Q := by
  have hb : Option.some (bodyOf Tryz.f134) = Tryz.f134.body := by kernel_rfl
  exact acalls_canon (res := [.cell (.ptr 0 0)]) (post := [.cells [.mp 1, .mp 2, .own 4 9 1], .cells [.mpc 9 3], .cells [.mpc 9 3], .dead, .tip]) (acalls_eq (S := S) (L := loops33) mixed tok Tryz.func134 hb.symm (by kernel_rfl) h)
def p138 (i1 i2 i3 i4 : Int) (s5 : ByteArray) (i6 : Int) (l7 : List (List PV)) (i8 i9 i10 i11 : Int) (l12 : List (List PV)) (s13 : ByteArray) (l14 l15 l16 : List (List PV)) (n17 : Nat) (D18 : DataW Unit) (n19 : Nat) (D20 : DataW Unit) (Q : PV → Heap → Prop) : Prop :=
∃ l21 : List (List PV), CallF Tryz.prog 139 [(.own 0 9 1 []), (.con (.int .i64 0)), (.agg [i2, i3, i4, s5, i6, l7])] [[.tip]] (.own 1 9 1 l21) [[], [.tip]]
  (∃ l22 : List (List PV), ∃ n23 : Nat, ∃ D24 : DataW Unit, ∃ n25 : Nat, ∃ D26 : DataW Unit, CallF Tryz.prog 135 [(.ptr 0 0), l21, (.agg [i8, i9, i10, i11, l12, s13, l14, l15])] [[(.mp 1), (.mp 2), (.own 3 9 1 l16)], [(.mpc 9 3 n17 D18)], [(.mpc 9 3 n19 D20)], [.tip]] (.ptr 0 0) [[(.mp 1), (.mp 2), (.own 4 9 1 l22)], [(.mpc 9 3 n23 D24)], [(.mpc 9 3 n25 D26)], [], [.tip]]
  (Q (.ptr 0 0) [[(.mp 1), (.mp 2), (.own 4 9 1 l22)], [(.mpc 9 3 n23 D24)], [(.mpc 9 3 n25 D26)], [], [.tip]]))
theorem a138 (i1 i2 i3 i4 : Int) (s5 : ByteArray) (i6 : Int) (l7 : List (List PV)) (i8 i9 i10 i11 : Int) (l12 : List (List PV)) (s13 : ByteArray) (l14 l15 l16 : List (List PV)) (n17 : Nat) (D18 : DataW Unit) (n19 : Nat) (D20 : DataW Unit) (Q : PV → Heap → Prop) (h : p138 i1 i2 i3 i4 s5 i6 l7 i8 i9 i10 i11 l12 s13 l14 l15 l16 n17 D18 n19 D20 Q) : ACalls Tryz.prog 138 [(.ptr 0 0), i1, (.agg [i2, i3, i4, s5, i6, l7, i8, i9, i10, i11, l12, s13, l14, l15])] [[(.mp 1), (.mp 2), (.own 3 9 1 l16)], [(.mpc 9 3 n17 D18)], [(.mpc 9 3 n19 D20)], [.tip]] Q := by
  have hb : Option.some (bodyOf Tryz.f138) = Tryz.f138.body := by kernel_rfl
  exact acalls_canon (res := [.cell (.ptr 0 0)]) (post := [.cells [.mp 1, .mp 2, .own 4 9 1], .cells [.mpc 9 3], .cells [.mpc 9 3], .dead, .tip]) (acalls_eq (S := S) (L := loops33) mixed tok Tryz.func138 hb.symm (by kernel_rfl) h)
def loops133k (id : Nat) : Option (List Nat × List (Nat × Sh)) := match Nat.beq id 2 with | true => some ([1, 2, 9, 10], [(11, .int .i64), (1000002, .own 0 9 1), (1001000, .mpc 9 3), (1002000, .mpc 9 3)]) | false => none
def p133k (l1 : List (List PV)) (i2 i3 i4 i5 : Int) (l6 : List (List PV)) (s7 : ByteArray) (l8 l9 l10 : List (List PV)) (n11 : Nat) (D12 : DataW Unit) (n13 : Nat) (D14 : DataW Unit) (Q : PV → Heap → Prop) : Prop :=
∃ I15 : Nat → ((Int) × (List (List PV)) × ((Nat × DataW Unit)) × ((Nat × DataW Unit)) × Unit) → Prop, (∃ n, I15 n (0, l10, (n11, D12), (n13, D14), ())) ∧ ∀ (n16 : Nat) (v17 : (Int) × (List (List PV)) × ((Nat × DataW Unit)) × ((Nat × DataW Unit)) × Unit), I15 n16 v17 →
  (br ((decide ((v17.1 : Int) < (List.length l1 : Int))))
  (∃ i18 : Int, ∃ i19 : Int, ∃ i20 : Int, ∃ i21 : Int, ∃ l22 : List (List PV), ∃ s23 : ByteArray, ∃ l24 : List (List PV), ∃ l25 : List (List PV), IdxN l1 v17.1 [i18, i19, i20, i21, l22, s23, l24, l25]
  (∃ l26 : List (List PV), ∃ n27 : Nat, ∃ D28 : DataW Unit, ∃ n29 : Nat, ∃ D30 : DataW Unit, CallF Tryz.prog 134 [(.ptr 0 0), v17.1, (.agg [i18, i19, i20, i21, l22, s23, l24, l25]), (.ept [i2, i3, i4, i5, l6, s7, l8, l9] 0)] [[(.mp 1), (.mp 2), (.own 3 9 1 v17.2.1)], [(.mpc 9 3 v17.2.2.1.1 v17.2.2.1.2)], [(.mpc 9 3 v17.2.2.2.1.1 v17.2.2.2.1.2)], [.tip]] (.ptr 0 0) [[(.mp 1), (.mp 2), (.own 4 9 1 l26)], [(.mpc 9 3 n27 D28)], [(.mpc 9 3 n29 D30)], [], [.tip]]
  ((@Eq PV (.ptr 0 0) (.ptr 0 0) ∧ @Eq PV (.fn 134 [(.ept [i2, i3, i4, i5, l6, s7, l8, l9] 0)]) (.fn 134 [(.ept [i2, i3, i4, i5, l6, s7, l8, l9] 0)]) ∧ @Eq PV l1 l1 ∧ @Eq PV (.con (.int .i64 (List.length l1 : Int))) (.con (.int .i64 (List.length l1 : Int))) ∧ True) ∧ @Eq Heap [[(.mp 1), (.mp 2), (.own 4 9 1 l26)], [(.mpc 9 3 n27 D28)], [(.mpc 9 3 n29 D30)], []] [[(.mp 1), (.mp 2), (.own 4 9 1 l26)], [(.mpc 9 3 n27 D28)], [(.mpc 9 3 n29 D30)], []] ∧ ∃ k31, k31 < n16 ∧ I15 k31 ((IntKind.wrap .i64 (v17.1 + 1)), l26, (n27, D28), (n29, D30), ()))))
  (Q (.ptr 0 0) [[(.mp 1), (.mp 2), (.own 4 9 1 v17.2.1)], [(.mpc 9 3 v17.2.2.1.1 v17.2.2.1.2)], [(.mpc 9 3 v17.2.2.2.1.1 v17.2.2.2.1.2)], [], [.tip]]))
theorem a133k (l1 : List (List PV)) (i2 i3 i4 i5 : Int) (l6 : List (List PV)) (s7 : ByteArray) (l8 l9 l10 : List (List PV)) (n11 : Nat) (D12 : DataW Unit) (n13 : Nat) (D14 : DataW Unit) (Q : PV → Heap → Prop) (h : p133k l1 i2 i3 i4 i5 l6 s7 l8 l9 l10 n11 D12 n13 D14 Q) : ACalls Tryz.prog 133 [l1, (.ptr 0 0), (.fn 134 [(.ept [i2, i3, i4, i5, l6, s7, l8, l9] 0)])] [[(.mp 1), (.mp 2), (.own 3 9 1 l10)], [(.mpc 9 3 n11 D12)], [(.mpc 9 3 n13 D14)], [.tip]] Q := by
  have hb : Option.some (bodyOf Tryz.f133) = Tryz.f133.body := by kernel_rfl
  exact acalls_canon (res := [.cell (.ptr 0 0)]) (post := [.cells [.mp 1, .mp 2, .own 4 9 1], .cells [.mpc 9 3], .cells [.mpc 9 3], .dead, .tip]) (acalls_eq (S := S) (L := loops133k) mixed tok Tryz.func133 hb.symm (by kernel_rfl) h)
def loops137k (id : Nat) : Option (List Nat × List (Nat × Sh)) := match Nat.beq id 2 with | true => some ([1, 2, 9, 10], [(11, .int .i64), (1000002, .own 0 9 1), (1001000, .mpc 9 3), (1002000, .mpc 9 3)]) | false => none
def p137k (l1 l2 : List (List PV)) (n3 : Nat) (D4 : DataW Unit) (n5 : Nat) (D6 : DataW Unit) (Q : PV → Heap → Prop) : Prop :=
∃ I7 : Nat → ((Int) × (List (List PV)) × ((Nat × DataW Unit)) × ((Nat × DataW Unit)) × Unit) → Prop, (∃ n, I7 n (0, l2, (n3, D4), (n5, D6), ())) ∧ ∀ (n8 : Nat) (v9 : (Int) × (List (List PV)) × ((Nat × DataW Unit)) × ((Nat × DataW Unit)) × Unit), I7 n8 v9 →
  (br ((decide ((v9.1 : Int) < (List.length l1 : Int))))
  (∃ i10 : Int, ∃ i11 : Int, ∃ i12 : Int, ∃ s13 : ByteArray, ∃ i14 : Int, ∃ l15 : List (List PV), ∃ i16 : Int, ∃ i17 : Int, ∃ i18 : Int, ∃ i19 : Int, ∃ l20 : List (List PV), ∃ s21 : ByteArray, ∃ l22 : List (List PV), ∃ l23 : List (List PV), IdxN l1 v9.1 [i10, i11, i12, s13, i14, l15, i16, i17, i18, i19, l20, s21, l22, l23]
  (∃ l24 : List (List PV), ∃ n25 : Nat, ∃ D26 : DataW Unit, ∃ n27 : Nat, ∃ D28 : DataW Unit, CallF Tryz.prog 138 [(.ptr 0 0), v9.1, (.agg [i10, i11, i12, s13, i14, l15, i16, i17, i18, i19, l20, s21, l22, l23])] [[(.mp 1), (.mp 2), (.own 3 9 1 v9.2.1)], [(.mpc 9 3 v9.2.2.1.1 v9.2.2.1.2)], [(.mpc 9 3 v9.2.2.2.1.1 v9.2.2.2.1.2)], [.tip]] (.ptr 0 0) [[(.mp 1), (.mp 2), (.own 4 9 1 l24)], [(.mpc 9 3 n25 D26)], [(.mpc 9 3 n27 D28)], [], [.tip]]
  ((@Eq PV (.ptr 0 0) (.ptr 0 0) ∧ @Eq PV (.fn 138 []) (.fn 138 []) ∧ @Eq PV l1 l1 ∧ @Eq PV (.con (.int .i64 (List.length l1 : Int))) (.con (.int .i64 (List.length l1 : Int))) ∧ True) ∧ @Eq Heap [[(.mp 1), (.mp 2), (.own 4 9 1 l24)], [(.mpc 9 3 n25 D26)], [(.mpc 9 3 n27 D28)], []] [[(.mp 1), (.mp 2), (.own 4 9 1 l24)], [(.mpc 9 3 n25 D26)], [(.mpc 9 3 n27 D28)], []] ∧ ∃ k29, k29 < n8 ∧ I7 k29 ((IntKind.wrap .i64 (v9.1 + 1)), l24, (n25, D26), (n27, D28), ()))))
  (Q (.ptr 0 0) [[(.mp 1), (.mp 2), (.own 4 9 1 v9.2.1)], [(.mpc 9 3 v9.2.2.1.1 v9.2.2.1.2)], [(.mpc 9 3 v9.2.2.2.1.1 v9.2.2.2.1.2)], [], [.tip]]))
theorem a137k (l1 l2 : List (List PV)) (n3 : Nat) (D4 : DataW Unit) (n5 : Nat) (D6 : DataW Unit) (Q : PV → Heap → Prop) (h : p137k l1 l2 n3 D4 n5 D6 Q) : ACalls Tryz.prog 137 [l1, (.ptr 0 0), (.fn 138 [])] [[(.mp 1), (.mp 2), (.own 3 9 1 l2)], [(.mpc 9 3 n3 D4)], [(.mpc 9 3 n5 D6)], [.tip]] Q := by
  have hb : Option.some (bodyOf Tryz.f137) = Tryz.f137.body := by kernel_rfl
  exact acalls_canon (res := [.cell (.ptr 0 0)]) (post := [.cells [.mp 1, .mp 2, .own 4 9 1], .cells [.mpc 9 3], .cells [.mpc 9 3], .dead, .tip]) (acalls_eq (S := S) (L := loops137k) mixed tok Tryz.func137 hb.symm (by kernel_rfl) h)
def p61 (i1 i2 i3 i4 : Int) (l5 : List (List PV)) (s6 : ByteArray) (l7 l8 l9 : List (List PV)) (n10 : Nat) (D11 : DataW Unit) (n12 : Nat) (D13 : DataW Unit) (Q : PV → Heap → Prop) : Prop :=
br (((i1 : Int) == 2))
  (∃ l14 : List (List PV), ∃ n15 : Nat, ∃ D16 : DataW Unit, ∃ n17 : Nat, ∃ D18 : DataW Unit, CallF Tryz.prog 132 [(.ptr 0 0), s6] [[(.mp 1), (.mp 2), (.own 3 9 1 l9)], [(.mpc 9 3 n10 D11)], [(.mpc 9 3 n12 D13)], [.tip]] (.tup []) [[(.mp 1), (.mp 2), (.own 4 9 1 l14)], [(.mpc 9 3 n15 D16)], [(.mpc 9 3 n17 D18)], [], [.tip]]
  (∃ l19 : List (List PV), ∃ n20 : Nat, ∃ D21 : DataW Unit, ∃ n22 : Nat, ∃ D23 : DataW Unit, CallF Tryz.prog 133 [l7, (.ptr 0 0), (.fn 134 [(.ept [i1, i2, i3, i4, l5, s6, l7, l8] 0)])] [[(.mp 1), (.mp 2), (.own 3 9 1 l14)], [(.mpc 9 3 n15 D16)], [(.mpc 9 3 n17 D18)], [.tip]] (.ptr 0 0) [[(.mp 1), (.mp 2), (.own 4 9 1 l19)], [(.mpc 9 3 n20 D21)], [(.mpc 9 3 n22 D23)], [], [.tip]]
  (∃ l24 : List (List PV), ∃ n25 : Nat, ∃ D26 : DataW Unit, ∃ n27 : Nat, ∃ D28 : DataW Unit, CallF Tryz.prog 137 [l8, (.ptr 0 0), (.fn 138 [])] [[(.mp 1), (.mp 2), (.own 3 9 1 l19)], [(.mpc 9 3 n20 D21)], [(.mpc 9 3 n22 D23)], [.tip]] (.ptr 0 0) [[(.mp 1), (.mp 2), (.own 4 9 1 l24)], [(.mpc 9 3 n25 D26)], [(.mpc 9 3 n27 D28)], [], [.tip]]
  (Q (.ptr 0 0) [[(.mp 1), (.mp 2), (.own 4 9 1 l24)], [(.mpc 9 3 n25 D26)], [(.mpc 9 3 n27 D28)], [], [.tip]]))))
  (∃ l29 : List (List PV), ∃ n30 : Nat, ∃ D31 : DataW Unit, ∃ n32 : Nat, ∃ D33 : DataW Unit, CallF Tryz.prog 133 [l7, (.ptr 0 0), (.fn 134 [(.ept [i1, i2, i3, i4, l5, s6, l7, l8] 0)])] [[(.mp 1), (.mp 2), (.own 3 9 1 l9)], [(.mpc 9 3 n10 D11)], [(.mpc 9 3 n12 D13)], [.tip]] (.ptr 0 0) [[(.mp 1), (.mp 2), (.own 4 9 1 l29)], [(.mpc 9 3 n30 D31)], [(.mpc 9 3 n32 D33)], [], [.tip]]
  (∃ l34 : List (List PV), ∃ n35 : Nat, ∃ D36 : DataW Unit, ∃ n37 : Nat, ∃ D38 : DataW Unit, CallF Tryz.prog 137 [l8, (.ptr 0 0), (.fn 138 [])] [[(.mp 1), (.mp 2), (.own 3 9 1 l29)], [(.mpc 9 3 n30 D31)], [(.mpc 9 3 n32 D33)], [.tip]] (.ptr 0 0) [[(.mp 1), (.mp 2), (.own 4 9 1 l34)], [(.mpc 9 3 n35 D36)], [(.mpc 9 3 n37 D38)], [], [.tip]]
  (Q (.ptr 0 0) [[(.mp 1), (.mp 2), (.own 4 9 1 l34)], [(.mpc 9 3 n35 D36)], [(.mpc 9 3 n37 D38)], [], [.tip]])))
theorem a61 (i1 i2 i3 i4 : Int) (l5 : List (List PV)) (s6 : ByteArray) (l7 l8 l9 : List (List PV)) (n10 : Nat) (D11 : DataW Unit) (n12 : Nat) (D13 : DataW Unit) (Q : PV → Heap → Prop) (h : p61 i1 i2 i3 i4 l5 s6 l7 l8 l9 n10 D11 n12 D13 Q) : ACalls Tryz.prog 61 [(.ptr 0 0), (.agg [i1, i2, i3, i4, l5, s6, l7, l8])] [[(.mp 1), (.mp 2), (.own 3 9 1 l9)], [(.mpc 9 3 n10 D11)], [(.mpc 9 3 n12 D13)], [.tip]] Q := by
  have hb : Option.some (bodyOf Tryz.f61) = Tryz.f61.body := by kernel_rfl
  exact acalls_canon (res := [.cell (.ptr 0 0)]) (post := [.cells [.mp 1, .mp 2, .own 4 9 1], .cells [.mpc 9 3], .cells [.mpc 9 3], .dead, .tip]) (acalls_eq (S := S) (L := loops33) mixed tok Tryz.func61 hb.symm (by kernel_rfl) h)
def p23 (i1 i2 i3 i4 : Int) (l5 : List (List PV)) (s6 : ByteArray) (l7 l8 : List (List PV)) (Q : PV → Heap → Prop) : Prop :=
∃ l9 : List (List PV), ∃ n10 : Nat, ∃ D11 : DataW Unit, ∃ n12 : Nat, ∃ D13 : DataW Unit, CallF Tryz.prog 61 [(.ptr 0 0), (.agg [i1, i2, i3, i4, l5, s6, l7, l8])] [[(.mp 1), (.mp 2), (.own 3 9 1 [])], [(.mpc 9 3 0 (.map []))], [(.mpc 9 3 0 (.map []))], [.tip]] (.ptr 0 0) [[(.mp 1), (.mp 2), (.own 4 9 1 l9)], [(.mpc 9 3 n10 D11)], [(.mpc 9 3 n12 D13)], [], [.tip]]
  (Q (.own 8 9 1 l9) [[i1, i2, i3, i4, l5, s6, l7, l8], [(.mpc 9 3 n10 D11)], [(.mpc 9 3 n12 D13)], [(.mp 1), (.mp 2), (.own 8 9 1 l9)], [.tip], [.tip], [.tip], [], [.tip]])
theorem a23 (i1 i2 i3 i4 : Int) (l5 : List (List PV)) (s6 : ByteArray) (l7 l8 : List (List PV)) (Q : PV → Heap → Prop) (h : p23 i1 i2 i3 i4 l5 s6 l7 l8 Q) : ACalls Tryz.prog 23 [(.agg [i1, i2, i3, i4, l5, s6, l7, l8])] [] Q := by
  have hb : Option.some (bodyOf Tryz.f23) = Tryz.f23.body := by kernel_rfl
  exact acalls_eq (S := S) (L := loops33) mixed tok Tryz.func23 hb.symm (by kernel_rfl) h
end Go.Proofs.YtcmnjodjebcapaaGreat.Deep

namespace Go.Proofs.YtcmnjodjebcapaaGreat.Deep
open Go.RowKit
set_option linter.unusedVariables false
set_option linter.unusedSimpArgs false
def nmP (l : List ByteArray) : List (List PV) := l.map fun s => [.con (.string s)]
def key (s : ByteArray) : Lit := .string s.data.toList
def cnt (D : DataW Unit) (s : ByteArray) : Int := match D.atKey (key s) (.lit (.int .i64 0)) with | .lit (.int .i64 c) => c | _ => 0
def GoodD (D : DataW Unit) : Prop := Maps.IsMap D ∧ ∀ s : ByteArray, D.atKey (key s) (.lit (.int .i64 0)) = .lit (.int .i64 (cnt D s))
theorem key_inj {s t : ByteArray} (h : key s = key t) : s = t := by
  unfold key at h
  injection h with h
  cases s; cases t
  congr 1
  exact Array.ext' h
theorem GoodD.empty : GoodD (.map []) := ⟨Maps.isMap_empty, fun s => rfl⟩
theorem cnt_empty (s : ByteArray) : cnt (.map []) s = 0 := rfl
theorem GoodD.put {D : DataW Unit} (h : GoodD D) (s : ByteArray) (c : Int) : GoodD (D.put (key s) (.lit (.int .i64 c))) ∧ ∀ t, cnt (D.put (key s) (.lit (.int .i64 c))) t = if t = s then c else cnt D t := by
  have e : ∀ t, (D.put (key s) (.lit (.int .i64 c))).atKey (key t) (.lit (.int .i64 0)) = .lit (.int .i64 (if t = s then c else cnt D t)) := fun t => by
    by_cases ht : t = s
    · subst ht; rw [if_pos rfl]; exact Maps.atKey_put_same h.1 (by unfold key WideAt.IsKeyLit; trivial) _ _
    · rw [if_neg ht, Maps.atKey_put_other (fun he => ht (key_inj he))]; exact h.2 t
  have e2 : ∀ t, cnt (D.put (key s) (.lit (.int .i64 c))) t = if t = s then c else cnt D t := fun t => by
    unfold cnt; rw [e t]; rfl
  exact ⟨⟨h.1.put _ _, fun t => by rw [e, e2]⟩, e2⟩
theorem GoodD.del {D : DataW Unit} (h : GoodD D) (s : ByteArray) : GoodD (D.del (key s)) ∧ ∀ t, cnt (D.del (key s)) t = if t = s then 0 else cnt D t := by
  have e : ∀ t, (D.del (key s)).atKey (key t) (.lit (.int .i64 0)) = .lit (.int .i64 (if t = s then 0 else cnt D t)) := fun t => by
    by_cases ht : t = s
    · subst ht; rw [if_pos rfl]; exact Maps.atKey_del_same _
    · rw [if_neg ht, Maps.atKey_del_other (fun he => ht (key_inj he))]; exact h.2 t
  have e2 : ∀ t, cnt (D.del (key s)) t = if t = s then 0 else cnt D t := fun t => by
    unfold cnt; rw [e t]; rfl
  exact ⟨⟨h.1.del _, fun t => by rw [e, e2]⟩, e2⟩
def wr (c : Int) : Int := IntKind.i64.wrap c
theorem wr_wf (c : Int) : (Lit.int .i64 (wr c)).wf = true := by
  unfold wr
  simp only [IntKind.wrap_i64, Lit.wf]
  simp [IntKind.min, IntKind.max, IntKind.signed, IntKind.bits]
  constructor <;> omega
structure LS where
  l : List ByteArray
  n1 : Nat
  D1 : DataW Unit
  n2 : Nat
  D2 : DataW Unit
def incD (x : Nat × DataW Unit) (s : ByteArray) : Nat × DataW Unit := (x.1 + 1, x.2.put (key s) (.lit (.int .i64 (wr (cnt x.2 s + 1)))))
def dec0 (x : Nat × DataW Unit) (s : ByteArray) : DataW Unit := x.2.put (key s) (.lit (.int .i64 (wr (cnt x.2 s - 1))))
def decD (x : Nat × DataW Unit) (s : ByteArray) : Nat × DataW Unit := (x.1 + 1, if cnt (dec0 x s) s = 0 then (dec0 x s).del (key s) else dec0 x s)
def enterS (ns : List ByteArray) (st : LS) : LS := { st with n1 := (ns.foldl incD (st.n1, st.D1)).1, D1 := (ns.foldl incD (st.n1, st.D1)).2 }
def leaveS (ns : List ByteArray) (st : LS) : LS := { st with n1 := (ns.foldl decD (st.n1, st.D1)).1, D1 := (ns.foldl decD (st.n1, st.D1)).2 }
def meetS (s : ByteArray) (st : LS) : LS := if 0 < cnt st.D1 s then st else if 0 < cnt st.D2 s then st else { st with l := st.l ++ [s], n2 := st.n2 + 1, D2 := st.D2.put (key s) (.lit (.int .i64 (wr (cnt st.D2 s + 1)))) }
mutual
def varsP : Pt → List ByteArray
  | .mk k _ _ n _ ks => (if k = 1 then [n] else []) ++ varsPs ks
def varsPs : List Pt → List ByteArray
  | [] => []
  | t :: ts => varsP t ++ varsPs ts
end
def giv (k : Int) (n : ByteArray) (i : Nat) : List ByteArray := if i = 1 ∧ (k = 6 ∨ k = 10) then [n] else []
mutual
def exS : Ex → LS → LS
  | .mk k _ _ _ _ n ks ps bs, st => arS bs ps (kdS ks k n 0 (if k = 2 then meetS n st else st))
def kdS : List Ex → Int → ByteArray → Nat → LS → LS
  | [], _, _, _, st => st
  | e :: es, k, n, i, st => kdS es k n (i + 1) (leaveS (giv k n i) (exS e (enterS (giv k n i) st)))
def arS : List Ex → List Pt → LS → LS
  | b :: bs, p :: ps, st => arS bs ps (leaveS (varsP p) (exS b (enterS (varsP p) st)))
  | _, _, st => st
end
mutual
def uP : Pt → Nat
  | .mk _ _ _ _ _ ks => 1 + uPs ks
def uPs : List Pt → Nat
  | [] => 0
  | t :: ts => uP t + uPs ts
end
mutual
def uE : Ex → Nat
  | .mk _ _ _ _ _ _ ks ps bs => 1 + (uEs ks + uAr bs ps)
def uEs : List Ex → Nat
  | [] => 0
  | e :: es => 2 + uE e + uEs es
def uAr : List Ex → List Pt → Nat
  | b :: bs, p :: ps => 2 * (varsP p).length + uP p + uE b + uAr bs ps
  | _, _ => 0
end
structure Ok (st : LS) (B : Nat) : Prop where
  g1 : GoodD st.D1
  g2 : GoodD st.D2
  b1 : st.n1 + B ≤ 1099511627776
  b2 : st.n2 + B ≤ 1099511627776
  b3 : st.l.length + B ≤ 1099511627776
theorem Ok.less {st : LS} {B B' : Nat} (h : Ok st B) (hb : B' ≤ B) : Ok st B' := ⟨h.g1, h.g2, by have := h.b1; omega, by have := h.b2; omega, by have := h.b3; omega⟩
theorem Ok.meet {st : LS} {B : Nat} (h : Ok st (1 + B)) (s : ByteArray) : Ok (meetS s st) B := by
  unfold meetS
  split
  · exact h.less (by omega)
  · split
    · exact h.less (by omega)
    · have h1 := h.b1; have h2 := h.b2; have h3 := h.b3
      exact ⟨h.g1, (h.g2.put s _).1, by simp only; omega, by simp only; omega, by simp; omega⟩
theorem incs_ok (ns : List ByteArray) : ∀ (x : Nat × DataW Unit), GoodD x.2 → (ns.foldl incD x).1 = x.1 + ns.length ∧ GoodD (ns.foldl incD x).2 := by
  induction ns with
  | nil => intro x h; exact ⟨rfl, h⟩
  | cons s ns ih =>
    intro x h
    obtain ⟨h1, h2⟩ := ih (incD x s) (h.put s _).1
    refine ⟨?_, h2⟩
    rw [List.foldl_cons, h1]
    simp only [incD, List.length_cons]; omega
theorem decD_good {x : Nat × DataW Unit} (h : GoodD x.2) (s : ByteArray) : GoodD (decD x s).2 := by
  have h0 : GoodD (dec0 x s) := (h.put s _).1
  unfold decD
  dsimp only
  split
  · exact (h0.del s).1
  · exact h0
theorem decs_ok (ns : List ByteArray) : ∀ (x : Nat × DataW Unit), GoodD x.2 → (ns.foldl decD x).1 = x.1 + ns.length ∧ GoodD (ns.foldl decD x).2 := by
  induction ns with
  | nil => intro x h; exact ⟨rfl, h⟩
  | cons s ns ih =>
    intro x h
    obtain ⟨h1, h2⟩ := ih (decD x s) (decD_good h s)
    refine ⟨?_, h2⟩
    rw [List.foldl_cons, h1]
    simp only [decD, List.length_cons]; omega
theorem Ok.enter {st : LS} {B : Nat} {ns : List ByteArray} (h : Ok st (ns.length + B)) : Ok (enterS ns st) B := by
  obtain ⟨e1, e2⟩ := incs_ok ns (st.n1, st.D1) h.g1
  have h1 := h.b1; have h2 := h.b2; have h3 := h.b3
  exact ⟨e2, h.g2, by unfold enterS; simp only [e1]; omega, by unfold enterS; simp only; omega, by unfold enterS; simp only; omega⟩
theorem Ok.leave {st : LS} {B : Nat} {ns : List ByteArray} (h : Ok st (ns.length + B)) : Ok (leaveS ns st) B := by
  obtain ⟨e1, e2⟩ := decs_ok ns (st.n1, st.D1) h.g1
  have h1 := h.b1; have h2 := h.b2; have h3 := h.b3
  exact ⟨e2, h.g2, by unfold leaveS; simp only [e1]; omega, by unfold leaveS; simp only; omega, by unfold leaveS; simp only; omega⟩
theorem giv_len (k : Int) (n : ByteArray) (i : Nat) : (giv k n i).length ≤ 1 := by unfold giv; split <;> simp
mutual
theorem exS_ok : ∀ (e : Ex) (st : LS) (B : Nat), Ok st (uE e + B) → Ok (exS e st) B
  | .mk k _ _ _ _ n ks ps bs, st, B, h => by
    unfold uE at h
    unfold exS
    refine arS_ok bs ps _ B (kdS_ok ks k n 0 _ _ ?_)
    split
    · exact Ok.meet (h.less (by omega)) n
    · exact h.less (by omega)
theorem kdS_ok : ∀ (es : List Ex) (k : Int) (n : ByteArray) (i : Nat) (st : LS) (B : Nat), Ok st (uEs es + B) → Ok (kdS es k n i st) B
  | [], _, _, _, st, B, h => h.less (by omega)
  | e :: es, k, n, i, st, B, h => by
    unfold uEs at h
    unfold kdS
    have hg := giv_len k n i
    exact kdS_ok es k n (i + 1) _ B (Ok.leave (exS_ok e _ _ (Ok.enter (h.less (by omega)))))
theorem arS_ok : ∀ (bs : List Ex) (ps : List Pt) (st : LS) (B : Nat), Ok st (uAr bs ps + B) → Ok (arS bs ps st) B
  | b :: bs, p :: ps, st, B, h => by
    unfold uAr at h
    unfold arS
    exact arS_ok bs ps _ B (Ok.leave (exS_ok b _ _ (Ok.enter (h.less (by omega)))))
  | [], _, st, B, h => by unfold arS; exact h.less (by omega)
  | _ :: _, [], st, B, h => by unfold arS; exact h.less (by omega)
end
def preL (st : LS) : Heap := [[(.mp 1), (.mp 2), (.own 3 9 1 (nmP st.l))], [(.mpc 9 3 st.n1 st.D1)], [(.mpc 9 3 st.n2 st.D2)], [.tip]]
def postL (st : LS) : Heap := [[(.mp 1), (.mp 2), (.own 4 9 1 (nmP st.l))], [(.mpc 9 3 st.n1 st.D1)], [(.mpc 9 3 st.n2 st.D2)], [], [.tip]]
theorem nmP_len (l : List ByteArray) : (nmP l).length = l.length := by simp [nmP]
theorem nmP_get (l : List ByteArray) (i : Nat) (h : i < l.length) : (nmP l)[i]? = some [.con (.string l[i])] := by simp [nmP, List.getElem?_map, List.getElem?_eq_getElem h]
theorem nmP_app (l : List ByteArray) (s : ByteArray) : nmP l ++ [[.con (.string s)]] = nmP (l ++ [s]) := by simp [nmP]
theorem one_name (s : ByteArray) : ∀ y ∈ ([[.con (.string s)]] : List (List PV)), y.length = 1 ∧ ∀ p ∈ y, PV.one p = true := by
  intro y hy
  simp at hy
  subst hy
  exact ⟨rfl, fun p hp => by simp at hp; subst hp; rfl⟩
theorem meet_c (s : ByteArray) (hs : s.size ≤ maxLen) (st : LS) (h : Ok st 1) : ACalls Tryz.prog 132 [.ptr 0 0, .con (.string s)] (preL st) (fun r h' => r = .tup [] ∧ h' = postL (meetS s st)) := by
  refine a132 s (nmP st.l) st.n1 st.D1 st.n2 st.D2 _ ?_
  unfold p132
  refine ⟨cnt st.D1 s, ⟨hs, h.g1.2 s, ?_⟩⟩
  refine br_i (fun h1 => ?_) (fun h1 => ?_)
  · have h1 : 0 < cnt st.D1 s := by simpa using h1
    unfold meetS; rw [if_pos h1]; exact ⟨rfl, rfl⟩
  have h1 : ¬ 0 < cnt st.D1 s := by simpa using h1
  refine ⟨cnt st.D2 s, ⟨hs, h.g2.2 s, ?_⟩⟩
  refine br_i (fun h2 => ?_) (fun h2 => ?_)
  · have h2 : 0 < cnt st.D2 s := by simpa using h2
    unfold meetS; rw [if_neg h1, if_pos h2]; exact ⟨rfl, rfl⟩
  have h2 : ¬ 0 < cnt st.D2 s := by simpa using h2
  have b2 := h.b2; have b3 := h.b3
  refine ⟨cnt st.D2 s, ⟨hs, h.g2.2 s, ⟨by unfold maxLen; omega, hs, wr_wf _, ⟨by rw [nmP_len]; simp only [List.length_cons, List.length_nil]; omega, one_name s, ?_⟩⟩⟩⟩
  unfold meetS; rw [if_neg h1, if_neg h2, nmP_app]; exact ⟨rfl, rfl⟩
theorem leave_c (s : ByteArray) (hs : s.size ≤ maxLen) (st : LS) (h : Ok st 1) : ACalls Tryz.prog 188 [.ptr 0 0, .con (.string s)] (preL st) (fun r h' => r = .tup [] ∧ h' = preL (leaveS [s] st)) := by
  refine a188 s (nmP st.l) st.n1 st.D1 st.n2 st.D2 _ ?_
  unfold p188
  have b1 := h.b1
  have hg : GoodD (dec0 (st.n1, st.D1) s) := (h.g1.put s _).1
  refine ⟨cnt st.D1 s, ⟨hs, h.g1.2 s, ⟨by unfold maxLen; omega, hs, wr_wf _, ?_⟩⟩⟩
  refine ⟨cnt (dec0 (st.n1, st.D1) s) s, ⟨hs, hg.2 s, ?_⟩⟩
  refine br_i (fun h1 => ?_) (fun h1 => ?_)
  · have h1 : cnt (dec0 (st.n1, st.D1) s) s = 0 := by simpa using h1
    refine ⟨hs, ?_⟩
    unfold leaveS
    simp only [List.foldl_cons, List.foldl_nil, decD, if_pos h1]
    exact ⟨by trivial, rfl⟩
  · have h1 : ¬ cnt (dec0 (st.n1, st.D1) s) s = 0 := by simpa using h1
    unfold leaveS
    simp only [List.foldl_cons, List.foldl_nil, decD, if_neg h1]
    exact ⟨by trivial, rfl⟩
theorem take_fold {α β : Type} (f : α → β → α) (x : α) (l : List β) (j : Nat) (h : j < l.length) : (l.take (j + 1)).foldl f x = f ((l.take j).foldl f x) l[j] := by
  rw [List.take_succ_eq_append_getElem h, List.foldl_append]; rfl
def CE (e : Ex) : Prop := ∀ st, Ok st (uE e) → ACalls Tryz.prog 61 [.ptr 0 0, .agg (exP e)] (preL st) (fun r h' => r = .ptr 0 0 ∧ h' = postL (exS e st))
theorem within_c (ns : List ByteArray) (e : Ex) (hns : ∀ s ∈ ns, s.size ≤ maxLen) (hl : ns.length ≤ 1099511627776) (hE : CE e) (st : LS) (h : Ok st (2 * ns.length + uE e)) :
    ACalls Tryz.prog 135 [.ptr 0 0, .sl (nmP ns), .agg (exP e)] (preL st) (fun r h' => r = .ptr 0 0 ∧ h' = postL (leaveS ns (exS e (enterS ns st)))) := by
  obtain ⟨k, li, co, m, b, n, ks, ps, bs⟩ := e
  refine a135 (nmP ns) k li co m (byP b) n (exPs ks) (arPs bs ps) (nmP st.l) st.n1 st.D1 st.n2 st.D2 _ ?_
  unfold p135
  rw [nmP_len]
  refine ⟨fun c v => ∃ j : Nat, j ≤ ns.length ∧ c = ns.length - j ∧ v.1 = (j : Int) ∧ v.2.1 = (ns.take j).foldl incD (st.n1, st.D1), ⟨_, 0, Nat.zero_le _, rfl, rfl, by simp⟩, ?_⟩
  rintro c ⟨i, x, u⟩ ⟨j, hj, rfl, hi, hx⟩
  dsimp only at hi hx ⊢
  subst hi hx
  obtain ⟨i1, i2⟩ := incs_ok (ns.take j) (st.n1, st.D1) h.g1
  have b1 := h.b1
  refine br_i (fun hlt => ?_) (fun hge => ?_)
  · have hlt : j < ns.length := by simpa using hlt
    have hsz := hns _ (List.getElem_mem hlt)
    refine ⟨_, ⟨by omega, by rw [Int.toNat_natCast]; exact nmP_get ns j hlt, ?_⟩⟩
    refine ⟨_, ⟨hsz, i2.2 _, ⟨by rw [i1]; unfold maxLen; simp only [List.length_take]; omega, hsz, wr_wf _, ?_⟩⟩⟩
    refine ⟨⟨by trivial, by trivial, by trivial, by trivial, by trivial, trivial⟩, by trivial, ns.length - (j + 1), by omega, j + 1, by omega, rfl, ?_, ?_⟩
    · rw [wrap_id (by omega) (by omega)]; simp
    · rw [take_fold _ _ _ _ hlt]; rfl
  · have hge : ¬ j < ns.length := by simpa using hge
    obtain rfl : j = ns.length := by omega
    rw [List.take_length]
    have hok : Ok (enterS ns st) (uE (.mk k li co m b n ks ps bs) + ns.length) := Ok.enter (h.less (by omega))
    have hE2 := hE (enterS ns st) (hok.less (by omega))
    have hok2 : Ok (exS (.mk k li co m b n ks ps bs) (enterS ns st)) ns.length := exS_ok _ _ _ hok
    obtain ⟨s2, hs2⟩ : ∃ s2, s2 = exS (.mk k li co m b n ks ps bs) (enterS ns st) := ⟨_, rfl⟩
    rw [← hs2] at hE2 hok2 ⊢
    refine ⟨nmP s2.l, s2.n1, s2.D1, s2.n2, s2.D2, ⟨enters_of Tryz.func61 (by kernel_rfl) rfl, hE2, ?_⟩⟩
    refine ⟨fun c v => ∃ j : Nat, j ≤ ns.length ∧ c = ns.length - j ∧ v.1 = (j : Int) ∧ v.2.1 = (ns.take j).foldl decD (s2.n1, s2.D1), ⟨_, 0, Nat.zero_le _, rfl, rfl, by simp⟩, ?_⟩
    rintro c ⟨i, x, u⟩ ⟨j, hj, rfl, hi, hx⟩
    dsimp only at hi hx ⊢
    subst hi hx
    obtain ⟨k1, k2⟩ := decs_ok (ns.take j) (s2.n1, s2.D1) hok2.g1
    have c1 := hok2.b1
    refine br_i (fun hlt => ?_) (fun hge => ?_)
    · have hlt : j < ns.length := by simpa using hlt
      have hsz := hns _ (List.getElem_mem hlt)
      refine ⟨_, ⟨by omega, by rw [Int.toNat_natCast]; exact nmP_get ns j hlt, ?_⟩⟩
      have hlv := leave_c ns[j] hsz { s2 with n1 := ((ns.take j).foldl decD (s2.n1, s2.D1)).1, D1 := ((ns.take j).foldl decD (s2.n1, s2.D1)).2 } ⟨k2, hok2.g2, by simp only [k1, List.length_take]; omega, by have := hok2.b2; simp only; omega, by have := hok2.b3; simp only; omega⟩
      refine ⟨_, _, ⟨enters_of Tryz.func188 (by kernel_rfl) rfl, hlv, ?_⟩⟩
      refine ⟨⟨by trivial, by trivial, by trivial, trivial⟩, by trivial, ns.length - (j + 1), by omega, j + 1, by omega, rfl, ?_, ?_⟩
      · rw [wrap_id (by omega) (by omega)]; simp
      · rw [take_fold _ _ _ _ hlt]; rfl
    · have hge : ¬ j < ns.length := by simpa using hge
      obtain rfl : j = ns.length := by omega
      rw [List.take_length]
      exact ⟨rfl, rfl⟩
end Go.Proofs.YtcmnjodjebcapaaGreat.Deep

namespace Go.Proofs.YtcmnjodjebcapaaGreat.Deep
open Go.RowKit
set_option linter.unusedVariables false
set_option linter.unusedSimpArgs false
mutual
theorem varsP_len : ∀ t : Pt, (varsP t).length ≤ uP t
  | .mk k _ _ n _ ks => by
    have := varsPs_len ks
    unfold varsP uP
    rw [List.length_append]
    split <;> simp <;> omega
theorem varsPs_len : ∀ ts : List Pt, (varsPs ts).length ≤ uPs ts
  | [] => by simp [varsPs, uPs]
  | t :: ts => by
    have h1 := varsP_len t
    have h2 := varsPs_len ts
    unfold varsPs uPs
    rw [List.length_append]; omega
end
mutual
theorem varsP_small : ∀ t : Pt, smallPt t → ∀ s ∈ varsP t, s.size ≤ 3000
  | .mk k _ _ n _ ks, h, s, hs => by
    unfold smallPt at h
    unfold varsP at hs
    rcases List.mem_append.1 hs with q | q
    · split at q
      · simp at q; subst q; exact h.1
      · simp at q
    · exact varsPs_small ks h.2.2 s q
theorem varsPs_small : ∀ ts : List Pt, smallPts ts → ∀ s ∈ varsPs ts, s.size ≤ 3000
  | [], _, s, hs => by simp [varsPs] at hs
  | t :: ts, h, s, hs => by
    unfold smallPts at h
    unfold varsPs at hs
    rcases List.mem_append.1 hs with q | q
    · exact varsP_small t h.1 s q
    · exact varsPs_small ts h.2 s q
end
theorem varsPs_take (ts : List Pt) (j : Nat) (h : j < ts.length) : varsPs (ts.take (j + 1)) = varsPs (ts.take j) ++ varsP ts[j] := by
  have app : ∀ (a b : List Pt), varsPs (a ++ b) = varsPs a ++ varsPs b := by
    intro a
    induction a with
    | nil => intro b; rfl
    | cons x a ih => intro b; simp [varsPs, ih b]
  rw [List.take_succ_eq_append_getElem h, app]
  simp [varsPs]
theorem uPs_take (ts : List Pt) (j : Nat) (h : j < ts.length) : uPs (ts.take j) + uP ts[j] ≤ uPs ts := by
  have app : ∀ (a b : List Pt), uPs (a ++ b) = uPs a + uPs b := by
    intro a
    induction a with
    | nil => intro b; simp [uPs]
    | cons x a ih => intro b; simp [uPs, ih b]; omega
  have e : ts = ts.take j ++ (ts[j] :: ts.drop (j + 1)) := by
    rw [← List.drop_eq_getElem_cons h, List.take_append_drop]
  have e2 := congrArg uPs e
  rw [app, uPs] at e2
  omega
theorem given_c (t : Pt) : smallPt t → ∀ (l : List ByteArray) (i : Int), l.length + uP t ≤ 1099511627776 → ACalls Tryz.prog 139 [.own 0 9 1 (nmP l), .con (.int .i64 i), .agg (ptP t)] [[.tip]] (fun r h => r = .own 1 9 1 (nmP (l ++ varsP t)) ∧ h = [[], [.tip]]) := by
  induction t using Pt.ind with
  | h k li co n m ks ih =>
  intro hs l i hl
  unfold smallPt at hs
  unfold uP at hl
  have fold : ∀ l0 : List ByteArray, l0.length + uPs ks ≤ 1099511627776 → ACalls Tryz.prog 189 [.sl (ptPs ks), .own 0 9 1 (nmP l0), .fn 139 []] [[.tip]] (fun r h => r = .own 1 9 1 (nmP (l0 ++ varsPs ks)) ∧ h = [[], [.tip]]) := fun l0 hl0 => by
    refine a189k (ptPs ks) (nmP l0) _ ?_
    unfold p189k
    rw [ptPs_len]
    refine ⟨fun c v => ∃ j : Nat, j ≤ ks.length ∧ c = ks.length - j ∧ v.1 = nmP (l0 ++ varsPs (ks.take j)) ∧ v.2.1 = (j : Int), ⟨_, 0, Nat.zero_le _, rfl, by simp [varsPs], rfl⟩, ?_⟩
    rintro c ⟨x, i, u⟩ ⟨j, hj, rfl, hx, hi⟩
    dsimp only at hi hx ⊢
    subst hi hx
    have hsz := hs.2.1
    refine br_i (fun hlt => ?_) (fun hge => ?_)
    · have hlt : j < ks.length := by simpa using hlt
      have hks := smallPts_get ks hs.2.2 j hlt
      have hu := uPs_take ks j hlt
      have hv := varsPs_len (ks.take j)
      have hc := ih j hlt hks (l0 ++ varsPs (ks.take j)) (j : Int) (by rw [List.length_append]; omega)
      have hx := ptPs_get ks j hlt
      rw [List.append_assoc, ← varsPs_take ks j hlt] at hc
      generalize ks[j] = q at hc hx
      obtain ⟨k', li', co', n', m', ks'⟩ := q
      refine ⟨_, _, _, _, _, _, ⟨by omega, by rw [Int.toNat_natCast]; exact hx, ?_⟩⟩
      refine ⟨_, ⟨enters_of Tryz.func139 (by kernel_rfl) rfl, hc, ?_⟩⟩
      refine ⟨⟨by trivial, by trivial, by trivial, trivial⟩, by trivial, ks.length - (j + 1), by omega, j + 1, by omega, rfl, rfl, ?_⟩
      rw [wrap_id (by omega) (by omega)]; simp
    · have hge : ¬ j < ks.length := by simpa using hge
      obtain rfl : j = ks.length := by omega
      rw [List.take_length]
      exact ⟨rfl, rfl⟩
  refine a139 (nmP l) i k li co n m (ptPs ks) _ ?_
  unfold p139
  refine br_i (fun hk => ?_) (fun hk => ?_)
  · have hk : k = 1 := by simpa using hk
    refine ⟨by rw [nmP_len]; simp only [List.length_cons, List.length_nil]; omega, one_name n, ?_⟩
    have hf := fold (l ++ [n]) (by simp; omega)
    rw [← nmP_app] at hf
    refine ⟨_, ⟨enters_of Tryz.func189 (by kernel_rfl) rfl, hf, ?_⟩⟩
    unfold varsP
    rw [if_pos hk, List.append_assoc]; exact ⟨rfl, rfl⟩
  · have hk : ¬ k = 1 := by simpa using hk
    refine ⟨_, ⟨enters_of Tryz.func189 (by kernel_rfl) rfl, fold l (by omega), ?_⟩⟩
    unfold varsP
    rw [if_neg hk, List.nil_append]; exact ⟨rfl, rfl⟩
theorem giv_p (k li co m : Int) (b : List (List PV)) (n : ByteArray) (ks ar : List (List PV)) (i : Nat) : PCalls Tryz.prog 136 [.agg [.con (.int .i64 k), .con (.int .i64 li), .con (.int .i64 co), .con (.int .i64 m), .sl b, .con (.string n), .sl ks, .sl ar], .con (.int .i64 i)] (fun r => r = .sl (nmP (giv k n i))) := by
  refine pcalls_weak (a136 k li co m b n ks ar i _ ?_)
  unfold p136 giv
  refine br_i (fun h1 => ?_) (fun h1 => ?_)
  · have h1 : i = 1 := by have : (i : Int) = 1 := by simpa using h1
                          omega
    refine br_i (fun h2 => ?_) (fun h2 => ?_)
    · have h2 : k = 6 := by simpa using h2
      rw [if_pos ⟨h1, .inl h2⟩]; exact ⟨rfl, rfl⟩
    have h2 : ¬ k = 6 := by simpa using h2
    refine br_i (fun h3 => ?_) (fun h3 => ?_)
    · have h3 : k = 10 := by simpa using h3
      rw [if_pos ⟨h1, .inr h3⟩]; exact ⟨rfl, rfl⟩
    · have h3 : ¬ k = 10 := by simpa using h3
      rw [if_neg (fun h => h.2.elim h2 h3)]; exact ⟨rfl, rfl⟩
  · have h1 : ¬ i = 1 := by have : ¬ (i : Int) = 1 := by simpa using h1
                            omega
    rw [if_neg (fun h => h1 h.1)]; exact ⟨rfl, rfl⟩
theorem kdS_snoc (k : Int) (n : ByteArray) : ∀ (es : List Ex) (i : Nat) (st : LS) (j : Nat) (h : j < es.length), kdS (es.take (j + 1)) k n i st = leaveS (giv k n (i + j)) (exS es[j] (enterS (giv k n (i + j)) (kdS (es.take j) k n i st)))
  | e :: es, i, st, 0, h => by simp [kdS]
  | e :: es, i, st, j + 1, h => by
    have := kdS_snoc k n es (i + 1) (leaveS (giv k n i) (exS e (enterS (giv k n i) st))) j (by simpa using h)
    rw [show i + 1 + j = i + (j + 1) by omega] at this
    simpa [kdS] using this
theorem arS_snoc : ∀ (bs : List Ex) (ps : List Pt) (st : LS) (j : Nat) (h : j < bs.length) (h2 : j < ps.length), arS (bs.take (j + 1)) (ps.take (j + 1)) st = leaveS (varsP ps[j]) (exS bs[j] (enterS (varsP ps[j]) (arS (bs.take j) (ps.take j) st)))
  | b :: bs, p :: ps, st, 0, _, _ => by simp [arS]
  | b :: bs, p :: ps, st, j + 1, h, h2 => by
    have := arS_snoc bs ps (leaveS (varsP p) (exS b (enterS (varsP p) st))) j (by simpa using h) (by simpa using h2)
    simpa [arS] using this
theorem uEs_app : ∀ a b : List Ex, uEs (a ++ b) = uEs a + uEs b
  | [], b => by simp [uEs]
  | x :: a, b => by simp [uEs, uEs_app a b]; omega
theorem uEs_take (es : List Ex) (j : Nat) (h : j < es.length) : uEs (es.take j) + (2 + uE es[j]) ≤ uEs es := by
  have e : es = es.take j ++ (es[j] :: es.drop (j + 1)) := by rw [← List.drop_eq_getElem_cons h, List.take_append_drop]
  have e2 := congrArg uEs e
  rw [uEs_app, uEs] at e2
  omega
theorem uAr_take : ∀ (bs : List Ex) (ps : List Pt) (j : Nat) (h : j < bs.length) (h2 : j < ps.length), uAr (bs.take j) (ps.take j) + (2 * (varsP ps[j]).length + uP ps[j] + uE bs[j]) ≤ uAr bs ps
  | b :: bs, p :: ps, 0, _, _ => by simp [uAr]
  | b :: bs, p :: ps, j + 1, h, h2 => by
    have := uAr_take bs ps j (by simpa using h) (by simpa using h2)
    simp only [List.take_succ_cons, uAr, List.getElem_cons_succ]
    omega
theorem ex_c (e : Ex) : smallEx e → wfEx e → uE e ≤ 1000000 → CE e := by
  induction e using Ex.ind with
  | h k li co m b n ks ps bs ihk ihb =>
  intro hs hw hub st hok
  unfold smallEx at hs
  unfold wfEx at hw
  obtain ⟨hsb, hsn, hsk, hsp, hsbs, hsks, hsps, hsbb⟩ := hs
  obtain ⟨hpl, hwk, hwb⟩ := hw
  unfold uE at hub hok
  have hml : ∀ s : ByteArray, s.size ≤ 3000 → s.size ≤ maxLen := fun s h => by unfold maxLen; omega
  -- the parts
  have kids : ∀ st0 : LS, Ok st0 (uEs ks + uAr bs ps) → ACalls Tryz.prog 133 [.sl (exPs ks), .ptr 0 0, .fn 134 [.ept (exP (.mk k li co m b n ks ps bs)) 0]] (preL st0) (fun r h => r = .ptr 0 0 ∧ h = postL (kdS ks k n 0 st0)) := fun st0 h0 => by
    refine a133k (exPs ks) k li co m (byP b) n (exPs ks) (arPs bs ps) (nmP st0.l) st0.n1 st0.D1 st0.n2 st0.D2 _ ?_
    unfold p133k
    rw [exPs_len]
    refine ⟨fun c v => ∃ j : Nat, j ≤ ks.length ∧ c = ks.length - j ∧ v.1 = (j : Int) ∧ v.2.1 = nmP (kdS (ks.take j) k n 0 st0).l ∧ v.2.2.1 = ((kdS (ks.take j) k n 0 st0).n1, (kdS (ks.take j) k n 0 st0).D1) ∧ v.2.2.2.1 = ((kdS (ks.take j) k n 0 st0).n2, (kdS (ks.take j) k n 0 st0).D2), ⟨_, 0, Nat.zero_le _, rfl, rfl, by simp [kdS], by simp [kdS], by simp [kdS]⟩, ?_⟩
    rintro c ⟨i, x, y, z, u⟩ ⟨j, hj, rfl, hi, hx, hy, hz⟩
    dsimp only at hi hx hy hz ⊢
    subst hi hx hy hz
    refine br_i (fun hlt => ?_) (fun hge => ?_)
    · have hlt : j < ks.length := by simpa using hlt
      have hxx := exPs_get ks j hlt
      have hu := uEs_take ks j hlt
      have hue : uE ks[j] ≤ 1000000 := by omega
      have hgl := giv_len k n j
      have hokj : Ok (kdS (ks.take j) k n 0 st0) (2 * (giv k n j).length + uE ks[j]) := kdS_ok _ _ _ _ _ _ (h0.less (by omega))
      have hin := within_c (giv k n j) ks[j] (fun s hs => by unfold giv at hs; split at hs <;> simp at hs; subst hs; exact hml _ hsn) (by omega) (ihk j hlt (smallExs_get ks hsks j hlt) (wfExs_at ks hwk j hlt) hue) (kdS (ks.take j) k n 0 st0) hokj
      have hsn2 := kdS_snoc k n ks 0 st0 j hlt
      rw [Nat.zero_add] at hsn2
      rw [← hsn2] at hin
      obtain ⟨st1, hst1⟩ : ∃ st1, st1 = kdS (ks.take j) k n 0 st0 := ⟨_, rfl⟩
      rw [← hst1] at hin
      generalize ks[j] = q at hin hxx
      obtain ⟨k', li', co', m', b', n', ks', ps', bs'⟩ := q
      have h134 : ACalls Tryz.prog 134 [.ptr 0 0, .con (.int .i64 (j : Int)), .agg (exP (.mk k' li' co' m' b' n' ks' ps' bs')), .ept (exP (.mk k li co m b n ks ps bs)) 0] (preL st1) (fun r h => r = .ptr 0 0 ∧ h = postL (kdS (ks.take (j + 1)) k n 0 st0)) := by
        refine a134k (j : Int) k' li' co' m' (byP b') n' (exPs ks') (arPs bs' ps') k li co m (byP b) n (exPs ks) (arPs bs ps) (nmP st1.l) st1.n1 st1.D1 st1.n2 st1.D2 _ ?_
        unfold p134k
        refine ⟨_, call_p (enters_of Tryz.func136 (by kernel_rfl) rfl) (giv_p k li co m (byP b) n (exPs ks) (arPs bs ps) j) rfl ?_⟩
        exact ⟨_, _, _, _, _, ⟨enters_of Tryz.func135 (by kernel_rfl) rfl, hin, rfl, rfl⟩⟩
      rw [← hst1]
      refine ⟨_, _, _, _, _, _, _, _, ⟨by omega, by rw [Int.toNat_natCast]; exact hxx, ?_⟩⟩
      refine ⟨_, _, _, _, _, ⟨enters_of Tryz.func134 (by kernel_rfl) rfl, h134, ?_⟩⟩
      refine ⟨⟨by trivial, by trivial, by trivial, by trivial, trivial⟩, by trivial, ks.length - (j + 1), by omega, j + 1, by omega, rfl, ?_, rfl, rfl, rfl⟩
      rw [wrap_id (by omega) (by omega)]; simp
    · have hge : ¬ j < ks.length := by simpa using hge
      obtain rfl : j = ks.length := by omega
      rw [List.take_length]
      exact ⟨rfl, rfl⟩
  -- the arms
  have arms : ∀ st0 : LS, Ok st0 (uAr bs ps) → ACalls Tryz.prog 137 [.sl (arPs bs ps), .ptr 0 0, .fn 138 []] (preL st0) (fun r h => r = .ptr 0 0 ∧ h = postL (arS bs ps st0)) := fun st0 h0 => by
    refine a137k (arPs bs ps) (nmP st0.l) st0.n1 st0.D1 st0.n2 st0.D2 _ ?_
    unfold p137k
    rw [arPs_len bs ps hpl]
    refine ⟨fun c v => ∃ j : Nat, j ≤ bs.length ∧ c = bs.length - j ∧ v.1 = (j : Int) ∧ v.2.1 = nmP (arS (bs.take j) (ps.take j) st0).l ∧ v.2.2.1 = ((arS (bs.take j) (ps.take j) st0).n1, (arS (bs.take j) (ps.take j) st0).D1) ∧ v.2.2.2.1 = ((arS (bs.take j) (ps.take j) st0).n2, (arS (bs.take j) (ps.take j) st0).D2), ⟨_, 0, Nat.zero_le _, rfl, rfl, by simp [arS], by simp [arS], by simp [arS]⟩, ?_⟩
    rintro c ⟨i, x, y, z, u⟩ ⟨j, hj, rfl, hi, hx, hy, hz⟩
    dsimp only at hi hx hy hz ⊢
    subst hi hx hy hz
    refine br_i (fun hlt => ?_) (fun hge => ?_)
    · have hlt : j < bs.length := by simpa using hlt
      have hltp : j < ps.length := by omega
      have hxx := arPs_get bs ps j hlt hltp
      have hu := uAr_take bs ps j hlt hltp
      have hue : uE bs[j] ≤ 1000000 := by omega
      have hsp1 := smallPts_get ps hsps j hltp
      have hokj : Ok (arS (bs.take j) (ps.take j) st0) (2 * (varsP ps[j]).length + uE bs[j]) := arS_ok _ _ _ _ (h0.less (by omega))
      have hin := within_c (varsP ps[j]) bs[j] (fun s hs => hml _ (varsP_small _ hsp1 s hs)) (by omega) (ihb j hlt (smallExs_get bs hsbb j hlt) (wfExs_at bs hwb j hlt) hue) (arS (bs.take j) (ps.take j) st0) hokj
      rw [← arS_snoc bs ps st0 j hlt hltp] at hin
      obtain ⟨st1, hst1⟩ : ∃ st1, st1 = arS (bs.take j) (ps.take j) st0 := ⟨_, rfl⟩
      rw [← hst1] at hin
      have hgp := given_c ps[j] hsp1 [] 0 (by simp; omega)
      rw [List.nil_append] at hgp
      generalize bs[j] = q at hin hxx
      generalize ps[j] = q2 at hin hxx hgp
      obtain ⟨k', li', co', m', b', n', ks', ps', bs'⟩ := q
      obtain ⟨pk, pl, pc, pn, pm, pks⟩ := q2
      have h138 : ACalls Tryz.prog 138 [.ptr 0 0, .con (.int .i64 (j : Int)), .agg (ptP (.mk pk pl pc pn pm pks) ++ exP (.mk k' li' co' m' b' n' ks' ps' bs'))] (preL st1) (fun r h => r = .ptr 0 0 ∧ h = postL (arS (bs.take (j + 1)) (ps.take (j + 1)) st0)) := by
        refine a138 (j : Int) pk pl pc pn pm (ptPs pks) k' li' co' m' (byP b') n' (exPs ks') (arPs bs' ps') (nmP st1.l) st1.n1 st1.D1 st1.n2 st1.D2 _ ?_
        unfold p138
        refine ⟨_, ⟨enters_of Tryz.func139 (by kernel_rfl) rfl, hgp, ?_⟩⟩
        exact ⟨_, _, _, _, _, ⟨enters_of Tryz.func135 (by kernel_rfl) rfl, hin, rfl, rfl⟩⟩
      rw [← hst1]
      refine ⟨_, _, _, _, _, _, _, _, _, _, _, _, _, _, ⟨by omega, by rw [Int.toNat_natCast]; exact hxx, ?_⟩⟩
      refine ⟨_, _, _, _, _, ⟨enters_of Tryz.func138 (by kernel_rfl) rfl, h138, ?_⟩⟩
      refine ⟨⟨by trivial, by trivial, by trivial, by trivial, trivial⟩, by trivial, bs.length - (j + 1), by omega, j + 1, by omega, rfl, ?_, rfl, rfl, rfl⟩
      rw [wrap_id (by omega) (by omega)]; simp
    · have hge : ¬ j < bs.length := by simpa using hge
      obtain rfl : j = bs.length := by omega
      rw [List.take_length, ← hpl, List.take_length]
      exact ⟨rfl, rfl⟩
  refine a61 k li co m (byP b) n (exPs ks) (arPs bs ps) (nmP st.l) st.n1 st.D1 st.n2 st.D2 _ ?_
  unfold p61 exS
  refine br_i (fun hk => ?_) (fun hk => ?_)
  · have hk : k = 2 := by simpa using hk
    rw [if_pos hk]
    have hm := Ok.meet (B := uEs ks + uAr bs ps) (hok.less (by omega)) n
    refine ⟨_, _, _, _, _, ⟨enters_of Tryz.func132 (by kernel_rfl) rfl, meet_c n (hml n hsn) st (hok.less (by omega)), ?_⟩⟩
    refine ⟨_, _, _, _, _, ⟨enters_of Tryz.func133 (by kernel_rfl) rfl, kids _ hm, ?_⟩⟩
    refine ⟨_, _, _, _, _, ⟨enters_of Tryz.func137 (by kernel_rfl) rfl, arms _ (kdS_ok ks k n 0 _ _ (hm.less (by omega))), ?_⟩⟩
    exact ⟨rfl, rfl⟩
  · have hk : ¬ k = 2 := by simpa using hk
    rw [if_neg hk]
    have hm : Ok st (uEs ks + uAr bs ps) := hok.less (by omega)
    refine ⟨_, _, _, _, _, ⟨enters_of Tryz.func133 (by kernel_rfl) rfl, kids _ hm, ?_⟩⟩
    refine ⟨_, _, _, _, _, ⟨enters_of Tryz.func137 (by kernel_rfl) rfl, arms _ (kdS_ok ks k n 0 _ _ (hm.less (by omega))), ?_⟩⟩
    exact ⟨rfl, rfl⟩
def initS : LS := ⟨[], 0, .map [], 0, .map []⟩
theorem initS_ok (B : Nat) (h : B ≤ 1099511627776) : Ok initS B := ⟨GoodD.empty, GoodD.empty, by simp [initS]; omega, by simp [initS]; omega, by simp [initS]; omega⟩
def freeS (e : Ex) : List ByteArray := (exS e initS).l
theorem free_c (e : Ex) (hs : smallEx e) (hw : wfEx e) (hu : uE e ≤ 1000000) : PCalls Tryz.prog 23 [.agg (exP e)] (fun r => r = .sl (nmP (freeS e))) := by
  have hc := ex_c e hs hw hu initS (initS_ok _ (by omega))
  obtain ⟨k, li, co, m, b, n, ks, ps, bs⟩ := e
  refine pcalls_weak (a23 k li co m (byP b) n (exPs ks) (arPs bs ps) _ ?_)
  unfold p23
  exact ⟨_, _, _, _, _, ⟨enters_of Tryz.func61 (by kernel_rfl) rfl, hc, rfl, rfl⟩⟩
end Go.Proofs.YtcmnjodjebcapaaGreat.Deep

namespace Go.Proofs.YtcmnjodjebcapaaGreat.Deep
open Go.RowKit
set_option linter.unusedVariables false
set_option linter.unusedSimpArgs false
instance lawB : LawfulBEq ByteArray where
  eq_of_beq {a b} h := by
    cases a; cases b
    rename_i x y
    have h' : (x == y) = true := h
    rw [eq_of_beq h']
  rfl {a} := by
    cases a
    rename_i x
    show (x == x) = true
    exact beq_self_eq_true x
mutual
def freeR : Ex → List ByteArray → List ByteArray → List ByteArray
  | .mk k _ _ _ _ n ks ps bs, kn, out => arR bs ps kn (kdR ks k n 0 kn (if k = 2 ∧ n ∉ kn ∧ n ∉ out then out ++ [n] else out))
def kdR : List Ex → Int → ByteArray → Nat → List ByteArray → List ByteArray → List ByteArray
  | [], _, _, _, _, out => out
  | e :: es, k, n, i, kn, out => kdR es k n (i + 1) kn (freeR e (kn ++ giv k n i) out)
def arR : List Ex → List Pt → List ByteArray → List ByteArray → List ByteArray
  | b :: bs, p :: ps, kn, out => arR bs ps kn (freeR b (kn ++ varsP p) out)
  | [], _, _, out => out
  | _ :: _, [], _, out => out
end
def cn (l : List ByteArray) (s : ByteArray) : Int := (l.count s : Int)
theorem cn_cons (a : ByteArray) (l : List ByteArray) (s : ByteArray) : cn (a :: l) s = cn l s + if s = a then 1 else 0 := by
  unfold cn
  rw [List.count_cons]
  by_cases h : s = a
  · subst h; simp
  · have : ¬ a = s := fun e => h e.symm
    simp [h, this]
theorem cn_app (a b : List ByteArray) (s : ByteArray) : cn (a ++ b) s = cn a s + cn b s := by unfold cn; rw [List.count_append]; simp
theorem cn_nn (l : List ByteArray) (s : ByteArray) : 0 ≤ cn l s := by unfold cn; omega
theorem cn_le (l : List ByteArray) (s : ByteArray) : cn l s ≤ l.length := by unfold cn; have := List.count_le_length (a := s) (l := l); omega
theorem cn_pos (l : List ByteArray) (s : ByteArray) : 0 < cn l s ↔ s ∈ l := by
  unfold cn
  rw [← List.count_pos_iff (a := s) (l := l)]; omega
theorem wr_id {c : Int} (h1 : -9223372036854775808 ≤ c) (h2 : c ≤ 9223372036854775807) : wr c = c := wrap_id h1 h2
theorem incs_cnt (ns : List ByteArray) : ∀ x : Nat × DataW Unit, GoodD x.2 → (∀ s, 0 ≤ cnt x.2 s ∧ cnt x.2 s + ns.length ≤ 4611686018427387904) → ∀ s, cnt (ns.foldl incD x).2 s = cnt x.2 s + cn ns s := by
  induction ns with
  | nil => intro x g h s; simp [cn]
  | cons a ns ih =>
    intro x g h s
    have e : ∀ t, cnt (incD x a).2 t = if t = a then cnt x.2 a + 1 else cnt x.2 t := fun t => by
      unfold incD
      dsimp only
      rw [(g.put a _).2 t]
      have := h a
      simp only [List.length_cons] at this
      rw [wr_id (by omega) (by omega)]
    rw [List.foldl_cons, ih (incD x a) (g.put a _).1 (fun t => ?_) s, e, cn_cons]
    · split
      · subst s; omega
      · omega
    · have h1 := h t
      have h2 := h a
      simp only [List.length_cons] at h1 h2
      rw [e]
      split <;> omega
theorem decs_cnt (ns : List ByteArray) : ∀ x : Nat × DataW Unit, GoodD x.2 → (∀ s, cn ns s ≤ cnt x.2 s ∧ cnt x.2 s ≤ 4611686018427387904) → ∀ s, cnt (ns.foldl decD x).2 s = cnt x.2 s - cn ns s := by
  induction ns with
  | nil => intro x g h s; simp [cn]
  | cons a ns ih =>
    intro x g h s
    have ha := h a
    rw [cn_cons, if_pos rfl] at ha
    have h0 := cn_nn ns a
    have g0 : GoodD (dec0 x a) := (g.put a _).1
    have e0 : ∀ t, cnt (dec0 x a) t = if t = a then cnt x.2 a - 1 else cnt x.2 t := fun t => by
      unfold dec0
      rw [(g.put a _).2 t, wr_id (by omega) (by omega)]
    have e : ∀ t, cnt (decD x a).2 t = if t = a then cnt x.2 a - 1 else cnt x.2 t := fun t => by
      unfold decD
      dsimp only
      by_cases hz : cnt (dec0 x a) a = 0
      · rw [if_pos hz, (g0.del a).2 t]
        have := e0 a
        rw [if_pos rfl] at this
        split
        · omega
        · rename_i hne; rw [e0, if_neg hne]
      · rw [if_neg hz, e0]
    rw [List.foldl_cons, ih (decD x a) (decD_good g a) (fun t => ?_) s, e, cn_cons]
    · split
      · subst s; omega
      · omega
    · have h1 := h t
      rw [cn_cons] at h1
      rw [e]
      split
      · subst t; omega
      · rename_i hne; rw [if_neg hne] at h1; omega
structure Rel (st : LS) (kn : List ByteArray) : Prop where
  g1 : GoodD st.D1
  g2 : GoodD st.D2
  c1 : ∀ s, cnt st.D1 s = cn kn s
  c2 : ∀ s, cnt st.D2 s = if s ∈ st.l then 1 else 0
theorem Rel.enter {st : LS} {kn ns : List ByteArray} (h : Rel st kn) (hb : kn.length + ns.length ≤ 1099511627776) : Rel (enterS ns st) (kn ++ ns) := by
  refine ⟨(incs_ok ns _ h.g1).2, h.g2, fun s => ?_, h.c2⟩
  show cnt (ns.foldl incD (st.n1, st.D1)).2 s = _
  rw [incs_cnt ns _ h.g1 (fun t => ?_), cn_app]
  · dsimp only; rw [h.c1]
  · dsimp only
    rw [h.c1]
    have := cn_nn kn t
    have := cn_le kn t
    omega
theorem Rel.leave {st : LS} {kn ns : List ByteArray} (h : Rel st (kn ++ ns)) (hb : kn.length + ns.length ≤ 1099511627776) : Rel (leaveS ns st) kn := by
  refine ⟨(decs_ok ns _ h.g1).2, h.g2, fun s => ?_, h.c2⟩
  show cnt (ns.foldl decD (st.n1, st.D1)).2 s = _
  rw [decs_cnt ns _ h.g1 (fun t => ?_)]
  · dsimp only; rw [h.c1, cn_app]; omega
  · dsimp only
    rw [h.c1, cn_app]
    have := cn_nn kn t
    have := cn_le kn t
    have := cn_le ns t
    omega
theorem Rel.meet {st : LS} {kn : List ByteArray} (h : Rel st kn) (n : ByteArray) : Rel (meetS n st) kn ∧ (meetS n st).l = if n ∉ kn ∧ n ∉ st.l then st.l ++ [n] else st.l := by
  unfold meetS
  rw [h.c1, h.c2]
  by_cases h1 : n ∈ kn
  · rw [if_pos ((cn_pos kn n).2 h1), if_neg (fun q => q.1 h1)]
    exact ⟨h, rfl⟩
  rw [if_neg (fun q => h1 ((cn_pos kn n).1 q))]
  by_cases h2 : n ∈ st.l
  · rw [if_pos h2, if_pos (by decide), if_neg (fun q => q.2 h2)]
    exact ⟨h, rfl⟩
  rw [if_neg h2, if_neg (by decide), if_pos ⟨h1, h2⟩]
  refine ⟨⟨h.g1, (h.g2.put n _).1, h.c1, fun s => ?_⟩, rfl⟩
  dsimp only
  rw [(h.g2.put n _).2 s, h.c2]
  by_cases hs : s = n
  · subst hs
    rw [if_pos rfl, if_pos (by simp)]; rfl
  · rw [if_neg hs]
    by_cases hm : s ∈ st.l
    · rw [if_pos hm, if_pos (by simp [hm])]
    · rw [if_neg hm, if_neg (by simp [hm, hs])]
mutual
theorem ex_rel : ∀ (e : Ex) (st : LS) (kn : List ByteArray), Rel st kn → kn.length + uE e ≤ 1099511627776 → Rel (exS e st) kn ∧ (exS e st).l = freeR e kn st.l
  | .mk k li co m b n ks ps bs, st, kn, h, hb => by
    unfold uE at hb
    unfold exS freeR
    have h1 : Rel (if k = 2 then meetS n st else st) kn ∧ (if k = 2 then meetS n st else st).l = (if k = 2 ∧ n ∉ kn ∧ n ∉ st.l then st.l ++ [n] else st.l) := by
      by_cases hk : k = 2
      · rw [if_pos hk]
        obtain ⟨q1, q2⟩ := h.meet n
        refine ⟨q1, ?_⟩
        rw [q2]
        by_cases hc : n ∉ kn ∧ n ∉ st.l
        · rw [if_pos hc, if_pos ⟨hk, hc⟩]
        · rw [if_neg hc, if_neg (fun q => hc q.2)]
      · rw [if_neg hk, if_neg (fun q => hk q.1)]
        exact ⟨h, rfl⟩
    obtain ⟨r1, e1⟩ := h1
    obtain ⟨r2, e2⟩ := kd_rel ks k n 0 _ kn r1 (by omega)
    obtain ⟨r3, e3⟩ := ar_rel bs ps _ kn r2 (by omega)
    exact ⟨r3, by rw [e3, e2, e1]⟩
theorem kd_rel : ∀ (es : List Ex) (k : Int) (n : ByteArray) (i : Nat) (st : LS) (kn : List ByteArray), Rel st kn → kn.length + uEs es ≤ 1099511627776 → Rel (kdS es k n i st) kn ∧ (kdS es k n i st).l = kdR es k n i kn st.l
  | [], k, n, i, st, kn, h, _ => by unfold kdS kdR; exact ⟨h, rfl⟩
  | e :: es, k, n, i, st, kn, h, hb => by
    unfold uEs at hb
    have hg := giv_len k n i
    obtain ⟨r1, e1⟩ := ex_rel e _ _ (h.enter (ns := giv k n i) (by omega)) (by rw [List.length_append]; omega)
    obtain ⟨r2, e2⟩ := kd_rel es k n (i + 1) _ kn (r1.leave (by omega)) (by omega)
    unfold kdS kdR
    refine ⟨r2, ?_⟩
    rw [e2]
    show kdR es k n (i + 1) kn (exS e (enterS (giv k n i) st)).l = _
    rw [e1]; rfl
theorem ar_rel : ∀ (bs : List Ex) (ps : List Pt) (st : LS) (kn : List ByteArray), Rel st kn → kn.length + uAr bs ps ≤ 1099511627776 → Rel (arS bs ps st) kn ∧ (arS bs ps st).l = arR bs ps kn st.l
  | [], ps, st, kn, h, _ => by unfold arS arR; exact ⟨h, rfl⟩
  | _ :: _, [], st, kn, h, _ => by unfold arS arR; exact ⟨h, rfl⟩
  | b :: bs, p :: ps, st, kn, h, hb => by
    unfold uAr at hb
    have hg := varsP_len p
    obtain ⟨r1, e1⟩ := ex_rel b _ _ (h.enter (ns := varsP p) (by omega)) (by rw [List.length_append]; omega)
    obtain ⟨r2, e2⟩ := ar_rel bs ps _ kn (r1.leave (by omega)) (by omega)
    unfold arS arR
    refine ⟨r2, ?_⟩
    rw [e2]
    show arR bs ps kn (exS b (enterS (varsP p) st)).l = _
    rw [e1]; rfl
end
theorem free_eq (e : Ex) (h : uE e ≤ 1000000) : freeS e = freeR e [] [] := by
  have hr : Rel initS [] := ⟨GoodD.empty, GoodD.empty, fun s => rfl, fun s => by simp [initS, cnt_empty]⟩
  exact (ex_rel e initS [] hr (by simp only [List.length_nil]; omega)).2
mutual
def fvE : Ex → ByteArray → Prop
  | .mk k _ _ _ _ n ks ps bs, s => (k = 2 ∧ s = n) ∨ (fvK ks k n 0 s ∨ fvA bs ps s)
def fvK : List Ex → Int → ByteArray → Nat → ByteArray → Prop
  | [], _, _, _, _ => False
  | e :: es, k, n, i, s => (fvE e s ∧ s ∉ giv k n i) ∨ fvK es k n (i + 1) s
def fvA : List Ex → List Pt → ByteArray → Prop
  | b :: bs, p :: ps, s => (fvE b s ∧ s ∉ varsP p) ∨ fvA bs ps s
  | [], _, _ => False
  | _ :: _, [], _ => False
end
mutual
theorem mem_freeR : ∀ (e : Ex) (kn out : List ByteArray) (s : ByteArray), s ∈ freeR e kn out ↔ s ∈ out ∨ (fvE e s ∧ s ∉ kn)
  | .mk k li co m b n ks ps bs, kn, out, s => by
    unfold freeR fvE
    rw [mem_arR bs ps, mem_kdR ks]
    by_cases hc : k = 2 ∧ n ∉ kn ∧ n ∉ out
    · rw [if_pos hc, List.mem_append, List.mem_singleton]
      by_cases hs : s = n
      · subst hs; simp [hc]
      · simp only [hs, or_false, and_false, false_or]
        by_cases h1 : s ∈ out <;> by_cases h2 : s ∈ kn <;> by_cases h3 : fvK ks k n 0 s <;> simp [h1, h2, h3]
    · rw [if_neg hc]
      by_cases h0 : k = 2 ∧ s = n
      · obtain ⟨hk, rfl⟩ := h0
        by_cases h1 : s ∈ out <;> by_cases h2 : s ∈ kn <;> by_cases h3 : fvK ks k s 0 s <;> simp_all
      · simp only [h0, false_or]
        by_cases h1 : s ∈ out <;> by_cases h2 : s ∈ kn <;> by_cases h3 : fvK ks k n 0 s <;> simp [h1, h2, h3]
theorem mem_kdR : ∀ (es : List Ex) (k : Int) (n : ByteArray) (i : Nat) (kn out : List ByteArray) (s : ByteArray), s ∈ kdR es k n i kn out ↔ s ∈ out ∨ (fvK es k n i s ∧ s ∉ kn)
  | [], k, n, i, kn, out, s => by unfold kdR fvK; simp
  | e :: es, k, n, i, kn, out, s => by
    unfold kdR fvK
    rw [mem_kdR es, mem_freeR e, List.mem_append]
    by_cases h1 : s ∈ out <;> by_cases h2 : s ∈ kn <;> by_cases h3 : fvE e s <;> by_cases h4 : s ∈ giv k n i <;> simp [h1, h2, h3, h4]
theorem mem_arR : ∀ (bs : List Ex) (ps : List Pt) (kn out : List ByteArray) (s : ByteArray), s ∈ arR bs ps kn out ↔ s ∈ out ∨ (fvA bs ps s ∧ s ∉ kn)
  | [], ps, kn, out, s => by unfold arR fvA; simp
  | _ :: _, [], kn, out, s => by unfold arR fvA; simp
  | b :: bs, p :: ps, kn, out, s => by
    unfold arR fvA
    rw [mem_arR bs ps, mem_freeR b, List.mem_append]
    by_cases h1 : s ∈ out <;> by_cases h2 : s ∈ kn <;> by_cases h3 : fvE b s <;> by_cases h4 : s ∈ varsP p <;> simp [h1, h2, h3, h4]
end
theorem fvK_at : ∀ (es : List Ex) (k : Int) (n : ByteArray) (i j : Nat) (h : j < es.length) (s : ByteArray), fvE es[j] s → s ∉ giv k n (i + j) → fvK es k n i s
  | e :: es, k, n, i, 0, _, s, h1, h2 => by unfold fvK; exact .inl ⟨h1, h2⟩
  | e :: es, k, n, i, j + 1, h, s, h1, h2 => by
    unfold fvK
    exact .inr (fvK_at es k n (i + 1) j (by simpa using h) s (by simpa using h1) (by rw [show i + 1 + j = i + (j + 1) by omega]; exact h2))
theorem fvA_at : ∀ (bs : List Ex) (ps : List Pt) (j : Nat) (h : j < bs.length) (h' : j < ps.length) (s : ByteArray), fvE bs[j] s → s ∉ varsP ps[j] → fvA bs ps s
  | b :: bs, p :: ps, 0, _, _, s, h1, h2 => by unfold fvA; exact .inl ⟨h1, h2⟩
  | b :: bs, p :: ps, j + 1, h, h', s, h1, h2 => by
    unfold fvA
    exact .inr (fvA_at bs ps j (by simpa using h) (by simpa using h') s (by simpa using h1) (by simpa using h2))
theorem free_mem (e : Ex) (s : ByteArray) : s ∈ freeR e [] [] ↔ fvE e s := by rw [mem_freeR]; simp
mutual
theorem freeR_len : ∀ (e : Ex) (kn out : List ByteArray), (freeR e kn out).length ≤ out.length + uE e
  | .mk k li co m b n ks ps bs, kn, out => by
    unfold freeR uE
    have h1 := arR_len bs ps kn (kdR ks k n 0 kn (if k = 2 ∧ n ∉ kn ∧ n ∉ out then out ++ [n] else out))
    have h2 := kdR_len ks k n 0 kn (if k = 2 ∧ n ∉ kn ∧ n ∉ out then out ++ [n] else out)
    have h3 : (if k = 2 ∧ n ∉ kn ∧ n ∉ out then out ++ [n] else out).length ≤ out.length + 1 := by split <;> simp
    omega
theorem kdR_len : ∀ (es : List Ex) (k : Int) (n : ByteArray) (i : Nat) (kn out : List ByteArray), (kdR es k n i kn out).length ≤ out.length + uEs es
  | [], k, n, i, kn, out => by unfold kdR uEs; omega
  | e :: es, k, n, i, kn, out => by
    unfold kdR uEs
    have h1 := kdR_len es k n (i + 1) kn (freeR e (kn ++ giv k n i) out)
    have h2 := freeR_len e (kn ++ giv k n i) out
    omega
theorem arR_len : ∀ (bs : List Ex) (ps : List Pt) (kn out : List ByteArray), (arR bs ps kn out).length ≤ out.length + uAr bs ps
  | [], ps, kn, out => by unfold arR; omega
  | _ :: _, [], kn, out => by unfold arR; omega
  | b :: bs, p :: ps, kn, out => by
    unfold arR uAr
    have h1 := arR_len bs ps kn (freeR b (kn ++ varsP p) out)
    have h2 := freeR_len b (kn ++ varsP p) out
    omega
end
mutual
theorem uP_light : ∀ (t : Pt) (l : Int), 0 ≤ lightPt t l → (uP t : Int) ≤ l - lightPt t l
  | .mk k li co n m ks, l, h => by
    unfold lightPt at h ⊢
    have := uPs_light ks _ h
    have := (take20_le n.size).1
    unfold uP
    push_cast
    omega
theorem uPs_light : ∀ (ts : List Pt) (l : Int), 0 ≤ lightPts ts l → (uPs ts : Int) ≤ l - lightPts ts l
  | [], l, h => by unfold lightPts uPs; simp
  | t :: ts, l, h => by
    unfold lightPts at h ⊢
    split at h
    · omega
    · rename_i hl
      rw [if_neg hl]
      have h1 := uPs_light ts _ h
      have h0 : 0 ≤ lightPt t l := by
        rcases Int.lt_or_le (lightPt t l) 0 with q | q
        · rw [lightPts_neg ts _ q] at h; omega
        · exact q
      have h2 := uP_light t l h0
      unfold uPs
      push_cast
      omega
end
mutual
theorem uE_light : ∀ (t : Ex) (l : Int), 0 ≤ lightEx t l → (uE t : Int) + 2 ≤ 3 * (l - lightEx t l)
  | .mk k li co m b n ks ps bs, l, h => by
    unfold lightEx at h ⊢
    obtain ⟨L0, hL0⟩ : ∃ L0, l - 1 - take20 b.length - take20 n.size = L0 := ⟨_, rfl⟩
    rw [hL0] at h ⊢
    have h2 := uAr_light bs ps _ h
    have h0 : 0 ≤ lightExs ks L0 := by
      rcases Int.lt_or_le (lightExs ks L0) 0 with q | q
      · rw [lightArms_neg bs ps _ q] at h; omega
      · exact q
    have h1 := uEs_light ks L0 h0
    have := (take20_le n.size).1
    have := (take20_le b.length).1
    unfold uE
    push_cast
    omega
theorem uEs_light : ∀ (ts : List Ex) (l : Int), 0 ≤ lightExs ts l → (uEs ts : Int) ≤ 3 * (l - lightExs ts l)
  | [], l, h => by unfold lightExs uEs; simp
  | t :: ts, l, h => by
    unfold lightExs at h ⊢
    split at h
    · omega
    · rename_i hl
      rw [if_neg hl]
      have h1 := uEs_light ts _ h
      have h0 : 0 ≤ lightEx t l := by
        rcases Int.lt_or_le (lightEx t l) 0 with q | q
        · rw [lightExs_neg ts _ q] at h; omega
        · exact q
      have h2 := uE_light t l h0
      unfold uEs
      push_cast
      omega
theorem uAr_light : ∀ (bs : List Ex) (ps : List Pt) (l : Int), 0 ≤ lightArms bs ps l → (uAr bs ps : Int) ≤ 3 * (l - lightArms bs ps l)
  | [], ps, l, h => by unfold lightArms uAr; simp
  | b :: bs, [], l, h => by unfold lightArms uAr; simp
  | b :: bs, p :: ps, l, h => by
    unfold lightArms at h ⊢
    split at h
    · omega
    · rename_i hl
      rw [if_neg hl]
      have h1 := uAr_light bs ps _ h
      have h0 : 0 ≤ lightEx b (lightPt p l) := by
        rcases Int.lt_or_le (lightEx b (lightPt p l)) 0 with q | q
        · rw [lightArms_neg bs ps _ q] at h; omega
        · exact q
      have h2 := uE_light b _ h0
      have h3 := (lightEx_ok b (lightPt p l)).1
      have h4 := uP_light p l (by omega)
      have h5 := varsP_len p
      unfold uAr
      push_cast
      omega
end
theorem uE_few (e : Ex) (h : 0 ≤ lightEx e 3000) : uE e ≤ 1000000 := by
  have := uE_light e 3000 h
  omega
end Go.Proofs.YtcmnjodjebcapaaGreat.Deep

namespace Go.Proofs.YtcmnjodjebcapaaGreat.Deep
open Go.RowKit
set_option linter.unusedVariables false
def loops30 (id : Nat) : Option (List Nat × List (Nat × Sh)) := match Nat.beq id 2 with | true => some ([0, 1], [(5, .int .i64)]) | false => none
def p30 (l1 : List (List PV)) (s2 : ByteArray) (Q : PV → Heap → Prop) : Prop :=
∃ I3 : Nat → ((Int) × Unit) → Prop, (∃ n, I3 n (0, ())) ∧ ∀ (n4 : Nat) (v5 : (Int) × Unit), I3 n4 v5 →
  (br ((decide ((v5.1 : Int) < (List.length l1 : Int))))
  (∃ s6 : ByteArray, IdxN l1 v5.1 [s6]
  (br ((ByteArray.toList s6 == ByteArray.toList s2))
  (Q (.con (.bool true)) [])
  ((@Eq PV l1 l1 ∧ @Eq PV s2 s2 ∧ True) ∧ @Eq Heap [] [] ∧ ∃ k7, k7 < n4 ∧ I3 k7 ((IntKind.wrap .i64 (v5.1 + 1)), ()))))
  (Q (.con (.bool false)) []))
theorem a30 (l1 : List (List PV)) (s2 : ByteArray) (Q : PV → Heap → Prop) (h : p30 l1 s2 Q) : ACalls Tryz.prog 30 [l1, s2] [] Q := by
  have hb : Option.some (bodyOf Tryz.f30) = Tryz.f30.body := by kernel_rfl
  exact acalls_eq (S := S) (L := loops30) mixed tok Tryz.func30 hb.symm (by kernel_rfl) h
def loops31 (id : Nat) : Option (List Nat × List (Nat × Sh)) := match Nat.beq id 5 with | true => some ([1], [(3, .own 0 9 1), (4, .int .i64)]) | false => none
def p31 (i1 i2 i3 : Int) (s4 : ByteArray) (i5 : Int) (l6 : List (List PV)) (Q : PV → Heap → Prop) : Prop :=
br (((i1 : Int) == 1))
  (AppN [] [[s4]] 1 16 PV.one
  (∃ I7 : Nat → ((List (List PV)) × (Int) × Unit) → Prop, (∃ n, I7 n ([[s4]], 0, ())) ∧ ∀ (n8 : Nat) (v9 : (List (List PV)) × (Int) × Unit), I7 n8 v9 →
  (br ((decide ((v9.2.1 : Int) < (List.length l6 : Int))))
  (∃ i10 : Int, ∃ i11 : Int, ∃ i12 : Int, ∃ s13 : ByteArray, ∃ i14 : Int, ∃ l15 : List (List PV), IdxN l6 v9.2.1 [i10, i11, i12, s13, i14, l15]
  (∃ l16 : List (List PV), CallN Tryz.prog 31 [(.agg [i10, i11, i12, s13, i14, l15])] [[i1, i2, i3, s4, i5, l6], [.tip], [], [], [.tip]] l16
  (AppN v9.1 l16 1 16 PV.one
  ((@Eq PV (.ptr 0 0) (.ptr 0 0) ∧ True) ∧ @Eq Heap [[i1, i2, i3, s4, i5, l6], [.tip], [], []] [[i1, i2, i3, s4, i5, l6], [.tip], [], []] ∧ ∃ k17, k17 < n8 ∧ I7 k17 ((v9.1 ++ l16), (IntKind.wrap .i64 (v9.2.1 + 1)), ())))))
  (Q (.own 4 9 1 v9.1) [[i1, i2, i3, s4, i5, l6], [.tip], [], [], [.tip]]))))
  (∃ I18 : Nat → ((List (List PV)) × (Int) × Unit) → Prop, (∃ n, I18 n ([], 0, ())) ∧ ∀ (n19 : Nat) (v20 : (List (List PV)) × (Int) × Unit), I18 n19 v20 →
  (br ((decide ((v20.2.1 : Int) < (List.length l6 : Int))))
  (∃ i21 : Int, ∃ i22 : Int, ∃ i23 : Int, ∃ s24 : ByteArray, ∃ i25 : Int, ∃ l26 : List (List PV), IdxN l6 v20.2.1 [i21, i22, i23, s24, i25, l26]
  (∃ l27 : List (List PV), CallN Tryz.prog 31 [(.agg [i21, i22, i23, s24, i25, l26])] [[i1, i2, i3, s4, i5, l6], [.tip]] l27
  (AppN v20.1 l27 1 16 PV.one
  ((@Eq PV (.ptr 0 0) (.ptr 0 0) ∧ True) ∧ @Eq Heap [[i1, i2, i3, s4, i5, l6]] [[i1, i2, i3, s4, i5, l6]] ∧ ∃ k28, k28 < n19 ∧ I18 k28 ((v20.1 ++ l27), (IntKind.wrap .i64 (v20.2.1 + 1)), ())))))
  (Q (.own 1 9 1 v20.1) [[i1, i2, i3, s4, i5, l6], [.tip]])))
theorem a31 (i1 i2 i3 : Int) (s4 : ByteArray) (i5 : Int) (l6 : List (List PV)) (Q : PV → Heap → Prop) (h : p31 i1 i2 i3 s4 i5 l6 Q) : ACalls Tryz.prog 31 [(.agg [i1, i2, i3, s4, i5, l6])] [] Q := by
  have hb : Option.some (bodyOf Tryz.f31) = Tryz.f31.body := by kernel_rfl
  exact acalls_eq (S := S) (L := loops31) mixed tok Tryz.func31 hb.symm (by kernel_rfl) h
end Go.Proofs.YtcmnjodjebcapaaGreat.Deep
