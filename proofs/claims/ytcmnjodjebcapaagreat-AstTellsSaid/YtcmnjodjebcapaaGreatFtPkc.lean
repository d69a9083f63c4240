/-
  Texts of one proof, in their order. No condition.
-/
import Derived.Test.YtcmnjodjebcapaaGreatFtNm
import Derived.WalkKit
import Derived.ProofKit
import Derived.OpenShut
import Derived.Carry
import Derived.ChangeSlices
import Derived.Test.YtcmnjodjebcapaaGreatFtPkb
namespace Go.Proofs.YtcmnjodjebcapaaGreat.Deep
open Go.RowKit
set_option linter.unusedVariables false
mutual
def tyP : Ty → List PV
  | .mk k n ps => [.con (.int .i64 k), .con (.string n), .sl (tyPs ps)]
def tyPs : List Ty → List (List PV)
  | [] => []
  | t :: ts => tyP t :: tyPs ts
end
mutual
def ptP : Pt → List PV
  | .mk k li co n m ks => [.con (.int .i64 k), .con (.int .i64 li), .con (.int .i64 co), .con (.string n), .con (.int .i64 m), .sl (ptPs ks)]
def ptPs : List Pt → List (List PV)
  | [] => []
  | t :: ts => ptP t :: ptPs ts
end
def byP (b : List UInt8) : List (List PV) := b.map fun x => [.con (.int .u8 (x.toNat : Int))]
mutual
def exP : Ex → List PV
  | .mk k li co m b n ks ps bs => [.con (.int .i64 k), .con (.int .i64 li), .con (.int .i64 co), .con (.int .i64 m), .sl (byP b), .con (.string n), .sl (exPs ks), .sl (arPs bs ps)]
def exPs : List Ex → List (List PV)
  | [] => []
  | t :: ts => exP t :: exPs ts
def arPs : List Ex → List Pt → List (List PV)
  | b :: bs, p :: ps => (ptP p ++ exP b) :: arPs bs ps
  | _, _ => []
end
theorem tyPs_len : ∀ ts : List Ty, (tyPs ts).length = ts.length
  | [] => rfl
  | t :: ts => by simp [tyPs, tyPs_len ts]
theorem ptPs_len : ∀ ts : List Pt, (ptPs ts).length = ts.length
  | [] => rfl
  | t :: ts => by simp [ptPs, ptPs_len ts]
theorem exPs_len : ∀ ts : List Ex, (exPs ts).length = ts.length
  | [] => rfl
  | t :: ts => by simp [exPs, exPs_len ts]
theorem arPs_len : ∀ (bs : List Ex) (ps : List Pt), ps.length = bs.length → (arPs bs ps).length = bs.length
  | [], ps, _ => by cases ps <;> rfl
  | b :: bs, [], h => by simp at h
  | b :: bs, p :: ps, h => by simp [arPs, arPs_len bs ps (by simpa using h)]
theorem tyPs_get : ∀ (ts : List Ty) (i : Nat) (h : i < ts.length), (tyPs ts)[i]? = some (tyP ts[i])
  | t :: ts, 0, _ => rfl
  | t :: ts, i + 1, h => by simpa [tyPs] using tyPs_get ts i (by simpa using h)
theorem ptPs_get : ∀ (ts : List Pt) (i : Nat) (h : i < ts.length), (ptPs ts)[i]? = some (ptP ts[i])
  | t :: ts, 0, _ => rfl
  | t :: ts, i + 1, h => by simpa [ptPs] using ptPs_get ts i (by simpa using h)
theorem exPs_get : ∀ (ts : List Ex) (i : Nat) (h : i < ts.length), (exPs ts)[i]? = some (exP ts[i])
  | t :: ts, 0, _ => rfl
  | t :: ts, i + 1, h => by simpa [exPs] using exPs_get ts i (by simpa using h)
theorem arPs_get : ∀ (bs : List Ex) (ps : List Pt) (i : Nat) (h : i < bs.length) (h2 : i < ps.length), (arPs bs ps)[i]? = some (ptP ps[i] ++ exP bs[i])
  | b :: bs, p :: ps, 0, _, _ => rfl
  | b :: bs, p :: ps, i + 1, h, h2 => by simpa [arPs] using arPs_get bs ps i (by simpa using h) (by simpa using h2)
mutual
theorem Ty.ind {M : Ty → Prop} (h : ∀ k n ps, (∀ i, (hi : i < ps.length) → M ps[i]) → M (.mk k n ps)) : ∀ t, M t
  | .mk k n ps => h k n ps (Ty.inds h ps)
theorem Ty.inds {M : Ty → Prop} (h : ∀ k n ps, (∀ i, (hi : i < ps.length) → M ps[i]) → M (.mk k n ps)) : ∀ (ts : List Ty) i, (hi : i < ts.length) → M ts[i]
  | t :: ts, 0, _ => Ty.ind h t
  | t :: ts, i + 1, hi => by simpa using Ty.inds h ts i (by simpa using hi)
end
mutual
theorem Pt.ind {M : Pt → Prop} (h : ∀ k li co n m ps, (∀ i, (hi : i < ps.length) → M ps[i]) → M (.mk k li co n m ps)) : ∀ t, M t
  | .mk k li co n m ps => h k li co n m ps (Pt.inds h ps)
theorem Pt.inds {M : Pt → Prop} (h : ∀ k li co n m ps, (∀ i, (hi : i < ps.length) → M ps[i]) → M (.mk k li co n m ps)) : ∀ (ts : List Pt) i, (hi : i < ts.length) → M ts[i]
  | t :: ts, 0, _ => Pt.ind h t
  | t :: ts, i + 1, hi => by simpa using Pt.inds h ts i (by simpa using hi)
end
mutual
theorem Ex.ind {M : Ex → Prop} (h : ∀ k li co m b n ks ps bs, (∀ i, (hi : i < ks.length) → M ks[i]) → (∀ i, (hi : i < bs.length) → M bs[i]) → M (.mk k li co m b n ks ps bs)) : ∀ t, M t
  | .mk k li co m b n ks ps bs => h k li co m b n ks ps bs (Ex.inds h ks) (Ex.inds h bs)
theorem Ex.inds {M : Ex → Prop} (h : ∀ k li co m b n ks ps bs, (∀ i, (hi : i < ks.length) → M ks[i]) → (∀ i, (hi : i < bs.length) → M bs[i]) → M (.mk k li co m b n ks ps bs)) : ∀ (ts : List Ex) i, (hi : i < ts.length) → M ts[i]
  | t :: ts, 0, _ => Ex.ind h t
  | t :: ts, i + 1, hi => by simpa using Ex.inds h ts i (by simpa using hi)
end
theorem pcalls_of {P : Program} {f : FuncId} {us : List Value} {v : Value} (h : ∀ w, Calls P f us.toArray w fun e w' => e = .returned v ∧ Below w.heap.size w w') : PCalls P f (us.map .con) (fun r => r = .con v) := by
  intro G m w vs hs ha
  obtain ⟨a1, a2⟩ := ha
  have e : vs = us.toArray := by
    apply Array.ext
    · simpa using a1
    · intro i hi1 hi2
      have hi3 : i < us.length := by simpa using hi2
      have h0 := a2 i (by simpa using hi3)
      rw [List.getD_eq_getElem?_getD, List.getElem?_map, List.getElem?_eq_getElem hi3] at h0
      have h1 := h0.con_eq
      simpa [Array.getD_eq_getD_getElem?, Array.getElem?_eq_getElem hi1] using h1
  subst e
  exact (h w).mono fun e w' ⟨he, hb⟩ => ⟨_, _, [], G, m, he, ⟨rfl, rfl⟩, .con _ _, (hs.later hb).1, (hs.later hb).2⟩
theorem still_below {P : Program} {f : FuncId} {us : Array Value} {v : Value} {w : World} (h : Calls P f us w fun e w' => e = .returned v ∧ w = w') : Calls P f us w fun e w' => e = .returned v ∧ Below w.heap.size w w' :=
  h.mono fun e w' ⟨he, hw⟩ => ⟨he, hw ▸ Below.refl _ _⟩
theorem min_take (n : Nat) : minI (n : Int) 1048576 = take20 n := by unfold minI take20; split <;> split <;> omega
theorem light_ty (t : Ty) : ∀ l : Int, -1099511627776 ≤ l → l ≤ 3000 → PCalls Tryz.prog 10 [.agg (tyP t), .con (.int .i64 l)] (fun r => r = .con (.int .i64 (lightTy t l))) := by
  induction t using Ty.ind with
  | h k n ps ih =>
  intro l h0 h1
  have hn := take20_le n.size
  refine a10 _ _ _ _ _ ?_
  unfold p10
  rw [min_take, wrap_id (n := l - 1) (by omega) (by omega), wrap_id (by omega) (by omega)]
  obtain ⟨L, hL⟩ : ∃ L, lightTy (.mk k n ps) l = L := ⟨_, rfl⟩
  rw [hL]
  unfold lightTy at hL
  rw [tyPs_len]
  refine ⟨fun c v => ∃ j : Nat, j ≤ ps.length ∧ c = ps.length - j ∧ v.2.1 = (j : Int) ∧ lightTys (ps.drop j) v.1 = L ∧ -1099513627776 ≤ v.1 ∧ v.1 + j ≤ 3000, ⟨_, 0, Nat.zero_le _, rfl, rfl, by simpa using hL, by dsimp only; omega, by dsimp only; omega⟩, ?_⟩
  rintro c ⟨cur, i, u⟩ ⟨j, hj, rfl, hi, hLj, b0, b1⟩
  dsimp only at hi hLj b0 b1 ⊢
  subst hi
  refine br_i (fun hlt => ?_) (fun hge => ?_)
  · have hlt : j < ps.length := by simpa using hlt
    rw [List.drop_eq_getElem_cons hlt, lightTys] at hLj
    refine br_i (fun hc => ?_) (fun hc => ?_)
    · have hc : 0 ≤ cur := by simpa using hc
      rw [if_neg (by omega)] at hLj
      have hx := tyPs_get ps j hlt
      obtain ⟨a1, a2, a3, a4⟩ := lightTy_ok ps[j] cur
      have hi := ih j hlt cur (by omega) (by omega)
      obtain ⟨k', n', ps', hp⟩ : ∃ k' n' ps', ps[j] = .mk k' n' ps' := by cases ps[j]; exact ⟨_, _, _, rfl⟩
      rw [hp] at hx hi hLj a1 a2
      refine ⟨_, _, _, ⟨by omega, by rw [Int.toNat_natCast]; exact hx, ?_⟩⟩
      refine ⟨_, call_p (enters_of Tryz.func10 (by kernel_rfl) rfl) hi rfl ⟨⟨rfl, trivial⟩, rfl, ps.length - (j + 1), by omega, j + 1, by omega, rfl, ?_, hLj, ?_, ?_⟩⟩
      · rw [wrap_id (by omega) (by omega)]; simp
      · have := a2 hc; omega
      · omega
    · have hc : cur < 0 := by have : ¬ 0 ≤ cur := by simpa using hc
                              omega
      rw [if_pos hc] at hLj
      exact ⟨by rw [← hLj], rfl⟩
  · have hge : ¬ j < ps.length := by simpa using hge
    rw [List.drop_of_length_le (by omega), lightTys] at hLj
    exact ⟨by rw [← hLj], rfl⟩
theorem light_pt (t : Pt) : ∀ l : Int, -1099511627776 ≤ l → l ≤ 3000 → PCalls Tryz.prog 9 [.agg (ptP t), .con (.int .i64 l)] (fun r => r = .con (.int .i64 (lightPt t l))) := by
  induction t using Pt.ind with
  | h k li co n m ps ih =>
  intro l h0 h1
  have hn := take20_le n.size
  refine a9 _ _ _ _ _ _ _ _ ?_
  unfold p9
  rw [min_take, wrap_id (n := l - 1) (by omega) (by omega), wrap_id (by omega) (by omega)]
  obtain ⟨L, hL⟩ : ∃ L, lightPt (.mk k li co n m ps) l = L := ⟨_, rfl⟩
  rw [hL]
  unfold lightPt at hL
  rw [ptPs_len]
  refine ⟨fun c v => ∃ j : Nat, j ≤ ps.length ∧ c = ps.length - j ∧ v.2.1 = (j : Int) ∧ lightPts (ps.drop j) v.1 = L ∧ -1099513627776 ≤ v.1 ∧ v.1 + j ≤ 3000, ⟨_, 0, Nat.zero_le _, rfl, rfl, by simpa using hL, by dsimp only; omega, by dsimp only; omega⟩, ?_⟩
  rintro c ⟨cur, i, u⟩ ⟨j, hj, rfl, hi, hLj, b0, b1⟩
  dsimp only at hi hLj b0 b1 ⊢
  subst hi
  refine br_i (fun hlt => ?_) (fun hge => ?_)
  · have hlt : j < ps.length := by simpa using hlt
    rw [List.drop_eq_getElem_cons hlt, lightPts] at hLj
    refine br_i (fun hc => ?_) (fun hc => ?_)
    · have hc : 0 ≤ cur := by simpa using hc
      rw [if_neg (by omega)] at hLj
      have hx := ptPs_get ps j hlt
      obtain ⟨a1, a2, a3, a4⟩ := lightPt_ok ps[j] cur
      have hi := ih j hlt cur (by omega) (by omega)
      obtain ⟨k', li', co', n', m', ps', hp⟩ : ∃ k' li' co' n' m' ps', ps[j] = .mk k' li' co' n' m' ps' := by cases ps[j]; exact ⟨_, _, _, _, _, _, rfl⟩
      rw [hp] at hx hi hLj a1 a2
      refine ⟨_, _, _, _, _, _, ⟨by omega, by rw [Int.toNat_natCast]; exact hx, ?_⟩⟩
      refine ⟨_, call_p (enters_of Tryz.func9 (by kernel_rfl) rfl) hi rfl ⟨⟨rfl, trivial⟩, rfl, ps.length - (j + 1), by omega, j + 1, by omega, rfl, ?_, hLj, ?_, ?_⟩⟩
      · rw [wrap_id (by omega) (by omega)]; simp
      · have := a2 hc; omega
      · omega
    · have hc : cur < 0 := by have : ¬ 0 ≤ cur := by simpa using hc
                              omega
      rw [if_pos hc] at hLj
      exact ⟨by rw [← hLj], rfl⟩
  · have hge : ¬ j < ps.length := by simpa using hge
    rw [List.drop_of_length_le (by omega), lightPts] at hLj
    exact ⟨by rw [← hLj], rfl⟩
theorem wfExs_at : ∀ (ks : List Ex), wfExs ks → ∀ i (h : i < ks.length), wfEx ks[i]
  | t :: ts, hs, 0, _ => by unfold wfExs at hs; exact hs.1
  | t :: ts, hs, i + 1, h => by unfold wfExs at hs; simpa using wfExs_at ts hs.2 i (by simpa using h)
theorem light_ex (t : Ex) : wfEx t → ∀ l : Int, -1099511627776 ≤ l → l ≤ 3000 → PCalls Tryz.prog 8 [.agg (exP t), .con (.int .i64 l)] (fun r => r = .con (.int .i64 (lightEx t l))) := by
  induction t using Ex.ind with
  | h k li co m b n ks ps bs ihk ihb =>
  intro hw l h0 h1
  have hn := take20_le n.size
  have hbb := take20_le b.length
  unfold wfEx at hw
  obtain ⟨hpb, hwk, hwb⟩ := hw
  refine a8 _ _ _ _ _ _ _ _ _ _ ?_
  unfold p8
  rw [min_take, show (byP b).length = b.length by simp [byP], min_take, wrap_id (n := l - 1) (by omega) (by omega), wrap_id (n := l - 1 - take20 b.length) (by omega) (by omega), wrap_id (by omega) (by omega)]
  obtain ⟨L, hL⟩ : ∃ L, lightEx (.mk k li co m b n ks ps bs) l = L := ⟨_, rfl⟩
  rw [hL]
  unfold lightEx at hL
  rw [exPs_len, arPs_len bs ps hpb]
  refine ⟨fun c v => ∃ j : Nat, j ≤ ks.length ∧ c = ks.length - j ∧ v.2.1 = (j : Int) ∧ lightArms bs ps (lightExs (ks.drop j) v.1) = L ∧ -1099513727776 ≤ v.1 ∧ v.1 + j ≤ 3000, ⟨_, 0, Nat.zero_le _, rfl, rfl, by simpa using hL, by dsimp only; omega, by dsimp only; omega⟩, ?_⟩
  rintro c ⟨cur, i, u⟩ ⟨j, hj, rfl, hi, hLj, b0, b1⟩
  dsimp only at hi hLj b0 b1 ⊢
  subst hi
  by_cases hgo : j < ks.length ∧ 0 ≤ cur
  · obtain ⟨hlt, hc⟩ := hgo
    rw [List.drop_eq_getElem_cons hlt, lightExs, if_neg (by omega)] at hLj
    have hx := exPs_get ks j hlt
    obtain ⟨a1, a2, a3, a4⟩ := lightEx_ok ks[j] cur
    have hi := ihk j hlt (wfExs_at ks hwk j hlt) cur (by omega) (by omega)
    obtain ⟨k', li', co', m', b', n', ks', ps', bs', hp⟩ : ∃ k' li' co' m' b' n' ks' ps' bs', ks[j] = .mk k' li' co' m' b' n' ks' ps' bs' := by cases ks[j]; exact ⟨_, _, _, _, _, _, _, _, _, rfl⟩
    rw [hp] at hx hi hLj a1 a2
    refine br_i (fun _ => br_i (fun _ => ?_) (fun hf => absurd hc (by simpa using hf))) (fun hf => absurd hlt (by simpa using hf))
    refine ⟨_, _, _, _, _, _, _, _, ⟨by omega, by rw [Int.toNat_natCast]; exact hx, ?_⟩⟩
    refine ⟨_, call_p (enters_of Tryz.func8 (by kernel_rfl) rfl) hi rfl ⟨⟨rfl, trivial⟩, rfl, ks.length - (j + 1), by omega, j + 1, by omega, rfl, ?_, hLj, ?_, ?_⟩⟩
    · rw [wrap_id (by omega) (by omega)]; simp
    · have := a2 hc; omega
    · omega
  replace hLj : lightArms bs ps cur = L := by
    by_cases hlt : j < ks.length
    · rw [List.drop_eq_getElem_cons hlt, lightExs, if_pos (by omega)] at hLj; exact hLj
    · rw [List.drop_of_length_le (by omega), lightExs] at hLj; exact hLj
  refine br_i (fun hlt => br_i (fun hc => absurd ⟨by simpa using hlt, by simpa using hc⟩ hgo) (fun hc => ?_)) (fun hge => ?_)
  all_goals
    refine ⟨fun c v => ∃ j : Nat, j ≤ bs.length ∧ c = bs.length - j ∧ v.2.1 = (j : Int) ∧ lightArms (bs.drop j) (ps.drop j) v.1 = L ∧ -1099513827776 ≤ v.1 ∧ v.1 + j ≤ 3000, ⟨_, 0, Nat.zero_le _, rfl, rfl, by simpa using hLj, by dsimp only; omega, by dsimp only; omega⟩, ?_⟩
    rintro c ⟨cur2, i, u⟩ ⟨j2, hj2, rfl, hi, hLj2, b2, b3⟩
    dsimp only at hi hLj2 b2 b3 ⊢
    subst hi
    refine br_i (fun hlt2 => ?_) (fun hge2 => ?_)
    · have hlt2 : j2 < bs.length := by simpa using hlt2
      have hlt3 : j2 < ps.length := by omega
      rw [List.drop_eq_getElem_cons hlt2, List.drop_eq_getElem_cons hlt3, lightArms] at hLj2
      refine br_i (fun hc2 => ?_) (fun hc2 => ?_)
      · have hc2 : 0 ≤ cur2 := by simpa using hc2
        rw [if_neg (by omega)] at hLj2
        have hx := arPs_get bs ps j2 hlt2 hlt3
        obtain ⟨a1, a2, a3, a4⟩ := lightPt_ok ps[j2] cur2
        have q2 := a2 hc2
        obtain ⟨c1, c2, c3, c4⟩ := lightEx_ok bs[j2] (lightPt ps[j2] cur2)
        have q3 : -4194304 - 2097153 ≤ lightEx bs[j2] (lightPt ps[j2] cur2) := by
          by_cases hneg : lightPt ps[j2] cur2 < 0
          · have := c3 hneg; omega
          · have := c2 (by omega); omega
        have hp1 := light_pt ps[j2] cur2 (by omega) (by omega)
        have hi := ihb j2 hlt2 (wfExs_at bs hwb j2 hlt2) (lightPt ps[j2] cur2) (by omega) (by omega)
        obtain ⟨k', li', co', m', b', n', ks', ps', bs', hp⟩ : ∃ k' li' co' m' b' n' ks' ps' bs', bs[j2] = .mk k' li' co' m' b' n' ks' ps' bs' := by cases bs[j2]; exact ⟨_, _, _, _, _, _, _, _, _, rfl⟩
        obtain ⟨k2', li2', co2', n2', m2', ps2', hp2⟩ : ∃ k' li' co' n' m' ps', ps[j2] = .mk k' li' co' n' m' ps' := by cases ps[j2]; exact ⟨_, _, _, _, _, _, rfl⟩
        rw [hp, hp2] at hx hi hLj2 c1 q3
        rw [hp2] at hp1 a1
        refine ⟨_, _, _, _, _, _, _, _, _, _, _, _, _, _, ⟨by omega, by rw [Int.toNat_natCast]; exact hx, ?_⟩⟩
        refine ⟨_, _, _, _, _, _, _, _, _, _, _, _, _, _, ⟨by omega, by rw [Int.toNat_natCast]; exact hx, ?_⟩⟩
        refine ⟨_, call_p (enters_of Tryz.func9 (by kernel_rfl) rfl) hp1 rfl ?_⟩
        refine ⟨_, call_p (enters_of Tryz.func8 (by kernel_rfl) rfl) hi rfl ⟨⟨rfl, trivial⟩, rfl, bs.length - (j2 + 1), by omega, j2 + 1, by omega, rfl, ?_, hLj2, ?_, ?_⟩⟩
        · rw [wrap_id (by omega) (by omega)]; simp
        · omega
        · omega
      · have hc2 : cur2 < 0 := by have : ¬ 0 ≤ cur2 := by simpa using hc2
                                  omega
        rw [if_pos hc2] at hLj2
        exact ⟨by rw [← hLj2], rfl⟩
    · have hge2 : ¬ j2 < bs.length := by simpa using hge2
      rw [List.drop_of_length_le (by omega), lightArms] at hLj2
      · exact ⟨by rw [← hLj2], rfl⟩
      · simp
end Go.Proofs.YtcmnjodjebcapaaGreat.Deep

namespace Go.Proofs.YtcmnjodjebcapaaGreat.Deep
open Go.RowKit
set_option linter.unusedVariables false
set_option linter.unusedSimpArgs false
theorem smallTys_get : ∀ (ps : List Ty), smallTys ps → ∀ i (h : i < ps.length), smallTy ps[i]
  | t :: ts, hs, 0, _ => by unfold smallTys at hs; exact hs.1
  | t :: ts, hs, i + 1, h => by unfold smallTys at hs; simpa using smallTys_get ts hs.2 i (by simpa using h)
theorem fitPt_pos' {D : Int} (h : 0 < D) (k li co : Int) (n : ByteArray) (m : Int) (ks : List Pt) : fitPt D.toNat (.mk k li co n m ks) = (shapePt k n m ks.length && ks.all (fitPt (D.toNat - 1))) := by
  obtain ⟨d, hd⟩ : ∃ d, D.toNat = d + 1 := ⟨D.toNat - 1, by omega⟩
  rw [hd, fitPt]; rfl
theorem smallPts_get : ∀ (ps : List Pt), smallPts ps → ∀ i (h : i < ps.length), smallPt ps[i]
  | t :: ts, hs, 0, _ => by unfold smallPts at hs; exact hs.1
  | t :: ts, hs, i + 1, h => by unfold smallPts at hs; simpa using smallPts_get ts hs.2 i (by simpa using h)
end Go.Proofs.YtcmnjodjebcapaaGreat.Deep

namespace Go.Proofs.YtcmnjodjebcapaaGreat.Deep
open Go.RowKit
set_option linter.unusedVariables false
set_option linter.unusedSimpArgs false
theorem fitEx_pos' {D : Int} (h : 0 < D) (k li co m : Int) (b : List UInt8) (n : ByteArray) (ks : List Ex) (ps : List Pt) (bs : List Ex) : fitEx D.toNat (.mk k li co m b n ks ps bs) = (shapeEx k m b.length n ks.length bs.length && (ks.all (fitEx (D.toNat - 1)) && (ps.all (fitPt (D.toNat - 1)) && bs.all (fitEx (D.toNat - 1))))) := by
  obtain ⟨d, hd⟩ : ∃ d, D.toNat = d + 1 := ⟨D.toNat - 1, by omega⟩
  rw [hd, fitEx]; rfl
theorem smallExs_get : ∀ (ps : List Ex), smallExs ps → ∀ i (h : i < ps.length), smallEx ps[i]
  | t :: ts, hs, 0, _ => by unfold smallExs at hs; exact hs.1
  | t :: ts, hs, i + 1, h => by unfold smallExs at hs; simpa using smallExs_get ts hs.2 i (by simpa using h)
end Go.Proofs.YtcmnjodjebcapaaGreat.Deep

namespace Go.Proofs.YtcmnjodjebcapaaGreat.Deep
open Go.RowKit
set_option linter.unusedVariables false
def loops32 (id : Nat) : Option (List Nat × List (Nat × Sh)) := match Nat.beq id 20 with | true => some ([2], [(1, .int .i64), (10, .int .i64)]) | false => match Nat.beq id 16 with | true => some ([2, 7, 8], [(1, .int .i64), (9, .int .i64)]) | false => match Nat.beq id 11 with | true => some ([2], [(1, .int .i64), (7, .int .i64)]) | false => match Nat.beq id 7 with | true => some ([2, 5], [(1, .int .i64), (6, .int .i64)]) | false => match Nat.beq id 3 with | true => some ([2], [(1, .int .i64), (5, .int .i64)]) | false => none
def p32 (l1 l2 : List (List PV)) (i3 i4 i5 : Int) (s6 : ByteArray) (l7 : List (List PV)) (i8 i9 i10 i11 i12 : Int) (l13 : List (List PV)) (s14 : ByteArray) (l15 l16 l17 : List (List PV)) (i18 : Int) (Q : PV → Heap → Prop) : Prop :=
∃ i19 : Int, CallN Tryz.prog 10 [(.agg [i5, s6, l7]), i18] [] i19
  (∃ i20 : Int, CallN Tryz.prog 8 [(.agg [i9, i10, i11, i12, l13, s14, l15, l16]), i19] [] i20
  (∃ I21 : Nat → ((Int) × (Int) × Unit) → Prop, (∃ n, I21 n (i20, 0, ())) ∧ ∀ (n22 : Nat) (v23 : (Int) × (Int) × Unit), I21 n22 v23 →
  (br ((decide ((v23.2.1 : Int) < (List.length l1 : Int))))
  (br ((decide ((v23.1 : Int) ≥ 0)))
  (∃ i24 : Int, ∃ i25 : Int, ∃ s26 : ByteArray, ∃ l27 : List (List PV), IdxN l1 v23.2.1 [i24, i25, s26, l27]
  (∃ I28 : Nat → ((Int) × (Int) × Unit) → Prop, (∃ n, I28 n ((IntKind.wrap .i64 ((IntKind.wrap .i64 (v23.1 - 1)) - (minI (ByteArray.size s26 : Int) 1048576))), 0, ())) ∧ ∀ (n29 : Nat) (v30 : (Int) × (Int) × Unit), I28 n29 v30 →
  (∃ i31 : Int, ∃ i32 : Int, ∃ s33 : ByteArray, ∃ l34 : List (List PV), IdxN l1 v23.2.1 [i31, i32, s33, l34]
  (br ((decide ((v30.2.1 : Int) < (List.length l34 : Int))))
  (br ((decide ((v30.1 : Int) ≥ 0)))
  (∃ i35 : Int, ∃ i36 : Int, ∃ s37 : ByteArray, ∃ l38 : List (List PV), IdxN l1 v23.2.1 [i35, i36, s37, l38]
  (∃ s39 : ByteArray, ∃ l40 : List (List PV), IdxN l38 v30.2.1 [s39, l40]
  (∃ i41 : Int, ∃ i42 : Int, ∃ s43 : ByteArray, ∃ l44 : List (List PV), IdxN l1 v23.2.1 [i41, i42, s43, l44]
  (∃ s45 : ByteArray, ∃ l46 : List (List PV), IdxN l44 v30.2.1 [s45, l46]
  (∃ i47 : Int, CallN Tryz.prog 10 [(.agg [(.con (.int .i64 0)), s39, l46]), v30.1] [] i47
  ((@Eq PV (.ptr 0 0) (.ptr 0 0) ∧ @Eq PV v23.2.1 v23.2.1 ∧ True) ∧ @Eq Heap [[l1, l2, i3, i4, i5, s6, l7, i8, i9, i10, i11, i12, l13, s14, l15, l16, l17]] [[l1, l2, i3, i4, i5, s6, l7, i8, i9, i10, i11, i12, l13, s14, l15, l16, l17]] ∧ ∃ k48, k48 < n29 ∧ I28 k48 (i47, (IntKind.wrap .i64 (v30.2.1 + 1)), ())))))))
  ((@Eq PV (.ptr 0 0) (.ptr 0 0) ∧ True) ∧ @Eq Heap [[l1, l2, i3, i4, i5, s6, l7, i8, i9, i10, i11, i12, l13, s14, l15, l16, l17]] [[l1, l2, i3, i4, i5, s6, l7, i8, i9, i10, i11, i12, l13, s14, l15, l16, l17]] ∧ ∃ k49, k49 < n22 ∧ I21 k49 (v30.1, (IntKind.wrap .i64 (v23.2.1 + 1)), ())))
  ((@Eq PV (.ptr 0 0) (.ptr 0 0) ∧ True) ∧ @Eq Heap [[l1, l2, i3, i4, i5, s6, l7, i8, i9, i10, i11, i12, l13, s14, l15, l16, l17]] [[l1, l2, i3, i4, i5, s6, l7, i8, i9, i10, i11, i12, l13, s14, l15, l16, l17]] ∧ ∃ k50, k50 < n22 ∧ I21 k50 (v30.1, (IntKind.wrap .i64 (v23.2.1 + 1)), ()))))))
  (∃ I51 : Nat → ((Int) × (Int) × Unit) → Prop, (∃ n, I51 n (v23.1, 0, ())) ∧ ∀ (n52 : Nat) (v53 : (Int) × (Int) × Unit), I51 n52 v53 →
  (br ((decide ((v53.2.1 : Int) < (List.length l2 : Int))))
  (br ((decide ((v53.1 : Int) ≥ 0)))
  (∃ i54 : Int, ∃ i55 : Int, ∃ s56 : ByteArray, ∃ l57 : List (List PV), ∃ i58 : Int, ∃ s59 : ByteArray, ∃ l60 : List (List PV), ∃ i61 : Int, ∃ i62 : Int, ∃ i63 : Int, ∃ i64 : Int, ∃ l65 : List (List PV), ∃ s66 : ByteArray, ∃ l67 : List (List PV), ∃ l68 : List (List PV), IdxN l2 v53.2.1 [i54, i55, s56, l57, i58, s59, l60, i61, i62, i63, i64, l65, s66, l67, l68]
  (∃ i69 : Int, CallN Tryz.prog 10 [(.agg [i58, s59, l60]), (IntKind.wrap .i64 ((IntKind.wrap .i64 (v53.1 - 1)) - (minI (ByteArray.size s56 : Int) 1048576)))] [] i69
  (∃ i70 : Int, CallN Tryz.prog 8 [(.agg [i61, i62, i63, i64, l65, s66, l67, l68]), i69] [] i70
  (∃ I71 : Nat → ((Int) × (Int) × Unit) → Prop, (∃ n, I71 n (i70, 0, ())) ∧ ∀ (n72 : Nat) (v73 : (Int) × (Int) × Unit), I71 n72 v73 →
  (br ((decide ((v73.2.1 : Int) < (List.length l57 : Int))))
  (br ((decide ((v73.1 : Int) ≥ 0)))
  (∃ s74 : ByteArray, ∃ i75 : Int, ∃ s76 : ByteArray, ∃ l77 : List (List PV), IdxN l57 v73.2.1 [s74, i75, s76, l77]
  (∃ s78 : ByteArray, ∃ i79 : Int, ∃ s80 : ByteArray, ∃ l81 : List (List PV), IdxN l57 v73.2.1 [s78, i79, s80, l81]
  (∃ i82 : Int, CallN Tryz.prog 10 [(.agg [i75, s76, l77]), (IntKind.wrap .i64 (v73.1 - (minI (ByteArray.size s78 : Int) 1048576)))] [] i82
  ((@Eq PV (.ptr 0 0) (.ptr 0 0) ∧ @Eq PV v53.2.1 v53.2.1 ∧ @Eq PV (.ptr 1 0) (.ptr 1 0) ∧ True) ∧ @Eq Heap [[l1, l2, i3, i4, i5, s6, l7, i8, i9, i10, i11, i12, l13, s14, l15, l16, l17], [i54, i55, s56, l57, i58, s59, l60, i61, i62, i63, i64, l65, s66, l67, l68]] [[l1, l2, i3, i4, i5, s6, l7, i8, i9, i10, i11, i12, l13, s14, l15, l16, l17], [i54, i55, s56, l57, i58, s59, l60, i61, i62, i63, i64, l65, s66, l67, l68]] ∧ ∃ k83, k83 < n72 ∧ I71 k83 (i82, (IntKind.wrap .i64 (v73.2.1 + 1)), ())))))
  ((@Eq PV (.ptr 0 0) (.ptr 0 0) ∧ True) ∧ @Eq Heap [[l1, l2, i3, i4, i5, s6, l7, i8, i9, i10, i11, i12, l13, s14, l15, l16, l17]] [[l1, l2, i3, i4, i5, s6, l7, i8, i9, i10, i11, i12, l13, s14, l15, l16, l17]] ∧ ∃ k84, k84 < n52 ∧ I51 k84 (v73.1, (IntKind.wrap .i64 (v53.2.1 + 1)), ())))
  ((@Eq PV (.ptr 0 0) (.ptr 0 0) ∧ True) ∧ @Eq Heap [[l1, l2, i3, i4, i5, s6, l7, i8, i9, i10, i11, i12, l13, s14, l15, l16, l17]] [[l1, l2, i3, i4, i5, s6, l7, i8, i9, i10, i11, i12, l13, s14, l15, l16, l17]] ∧ ∃ k85, k85 < n52 ∧ I51 k85 (v73.1, (IntKind.wrap .i64 (v53.2.1 + 1)), ())))))))
  (∃ I86 : Nat → ((Int) × (Int) × Unit) → Prop, (∃ n, I86 n (v53.1, 0, ())) ∧ ∀ (n87 : Nat) (v88 : (Int) × (Int) × Unit), I86 n87 v88 →
  (br ((decide ((v88.2.1 : Int) < (List.length l17 : Int))))
  (br ((decide ((v88.1 : Int) ≥ 0)))
  (∃ i89 : Int, ∃ i90 : Int, ∃ s91 : ByteArray, ∃ s92 : ByteArray, ∃ i93 : Int, ∃ s94 : ByteArray, ∃ l95 : List (List PV), ∃ i96 : Int, ∃ i97 : Int, ∃ i98 : Int, ∃ i99 : Int, ∃ i100 : Int, ∃ l101 : List (List PV), ∃ s102 : ByteArray, ∃ l103 : List (List PV), ∃ l104 : List (List PV), IdxN l17 v88.2.1 [i89, i90, s91, s92, i93, s94, l95, i96, i97, i98, i99, i100, l101, s102, l103, l104]
  (∃ i105 : Int, CallN Tryz.prog 10 [(.agg [i93, s94, l95]), (IntKind.wrap .i64 ((IntKind.wrap .i64 ((IntKind.wrap .i64 (v88.1 - 1)) - (minI (ByteArray.size s91 : Int) 1048576))) - (minI (ByteArray.size s92 : Int) 1048576)))] [] i105
  (∃ i106 : Int, CallN Tryz.prog 8 [(.agg [i97, i98, i99, i100, l101, s102, l103, l104]), i105] [] i106
  ((@Eq PV (.ptr 0 0) (.ptr 0 0) ∧ True) ∧ @Eq Heap [[l1, l2, i3, i4, i5, s6, l7, i8, i9, i10, i11, i12, l13, s14, l15, l16, l17]] [[l1, l2, i3, i4, i5, s6, l7, i8, i9, i10, i11, i12, l13, s14, l15, l16, l17]] ∧ ∃ k107, k107 < n87 ∧ I86 k107 (i106, (IntKind.wrap .i64 (v88.2.1 + 1)), ())))))
  (Q v88.1 [[l1, l2, i3, i4, i5, s6, l7, i8, i9, i10, i11, i12, l13, s14, l15, l16, l17]]))
  (Q v88.1 [[l1, l2, i3, i4, i5, s6, l7, i8, i9, i10, i11, i12, l13, s14, l15, l16, l17]]))))
  (∃ I108 : Nat → ((Int) × (Int) × Unit) → Prop, (∃ n, I108 n (v53.1, 0, ())) ∧ ∀ (n109 : Nat) (v110 : (Int) × (Int) × Unit), I108 n109 v110 →
  (br ((decide ((v110.2.1 : Int) < (List.length l17 : Int))))
  (br ((decide ((v110.1 : Int) ≥ 0)))
  (∃ i111 : Int, ∃ i112 : Int, ∃ s113 : ByteArray, ∃ s114 : ByteArray, ∃ i115 : Int, ∃ s116 : ByteArray, ∃ l117 : List (List PV), ∃ i118 : Int, ∃ i119 : Int, ∃ i120 : Int, ∃ i121 : Int, ∃ i122 : Int, ∃ l123 : List (List PV), ∃ s124 : ByteArray, ∃ l125 : List (List PV), ∃ l126 : List (List PV), IdxN l17 v110.2.1 [i111, i112, s113, s114, i115, s116, l117, i118, i119, i120, i121, i122, l123, s124, l125, l126]
  (∃ i127 : Int, CallN Tryz.prog 10 [(.agg [i115, s116, l117]), (IntKind.wrap .i64 ((IntKind.wrap .i64 ((IntKind.wrap .i64 (v110.1 - 1)) - (minI (ByteArray.size s113 : Int) 1048576))) - (minI (ByteArray.size s114 : Int) 1048576)))] [] i127
  (∃ i128 : Int, CallN Tryz.prog 8 [(.agg [i119, i120, i121, i122, l123, s124, l125, l126]), i127] [] i128
  ((@Eq PV (.ptr 0 0) (.ptr 0 0) ∧ True) ∧ @Eq Heap [[l1, l2, i3, i4, i5, s6, l7, i8, i9, i10, i11, i12, l13, s14, l15, l16, l17]] [[l1, l2, i3, i4, i5, s6, l7, i8, i9, i10, i11, i12, l13, s14, l15, l16, l17]] ∧ ∃ k129, k129 < n109 ∧ I108 k129 (i128, (IntKind.wrap .i64 (v110.2.1 + 1)), ())))))
  (Q v110.1 [[l1, l2, i3, i4, i5, s6, l7, i8, i9, i10, i11, i12, l13, s14, l15, l16, l17]]))
  (Q v110.1 [[l1, l2, i3, i4, i5, s6, l7, i8, i9, i10, i11, i12, l13, s14, l15, l16, l17]]))))))
  (∃ I130 : Nat → ((Int) × (Int) × Unit) → Prop, (∃ n, I130 n (v23.1, 0, ())) ∧ ∀ (n131 : Nat) (v132 : (Int) × (Int) × Unit), I130 n131 v132 →
  (br ((decide ((v132.2.1 : Int) < (List.length l2 : Int))))
  (br ((decide ((v132.1 : Int) ≥ 0)))
  (∃ i133 : Int, ∃ i134 : Int, ∃ s135 : ByteArray, ∃ l136 : List (List PV), ∃ i137 : Int, ∃ s138 : ByteArray, ∃ l139 : List (List PV), ∃ i140 : Int, ∃ i141 : Int, ∃ i142 : Int, ∃ i143 : Int, ∃ l144 : List (List PV), ∃ s145 : ByteArray, ∃ l146 : List (List PV), ∃ l147 : List (List PV), IdxN l2 v132.2.1 [i133, i134, s135, l136, i137, s138, l139, i140, i141, i142, i143, l144, s145, l146, l147]
  (∃ i148 : Int, CallN Tryz.prog 10 [(.agg [i137, s138, l139]), (IntKind.wrap .i64 ((IntKind.wrap .i64 (v132.1 - 1)) - (minI (ByteArray.size s135 : Int) 1048576)))] [] i148
  (∃ i149 : Int, CallN Tryz.prog 8 [(.agg [i140, i141, i142, i143, l144, s145, l146, l147]), i148] [] i149
  (∃ I150 : Nat → ((Int) × (Int) × Unit) → Prop, (∃ n, I150 n (i149, 0, ())) ∧ ∀ (n151 : Nat) (v152 : (Int) × (Int) × Unit), I150 n151 v152 →
  (br ((decide ((v152.2.1 : Int) < (List.length l136 : Int))))
  (br ((decide ((v152.1 : Int) ≥ 0)))
  (∃ s153 : ByteArray, ∃ i154 : Int, ∃ s155 : ByteArray, ∃ l156 : List (List PV), IdxN l136 v152.2.1 [s153, i154, s155, l156]
  (∃ s157 : ByteArray, ∃ i158 : Int, ∃ s159 : ByteArray, ∃ l160 : List (List PV), IdxN l136 v152.2.1 [s157, i158, s159, l160]
  (∃ i161 : Int, CallN Tryz.prog 10 [(.agg [i154, s155, l156]), (IntKind.wrap .i64 (v152.1 - (minI (ByteArray.size s157 : Int) 1048576)))] [] i161
  ((@Eq PV (.ptr 0 0) (.ptr 0 0) ∧ @Eq PV v132.2.1 v132.2.1 ∧ @Eq PV (.ptr 1 0) (.ptr 1 0) ∧ True) ∧ @Eq Heap [[l1, l2, i3, i4, i5, s6, l7, i8, i9, i10, i11, i12, l13, s14, l15, l16, l17], [i133, i134, s135, l136, i137, s138, l139, i140, i141, i142, i143, l144, s145, l146, l147]] [[l1, l2, i3, i4, i5, s6, l7, i8, i9, i10, i11, i12, l13, s14, l15, l16, l17], [i133, i134, s135, l136, i137, s138, l139, i140, i141, i142, i143, l144, s145, l146, l147]] ∧ ∃ k162, k162 < n151 ∧ I150 k162 (i161, (IntKind.wrap .i64 (v152.2.1 + 1)), ())))))
  ((@Eq PV (.ptr 0 0) (.ptr 0 0) ∧ True) ∧ @Eq Heap [[l1, l2, i3, i4, i5, s6, l7, i8, i9, i10, i11, i12, l13, s14, l15, l16, l17]] [[l1, l2, i3, i4, i5, s6, l7, i8, i9, i10, i11, i12, l13, s14, l15, l16, l17]] ∧ ∃ k163, k163 < n131 ∧ I130 k163 (v152.1, (IntKind.wrap .i64 (v132.2.1 + 1)), ())))
  ((@Eq PV (.ptr 0 0) (.ptr 0 0) ∧ True) ∧ @Eq Heap [[l1, l2, i3, i4, i5, s6, l7, i8, i9, i10, i11, i12, l13, s14, l15, l16, l17]] [[l1, l2, i3, i4, i5, s6, l7, i8, i9, i10, i11, i12, l13, s14, l15, l16, l17]] ∧ ∃ k164, k164 < n131 ∧ I130 k164 (v152.1, (IntKind.wrap .i64 (v132.2.1 + 1)), ())))))))
  (∃ I165 : Nat → ((Int) × (Int) × Unit) → Prop, (∃ n, I165 n (v132.1, 0, ())) ∧ ∀ (n166 : Nat) (v167 : (Int) × (Int) × Unit), I165 n166 v167 →
  (br ((decide ((v167.2.1 : Int) < (List.length l17 : Int))))
  (br ((decide ((v167.1 : Int) ≥ 0)))
  (∃ i168 : Int, ∃ i169 : Int, ∃ s170 : ByteArray, ∃ s171 : ByteArray, ∃ i172 : Int, ∃ s173 : ByteArray, ∃ l174 : List (List PV), ∃ i175 : Int, ∃ i176 : Int, ∃ i177 : Int, ∃ i178 : Int, ∃ i179 : Int, ∃ l180 : List (List PV), ∃ s181 : ByteArray, ∃ l182 : List (List PV), ∃ l183 : List (List PV), IdxN l17 v167.2.1 [i168, i169, s170, s171, i172, s173, l174, i175, i176, i177, i178, i179, l180, s181, l182, l183]
  (∃ i184 : Int, CallN Tryz.prog 10 [(.agg [i172, s173, l174]), (IntKind.wrap .i64 ((IntKind.wrap .i64 ((IntKind.wrap .i64 (v167.1 - 1)) - (minI (ByteArray.size s170 : Int) 1048576))) - (minI (ByteArray.size s171 : Int) 1048576)))] [] i184
  (∃ i185 : Int, CallN Tryz.prog 8 [(.agg [i176, i177, i178, i179, l180, s181, l182, l183]), i184] [] i185
  ((@Eq PV (.ptr 0 0) (.ptr 0 0) ∧ True) ∧ @Eq Heap [[l1, l2, i3, i4, i5, s6, l7, i8, i9, i10, i11, i12, l13, s14, l15, l16, l17]] [[l1, l2, i3, i4, i5, s6, l7, i8, i9, i10, i11, i12, l13, s14, l15, l16, l17]] ∧ ∃ k186, k186 < n166 ∧ I165 k186 (i185, (IntKind.wrap .i64 (v167.2.1 + 1)), ())))))
  (Q v167.1 [[l1, l2, i3, i4, i5, s6, l7, i8, i9, i10, i11, i12, l13, s14, l15, l16, l17]]))
  (Q v167.1 [[l1, l2, i3, i4, i5, s6, l7, i8, i9, i10, i11, i12, l13, s14, l15, l16, l17]]))))
  (∃ I187 : Nat → ((Int) × (Int) × Unit) → Prop, (∃ n, I187 n (v132.1, 0, ())) ∧ ∀ (n188 : Nat) (v189 : (Int) × (Int) × Unit), I187 n188 v189 →
  (br ((decide ((v189.2.1 : Int) < (List.length l17 : Int))))
  (br ((decide ((v189.1 : Int) ≥ 0)))
  (∃ i190 : Int, ∃ i191 : Int, ∃ s192 : ByteArray, ∃ s193 : ByteArray, ∃ i194 : Int, ∃ s195 : ByteArray, ∃ l196 : List (List PV), ∃ i197 : Int, ∃ i198 : Int, ∃ i199 : Int, ∃ i200 : Int, ∃ i201 : Int, ∃ l202 : List (List PV), ∃ s203 : ByteArray, ∃ l204 : List (List PV), ∃ l205 : List (List PV), IdxN l17 v189.2.1 [i190, i191, s192, s193, i194, s195, l196, i197, i198, i199, i200, i201, l202, s203, l204, l205]
  (∃ i206 : Int, CallN Tryz.prog 10 [(.agg [i194, s195, l196]), (IntKind.wrap .i64 ((IntKind.wrap .i64 ((IntKind.wrap .i64 (v189.1 - 1)) - (minI (ByteArray.size s192 : Int) 1048576))) - (minI (ByteArray.size s193 : Int) 1048576)))] [] i206
  (∃ i207 : Int, CallN Tryz.prog 8 [(.agg [i198, i199, i200, i201, l202, s203, l204, l205]), i206] [] i207
  ((@Eq PV (.ptr 0 0) (.ptr 0 0) ∧ True) ∧ @Eq Heap [[l1, l2, i3, i4, i5, s6, l7, i8, i9, i10, i11, i12, l13, s14, l15, l16, l17]] [[l1, l2, i3, i4, i5, s6, l7, i8, i9, i10, i11, i12, l13, s14, l15, l16, l17]] ∧ ∃ k208, k208 < n188 ∧ I187 k208 (i207, (IntKind.wrap .i64 (v189.2.1 + 1)), ())))))
  (Q v189.1 [[l1, l2, i3, i4, i5, s6, l7, i8, i9, i10, i11, i12, l13, s14, l15, l16, l17]]))
  (Q v189.1 [[l1, l2, i3, i4, i5, s6, l7, i8, i9, i10, i11, i12, l13, s14, l15, l16, l17]]))))))))
theorem a32 (l1 l2 : List (List PV)) (i3 i4 i5 : Int) (s6 : ByteArray) (l7 : List (List PV)) (i8 i9 i10 i11 i12 : Int) (l13 : List (List PV)) (s14 : ByteArray) (l15 l16 l17 : List (List PV)) (i18 : Int) (Q : PV → Heap → Prop) (h : p32 l1 l2 i3 i4 i5 s6 l7 i8 i9 i10 i11 i12 l13 s14 l15 l16 l17 i18 Q) : ACalls Tryz.prog 32 [(.agg [l1, l2, i3, i4, i5, s6, l7, i8, i9, i10, i11, i12, l13, s14, l15, l16, l17]), i18] [] Q := by
  have hb : Option.some (bodyOf Tryz.f32) = Tryz.f32.body := by kernel_rfl
  exact acalls_eq (S := S) (L := loops32) mixed tok Tryz.func32 hb.symm (by kernel_rfl) h
end Go.Proofs.YtcmnjodjebcapaaGreat.Deep

namespace Go.Proofs.YtcmnjodjebcapaaGreat.Deep
open Go.RowKit
set_option linter.unusedVariables false
set_option linter.unusedSimpArgs false
structure Co where
  name : ByteArray
  fields : List Ty
structure Da where
  line : Int
  col : Int
  name : ByteArray
  cons : List Co
structure Pa where
  name : ByteArray
  ty : Ty
structure Fu where
  line : Int
  col : Int
  name : ByteArray
  params : List Pa
  result : Ty
  body : Ex
structure Ha where
  line : Int
  col : Int
  name : ByteArray
  param : Pa
  cap : Int
  body : Ex
structure Pr where
  datas : List Da
  funs : List Fu
  queue : Int
  timers : Int
  state : Ty
  cap : Int
  init : Ex
  hands : List Ha
def coP (c : Co) : List PV := [.con (.string c.name), .sl (tyPs c.fields)]
def daP (d : Da) : List PV := [.con (.int .i64 d.line), .con (.int .i64 d.col), .con (.string d.name), .sl (d.cons.map coP)]
def paP (p : Pa) : List PV := .con (.string p.name) :: tyP p.ty
def fuP (f : Fu) : List PV := [.con (.int .i64 f.line), .con (.int .i64 f.col), .con (.string f.name), .sl (f.params.map paP)] ++ (tyP f.result ++ exP f.body)
def haP (h : Ha) : List PV := [.con (.int .i64 h.line), .con (.int .i64 h.col), .con (.string h.name)] ++ (paP h.param ++ (.con (.int .i64 h.cap) :: exP h.body))
def prP (p : Pr) : List PV := [.sl (p.datas.map daP), .sl (p.funs.map fuP), .con (.int .i64 p.queue), .con (.int .i64 p.timers)] ++ (tyP p.state ++ (.con (.int .i64 p.cap) :: (exP p.init ++ [.sl (p.hands.map haP)])))
def smallCo (c : Co) : Prop := c.name.size ≤ 3000 ∧ c.fields.length ≤ 3000 ∧ smallTys c.fields
def smallDa (d : Da) : Prop := d.name.size ≤ 3000 ∧ d.cons.length ≤ 3000 ∧ ∀ c ∈ d.cons, smallCo c
def smallPa (p : Pa) : Prop := p.name.size ≤ 3000 ∧ smallTy p.ty
def smallFu (f : Fu) : Prop := f.name.size ≤ 3000 ∧ f.params.length ≤ 3000 ∧ (∀ p ∈ f.params, smallPa p) ∧ smallTy f.result ∧ smallEx f.body
def smallHa (h : Ha) : Prop := h.name.size ≤ 3000 ∧ smallPa h.param ∧ smallEx h.body
def smallPr (p : Pr) : Prop := p.datas.length ≤ 3000 ∧ (∀ d ∈ p.datas, smallDa d) ∧ p.funs.length ≤ 3000 ∧ (∀ f ∈ p.funs, smallFu f) ∧ p.hands.length ≤ 3000 ∧ (∀ h ∈ p.hands, smallHa h) ∧ smallTy p.state ∧ smallEx p.init
def wfPr (p : Pr) : Prop := (∀ f ∈ p.funs, wfEx f.body) ∧ (∀ h ∈ p.hands, wfEx h.body) ∧ wfEx p.init
theorem ty_mk (t : Ty) : ∃ k n ps, t = .mk k n ps := by cases t; exact ⟨_, _, _, rfl⟩
theorem pt_mk (t : Pt) : ∃ k li co n m ps, t = .mk k li co n m ps := by cases t; exact ⟨_, _, _, _, _, _, rfl⟩
theorem ex_mk (t : Ex) : ∃ k li co m b n ks ps bs, t = .mk k li co m b n ks ps bs := by cases t; exact ⟨_, _, _, _, _, _, _, _, _, rfl⟩
theorem map_get {α : Type} (f : α → List PV) (l : List α) (j : Nat) (h : j < l.length) : (l.map f)[j]? = some (f l[j]) := by
  rw [List.getElem?_map, List.getElem?_eq_getElem h]; rfl
theorem le_not {b : Bool} (h : (!b) = true) : b = false := by simpa using h
theorem le_yes {b : Bool} (h : (!b) = false) : b = true := by simpa using h
end Go.Proofs.YtcmnjodjebcapaaGreat.Deep

namespace Go.Proofs.YtcmnjodjebcapaaGreat.Deep
open Go.RowKit
set_option linter.unusedVariables false
def I3 : TI := ⟨true, 1, false, false, 0, false, false, [], false, some [.con (.int .i64 0)], 8, none, some .i64⟩
theorem T3 : T 3 = some I3 := by kernel_rfl
def I2 : TI := ⟨true, 1, false, false, 0, false, false, [], false, some [.con (.int .i64 0)], 8, none, some .i64⟩
theorem T2 : T 2 = some I2 := by kernel_rfl
def I5 : TI := ⟨true, 1, false, false, 0, false, false, [], false, some [.con (.int .u8 0)], 1, none, some .u8⟩
def I9 : TI := ⟨true, 1, false, false, 0, true, false, [], false, some [.con (.string ⟨#[]⟩)], 16, none, none⟩
theorem T9 : T 9 = some I9 := by kernel_rfl
def I22 : TI := ⟨true, 1, false, true, 70, false, false, [], false, some [.con (.slice none 0 0)], 24, none, none⟩
theorem T22 : T 22 = some I22 := by kernel_rfl
def I23 : TI := ⟨true, 1, false, true, 75, false, false, [], false, some [.con (.slice none 0 0)], 24, none, none⟩
theorem T23 : T 23 = some I23 := by kernel_rfl
def I24 : TI := ⟨true, 1, false, true, 26, false, false, [], false, some [.con (.slice none 0 0)], 24, none, none⟩
theorem T24 : T 24 = some I24 := by kernel_rfl
def I26 : TI := ⟨true, 3, true, false, 0, false, false, [(0, 3), (1, 9), (2, 24)], true, some [.con (.int .i64 0), .con (.string ⟨#[]⟩), .con (.slice none 0 0)], 48, none, none⟩
theorem T26 : T 26 = some I26 := by kernel_rfl
def I28 : TI := ⟨true, 2, true, false, 0, false, false, [(0, 3), (1, 3)], true, some [.con (.int .i64 0), .con (.int .i64 0)], 16, none, none⟩
theorem T28 : T 28 = some I28 := by kernel_rfl
def I29 : TI := ⟨true, 1, false, true, 5, false, false, [], false, some [.con (.slice none 0 0)], 24, none, none⟩
theorem T29 : T 29 = some I29 := by kernel_rfl
def I30 : TI := ⟨true, 1, false, true, 33, false, false, [], false, some [.con (.slice none 0 0)], 24, none, none⟩
theorem T30 : T 30 = some I30 := by kernel_rfl
def I31 : TI := ⟨true, 1, false, true, 59, false, false, [], false, some [.con (.slice none 0 0)], 24, none, none⟩
theorem T31 : T 31 = some I31 := by kernel_rfl
def I33 : TI := ⟨true, 8, true, false, 0, false, false, [(0, 3), (1, 28), (3, 2), (4, 29), (5, 9), (6, 30), (7, 31)], true, some [.con (.int .i64 0), .con (.int .i64 0), .con (.int .i64 0), .con (.int .i64 0), .con (.slice none 0 0), .con (.string ⟨#[]⟩), .con (.slice none 0 0), .con (.slice none 0 0)], 120, none, none⟩
theorem T33 : T 33 = some I33 := by kernel_rfl
def I34 : TI := ⟨true, 1, false, true, 81, false, false, [], false, some [.con (.slice none 0 0)], 24, none, none⟩
theorem T34 : T 34 = some I34 := by kernel_rfl
def I36 : TI := ⟨true, 17, true, false, 0, false, false, [(0, 22), (1, 23), (2, 3), (3, 3), (4, 26), (7, 3), (8, 33), (16, 34)], true, some [.con (.slice none 0 0), .con (.slice none 0 0), .con (.int .i64 0), .con (.int .i64 0), .con (.int .i64 0), .con (.string ⟨#[]⟩), .con (.slice none 0 0), .con (.int .i64 0), .con (.int .i64 0), .con (.int .i64 0), .con (.int .i64 0), .con (.int .i64 0), .con (.slice none 0 0), .con (.string ⟨#[]⟩), .con (.slice none 0 0), .con (.slice none 0 0), .con (.slice none 0 0)], 264, none, none⟩
theorem T36 : T 36 = some I36 := by kernel_rfl
def I37 : TI := ⟨true, 1, false, true, 39, false, false, [], false, some [.con (.slice none 0 0)], 24, none, none⟩
theorem T37 : T 37 = some I37 := by kernel_rfl
def I39 : TI := ⟨true, 6, true, false, 0, false, false, [(0, 3), (1, 28), (3, 9), (4, 2), (5, 37)], true, some [.con (.int .i64 0), .con (.int .i64 0), .con (.int .i64 0), .con (.string ⟨#[]⟩), .con (.int .i64 0), .con (.slice none 0 0)], 72, none, none⟩
theorem T39 : T 39 = some I39 := by kernel_rfl
def I59 : TI := ⟨true, 14, true, false, 0, false, false, [(0, 39), (6, 33)], true, some [.con (.int .i64 0), .con (.int .i64 0), .con (.int .i64 0), .con (.string ⟨#[]⟩), .con (.int .i64 0), .con (.slice none 0 0), .con (.int .i64 0), .con (.int .i64 0), .con (.int .i64 0), .con (.int .i64 0), .con (.slice none 0 0), .con (.string ⟨#[]⟩), .con (.slice none 0 0), .con (.slice none 0 0)], 192, none, none⟩
theorem T59 : T 59 = some I59 := by kernel_rfl
def I70 : TI := ⟨true, 4, true, false, 0, false, false, [(0, 28), (2, 9), (3, 68)], true, some [.con (.int .i64 0), .con (.int .i64 0), .con (.string ⟨#[]⟩), .con (.slice none 0 0)], 56, none, none⟩
theorem T70 : T 70 = some I70 := by kernel_rfl
def I75 : TI := ⟨true, 15, true, false, 0, false, false, [(0, 28), (2, 9), (3, 73), (4, 26), (7, 33)], true, some [.con (.int .i64 0), .con (.int .i64 0), .con (.string ⟨#[]⟩), .con (.slice none 0 0), .con (.int .i64 0), .con (.string ⟨#[]⟩), .con (.slice none 0 0), .con (.int .i64 0), .con (.int .i64 0), .con (.int .i64 0), .con (.int .i64 0), .con (.slice none 0 0), .con (.string ⟨#[]⟩), .con (.slice none 0 0), .con (.slice none 0 0)], 224, none, none⟩
theorem T75 : T 75 = some I75 := by kernel_rfl
def I81 : TI := ⟨true, 16, true, false, 0, false, false, [(0, 28), (2, 9), (3, 79), (7, 3), (8, 33)], true, some [.con (.int .i64 0), .con (.int .i64 0), .con (.string ⟨#[]⟩), .con (.string ⟨#[]⟩), .con (.int .i64 0), .con (.string ⟨#[]⟩), .con (.slice none 0 0), .con (.int .i64 0), .con (.int .i64 0), .con (.int .i64 0), .con (.int .i64 0), .con (.int .i64 0), .con (.slice none 0 0), .con (.string ⟨#[]⟩), .con (.slice none 0 0), .con (.slice none 0 0)], 224, none, none⟩
theorem T81 : T 81 = some I81 := by kernel_rfl
def I79 : TI := ⟨true, 4, true, false, 0, false, false, [(0, 9), (1, 26)], true, some [.con (.string ⟨#[]⟩), .con (.int .i64 0), .con (.string ⟨#[]⟩), .con (.slice none 0 0)], 64, none, none⟩
theorem T79 : T 79 = some I79 := by kernel_rfl
def I119 : TI := ⟨true, 2, true, false, 0, false, false, [(0, 9), (1, 24)], true, some [.con (.string ⟨#[]⟩), .con (.slice none 0 0)], 40, none, none⟩
theorem T119 : T 119 = some I119 := by kernel_rfl
def I68 : TI := ⟨true, 1, false, true, 119, false, false, [], false, some [.con (.slice none 0 0)], 24, none, none⟩
theorem T68 : T 68 = some I68 := by kernel_rfl
def I73 : TI := ⟨true, 1, false, true, 79, false, false, [], false, some [.con (.slice none 0 0)], 24, none, none⟩
theorem T73 : T 73 = some I73 := by kernel_rfl
theorem u3 : Tryz.prog.underlying 3 = some (.int .i64) := by kernel_rfl
theorem u2 : Tryz.prog.underlying 2 = some (.int .i64) := by kernel_rfl
theorem u5 : Tryz.prog.underlying 5 = some (.int .u8) := by kernel_rfl
theorem u9 : Tryz.prog.underlying 9 = some .string := by kernel_rfl
theorem u24 : Tryz.prog.underlying 24 = some (.slice 26) := by kernel_rfl
theorem u37 : Tryz.prog.underlying 37 = some (.slice 39) := by kernel_rfl
theorem u29 : Tryz.prog.underlying 29 = some (.slice 5) := by kernel_rfl
theorem u30 : Tryz.prog.underlying 30 = some (.slice 33) := by kernel_rfl
theorem u31 : Tryz.prog.underlying 31 = some (.slice 59) := by kernel_rfl
theorem u22 : Tryz.prog.underlying 22 = some (.slice 70) := by kernel_rfl
theorem u23 : Tryz.prog.underlying 23 = some (.slice 75) := by kernel_rfl
theorem u34 : Tryz.prog.underlying 34 = some (.slice 81) := by kernel_rfl
theorem u68 : Tryz.prog.underlying 68 = some (.slice 119) := by kernel_rfl
theorem u73 : Tryz.prog.underlying 73 = some (.slice 79) := by kernel_rfl
theorem z26 : 0 < Tryz.prog.cellsOf 26 := by rw [show Tryz.prog.cellsOf 26 = 3 by kernel_rfl]; decide
theorem z39 : 0 < Tryz.prog.cellsOf 39 := by rw [show Tryz.prog.cellsOf 39 = 6 by kernel_rfl]; decide
theorem z5 : 0 < Tryz.prog.cellsOf 5 := by rw [show Tryz.prog.cellsOf 5 = 1 by kernel_rfl]; decide
theorem z33 : 0 < Tryz.prog.cellsOf 33 := by rw [show Tryz.prog.cellsOf 33 = 8 by kernel_rfl]; decide
theorem z59 : 0 < Tryz.prog.cellsOf 59 := by rw [show Tryz.prog.cellsOf 59 = 14 by kernel_rfl]; decide
theorem z70 : 0 < Tryz.prog.cellsOf 70 := by rw [show Tryz.prog.cellsOf 70 = 4 by kernel_rfl]; decide
theorem z75 : 0 < Tryz.prog.cellsOf 75 := by rw [show Tryz.prog.cellsOf 75 = 15 by kernel_rfl]; decide
theorem z81 : 0 < Tryz.prog.cellsOf 81 := by rw [show Tryz.prog.cellsOf 81 = 16 by kernel_rfl]; decide
theorem z119 : 0 < Tryz.prog.cellsOf 119 := by rw [show Tryz.prog.cellsOf 119 = 2 by kernel_rfl]; decide
theorem z79 : 0 < Tryz.prog.cellsOf 79 := by rw [show Tryz.prog.cellsOf 79 = 4 by kernel_rfl]; decide
theorem CR.last {w : World} {cs : List Value} {o n : Nat} {p : List PV} (h : CR w ((cs.drop o).take n) p) (hl : cs.length = o + n) : CR w (cs.drop o) p := by
  rwa [List.take_of_length_le (by rw [List.length_drop]; omega)] at h
theorem tyPs_map : ∀ ts : List Ty, tyPs ts = ts.map tyP
  | [] => rfl
  | t :: ts => by rw [tyPs, tyPs_map ts]; rfl
theorem ptPs_map : ∀ ts : List Pt, ptPs ts = ts.map ptP
  | [] => rfl
  | t :: ts => by rw [ptPs, ptPs_map ts]; rfl
theorem exPs_map : ∀ ts : List Ex, exPs ts = ts.map exP
  | [] => rfl
  | t :: ts => by rw [exPs, exPs_map ts]; rfl
def arP (a : Pt × Ex) : List PV := ptP a.1 ++ exP a.2
theorem arPs_map : ∀ l : List (Pt × Ex), arPs (l.map Prod.snd) (l.map Prod.fst) = l.map arP
  | [] => rfl
  | a :: l => by rw [List.map_cons, List.map_cons, arPs, arPs_map l]; rfl
theorem wfExs_of : ∀ es : List Ex, (∀ e ∈ es, wfEx e) → wfExs es
  | [], _ => trivial
  | e :: es, h => by rw [wfExs]; exact ⟨h e (by simp), wfExs_of es (fun x hx => h x (by simp [hx]))⟩
section
variable {H : Type} {enc : TypeId × Value → H} {w : World} {spare : Nat → Bool} {held : Bool}
theorem op_i {P : Program} {t : TypeId} {k : IntKind} (u : P.underlying t = some (.int k)) {fuel : Nat} {cs : List Value} {x : DataW H × List MemPlace} (h : DataW.trod enc P w 0 spare held fuel t cs = some x) : ∃ n : Int, (Lit.int k n).wf = true ∧ CR w cs [.con (.int k n)] := by
  obtain ⟨n, rfl, _, hw⟩ := DataW.trod_int u h
  exact ⟨n, hw, .int _ _ _⟩
theorem op_s {P : Program} {t : TypeId} (u : P.underlying t = some .string) {fuel : Nat} {cs : List Value} {x : DataW H × List MemPlace} (h : DataW.trod enc P w 0 spare held fuel t cs = some x) : ∃ s : ByteArray, s.size ≤ maxLen ∧ CR w cs [.con (.string s)] := by
  obtain ⟨s, rfl, _, hs⟩ := DataW.trod_string u h
  exact ⟨s, hs, .str _ _⟩
theorem op_pos {fuel : Nat} {cs : List Value} {x : DataW H × List MemPlace} (h : DataW.trod enc Tryz.prog w 0 spare held fuel 28 cs = some x) : ∃ l c : Int, CR w cs [.con (.int .i64 l), .con (.int .i64 c)] := by
  obtain ⟨n, hn, hl, hf⟩ := open_flds tok T28 rfl h
  obtain ⟨y0, h0⟩ := hf 0 0 3 I3 rfl T3
  obtain ⟨y1, h1⟩ := hf 1 1 3 I3 rfl T3
  obtain ⟨l, _, c0⟩ := op_i u3 h0
  obtain ⟨c, _, c1⟩ := op_i u3 h1
  exact ⟨l, c, CR.seg (o := 0) c0 (CR.last c1 hl)⟩
theorem op_by {fuel : Nat} {cs : List Value} {x : DataW H × List MemPlace} (h : DataW.trod enc Tryz.prog w 0 spare held fuel 29 cs = some x) : ∃ b : List UInt8, CR w cs [.sl (byP b)] := by
  obtain ⟨b, _, c⟩ := open_slice (fun x : UInt8 => [.con (.int .u8 (x.toNat : Int))]) (fun _ => True) u29 z5 h (fun m us y hm _ hu => by
    obtain ⟨n, hw, c⟩ := op_i u5 hu
    have hb : 0 ≤ n ∧ n ≤ 255 := by
      simp only [Lit.wf, Bool.and_eq_true, decide_eq_true_eq] at hw
      exact hw
    refine ⟨UInt8.ofNat n.toNat, trivial, ?_⟩
    rwa [show ((UInt8.ofNat n.toNat).toNat : Int) = n by rw [UInt8.toNat_ofNat']; omega])
  exact ⟨b, c⟩
theorem open_ty (fuel : Nat) : ∀ (cs : List Value) (x : DataW H × List MemPlace), DataW.trod enc Tryz.prog w 0 spare held fuel 26 cs = some x → ∃ a : Ty, CR w cs (tyP a) := by
  induction fuel using Nat.strongRecOn with
  | _ fuel ih =>
  intro cs x h
  obtain ⟨n, hn, hl, hf⟩ := open_flds tok T26 rfl h
  obtain ⟨y0, h0⟩ := hf 0 0 3 I3 rfl T3
  obtain ⟨k, _, c0⟩ := op_i u3 h0
  obtain ⟨y1, h1⟩ := hf 1 1 9 I9 rfl T9
  obtain ⟨s, _, c1⟩ := op_s u9 h1
  obtain ⟨y2, h2⟩ := hf 2 2 24 I24 rfl T24
  obtain ⟨ps, _, c2⟩ := open_slice tyP (fun _ => True) u24 z26 h2 (fun m us y hm _ hu => by obtain ⟨a, ha⟩ := ih m (by omega) us y hu; exact ⟨a, trivial, ha⟩)
  refine ⟨.mk k s ps, ?_⟩
  rw [tyP, tyPs_map]
  have hz := CR.seg (o := 0) c0 (CR.seg c1 (CR.last c2 hl))
  exact hz
theorem open_pt (fuel : Nat) : ∀ (cs : List Value) (x : DataW H × List MemPlace), DataW.trod enc Tryz.prog w 0 spare held fuel 39 cs = some x → ∃ a : Pt, CR w cs (ptP a) := by
  induction fuel using Nat.strongRecOn with
  | _ fuel ih =>
  intro cs x h
  obtain ⟨n, hn, hl, hf⟩ := open_flds tok T39 rfl h
  obtain ⟨y0, h0⟩ := hf 0 0 3 I3 rfl T3
  obtain ⟨k, _, c0⟩ := op_i u3 h0
  obtain ⟨y1, h1⟩ := hf 1 1 28 I28 rfl T28
  obtain ⟨l, c, c1⟩ := op_pos h1
  obtain ⟨y2, h2⟩ := hf 2 3 9 I9 rfl T9
  obtain ⟨s, _, c2⟩ := op_s u9 h2
  obtain ⟨y3, h3⟩ := hf 3 4 2 I2 rfl T2
  obtain ⟨m, _, c3⟩ := op_i u2 h3
  obtain ⟨y4, h4⟩ := hf 4 5 37 I37 rfl T37
  obtain ⟨ps, _, c4⟩ := open_slice ptP (fun _ => True) u37 z39 h4 (fun m us y hm _ hu => by obtain ⟨a, ha⟩ := ih m (by omega) us y hu; exact ⟨a, trivial, ha⟩)
  refine ⟨.mk k l c s m ps, ?_⟩
  rw [ptP, ptPs_map]
  have hz := CR.seg (o := 0) c0 (CR.seg c1 (CR.seg c2 (CR.seg c3 (CR.last c4 hl))))
  exact hz
theorem open_ex (fuel : Nat) : ∀ (cs : List Value) (x : DataW H × List MemPlace), DataW.trod enc Tryz.prog w 0 spare held fuel 33 cs = some x → ∃ a : Ex, wfEx a ∧ CR w cs (exP a) := by
  induction fuel using Nat.strongRecOn with
  | _ fuel ih =>
  intro cs x h
  obtain ⟨n, hn, hl, hf⟩ := open_flds tok T33 rfl h
  obtain ⟨y0, h0⟩ := hf 0 0 3 I3 rfl T3
  obtain ⟨k, _, c0⟩ := op_i u3 h0
  obtain ⟨y1, h1⟩ := hf 1 1 28 I28 rfl T28
  obtain ⟨l, c, c1⟩ := op_pos h1
  obtain ⟨y2, h2⟩ := hf 2 3 2 I2 rfl T2
  obtain ⟨m, _, c2⟩ := op_i u2 h2
  obtain ⟨y3, h3⟩ := hf 3 4 29 I29 rfl T29
  obtain ⟨b, c3⟩ := op_by h3
  obtain ⟨y4, h4⟩ := hf 4 5 9 I9 rfl T9
  obtain ⟨s, _, c4⟩ := op_s u9 h4
  obtain ⟨y5, h5⟩ := hf 5 6 30 I30 rfl T30
  obtain ⟨ks, hks, c5⟩ := open_slice exP wfEx u30 z33 h5 (fun m us y hm _ hu => ih m (by omega) us y hu)
  obtain ⟨y6, h6⟩ := hf 6 7 31 I31 rfl T31
  obtain ⟨ars, har, c6⟩ := open_slice arP (fun a => wfEx a.2) u31 z59 h6 (fun m us y hm _ hu => by
    obtain ⟨n', hn', hl', hf'⟩ := open_flds tok T59 rfl hu
    obtain ⟨y0', h0'⟩ := hf' 0 0 39 I39 rfl T39
    obtain ⟨y1', h1'⟩ := hf' 1 6 33 I33 rfl T33
    obtain ⟨p, c0'⟩ := open_pt n' _ _ h0'
    obtain ⟨e, he, c1'⟩ := ih n' (by omega) _ _ h1'
    exact ⟨(p, e), he, CR.seg (o := 0) c0' (CR.last c1' hl')⟩)
  refine ⟨.mk k l c m b s ks (ars.map Prod.fst) (ars.map Prod.snd), by rw [wfEx]; exact ⟨by simp, wfExs_of ks hks, wfExs_of _ (fun e he => by obtain ⟨a, ha, rfl⟩ := List.mem_map.1 he; exact har a ha)⟩, ?_⟩
  rw [exP, exPs_map, arPs_map]
  have hz := CR.seg (o := 0) c0 (CR.seg c1 (CR.seg c2 (CR.seg c3 (CR.seg c4 (CR.seg c5 (CR.last c6 hl))))))
  exact hz
theorem open_co {fuel : Nat} (cs : List Value) (x : DataW H × List MemPlace) (h : DataW.trod enc Tryz.prog w 0 spare held fuel 119 cs = some x) : ∃ a : Co, CR w cs (coP a) := by
  obtain ⟨n, hn, hl, hf⟩ := open_flds tok T119 rfl h
  obtain ⟨y0, h0⟩ := hf 0 0 9 I9 rfl T9
  obtain ⟨s, _, c0⟩ := op_s u9 h0
  obtain ⟨y1, h1⟩ := hf 1 1 24 I24 rfl T24
  obtain ⟨ps, _, c1⟩ := open_slice tyP (fun _ => True) u24 z26 h1 (fun m us y hm _ hu => by obtain ⟨a, ha⟩ := open_ty _ us y hu; exact ⟨a, trivial, ha⟩)
  refine ⟨⟨s, ps⟩, ?_⟩
  unfold coP; rw [tyPs_map]
  have hz := CR.seg (o := 0) c0 (CR.last c1 hl)
  exact hz
theorem open_da {fuel : Nat} (cs : List Value) (x : DataW H × List MemPlace) (h : DataW.trod enc Tryz.prog w 0 spare held fuel 70 cs = some x) : ∃ a : Da, CR w cs (daP a) := by
  obtain ⟨n, hn, hl, hf⟩ := open_flds tok T70 rfl h
  obtain ⟨y0, h0⟩ := hf 0 0 28 I28 rfl T28
  obtain ⟨l, c, c0⟩ := op_pos h0
  obtain ⟨y1, h1⟩ := hf 1 2 9 I9 rfl T9
  obtain ⟨s, _, c1⟩ := op_s u9 h1
  obtain ⟨y2, h2⟩ := hf 2 3 68 I68 rfl T68
  obtain ⟨ps, _, c2⟩ := open_slice coP (fun _ => True) u68 z119 h2 (fun m us y hm _ hu => by obtain ⟨a, ha⟩ := open_co us y hu; exact ⟨a, trivial, ha⟩)
  refine ⟨⟨l, c, s, ps⟩, ?_⟩
  have hz := CR.seg (o := 0) c0 (CR.seg c1 (CR.last c2 hl))
  exact hz
theorem open_pa {fuel : Nat} (cs : List Value) (x : DataW H × List MemPlace) (h : DataW.trod enc Tryz.prog w 0 spare held fuel 79 cs = some x) : ∃ a : Pa, CR w cs (paP a) := by
  obtain ⟨n, hn, hl, hf⟩ := open_flds tok T79 rfl h
  obtain ⟨y0, h0⟩ := hf 0 0 9 I9 rfl T9
  obtain ⟨s, _, c0⟩ := op_s u9 h0
  obtain ⟨y1, h1⟩ := hf 1 1 26 I26 rfl T26
  obtain ⟨ty, c1⟩ := open_ty _ _ _ h1
  refine ⟨⟨s, ty⟩, ?_⟩
  have hz := CR.seg (o := 0) c0 (CR.last c1 hl)
  exact hz
theorem open_fu {fuel : Nat} (cs : List Value) (x : DataW H × List MemPlace) (h : DataW.trod enc Tryz.prog w 0 spare held fuel 75 cs = some x) : ∃ a : Fu, (fun f => wfEx f.body) a ∧ CR w cs (fuP a) := by
  obtain ⟨n, hn, hl, hf⟩ := open_flds tok T75 rfl h
  obtain ⟨y0, h0⟩ := hf 0 0 28 I28 rfl T28
  obtain ⟨l, c, c0⟩ := op_pos h0
  obtain ⟨y1, h1⟩ := hf 1 2 9 I9 rfl T9
  obtain ⟨s, _, c1⟩ := op_s u9 h1
  obtain ⟨y2, h2⟩ := hf 2 3 73 I73 rfl T73
  obtain ⟨ps, _, c2⟩ := open_slice paP (fun _ => True) u73 z79 h2 (fun m us y hm _ hu => by obtain ⟨a, ha⟩ := open_pa us y hu; exact ⟨a, trivial, ha⟩)
  obtain ⟨y3, h3⟩ := hf 3 4 26 I26 rfl T26
  obtain ⟨ty, c3⟩ := open_ty _ _ _ h3
  obtain ⟨y4, h4⟩ := hf 4 7 33 I33 rfl T33
  obtain ⟨e, he, c4⟩ := open_ex _ _ _ h4
  refine ⟨⟨l, c, s, ps, ty, e⟩, he, ?_⟩
  have hz := CR.seg (o := 0) c0 (CR.seg c1 (CR.seg c2 (CR.seg c3 (CR.last c4 hl))))
  exact hz
theorem open_ha {fuel : Nat} (cs : List Value) (x : DataW H × List MemPlace) (h : DataW.trod enc Tryz.prog w 0 spare held fuel 81 cs = some x) : ∃ a : Ha, (fun f => wfEx f.body) a ∧ CR w cs (haP a) := by
  obtain ⟨n, hn, hl, hf⟩ := open_flds tok T81 rfl h
  obtain ⟨y0, h0⟩ := hf 0 0 28 I28 rfl T28
  obtain ⟨l, c, c0⟩ := op_pos h0
  obtain ⟨y1, h1⟩ := hf 1 2 9 I9 rfl T9
  obtain ⟨s, _, c1⟩ := op_s u9 h1
  obtain ⟨y2, h2⟩ := hf 2 3 79 I79 rfl T79
  obtain ⟨pa, c2⟩ := open_pa _ _ h2
  obtain ⟨y3, h3⟩ := hf 3 7 3 I3 rfl T3
  obtain ⟨k, _, c3⟩ := op_i u3 h3
  obtain ⟨y4, h4⟩ := hf 4 8 33 I33 rfl T33
  obtain ⟨e, he, c4⟩ := open_ex _ _ _ h4
  refine ⟨⟨l, c, s, pa, k, e⟩, he, ?_⟩
  have hz := CR.seg (o := 0) c0 (CR.seg c1 (CR.seg c2 (CR.seg c3 (CR.last c4 hl))))
  exact hz
theorem open_pr {fuel : Nat} (cs : List Value) (x : DataW H × List MemPlace) (h : DataW.trod enc Tryz.prog w 0 spare held fuel 36 cs = some x) : ∃ a : Pr, wfPr a ∧ CR w cs (prP a) := by
  obtain ⟨n, hn, hl, hf⟩ := open_flds tok T36 rfl h
  obtain ⟨y0, h0⟩ := hf 0 0 22 I22 rfl T22
  obtain ⟨ds, _, c0⟩ := open_slice daP (fun _ => True) u22 z70 h0 (fun m us y hm _ hu => by obtain ⟨a, ha⟩ := open_da us y hu; exact ⟨a, trivial, ha⟩)
  obtain ⟨y1, h1⟩ := hf 1 1 23 I23 rfl T23
  obtain ⟨fs, hfs, c1⟩ := open_slice fuP (fun f => wfEx f.body) u23 z75 h1 (fun m us y hm _ hu => open_fu us y hu)
  obtain ⟨y2, h2⟩ := hf 2 2 3 I3 rfl T3
  obtain ⟨q, _, c2⟩ := op_i u3 h2
  obtain ⟨y3, h3⟩ := hf 3 3 3 I3 rfl T3
  obtain ⟨tm, _, c3⟩ := op_i u3 h3
  obtain ⟨y4, h4⟩ := hf 4 4 26 I26 rfl T26
  obtain ⟨ty, c4⟩ := open_ty _ _ _ h4
  obtain ⟨y5, h5⟩ := hf 5 7 3 I3 rfl T3
  obtain ⟨cp, _, c5⟩ := op_i u3 h5
  obtain ⟨y6, h6⟩ := hf 6 8 33 I33 rfl T33
  obtain ⟨e, he, c6⟩ := open_ex _ _ _ h6
  obtain ⟨y7, h7⟩ := hf 7 16 34 I34 rfl T34
  obtain ⟨hs, hhs, c7⟩ := open_slice haP (fun f => wfEx f.body) u34 z81 h7 (fun m us y hm _ hu => open_ha us y hu)
  refine ⟨⟨ds, fs, q, tm, ty, cp, e, hs⟩, ⟨hfs, hhs, he⟩, ?_⟩
  have hz := CR.seg (o := 0) c0 (CR.seg c1 (CR.seg c2 (CR.seg c3 (CR.seg c4 (CR.seg c5 (CR.seg c6 (CR.last c7 hl)))))))
  exact hz
end
theorem CR.agg {w : World} {vs : Array Value} {ps : List PV} (h : CR w vs.toList ps) : Rep (blockCells w) (fun _ => ⟨0, 0⟩) w 0 (.agg vs) (.agg ps) := by
  have := Rep.agg (G := blockCells w) (m := fun _ => ⟨0, 0⟩) (w := w) 0 vs.toList ps h.len h.rep
  simpa using this
end Go.Proofs.YtcmnjodjebcapaaGreat.Deep

namespace Go.Proofs.YtcmnjodjebcapaaGreat.Deep
open Go.ChangeShapes Go.WideShapes Go.ChangeAt Go.RowKit
set_option linter.unusedVariables false
theorem args_again {H : Type} {enc : TypeId × Value → H} {P : Program} {W W' : World} (hl : laidOutB P = true) (hb : Below W.heap.size W W') : ∀ (ts : List TypeId), (∀ t ∈ ts, P.readableRec t = true ∧ t < P.types.size) → ∀ (vs : List Value) (ds : List (DataW H)) (ps : List MemPlace),
    DataW.TrodAll enc P W 0 (fun _ => true) true ts vs ds ps → (∀ x ∈ ps, x.block < W.heap.size) → ∀ sp : Nat → Bool, (∀ x ∈ ps, sp x.block = true) → DataW.TrodAll enc P W' 0 sp true ts vs ds ps := by
  intro ts
  induction ts with
  | nil => intro _ vs ds ps h _ sp _; obtain ⟨rfl, rfl, rfl⟩ := trodAll_nil h; exact trodAll_mk0
  | cons t ts ih =>
    intro ht vs ds ps h hlt sp hsp
    obtain ⟨v, vs1, d, ds1, a, b, rfl, rfl, rfl, h1, h2⟩ := trodAll_cons h
    have h0 := ht t (by simp)
    exact trodAll_cons_mk (WideElems.Trod_stays hl h0.1 h0.2 h1 (fun x hx => hb.same (hlt x (List.mem_append_left _ hx))) (fun x hx => hsp x (List.mem_append_left _ hx)))
      (ih (fun t h => ht t (by simp [h])) _ _ _ h2 (fun x hx => hlt x (List.mem_append_right _ hx)) sp (fun x hx => hsp x (List.mem_append_right _ hx)))
theorem post_law {H : Type} {enc : TypeId × Value → H} {P : Program} {f : Func} {s : ChangeSpec} {apart fresh handsOn : Bool} {W W' : World} {args : Array Value} {v : Value} {ds gs : List (DataW H)} {before pa pv : List MemPlace}
    (hW : DataW.Whole enc P f.params.toList s.vars apart W args.toList ds gs before)
    (hres : ∀ (b : Nat) (sp : Nat → Bool) (hd : Bool), DataW.TrodAll enc P W' b sp hd f.resultTypes.toList (v.resultList f.resultTypes.size) (s.fn H (ds ++ gs)).results [])
    (hargs : ∀ sp : Nat → Bool, (∀ p ∈ before, sp p.block = true) → DataW.TrodAll enc P W' 0 sp true f.params.toList args.toList (s.fn H (ds ++ gs)).args pa)
    (hvars : ∀ sp : Nat → Bool, (∀ p ∈ before, sp p.block = true) → DataW.TrodVars enc P W' sp s.vars (s.fn H (ds ++ gs)).vars pv)
    (hps : before = pa ++ pv) (hb : Below W.heap.size W W') : s.post enc P f apart fresh handsOn false W args v W' := by
  have hold : ∀ p ∈ before, (fun b => decide (b < W.heap.size)) p.block = true := fun p hp => by simpa using hW.lt p hp
  exact ⟨ds, gs, before, [], pa, pv, hW, hres _ _ _, hargs _ hold, hvars _ hold, World.keptBut_mono (fun p hp => ⟨hp, Or.inr (List.mem_append.1 (hps ▸ hp))⟩) (hb.frame (· ∈ before)), fun h => by cases h⟩
theorem struct_of {P : Program} {T : TypeId → Option TI} (hT : Tok P T) {t : TypeId} {ti : TI} (hi : T t = some ti) (hst : ti.isStruct = true) : ∃ fs, P.underlying t = some (.struct fs) := by
  obtain ⟨h1, h2⟩ := hT t ti hi
  obtain ⟨d, hd⟩ := Option.isSome_iff_exists.1 h2
  subst h1
  unfold infoP at hst
  dsimp only at hst
  rw [hd] at hst
  cases d <;> first | exact ⟨_, hd⟩ | (exact absurd hst Bool.false_ne_true)
theorem open_arg {P : Program} {T : TypeId → Option TI} (hT : Tok P T) {α : Type} {H : Type} {enc : TypeId × Value → H} {M : α → Prop} {view : α → List PV} {t : TypeId} {ti : TI} (hi : T t = some ti) (hst : ti.isStruct = true) {W : World} {r : Reach} {b0 : Nat} {v : Value} {d : DataW H} {p : List MemPlace} (hv : Value.okWide P W r b0 t v)
    (h : DataW.Trod enc P W 0 (fun _ => true) true t v d p) (ho : ∀ (fuel : Nat) (cs : List Value) (x : DataW H × List MemPlace), DataW.trod enc P W 0 (fun _ => true) true fuel t cs = some x → ∃ a : α, M a ∧ CR W cs (view a)) :
    ∃ a : α, M a ∧ Rep (blockCells W) (fun _ => ⟨0, 0⟩) W 0 v (.agg (view a)) := by
  obtain ⟨fs, hfs⟩ := struct_of hT hi hst
  obtain ⟨cs, rfl, _⟩ := okWide_struct hfs hv
  obtain ⟨fuel, h⟩ := h
  obtain ⟨a, ha, hc⟩ := ho _ _ _ h
  exact ⟨a, ha, hc.agg⟩
theorem hs_start (P : Program) (W : World) : HS P (blockCells W) (fun _ => ⟨0, 0⟩) W [] := ⟨fun b hb => absurd hb (Nat.not_lt_zero _), fun b _ hb => absurd hb (Nat.not_lt_zero _), block_old⟩
theorem law_calls {f : FuncId} {ps : List PV} (h : PCalls Tryz.prog f ps (fun r => r = .con (.bool true))) {W : World} {vs : Array Value} (ha : Args (blockCells W) (fun _ => ⟨0, 0⟩) W 0 vs ps) : Calls Tryz.prog f vs W fun e W' => e = .returned (.bool true) ∧ Below W.heap.size W W' :=
  (h (blockCells W) (fun _ => ⟨0, 0⟩) W vs (hs_start _ W) ha).mono fun e W' ⟨v, r, h', G', m', he, ⟨hr, _⟩, hrep, _, hg⟩ => by
    subst hr
    obtain rfl := hrep.con_eq
    exact ⟨he, hg.below⟩
theorem args_list {w : World} {G : Nat → Nat} {m : Nat → Pl} {n : Nat} : ∀ (vs : List Value) (ps : List PV), vs.length = ps.length → (∀ i (h : i < vs.length) (h2 : i < ps.length), Rep G m w n vs[i] ps[i]) → Args G m w n vs.toArray ps := fun vs ps hl h => by
  refine ⟨by simpa using hl, fun i hi => ?_⟩
  have := h i (by omega) hi
  simp only [List.getD_eq_getElem?_getD, List.getElem?_eq_getElem hi, Option.getD_some]
  simpa [Array.getD, hl, hi] using this
end Go.Proofs.YtcmnjodjebcapaaGreat.Deep

namespace Go.Proofs.YtcmnjodjebcapaaGreat.Deep
open Go.RowKit
set_option linter.unusedVariables false
def p148sT (l1 l2 : List (List PV)) (Q : PV → Heap → Prop) : Prop :=
∃ b3 : Bool, CallN Tryz.prog 173 [l1, (.con (.bool (((List.length l1 : Int) : Int) == (List.length l2 : Int)))), (.fn 192 [(.ept [(.fn 74 [])] 0), (.ept [l2] 0)])] [[], []] b3
  (Q b3 [[], []])
theorem a148sT (l1 l2 : List (List PV)) (Q : PV → Heap → Prop) (h : p148sT l1 l2 Q) : ACalls Tryz.prog 148 [l1, l2, (.fn 74 [])] [] Q := by
  have hb : Option.some (bodyOf Tryz.f148) = Tryz.f148.body := by kernel_rfl
  exact acalls_eq (S := S) (L := loops7) mixed tok Tryz.func148 hb.symm (by kernel_rfl) h
def loops173sT (id : Nat) : Option (List Nat × List (Nat × Sh)) := match Nat.beq id 2 with | true => some ([2, 9, 10], [(1, .bool), (11, .int .i64)]) | false => none
def p173sT (l1 : List (List PV)) (b2 : Bool) (l3 : List (List PV)) (Q : PV → Heap → Prop) : Prop :=
∃ I4 : Nat → ((Bool) × (Int) × Unit) → Prop, (∃ n, I4 n (b2, 0, ())) ∧ ∀ (n5 : Nat) (v6 : (Bool) × (Int) × Unit), I4 n5 v6 →
  (br ((decide ((v6.2.1 : Int) < (List.length l1 : Int))))
  (∃ i7 : Int, ∃ s8 : ByteArray, ∃ l9 : List (List PV), IdxN l1 v6.2.1 [i7, s8, l9]
  (∃ b10 : Bool, CallN Tryz.prog 192 [v6.1, v6.2.1, (.agg [i7, s8, l9]), (.ept [(.fn 74 [])] 0), (.ept [l3] 0)] [[i7, s8, l9]] b10
  ((@Eq PV (.fn 192 [(.ept [(.fn 74 [])] 0), (.ept [l3] 0)]) (.fn 192 [(.ept [(.fn 74 [])] 0), (.ept [l3] 0)]) ∧ @Eq PV l1 l1 ∧ @Eq PV (.con (.int .i64 (List.length l1 : Int))) (.con (.int .i64 (List.length l1 : Int))) ∧ True) ∧ @Eq Heap [] [] ∧ ∃ k11, k11 < n5 ∧ I4 k11 (b10, (IntKind.wrap .i64 (v6.2.1 + 1)), ()))))
  (Q v6.1 []))
theorem a173sT (l1 : List (List PV)) (b2 : Bool) (l3 : List (List PV)) (Q : PV → Heap → Prop) (h : p173sT l1 b2 l3 Q) : ACalls Tryz.prog 173 [l1, b2, (.fn 192 [(.ept [(.fn 74 [])] 0), (.ept [l3] 0)])] [] Q := by
  have hb : Option.some (bodyOf Tryz.f173) = Tryz.f173.body := by kernel_rfl
  exact acalls_eq (S := S) (L := loops173sT) mixed tok Tryz.func173 hb.symm (by kernel_rfl) h
def p192sT (b1 : Bool) (i2 i3 : Int) (s4 : ByteArray) (l5 l6 : List (List PV)) (Q : PV → Heap → Prop) : Prop :=
br (b1)
  (∃ i7 : Int, ∃ s8 : ByteArray, ∃ l9 : List (List PV), IdxN l6 i2 [i7, s8, l9]
  (∃ b10 : Bool, CallN Tryz.prog 74 [(.agg [i3, s4, l5]), (.agg [i7, s8, l9])] [] b10
  (Q b10 [[i3, s4, l5]])))
  (Q (.con (.bool false)) [[i3, s4, l5]])
theorem a192sT (b1 : Bool) (i2 i3 : Int) (s4 : ByteArray) (l5 l6 : List (List PV)) (Q : PV → Heap → Prop) (h : p192sT b1 i2 i3 s4 l5 l6 Q) : ACalls Tryz.prog 192 [b1, i2, (.agg [i3, s4, l5]), (.ept [(.fn 74 [])] 0), (.ept [l6] 0)] [] Q := by
  have hb : Option.some (bodyOf Tryz.f192) = Tryz.f192.body := by kernel_rfl
  exact acalls_eq (S := S) (L := loops7) mixed tok Tryz.func192 hb.symm (by kernel_rfl) h
def p193sP (l1 l2 : List (List PV)) (Q : PV → Heap → Prop) : Prop :=
∃ b3 : Bool, CallN Tryz.prog 171 [l1, (.con (.bool (((List.length l1 : Int) : Int) == (List.length l2 : Int)))), (.fn 197 [(.ept [(.fn 153 [])] 0), (.ept [l2] 0)])] [[], []] b3
  (Q b3 [[], []])
theorem a193sP (l1 l2 : List (List PV)) (Q : PV → Heap → Prop) (h : p193sP l1 l2 Q) : ACalls Tryz.prog 193 [l1, l2, (.fn 153 [])] [] Q := by
  have hb : Option.some (bodyOf Tryz.f193) = Tryz.f193.body := by kernel_rfl
  exact acalls_eq (S := S) (L := loops7) mixed tok Tryz.func193 hb.symm (by kernel_rfl) h
def loops171sP (id : Nat) : Option (List Nat × List (Nat × Sh)) := match Nat.beq id 2 with | true => some ([2, 9, 10], [(1, .bool), (11, .int .i64)]) | false => none
def p171sP (l1 : List (List PV)) (b2 : Bool) (l3 : List (List PV)) (Q : PV → Heap → Prop) : Prop :=
∃ I4 : Nat → ((Bool) × (Int) × Unit) → Prop, (∃ n, I4 n (b2, 0, ())) ∧ ∀ (n5 : Nat) (v6 : (Bool) × (Int) × Unit), I4 n5 v6 →
  (br ((decide ((v6.2.1 : Int) < (List.length l1 : Int))))
  (∃ i7 : Int, ∃ i8 : Int, ∃ i9 : Int, ∃ s10 : ByteArray, ∃ i11 : Int, ∃ l12 : List (List PV), IdxN l1 v6.2.1 [i7, i8, i9, s10, i11, l12]
  (∃ b13 : Bool, CallN Tryz.prog 197 [v6.1, v6.2.1, (.agg [i7, i8, i9, s10, i11, l12]), (.ept [(.fn 153 [])] 0), (.ept [l3] 0)] [[i7, i8, i9, s10, i11, l12]] b13
  ((@Eq PV (.fn 197 [(.ept [(.fn 153 [])] 0), (.ept [l3] 0)]) (.fn 197 [(.ept [(.fn 153 [])] 0), (.ept [l3] 0)]) ∧ @Eq PV l1 l1 ∧ @Eq PV (.con (.int .i64 (List.length l1 : Int))) (.con (.int .i64 (List.length l1 : Int))) ∧ True) ∧ @Eq Heap [] [] ∧ ∃ k14, k14 < n5 ∧ I4 k14 (b13, (IntKind.wrap .i64 (v6.2.1 + 1)), ()))))
  (Q v6.1 []))
theorem a171sP (l1 : List (List PV)) (b2 : Bool) (l3 : List (List PV)) (Q : PV → Heap → Prop) (h : p171sP l1 b2 l3 Q) : ACalls Tryz.prog 171 [l1, b2, (.fn 197 [(.ept [(.fn 153 [])] 0), (.ept [l3] 0)])] [] Q := by
  have hb : Option.some (bodyOf Tryz.f171) = Tryz.f171.body := by kernel_rfl
  exact acalls_eq (S := S) (L := loops171sP) mixed tok Tryz.func171 hb.symm (by kernel_rfl) h
def p197sP (b1 : Bool) (i2 i3 i4 i5 : Int) (s6 : ByteArray) (i7 : Int) (l8 l9 : List (List PV)) (Q : PV → Heap → Prop) : Prop :=
br (b1)
  (∃ i10 : Int, ∃ i11 : Int, ∃ i12 : Int, ∃ s13 : ByteArray, ∃ i14 : Int, ∃ l15 : List (List PV), IdxN l9 i2 [i10, i11, i12, s13, i14, l15]
  (∃ b16 : Bool, CallN Tryz.prog 153 [(.agg [i3, i4, i5, s6, i7, l8]), (.agg [i10, i11, i12, s13, i14, l15])] [] b16
  (Q b16 [[i3, i4, i5, s6, i7, l8]])))
  (Q (.con (.bool false)) [[i3, i4, i5, s6, i7, l8]])
theorem a197sP (b1 : Bool) (i2 i3 i4 i5 : Int) (s6 : ByteArray) (i7 : Int) (l8 l9 : List (List PV)) (Q : PV → Heap → Prop) (h : p197sP b1 i2 i3 i4 i5 s6 i7 l8 l9 Q) : ACalls Tryz.prog 197 [b1, i2, (.agg [i3, i4, i5, s6, i7, l8]), (.ept [(.fn 153 [])] 0), (.ept [l9] 0)] [] Q := by
  have hb : Option.some (bodyOf Tryz.f197) = Tryz.f197.body := by kernel_rfl
  exact acalls_eq (S := S) (L := loops7) mixed tok Tryz.func197 hb.symm (by kernel_rfl) h
def p75sE (l1 l2 : List (List PV)) (Q : PV → Heap → Prop) : Prop :=
∃ b3 : Bool, CallN Tryz.prog 149 [l1, (.con (.bool (((List.length l1 : Int) : Int) == (List.length l2 : Int)))), (.fn 150 [(.ept [(.fn 28 [])] 0), (.ept [l2] 0)])] [[], []] b3
  (Q b3 [[], []])
theorem a75sE (l1 l2 : List (List PV)) (Q : PV → Heap → Prop) (h : p75sE l1 l2 Q) : ACalls Tryz.prog 75 [l1, l2, (.fn 28 [])] [] Q := by
  have hb : Option.some (bodyOf Tryz.f75) = Tryz.f75.body := by kernel_rfl
  exact acalls_eq (S := S) (L := loops7) mixed tok Tryz.func75 hb.symm (by kernel_rfl) h
def loops149sE (id : Nat) : Option (List Nat × List (Nat × Sh)) := match Nat.beq id 2 with | true => some ([2, 9, 10], [(1, .bool), (11, .int .i64)]) | false => none
def p149sE (l1 : List (List PV)) (b2 : Bool) (l3 : List (List PV)) (Q : PV → Heap → Prop) : Prop :=
∃ I4 : Nat → ((Bool) × (Int) × Unit) → Prop, (∃ n, I4 n (b2, 0, ())) ∧ ∀ (n5 : Nat) (v6 : (Bool) × (Int) × Unit), I4 n5 v6 →
  (br ((decide ((v6.2.1 : Int) < (List.length l1 : Int))))
  (∃ i7 : Int, ∃ i8 : Int, ∃ i9 : Int, ∃ i10 : Int, ∃ l11 : List (List PV), ∃ s12 : ByteArray, ∃ l13 : List (List PV), ∃ l14 : List (List PV), IdxN l1 v6.2.1 [i7, i8, i9, i10, l11, s12, l13, l14]
  (∃ b15 : Bool, CallN Tryz.prog 150 [v6.1, v6.2.1, (.agg [i7, i8, i9, i10, l11, s12, l13, l14]), (.ept [(.fn 28 [])] 0), (.ept [l3] 0)] [[i7, i8, i9, i10, l11, s12, l13, l14]] b15
  ((@Eq PV (.fn 150 [(.ept [(.fn 28 [])] 0), (.ept [l3] 0)]) (.fn 150 [(.ept [(.fn 28 [])] 0), (.ept [l3] 0)]) ∧ @Eq PV l1 l1 ∧ @Eq PV (.con (.int .i64 (List.length l1 : Int))) (.con (.int .i64 (List.length l1 : Int))) ∧ True) ∧ @Eq Heap [] [] ∧ ∃ k16, k16 < n5 ∧ I4 k16 (b15, (IntKind.wrap .i64 (v6.2.1 + 1)), ()))))
  (Q v6.1 []))
theorem a149sE (l1 : List (List PV)) (b2 : Bool) (l3 : List (List PV)) (Q : PV → Heap → Prop) (h : p149sE l1 b2 l3 Q) : ACalls Tryz.prog 149 [l1, b2, (.fn 150 [(.ept [(.fn 28 [])] 0), (.ept [l3] 0)])] [] Q := by
  have hb : Option.some (bodyOf Tryz.f149) = Tryz.f149.body := by kernel_rfl
  exact acalls_eq (S := S) (L := loops149sE) mixed tok Tryz.func149 hb.symm (by kernel_rfl) h
def p150sE (b1 : Bool) (i2 i3 i4 i5 i6 : Int) (l7 : List (List PV)) (s8 : ByteArray) (l9 l10 l11 : List (List PV)) (Q : PV → Heap → Prop) : Prop :=
br (b1)
  (∃ i12 : Int, ∃ i13 : Int, ∃ i14 : Int, ∃ i15 : Int, ∃ l16 : List (List PV), ∃ s17 : ByteArray, ∃ l18 : List (List PV), ∃ l19 : List (List PV), IdxN l11 i2 [i12, i13, i14, i15, l16, s17, l18, l19]
  (∃ b20 : Bool, CallN Tryz.prog 28 [(.agg [i3, i4, i5, i6, l7, s8, l9, l10]), (.agg [i12, i13, i14, i15, l16, s17, l18, l19])] [] b20
  (Q b20 [[i3, i4, i5, i6, l7, s8, l9, l10]])))
  (Q (.con (.bool false)) [[i3, i4, i5, i6, l7, s8, l9, l10]])
theorem a150sE (b1 : Bool) (i2 i3 i4 i5 i6 : Int) (l7 : List (List PV)) (s8 : ByteArray) (l9 l10 l11 : List (List PV)) (Q : PV → Heap → Prop) (h : p150sE b1 i2 i3 i4 i5 i6 l7 s8 l9 l10 l11 Q) : ACalls Tryz.prog 150 [b1, i2, (.agg [i3, i4, i5, i6, l7, s8, l9, l10]), (.ept [(.fn 28 [])] 0), (.ept [l11] 0)] [] Q := by
  have hb : Option.some (bodyOf Tryz.f150) = Tryz.f150.body := by kernel_rfl
  exact acalls_eq (S := S) (L := loops7) mixed tok Tryz.func150 hb.symm (by kernel_rfl) h
def p76sA (l1 l2 : List (List PV)) (Q : PV → Heap → Prop) : Prop :=
∃ b3 : Bool, CallN Tryz.prog 151 [l1, (.con (.bool (((List.length l1 : Int) : Int) == (List.length l2 : Int)))), (.fn 152 [(.ept [(.fn 77 [])] 0), (.ept [l2] 0)])] [[], []] b3
  (Q b3 [[], []])
theorem a76sA (l1 l2 : List (List PV)) (Q : PV → Heap → Prop) (h : p76sA l1 l2 Q) : ACalls Tryz.prog 76 [l1, l2, (.fn 77 [])] [] Q := by
  have hb : Option.some (bodyOf Tryz.f76) = Tryz.f76.body := by kernel_rfl
  exact acalls_eq (S := S) (L := loops7) mixed tok Tryz.func76 hb.symm (by kernel_rfl) h
def loops151sA (id : Nat) : Option (List Nat × List (Nat × Sh)) := match Nat.beq id 2 with | true => some ([2, 9, 10], [(1, .bool), (11, .int .i64)]) | false => none
def p151sA (l1 : List (List PV)) (b2 : Bool) (l3 : List (List PV)) (Q : PV → Heap → Prop) : Prop :=
∃ I4 : Nat → ((Bool) × (Int) × Unit) → Prop, (∃ n, I4 n (b2, 0, ())) ∧ ∀ (n5 : Nat) (v6 : (Bool) × (Int) × Unit), I4 n5 v6 →
  (br ((decide ((v6.2.1 : Int) < (List.length l1 : Int))))
  (∃ i7 : Int, ∃ i8 : Int, ∃ i9 : Int, ∃ s10 : ByteArray, ∃ i11 : Int, ∃ l12 : List (List PV), ∃ i13 : Int, ∃ i14 : Int, ∃ i15 : Int, ∃ i16 : Int, ∃ l17 : List (List PV), ∃ s18 : ByteArray, ∃ l19 : List (List PV), ∃ l20 : List (List PV), IdxN l1 v6.2.1 [i7, i8, i9, s10, i11, l12, i13, i14, i15, i16, l17, s18, l19, l20]
  (∃ b21 : Bool, CallN Tryz.prog 152 [v6.1, v6.2.1, (.agg [i7, i8, i9, s10, i11, l12, i13, i14, i15, i16, l17, s18, l19, l20]), (.ept [(.fn 77 [])] 0), (.ept [l3] 0)] [[i7, i8, i9, s10, i11, l12, i13, i14, i15, i16, l17, s18, l19, l20]] b21
  ((@Eq PV (.fn 152 [(.ept [(.fn 77 [])] 0), (.ept [l3] 0)]) (.fn 152 [(.ept [(.fn 77 [])] 0), (.ept [l3] 0)]) ∧ @Eq PV l1 l1 ∧ @Eq PV (.con (.int .i64 (List.length l1 : Int))) (.con (.int .i64 (List.length l1 : Int))) ∧ True) ∧ @Eq Heap [] [] ∧ ∃ k22, k22 < n5 ∧ I4 k22 (b21, (IntKind.wrap .i64 (v6.2.1 + 1)), ()))))
  (Q v6.1 []))
theorem a151sA (l1 : List (List PV)) (b2 : Bool) (l3 : List (List PV)) (Q : PV → Heap → Prop) (h : p151sA l1 b2 l3 Q) : ACalls Tryz.prog 151 [l1, b2, (.fn 152 [(.ept [(.fn 77 [])] 0), (.ept [l3] 0)])] [] Q := by
  have hb : Option.some (bodyOf Tryz.f151) = Tryz.f151.body := by kernel_rfl
  exact acalls_eq (S := S) (L := loops151sA) mixed tok Tryz.func151 hb.symm (by kernel_rfl) h
def p152sA (b1 : Bool) (i2 i3 i4 i5 : Int) (s6 : ByteArray) (i7 : Int) (l8 : List (List PV)) (i9 i10 i11 i12 : Int) (l13 : List (List PV)) (s14 : ByteArray) (l15 l16 l17 : List (List PV)) (Q : PV → Heap → Prop) : Prop :=
br (b1)
  (∃ i18 : Int, ∃ i19 : Int, ∃ i20 : Int, ∃ s21 : ByteArray, ∃ i22 : Int, ∃ l23 : List (List PV), ∃ i24 : Int, ∃ i25 : Int, ∃ i26 : Int, ∃ i27 : Int, ∃ l28 : List (List PV), ∃ s29 : ByteArray, ∃ l30 : List (List PV), ∃ l31 : List (List PV), IdxN l17 i2 [i18, i19, i20, s21, i22, l23, i24, i25, i26, i27, l28, s29, l30, l31]
  (∃ b32 : Bool, CallN Tryz.prog 77 [(.agg [i3, i4, i5, s6, i7, l8, i9, i10, i11, i12, l13, s14, l15, l16]), (.agg [i18, i19, i20, s21, i22, l23, i24, i25, i26, i27, l28, s29, l30, l31])] [] b32
  (Q b32 [[i3, i4, i5, s6, i7, l8, i9, i10, i11, i12, l13, s14, l15, l16]])))
  (Q (.con (.bool false)) [[i3, i4, i5, s6, i7, l8, i9, i10, i11, i12, l13, s14, l15, l16]])
theorem a152sA (b1 : Bool) (i2 i3 i4 i5 : Int) (s6 : ByteArray) (i7 : Int) (l8 : List (List PV)) (i9 i10 i11 i12 : Int) (l13 : List (List PV)) (s14 : ByteArray) (l15 l16 l17 : List (List PV)) (Q : PV → Heap → Prop) (h : p152sA b1 i2 i3 i4 i5 s6 i7 l8 i9 i10 i11 i12 l13 s14 l15 l16 l17 Q) : ACalls Tryz.prog 152 [b1, i2, (.agg [i3, i4, i5, s6, i7, l8, i9, i10, i11, i12, l13, s14, l15, l16]), (.ept [(.fn 77 [])] 0), (.ept [l17] 0)] [] Q := by
  have hb : Option.some (bodyOf Tryz.f152) = Tryz.f152.body := by kernel_rfl
  exact acalls_eq (S := S) (L := loops7) mixed tok Tryz.func152 hb.symm (by kernel_rfl) h
def p142sC (l1 l2 : List (List PV)) (Q : PV → Heap → Prop) : Prop :=
∃ b3 : Bool, CallN Tryz.prog 154 [l1, (.con (.bool (((List.length l1 : Int) : Int) == (List.length l2 : Int)))), (.fn 190 [(.ept [(.fn 143 [])] 0), (.ept [l2] 0)])] [[], []] b3
  (Q b3 [[], []])
theorem a142sC (l1 l2 : List (List PV)) (Q : PV → Heap → Prop) (h : p142sC l1 l2 Q) : ACalls Tryz.prog 142 [l1, l2, (.fn 143 [])] [] Q := by
  have hb : Option.some (bodyOf Tryz.f142) = Tryz.f142.body := by kernel_rfl
  exact acalls_eq (S := S) (L := loops7) mixed tok Tryz.func142 hb.symm (by kernel_rfl) h
def loops154sC (id : Nat) : Option (List Nat × List (Nat × Sh)) := match Nat.beq id 2 with | true => some ([2, 9, 10], [(1, .bool), (11, .int .i64)]) | false => none
def p154sC (l1 : List (List PV)) (b2 : Bool) (l3 : List (List PV)) (Q : PV → Heap → Prop) : Prop :=
∃ I4 : Nat → ((Bool) × (Int) × Unit) → Prop, (∃ n, I4 n (b2, 0, ())) ∧ ∀ (n5 : Nat) (v6 : (Bool) × (Int) × Unit), I4 n5 v6 →
  (br ((decide ((v6.2.1 : Int) < (List.length l1 : Int))))
  (∃ s7 : ByteArray, ∃ l8 : List (List PV), IdxN l1 v6.2.1 [s7, l8]
  (∃ b9 : Bool, CallN Tryz.prog 190 [v6.1, v6.2.1, (.agg [s7, l8]), (.ept [(.fn 143 [])] 0), (.ept [l3] 0)] [[s7, l8]] b9
  ((@Eq PV (.fn 190 [(.ept [(.fn 143 [])] 0), (.ept [l3] 0)]) (.fn 190 [(.ept [(.fn 143 [])] 0), (.ept [l3] 0)]) ∧ @Eq PV l1 l1 ∧ @Eq PV (.con (.int .i64 (List.length l1 : Int))) (.con (.int .i64 (List.length l1 : Int))) ∧ True) ∧ @Eq Heap [] [] ∧ ∃ k10, k10 < n5 ∧ I4 k10 (b9, (IntKind.wrap .i64 (v6.2.1 + 1)), ()))))
  (Q v6.1 []))
theorem a154sC (l1 : List (List PV)) (b2 : Bool) (l3 : List (List PV)) (Q : PV → Heap → Prop) (h : p154sC l1 b2 l3 Q) : ACalls Tryz.prog 154 [l1, b2, (.fn 190 [(.ept [(.fn 143 [])] 0), (.ept [l3] 0)])] [] Q := by
  have hb : Option.some (bodyOf Tryz.f154) = Tryz.f154.body := by kernel_rfl
  exact acalls_eq (S := S) (L := loops154sC) mixed tok Tryz.func154 hb.symm (by kernel_rfl) h
def p190sC (b1 : Bool) (i2 : Int) (s3 : ByteArray) (l4 l5 : List (List PV)) (Q : PV → Heap → Prop) : Prop :=
br (b1)
  (∃ s6 : ByteArray, ∃ l7 : List (List PV), IdxN l5 i2 [s6, l7]
  (∃ b8 : Bool, CallN Tryz.prog 143 [(.agg [s3, l4]), (.agg [s6, l7])] [] b8
  (Q b8 [[s3, l4]])))
  (Q (.con (.bool false)) [[s3, l4]])
theorem a190sC (b1 : Bool) (i2 : Int) (s3 : ByteArray) (l4 l5 : List (List PV)) (Q : PV → Heap → Prop) (h : p190sC b1 i2 s3 l4 l5 Q) : ACalls Tryz.prog 190 [b1, i2, (.agg [s3, l4]), (.ept [(.fn 143 [])] 0), (.ept [l5] 0)] [] Q := by
  have hb : Option.some (bodyOf Tryz.f190) = Tryz.f190.body := by kernel_rfl
  exact acalls_eq (S := S) (L := loops7) mixed tok Tryz.func190 hb.symm (by kernel_rfl) h
def p145sQ (l1 l2 : List (List PV)) (Q : PV → Heap → Prop) : Prop :=
∃ b3 : Bool, CallN Tryz.prog 157 [l1, (.con (.bool (((List.length l1 : Int) : Int) == (List.length l2 : Int)))), (.fn 191 [(.ept [(.fn 146 [])] 0), (.ept [l2] 0)])] [[], []] b3
  (Q b3 [[], []])
theorem a145sQ (l1 l2 : List (List PV)) (Q : PV → Heap → Prop) (h : p145sQ l1 l2 Q) : ACalls Tryz.prog 145 [l1, l2, (.fn 146 [])] [] Q := by
  have hb : Option.some (bodyOf Tryz.f145) = Tryz.f145.body := by kernel_rfl
  exact acalls_eq (S := S) (L := loops7) mixed tok Tryz.func145 hb.symm (by kernel_rfl) h
def loops157sQ (id : Nat) : Option (List Nat × List (Nat × Sh)) := match Nat.beq id 2 with | true => some ([2, 9, 10], [(1, .bool), (11, .int .i64)]) | false => none
def p157sQ (l1 : List (List PV)) (b2 : Bool) (l3 : List (List PV)) (Q : PV → Heap → Prop) : Prop :=
∃ I4 : Nat → ((Bool) × (Int) × Unit) → Prop, (∃ n, I4 n (b2, 0, ())) ∧ ∀ (n5 : Nat) (v6 : (Bool) × (Int) × Unit), I4 n5 v6 →
  (br ((decide ((v6.2.1 : Int) < (List.length l1 : Int))))
  (∃ s7 : ByteArray, ∃ i8 : Int, ∃ s9 : ByteArray, ∃ l10 : List (List PV), IdxN l1 v6.2.1 [s7, i8, s9, l10]
  (∃ b11 : Bool, CallN Tryz.prog 191 [v6.1, v6.2.1, (.agg [s7, i8, s9, l10]), (.ept [(.fn 146 [])] 0), (.ept [l3] 0)] [[s7, i8, s9, l10]] b11
  ((@Eq PV (.fn 191 [(.ept [(.fn 146 [])] 0), (.ept [l3] 0)]) (.fn 191 [(.ept [(.fn 146 [])] 0), (.ept [l3] 0)]) ∧ @Eq PV l1 l1 ∧ @Eq PV (.con (.int .i64 (List.length l1 : Int))) (.con (.int .i64 (List.length l1 : Int))) ∧ True) ∧ @Eq Heap [] [] ∧ ∃ k12, k12 < n5 ∧ I4 k12 (b11, (IntKind.wrap .i64 (v6.2.1 + 1)), ()))))
  (Q v6.1 []))
theorem a157sQ (l1 : List (List PV)) (b2 : Bool) (l3 : List (List PV)) (Q : PV → Heap → Prop) (h : p157sQ l1 b2 l3 Q) : ACalls Tryz.prog 157 [l1, b2, (.fn 191 [(.ept [(.fn 146 [])] 0), (.ept [l3] 0)])] [] Q := by
  have hb : Option.some (bodyOf Tryz.f157) = Tryz.f157.body := by kernel_rfl
  exact acalls_eq (S := S) (L := loops157sQ) mixed tok Tryz.func157 hb.symm (by kernel_rfl) h
def p191sQ (b1 : Bool) (i2 : Int) (s3 : ByteArray) (i4 : Int) (s5 : ByteArray) (l6 l7 : List (List PV)) (Q : PV → Heap → Prop) : Prop :=
br (b1)
  (∃ s8 : ByteArray, ∃ i9 : Int, ∃ s10 : ByteArray, ∃ l11 : List (List PV), IdxN l7 i2 [s8, i9, s10, l11]
  (∃ b12 : Bool, CallN Tryz.prog 146 [(.agg [s3, i4, s5, l6]), (.agg [s8, i9, s10, l11])] [] b12
  (Q b12 [[s3, i4, s5, l6]])))
  (Q (.con (.bool false)) [[s3, i4, s5, l6]])
theorem a191sQ (b1 : Bool) (i2 : Int) (s3 : ByteArray) (i4 : Int) (s5 : ByteArray) (l6 l7 : List (List PV)) (Q : PV → Heap → Prop) (h : p191sQ b1 i2 s3 i4 s5 l6 l7 Q) : ACalls Tryz.prog 191 [b1, i2, (.agg [s3, i4, s5, l6]), (.ept [(.fn 146 [])] 0), (.ept [l7] 0)] [] Q := by
  have hb : Option.some (bodyOf Tryz.f191) = Tryz.f191.body := by kernel_rfl
  exact acalls_eq (S := S) (L := loops7) mixed tok Tryz.func191 hb.symm (by kernel_rfl) h
def p68sD (l1 l2 : List (List PV)) (Q : PV → Heap → Prop) : Prop :=
∃ b3 : Bool, CallN Tryz.prog 80 [l1, (.con (.bool (((List.length l1 : Int) : Int) == (List.length l2 : Int)))), (.fn 141 [(.ept [(.fn 69 [])] 0), (.ept [l2] 0)])] [[], []] b3
  (Q b3 [[], []])
theorem a68sD (l1 l2 : List (List PV)) (Q : PV → Heap → Prop) (h : p68sD l1 l2 Q) : ACalls Tryz.prog 68 [l1, l2, (.fn 69 [])] [] Q := by
  have hb : Option.some (bodyOf Tryz.f68) = Tryz.f68.body := by kernel_rfl
  exact acalls_eq (S := S) (L := loops7) mixed tok Tryz.func68 hb.symm (by kernel_rfl) h
def loops80sD (id : Nat) : Option (List Nat × List (Nat × Sh)) := match Nat.beq id 2 with | true => some ([2, 9, 10], [(1, .bool), (11, .int .i64)]) | false => none
def p80sD (l1 : List (List PV)) (b2 : Bool) (l3 : List (List PV)) (Q : PV → Heap → Prop) : Prop :=
∃ I4 : Nat → ((Bool) × (Int) × Unit) → Prop, (∃ n, I4 n (b2, 0, ())) ∧ ∀ (n5 : Nat) (v6 : (Bool) × (Int) × Unit), I4 n5 v6 →
  (br ((decide ((v6.2.1 : Int) < (List.length l1 : Int))))
  (∃ i7 : Int, ∃ i8 : Int, ∃ s9 : ByteArray, ∃ l10 : List (List PV), IdxN l1 v6.2.1 [i7, i8, s9, l10]
  (∃ b11 : Bool, CallN Tryz.prog 141 [v6.1, v6.2.1, (.agg [i7, i8, s9, l10]), (.ept [(.fn 69 [])] 0), (.ept [l3] 0)] [[i7, i8, s9, l10]] b11
  ((@Eq PV (.fn 141 [(.ept [(.fn 69 [])] 0), (.ept [l3] 0)]) (.fn 141 [(.ept [(.fn 69 [])] 0), (.ept [l3] 0)]) ∧ @Eq PV l1 l1 ∧ @Eq PV (.con (.int .i64 (List.length l1 : Int))) (.con (.int .i64 (List.length l1 : Int))) ∧ True) ∧ @Eq Heap [] [] ∧ ∃ k12, k12 < n5 ∧ I4 k12 (b11, (IntKind.wrap .i64 (v6.2.1 + 1)), ()))))
  (Q v6.1 []))
theorem a80sD (l1 : List (List PV)) (b2 : Bool) (l3 : List (List PV)) (Q : PV → Heap → Prop) (h : p80sD l1 b2 l3 Q) : ACalls Tryz.prog 80 [l1, b2, (.fn 141 [(.ept [(.fn 69 [])] 0), (.ept [l3] 0)])] [] Q := by
  have hb : Option.some (bodyOf Tryz.f80) = Tryz.f80.body := by kernel_rfl
  exact acalls_eq (S := S) (L := loops80sD) mixed tok Tryz.func80 hb.symm (by kernel_rfl) h
def p141sD (b1 : Bool) (i2 i3 i4 : Int) (s5 : ByteArray) (l6 l7 : List (List PV)) (Q : PV → Heap → Prop) : Prop :=
br (b1)
  (∃ i8 : Int, ∃ i9 : Int, ∃ s10 : ByteArray, ∃ l11 : List (List PV), IdxN l7 i2 [i8, i9, s10, l11]
  (∃ b12 : Bool, CallN Tryz.prog 69 [(.agg [i3, i4, s5, l6]), (.agg [i8, i9, s10, l11])] [] b12
  (Q b12 [[i3, i4, s5, l6]])))
  (Q (.con (.bool false)) [[i3, i4, s5, l6]])
theorem a141sD (b1 : Bool) (i2 i3 i4 : Int) (s5 : ByteArray) (l6 l7 : List (List PV)) (Q : PV → Heap → Prop) (h : p141sD b1 i2 i3 i4 s5 l6 l7 Q) : ACalls Tryz.prog 141 [b1, i2, (.agg [i3, i4, s5, l6]), (.ept [(.fn 69 [])] 0), (.ept [l7] 0)] [] Q := by
  have hb : Option.some (bodyOf Tryz.f141) = Tryz.f141.body := by kernel_rfl
  exact acalls_eq (S := S) (L := loops7) mixed tok Tryz.func141 hb.symm (by kernel_rfl) h
def p70sF (l1 l2 : List (List PV)) (Q : PV → Heap → Prop) : Prop :=
∃ b3 : Bool, CallN Tryz.prog 85 [l1, (.con (.bool (((List.length l1 : Int) : Int) == (List.length l2 : Int)))), (.fn 144 [(.ept [(.fn 71 [])] 0), (.ept [l2] 0)])] [[], []] b3
  (Q b3 [[], []])
theorem a70sF (l1 l2 : List (List PV)) (Q : PV → Heap → Prop) (h : p70sF l1 l2 Q) : ACalls Tryz.prog 70 [l1, l2, (.fn 71 [])] [] Q := by
  have hb : Option.some (bodyOf Tryz.f70) = Tryz.f70.body := by kernel_rfl
  exact acalls_eq (S := S) (L := loops7) mixed tok Tryz.func70 hb.symm (by kernel_rfl) h
def loops85sF (id : Nat) : Option (List Nat × List (Nat × Sh)) := match Nat.beq id 2 with | true => some ([2, 9, 10], [(1, .bool), (11, .int .i64)]) | false => none
def p85sF (l1 : List (List PV)) (b2 : Bool) (l3 : List (List PV)) (Q : PV → Heap → Prop) : Prop :=
∃ I4 : Nat → ((Bool) × (Int) × Unit) → Prop, (∃ n, I4 n (b2, 0, ())) ∧ ∀ (n5 : Nat) (v6 : (Bool) × (Int) × Unit), I4 n5 v6 →
  (br ((decide ((v6.2.1 : Int) < (List.length l1 : Int))))
  (∃ i7 : Int, ∃ i8 : Int, ∃ s9 : ByteArray, ∃ l10 : List (List PV), ∃ i11 : Int, ∃ s12 : ByteArray, ∃ l13 : List (List PV), ∃ i14 : Int, ∃ i15 : Int, ∃ i16 : Int, ∃ i17 : Int, ∃ l18 : List (List PV), ∃ s19 : ByteArray, ∃ l20 : List (List PV), ∃ l21 : List (List PV), IdxN l1 v6.2.1 [i7, i8, s9, l10, i11, s12, l13, i14, i15, i16, i17, l18, s19, l20, l21]
  (∃ b22 : Bool, CallN Tryz.prog 144 [v6.1, v6.2.1, (.agg [i7, i8, s9, l10, i11, s12, l13, i14, i15, i16, i17, l18, s19, l20, l21]), (.ept [(.fn 71 [])] 0), (.ept [l3] 0)] [[i7, i8, s9, l10, i11, s12, l13, i14, i15, i16, i17, l18, s19, l20, l21]] b22
  ((@Eq PV (.fn 144 [(.ept [(.fn 71 [])] 0), (.ept [l3] 0)]) (.fn 144 [(.ept [(.fn 71 [])] 0), (.ept [l3] 0)]) ∧ @Eq PV l1 l1 ∧ @Eq PV (.con (.int .i64 (List.length l1 : Int))) (.con (.int .i64 (List.length l1 : Int))) ∧ True) ∧ @Eq Heap [] [] ∧ ∃ k23, k23 < n5 ∧ I4 k23 (b22, (IntKind.wrap .i64 (v6.2.1 + 1)), ()))))
  (Q v6.1 []))
theorem a85sF (l1 : List (List PV)) (b2 : Bool) (l3 : List (List PV)) (Q : PV → Heap → Prop) (h : p85sF l1 b2 l3 Q) : ACalls Tryz.prog 85 [l1, b2, (.fn 144 [(.ept [(.fn 71 [])] 0), (.ept [l3] 0)])] [] Q := by
  have hb : Option.some (bodyOf Tryz.f85) = Tryz.f85.body := by kernel_rfl
  exact acalls_eq (S := S) (L := loops85sF) mixed tok Tryz.func85 hb.symm (by kernel_rfl) h
def p144sF (b1 : Bool) (i2 i3 i4 : Int) (s5 : ByteArray) (l6 : List (List PV)) (i7 : Int) (s8 : ByteArray) (l9 : List (List PV)) (i10 i11 i12 i13 : Int) (l14 : List (List PV)) (s15 : ByteArray) (l16 l17 l18 : List (List PV)) (Q : PV → Heap → Prop) : Prop :=
br (b1)
  (∃ i19 : Int, ∃ i20 : Int, ∃ s21 : ByteArray, ∃ l22 : List (List PV), ∃ i23 : Int, ∃ s24 : ByteArray, ∃ l25 : List (List PV), ∃ i26 : Int, ∃ i27 : Int, ∃ i28 : Int, ∃ i29 : Int, ∃ l30 : List (List PV), ∃ s31 : ByteArray, ∃ l32 : List (List PV), ∃ l33 : List (List PV), IdxN l18 i2 [i19, i20, s21, l22, i23, s24, l25, i26, i27, i28, i29, l30, s31, l32, l33]
  (∃ b34 : Bool, CallN Tryz.prog 71 [(.agg [i3, i4, s5, l6, i7, s8, l9, i10, i11, i12, i13, l14, s15, l16, l17]), (.agg [i19, i20, s21, l22, i23, s24, l25, i26, i27, i28, i29, l30, s31, l32, l33])] [] b34
  (Q b34 [[i3, i4, s5, l6, i7, s8, l9, i10, i11, i12, i13, l14, s15, l16, l17]])))
  (Q (.con (.bool false)) [[i3, i4, s5, l6, i7, s8, l9, i10, i11, i12, i13, l14, s15, l16, l17]])
theorem a144sF (b1 : Bool) (i2 i3 i4 : Int) (s5 : ByteArray) (l6 : List (List PV)) (i7 : Int) (s8 : ByteArray) (l9 : List (List PV)) (i10 i11 i12 i13 : Int) (l14 : List (List PV)) (s15 : ByteArray) (l16 l17 l18 : List (List PV)) (Q : PV → Heap → Prop) (h : p144sF b1 i2 i3 i4 s5 l6 i7 s8 l9 i10 i11 i12 i13 l14 s15 l16 l17 l18 Q) : ACalls Tryz.prog 144 [b1, i2, (.agg [i3, i4, s5, l6, i7, s8, l9, i10, i11, i12, i13, l14, s15, l16, l17]), (.ept [(.fn 71 [])] 0), (.ept [l18] 0)] [] Q := by
  have hb : Option.some (bodyOf Tryz.f144) = Tryz.f144.body := by kernel_rfl
  exact acalls_eq (S := S) (L := loops7) mixed tok Tryz.func144 hb.symm (by kernel_rfl) h
def p72sH (l1 l2 : List (List PV)) (Q : PV → Heap → Prop) : Prop :=
∃ b3 : Bool, CallN Tryz.prog 90 [l1, (.con (.bool (((List.length l1 : Int) : Int) == (List.length l2 : Int)))), (.fn 147 [(.ept [(.fn 73 [])] 0), (.ept [l2] 0)])] [[], []] b3
  (Q b3 [[], []])
theorem a72sH (l1 l2 : List (List PV)) (Q : PV → Heap → Prop) (h : p72sH l1 l2 Q) : ACalls Tryz.prog 72 [l1, l2, (.fn 73 [])] [] Q := by
  have hb : Option.some (bodyOf Tryz.f72) = Tryz.f72.body := by kernel_rfl
  exact acalls_eq (S := S) (L := loops7) mixed tok Tryz.func72 hb.symm (by kernel_rfl) h
def loops90sH (id : Nat) : Option (List Nat × List (Nat × Sh)) := match Nat.beq id 2 with | true => some ([2, 9, 10], [(1, .bool), (11, .int .i64)]) | false => none
def p90sH (l1 : List (List PV)) (b2 : Bool) (l3 : List (List PV)) (Q : PV → Heap → Prop) : Prop :=
∃ I4 : Nat → ((Bool) × (Int) × Unit) → Prop, (∃ n, I4 n (b2, 0, ())) ∧ ∀ (n5 : Nat) (v6 : (Bool) × (Int) × Unit), I4 n5 v6 →
  (br ((decide ((v6.2.1 : Int) < (List.length l1 : Int))))
  (∃ i7 : Int, ∃ i8 : Int, ∃ s9 : ByteArray, ∃ s10 : ByteArray, ∃ i11 : Int, ∃ s12 : ByteArray, ∃ l13 : List (List PV), ∃ i14 : Int, ∃ i15 : Int, ∃ i16 : Int, ∃ i17 : Int, ∃ i18 : Int, ∃ l19 : List (List PV), ∃ s20 : ByteArray, ∃ l21 : List (List PV), ∃ l22 : List (List PV), IdxN l1 v6.2.1 [i7, i8, s9, s10, i11, s12, l13, i14, i15, i16, i17, i18, l19, s20, l21, l22]
  (∃ b23 : Bool, CallN Tryz.prog 147 [v6.1, v6.2.1, (.agg [i7, i8, s9, s10, i11, s12, l13, i14, i15, i16, i17, i18, l19, s20, l21, l22]), (.ept [(.fn 73 [])] 0), (.ept [l3] 0)] [[i7, i8, s9, s10, i11, s12, l13, i14, i15, i16, i17, i18, l19, s20, l21, l22]] b23
  ((@Eq PV (.fn 147 [(.ept [(.fn 73 [])] 0), (.ept [l3] 0)]) (.fn 147 [(.ept [(.fn 73 [])] 0), (.ept [l3] 0)]) ∧ @Eq PV l1 l1 ∧ @Eq PV (.con (.int .i64 (List.length l1 : Int))) (.con (.int .i64 (List.length l1 : Int))) ∧ True) ∧ @Eq Heap [] [] ∧ ∃ k24, k24 < n5 ∧ I4 k24 (b23, (IntKind.wrap .i64 (v6.2.1 + 1)), ()))))
  (Q v6.1 []))
theorem a90sH (l1 : List (List PV)) (b2 : Bool) (l3 : List (List PV)) (Q : PV → Heap → Prop) (h : p90sH l1 b2 l3 Q) : ACalls Tryz.prog 90 [l1, b2, (.fn 147 [(.ept [(.fn 73 [])] 0), (.ept [l3] 0)])] [] Q := by
  have hb : Option.some (bodyOf Tryz.f90) = Tryz.f90.body := by kernel_rfl
  exact acalls_eq (S := S) (L := loops90sH) mixed tok Tryz.func90 hb.symm (by kernel_rfl) h
def p147sH (b1 : Bool) (i2 i3 i4 : Int) (s5 s6 : ByteArray) (i7 : Int) (s8 : ByteArray) (l9 : List (List PV)) (i10 i11 i12 i13 i14 : Int) (l15 : List (List PV)) (s16 : ByteArray) (l17 l18 l19 : List (List PV)) (Q : PV → Heap → Prop) : Prop :=
br (b1)
  (∃ i20 : Int, ∃ i21 : Int, ∃ s22 : ByteArray, ∃ s23 : ByteArray, ∃ i24 : Int, ∃ s25 : ByteArray, ∃ l26 : List (List PV), ∃ i27 : Int, ∃ i28 : Int, ∃ i29 : Int, ∃ i30 : Int, ∃ i31 : Int, ∃ l32 : List (List PV), ∃ s33 : ByteArray, ∃ l34 : List (List PV), ∃ l35 : List (List PV), IdxN l19 i2 [i20, i21, s22, s23, i24, s25, l26, i27, i28, i29, i30, i31, l32, s33, l34, l35]
  (∃ b36 : Bool, CallN Tryz.prog 73 [(.agg [i3, i4, s5, s6, i7, s8, l9, i10, i11, i12, i13, i14, l15, s16, l17, l18]), (.agg [i20, i21, s22, s23, i24, s25, l26, i27, i28, i29, i30, i31, l32, s33, l34, l35])] [] b36
  (Q b36 [[i3, i4, s5, s6, i7, s8, l9, i10, i11, i12, i13, i14, l15, s16, l17, l18]])))
  (Q (.con (.bool false)) [[i3, i4, s5, s6, i7, s8, l9, i10, i11, i12, i13, i14, l15, s16, l17, l18]])
theorem a147sH (b1 : Bool) (i2 i3 i4 : Int) (s5 s6 : ByteArray) (i7 : Int) (s8 : ByteArray) (l9 : List (List PV)) (i10 i11 i12 i13 i14 : Int) (l15 : List (List PV)) (s16 : ByteArray) (l17 l18 l19 : List (List PV)) (Q : PV → Heap → Prop) (h : p147sH b1 i2 i3 i4 s5 s6 i7 s8 l9 i10 i11 i12 i13 i14 l15 s16 l17 l18 l19 Q) : ACalls Tryz.prog 147 [b1, i2, (.agg [i3, i4, s5, s6, i7, s8, l9, i10, i11, i12, i13, i14, l15, s16, l17, l18]), (.ept [(.fn 73 [])] 0), (.ept [l19] 0)] [] Q := by
  have hb : Option.some (bodyOf Tryz.f147) = Tryz.f147.body := by kernel_rfl
  exact acalls_eq (S := S) (L := loops7) mixed tok Tryz.func147 hb.symm (by kernel_rfl) h
def p74 (i1 : Int) (s2 : ByteArray) (l3 : List (List PV)) (i4 : Int) (s5 : ByteArray) (l6 : List (List PV)) (Q : PV → Heap → Prop) : Prop :=
br (((i1 : Int) == i4))
  (br ((ByteArray.toList s2 == ByteArray.toList s5))
  (∃ b7 : Bool, CallN Tryz.prog 148 [l3, l6, (.fn 74 [])] [[i1, s2, l3], [i4, s5, l6]] b7
  (Q b7 [[i1, s2, l3], [i4, s5, l6]]))
  (Q (.con (.bool false)) [[i1, s2, l3], [i4, s5, l6]]))
  (Q (.con (.bool false)) [[i1, s2, l3], [i4, s5, l6]])
theorem a74 (i1 : Int) (s2 : ByteArray) (l3 : List (List PV)) (i4 : Int) (s5 : ByteArray) (l6 : List (List PV)) (Q : PV → Heap → Prop) (h : p74 i1 s2 l3 i4 s5 l6 Q) : ACalls Tryz.prog 74 [(.agg [i1, s2, l3]), (.agg [i4, s5, l6])] [] Q := by
  have hb : Option.some (bodyOf Tryz.f74) = Tryz.f74.body := by kernel_rfl
  exact acalls_eq (S := S) (L := loops7) mixed tok Tryz.func74 hb.symm (by kernel_rfl) h
def p153 (i1 i2 i3 : Int) (s4 : ByteArray) (i5 : Int) (l6 : List (List PV)) (i7 i8 i9 : Int) (s10 : ByteArray) (i11 : Int) (l12 : List (List PV)) (Q : PV → Heap → Prop) : Prop :=
br (((i1 : Int) == i7))
  (br ((ByteArray.toList s4 == ByteArray.toList s10))
  (br (((i5 : Int) == i11))
  (∃ b13 : Bool, CallN Tryz.prog 193 [l6, l12, (.fn 153 [])] [[i1, i2, i3, s4, i5, l6], [i7, i8, i9, s10, i11, l12]] b13
  (Q b13 [[i1, i2, i3, s4, i5, l6], [i7, i8, i9, s10, i11, l12]]))
  (Q (.con (.bool false)) [[i1, i2, i3, s4, i5, l6], [i7, i8, i9, s10, i11, l12]]))
  (Q (.con (.bool false)) [[i1, i2, i3, s4, i5, l6], [i7, i8, i9, s10, i11, l12]]))
  (Q (.con (.bool false)) [[i1, i2, i3, s4, i5, l6], [i7, i8, i9, s10, i11, l12]])
theorem a153 (i1 i2 i3 : Int) (s4 : ByteArray) (i5 : Int) (l6 : List (List PV)) (i7 i8 i9 : Int) (s10 : ByteArray) (i11 : Int) (l12 : List (List PV)) (Q : PV → Heap → Prop) (h : p153 i1 i2 i3 s4 i5 l6 i7 i8 i9 s10 i11 l12 Q) : ACalls Tryz.prog 153 [(.agg [i1, i2, i3, s4, i5, l6]), (.agg [i7, i8, i9, s10, i11, l12])] [] Q := by
  have hb : Option.some (bodyOf Tryz.f153) = Tryz.f153.body := by kernel_rfl
  exact acalls_eq (S := S) (L := loops7) mixed tok Tryz.func153 hb.symm (by kernel_rfl) h
def p28 (i1 i2 i3 i4 : Int) (l5 : List (List PV)) (s6 : ByteArray) (l7 l8 : List (List PV)) (i9 i10 i11 i12 : Int) (l13 : List (List PV)) (s14 : ByteArray) (l15 l16 : List (List PV)) (Q : PV → Heap → Prop) : Prop :=
br (((i1 : Int) == i9))
  (br (((i4 : Int) == i12))
  (br ((ByteArray.toList s6 == ByteArray.toList s14))
  (∃ y17 : List UInt8, BytesN Tryz.prog 29 9 l5 y17
  (∃ y18 : List UInt8, BytesN Tryz.prog 29 9 l13 y18
  (br ((ByteArray.toList ⟨List.toArray y17⟩ == ByteArray.toList ⟨List.toArray y18⟩))
  (∃ b19 : Bool, CallN Tryz.prog 75 [l7, l15, (.fn 28 [])] [[i1, i2, i3, i4, l5, s6, l7, l8], [i9, i10, i11, i12, l13, s14, l15, l16]] b19
  (br (b19)
  (∃ b20 : Bool, CallN Tryz.prog 76 [l8, l16, (.fn 77 [])] [[i1, i2, i3, i4, l5, s6, l7, l8], [i9, i10, i11, i12, l13, s14, l15, l16]] b20
  (Q b20 [[i1, i2, i3, i4, l5, s6, l7, l8], [i9, i10, i11, i12, l13, s14, l15, l16]]))
  (Q (.con (.bool false)) [[i1, i2, i3, i4, l5, s6, l7, l8], [i9, i10, i11, i12, l13, s14, l15, l16]])))
  (Q (.con (.bool false)) [[i1, i2, i3, i4, l5, s6, l7, l8], [i9, i10, i11, i12, l13, s14, l15, l16]]))))
  (Q (.con (.bool false)) [[i1, i2, i3, i4, l5, s6, l7, l8], [i9, i10, i11, i12, l13, s14, l15, l16]]))
  (Q (.con (.bool false)) [[i1, i2, i3, i4, l5, s6, l7, l8], [i9, i10, i11, i12, l13, s14, l15, l16]]))
  (Q (.con (.bool false)) [[i1, i2, i3, i4, l5, s6, l7, l8], [i9, i10, i11, i12, l13, s14, l15, l16]])
theorem a28 (i1 i2 i3 i4 : Int) (l5 : List (List PV)) (s6 : ByteArray) (l7 l8 : List (List PV)) (i9 i10 i11 i12 : Int) (l13 : List (List PV)) (s14 : ByteArray) (l15 l16 : List (List PV)) (Q : PV → Heap → Prop) (h : p28 i1 i2 i3 i4 l5 s6 l7 l8 i9 i10 i11 i12 l13 s14 l15 l16 Q) : ACalls Tryz.prog 28 [(.agg [i1, i2, i3, i4, l5, s6, l7, l8]), (.agg [i9, i10, i11, i12, l13, s14, l15, l16])] [] Q := by
  have hb : Option.some (bodyOf Tryz.f28) = Tryz.f28.body := by kernel_rfl
  exact acalls_eq (S := S) (L := loops7) mixed tok Tryz.func28 hb.symm (by kernel_rfl) h
def p77 (i1 i2 i3 : Int) (s4 : ByteArray) (i5 : Int) (l6 : List (List PV)) (i7 i8 i9 i10 : Int) (l11 : List (List PV)) (s12 : ByteArray) (l13 l14 : List (List PV)) (i15 i16 i17 : Int) (s18 : ByteArray) (i19 : Int) (l20 : List (List PV)) (i21 i22 i23 i24 : Int) (l25 : List (List PV)) (s26 : ByteArray) (l27 l28 : List (List PV)) (Q : PV → Heap → Prop) : Prop :=
∃ b29 : Bool, CallN Tryz.prog 153 [(.agg [i1, i2, i3, s4, i5, l6]), (.agg [i15, i16, i17, s18, i19, l20])] [[i1, i2, i3, s4, i5, l6, i7, i8, i9, i10, l11, s12, l13, l14], [i15, i16, i17, s18, i19, l20, i21, i22, i23, i24, l25, s26, l27, l28]] b29
  (br (b29)
  (∃ b30 : Bool, CallN Tryz.prog 28 [(.agg [i7, i8, i9, i10, l11, s12, l13, l14]), (.agg [i21, i22, i23, i24, l25, s26, l27, l28])] [[i1, i2, i3, s4, i5, l6, i7, i8, i9, i10, l11, s12, l13, l14], [i15, i16, i17, s18, i19, l20, i21, i22, i23, i24, l25, s26, l27, l28]] b30
  (Q b30 [[i1, i2, i3, s4, i5, l6, i7, i8, i9, i10, l11, s12, l13, l14], [i15, i16, i17, s18, i19, l20, i21, i22, i23, i24, l25, s26, l27, l28]]))
  (Q (.con (.bool false)) [[i1, i2, i3, s4, i5, l6, i7, i8, i9, i10, l11, s12, l13, l14], [i15, i16, i17, s18, i19, l20, i21, i22, i23, i24, l25, s26, l27, l28]]))
theorem a77 (i1 i2 i3 : Int) (s4 : ByteArray) (i5 : Int) (l6 : List (List PV)) (i7 i8 i9 i10 : Int) (l11 : List (List PV)) (s12 : ByteArray) (l13 l14 : List (List PV)) (i15 i16 i17 : Int) (s18 : ByteArray) (i19 : Int) (l20 : List (List PV)) (i21 i22 i23 i24 : Int) (l25 : List (List PV)) (s26 : ByteArray) (l27 l28 : List (List PV)) (Q : PV → Heap → Prop) (h : p77 i1 i2 i3 s4 i5 l6 i7 i8 i9 i10 l11 s12 l13 l14 i15 i16 i17 s18 i19 l20 i21 i22 i23 i24 l25 s26 l27 l28 Q) : ACalls Tryz.prog 77 [(.agg [i1, i2, i3, s4, i5, l6, i7, i8, i9, i10, l11, s12, l13, l14]), (.agg [i15, i16, i17, s18, i19, l20, i21, i22, i23, i24, l25, s26, l27, l28])] [] Q := by
  have hb : Option.some (bodyOf Tryz.f77) = Tryz.f77.body := by kernel_rfl
  exact acalls_eq (S := S) (L := loops7) mixed tok Tryz.func77 hb.symm (by kernel_rfl) h
def p143 (s1 : ByteArray) (l2 : List (List PV)) (s3 : ByteArray) (l4 : List (List PV)) (Q : PV → Heap → Prop) : Prop :=
br ((ByteArray.toList s1 == ByteArray.toList s3))
  (∃ b5 : Bool, CallN Tryz.prog 148 [l2, l4, (.fn 74 [])] [[s1, l2], [s3, l4]] b5
  (Q b5 [[s1, l2], [s3, l4]]))
  (Q (.con (.bool false)) [[s1, l2], [s3, l4]])
theorem a143 (s1 : ByteArray) (l2 : List (List PV)) (s3 : ByteArray) (l4 : List (List PV)) (Q : PV → Heap → Prop) (h : p143 s1 l2 s3 l4 Q) : ACalls Tryz.prog 143 [(.agg [s1, l2]), (.agg [s3, l4])] [] Q := by
  have hb : Option.some (bodyOf Tryz.f143) = Tryz.f143.body := by kernel_rfl
  exact acalls_eq (S := S) (L := loops7) mixed tok Tryz.func143 hb.symm (by kernel_rfl) h
def p69 (i1 i2 : Int) (s3 : ByteArray) (l4 : List (List PV)) (i5 i6 : Int) (s7 : ByteArray) (l8 : List (List PV)) (Q : PV → Heap → Prop) : Prop :=
br ((ByteArray.toList s3 == ByteArray.toList s7))
  (∃ b9 : Bool, CallN Tryz.prog 142 [l4, l8, (.fn 143 [])] [[i1, i2, s3, l4], [i5, i6, s7, l8]] b9
  (Q b9 [[i1, i2, s3, l4], [i5, i6, s7, l8]]))
  (Q (.con (.bool false)) [[i1, i2, s3, l4], [i5, i6, s7, l8]])
theorem a69 (i1 i2 : Int) (s3 : ByteArray) (l4 : List (List PV)) (i5 i6 : Int) (s7 : ByteArray) (l8 : List (List PV)) (Q : PV → Heap → Prop) (h : p69 i1 i2 s3 l4 i5 i6 s7 l8 Q) : ACalls Tryz.prog 69 [(.agg [i1, i2, s3, l4]), (.agg [i5, i6, s7, l8])] [] Q := by
  have hb : Option.some (bodyOf Tryz.f69) = Tryz.f69.body := by kernel_rfl
  exact acalls_eq (S := S) (L := loops7) mixed tok Tryz.func69 hb.symm (by kernel_rfl) h
def p146 (s1 : ByteArray) (i2 : Int) (s3 : ByteArray) (l4 : List (List PV)) (s5 : ByteArray) (i6 : Int) (s7 : ByteArray) (l8 : List (List PV)) (Q : PV → Heap → Prop) : Prop :=
br ((ByteArray.toList s1 == ByteArray.toList s5))
  (∃ b9 : Bool, CallN Tryz.prog 74 [(.agg [i2, s3, l4]), (.agg [i6, s7, l8])] [[s1, i2, s3, l4], [s5, i6, s7, l8]] b9
  (Q b9 [[s1, i2, s3, l4], [s5, i6, s7, l8]]))
  (Q (.con (.bool false)) [[s1, i2, s3, l4], [s5, i6, s7, l8]])
theorem a146 (s1 : ByteArray) (i2 : Int) (s3 : ByteArray) (l4 : List (List PV)) (s5 : ByteArray) (i6 : Int) (s7 : ByteArray) (l8 : List (List PV)) (Q : PV → Heap → Prop) (h : p146 s1 i2 s3 l4 s5 i6 s7 l8 Q) : ACalls Tryz.prog 146 [(.agg [s1, i2, s3, l4]), (.agg [s5, i6, s7, l8])] [] Q := by
  have hb : Option.some (bodyOf Tryz.f146) = Tryz.f146.body := by kernel_rfl
  exact acalls_eq (S := S) (L := loops7) mixed tok Tryz.func146 hb.symm (by kernel_rfl) h
def p71 (i1 i2 : Int) (s3 : ByteArray) (l4 : List (List PV)) (i5 : Int) (s6 : ByteArray) (l7 : List (List PV)) (i8 i9 i10 i11 : Int) (l12 : List (List PV)) (s13 : ByteArray) (l14 l15 : List (List PV)) (i16 i17 : Int) (s18 : ByteArray) (l19 : List (List PV)) (i20 : Int) (s21 : ByteArray) (l22 : List (List PV)) (i23 i24 i25 i26 : Int) (l27 : List (List PV)) (s28 : ByteArray) (l29 l30 : List (List PV)) (Q : PV → Heap → Prop) : Prop :=
br ((ByteArray.toList s3 == ByteArray.toList s18))
  (∃ b31 : Bool, CallN Tryz.prog 145 [l4, l19, (.fn 146 [])] [[i1, i2, s3, l4, i5, s6, l7, i8, i9, i10, i11, l12, s13, l14, l15], [i16, i17, s18, l19, i20, s21, l22, i23, i24, i25, i26, l27, s28, l29, l30]] b31
  (br (b31)
  (∃ b32 : Bool, CallN Tryz.prog 74 [(.agg [i5, s6, l7]), (.agg [i20, s21, l22])] [[i1, i2, s3, l4, i5, s6, l7, i8, i9, i10, i11, l12, s13, l14, l15], [i16, i17, s18, l19, i20, s21, l22, i23, i24, i25, i26, l27, s28, l29, l30]] b32
  (br (b32)
  (∃ b33 : Bool, CallN Tryz.prog 28 [(.agg [i8, i9, i10, i11, l12, s13, l14, l15]), (.agg [i23, i24, i25, i26, l27, s28, l29, l30])] [[i1, i2, s3, l4, i5, s6, l7, i8, i9, i10, i11, l12, s13, l14, l15], [i16, i17, s18, l19, i20, s21, l22, i23, i24, i25, i26, l27, s28, l29, l30]] b33
  (Q b33 [[i1, i2, s3, l4, i5, s6, l7, i8, i9, i10, i11, l12, s13, l14, l15], [i16, i17, s18, l19, i20, s21, l22, i23, i24, i25, i26, l27, s28, l29, l30]]))
  (Q (.con (.bool false)) [[i1, i2, s3, l4, i5, s6, l7, i8, i9, i10, i11, l12, s13, l14, l15], [i16, i17, s18, l19, i20, s21, l22, i23, i24, i25, i26, l27, s28, l29, l30]])))
  (Q (.con (.bool false)) [[i1, i2, s3, l4, i5, s6, l7, i8, i9, i10, i11, l12, s13, l14, l15], [i16, i17, s18, l19, i20, s21, l22, i23, i24, i25, i26, l27, s28, l29, l30]])))
  (Q (.con (.bool false)) [[i1, i2, s3, l4, i5, s6, l7, i8, i9, i10, i11, l12, s13, l14, l15], [i16, i17, s18, l19, i20, s21, l22, i23, i24, i25, i26, l27, s28, l29, l30]])
theorem a71 (i1 i2 : Int) (s3 : ByteArray) (l4 : List (List PV)) (i5 : Int) (s6 : ByteArray) (l7 : List (List PV)) (i8 i9 i10 i11 : Int) (l12 : List (List PV)) (s13 : ByteArray) (l14 l15 : List (List PV)) (i16 i17 : Int) (s18 : ByteArray) (l19 : List (List PV)) (i20 : Int) (s21 : ByteArray) (l22 : List (List PV)) (i23 i24 i25 i26 : Int) (l27 : List (List PV)) (s28 : ByteArray) (l29 l30 : List (List PV)) (Q : PV → Heap → Prop) (h : p71 i1 i2 s3 l4 i5 s6 l7 i8 i9 i10 i11 l12 s13 l14 l15 i16 i17 s18 l19 i20 s21 l22 i23 i24 i25 i26 l27 s28 l29 l30 Q) : ACalls Tryz.prog 71 [(.agg [i1, i2, s3, l4, i5, s6, l7, i8, i9, i10, i11, l12, s13, l14, l15]), (.agg [i16, i17, s18, l19, i20, s21, l22, i23, i24, i25, i26, l27, s28, l29, l30])] [] Q := by
  have hb : Option.some (bodyOf Tryz.f71) = Tryz.f71.body := by kernel_rfl
  exact acalls_eq (S := S) (L := loops7) mixed tok Tryz.func71 hb.symm (by kernel_rfl) h
def p73 (i1 i2 : Int) (s3 s4 : ByteArray) (i5 : Int) (s6 : ByteArray) (l7 : List (List PV)) (i8 i9 i10 i11 i12 : Int) (l13 : List (List PV)) (s14 : ByteArray) (l15 l16 : List (List PV)) (i17 i18 : Int) (s19 s20 : ByteArray) (i21 : Int) (s22 : ByteArray) (l23 : List (List PV)) (i24 i25 i26 i27 i28 : Int) (l29 : List (List PV)) (s30 : ByteArray) (l31 l32 : List (List PV)) (Q : PV → Heap → Prop) : Prop :=
br ((ByteArray.toList s3 == ByteArray.toList s19))
  (br (((i8 : Int) == i24))
  (∃ b33 : Bool, CallN Tryz.prog 146 [(.agg [s4, i5, s6, l7]), (.agg [s20, i21, s22, l23])] [[i1, i2, s3, s4, i5, s6, l7, i8, i9, i10, i11, i12, l13, s14, l15, l16], [i17, i18, s19, s20, i21, s22, l23, i24, i25, i26, i27, i28, l29, s30, l31, l32]] b33
  (br (b33)
  (∃ b34 : Bool, CallN Tryz.prog 28 [(.agg [i9, i10, i11, i12, l13, s14, l15, l16]), (.agg [i25, i26, i27, i28, l29, s30, l31, l32])] [[i1, i2, s3, s4, i5, s6, l7, i8, i9, i10, i11, i12, l13, s14, l15, l16], [i17, i18, s19, s20, i21, s22, l23, i24, i25, i26, i27, i28, l29, s30, l31, l32]] b34
  (Q b34 [[i1, i2, s3, s4, i5, s6, l7, i8, i9, i10, i11, i12, l13, s14, l15, l16], [i17, i18, s19, s20, i21, s22, l23, i24, i25, i26, i27, i28, l29, s30, l31, l32]]))
  (Q (.con (.bool false)) [[i1, i2, s3, s4, i5, s6, l7, i8, i9, i10, i11, i12, l13, s14, l15, l16], [i17, i18, s19, s20, i21, s22, l23, i24, i25, i26, i27, i28, l29, s30, l31, l32]])))
  (Q (.con (.bool false)) [[i1, i2, s3, s4, i5, s6, l7, i8, i9, i10, i11, i12, l13, s14, l15, l16], [i17, i18, s19, s20, i21, s22, l23, i24, i25, i26, i27, i28, l29, s30, l31, l32]]))
  (Q (.con (.bool false)) [[i1, i2, s3, s4, i5, s6, l7, i8, i9, i10, i11, i12, l13, s14, l15, l16], [i17, i18, s19, s20, i21, s22, l23, i24, i25, i26, i27, i28, l29, s30, l31, l32]])
theorem a73 (i1 i2 : Int) (s3 s4 : ByteArray) (i5 : Int) (s6 : ByteArray) (l7 : List (List PV)) (i8 i9 i10 i11 i12 : Int) (l13 : List (List PV)) (s14 : ByteArray) (l15 l16 : List (List PV)) (i17 i18 : Int) (s19 s20 : ByteArray) (i21 : Int) (s22 : ByteArray) (l23 : List (List PV)) (i24 i25 i26 i27 i28 : Int) (l29 : List (List PV)) (s30 : ByteArray) (l31 l32 : List (List PV)) (Q : PV → Heap → Prop) (h : p73 i1 i2 s3 s4 i5 s6 l7 i8 i9 i10 i11 i12 l13 s14 l15 l16 i17 i18 s19 s20 i21 s22 l23 i24 i25 i26 i27 i28 l29 s30 l31 l32 Q) : ACalls Tryz.prog 73 [(.agg [i1, i2, s3, s4, i5, s6, l7, i8, i9, i10, i11, i12, l13, s14, l15, l16]), (.agg [i17, i18, s19, s20, i21, s22, l23, i24, i25, i26, i27, i28, l29, s30, l31, l32])] [] Q := by
  have hb : Option.some (bodyOf Tryz.f73) = Tryz.f73.body := by kernel_rfl
  exact acalls_eq (S := S) (L := loops7) mixed tok Tryz.func73 hb.symm (by kernel_rfl) h
def p27 (l1 l2 : List (List PV)) (i3 i4 i5 : Int) (s6 : ByteArray) (l7 : List (List PV)) (i8 i9 i10 i11 i12 : Int) (l13 : List (List PV)) (s14 : ByteArray) (l15 l16 l17 l18 l19 : List (List PV)) (i20 i21 i22 : Int) (s23 : ByteArray) (l24 : List (List PV)) (i25 i26 i27 i28 i29 : Int) (l30 : List (List PV)) (s31 : ByteArray) (l32 l33 l34 : List (List PV)) (Q : PV → Heap → Prop) : Prop :=
br (((i3 : Int) == i20))
  (br (((i4 : Int) == i21))
  (br (((i8 : Int) == i25))
  (∃ b35 : Bool, CallN Tryz.prog 68 [l1, l18, (.fn 69 [])] [[l1, l2, i3, i4, i5, s6, l7, i8, i9, i10, i11, i12, l13, s14, l15, l16, l17], [l18, l19, i20, i21, i22, s23, l24, i25, i26, i27, i28, i29, l30, s31, l32, l33, l34]] b35
  (br (b35)
  (∃ b36 : Bool, CallN Tryz.prog 70 [l2, l19, (.fn 71 [])] [[l1, l2, i3, i4, i5, s6, l7, i8, i9, i10, i11, i12, l13, s14, l15, l16, l17], [l18, l19, i20, i21, i22, s23, l24, i25, i26, i27, i28, i29, l30, s31, l32, l33, l34]] b36
  (br (b36)
  (∃ b37 : Bool, CallN Tryz.prog 72 [l17, l34, (.fn 73 [])] [[l1, l2, i3, i4, i5, s6, l7, i8, i9, i10, i11, i12, l13, s14, l15, l16, l17], [l18, l19, i20, i21, i22, s23, l24, i25, i26, i27, i28, i29, l30, s31, l32, l33, l34]] b37
  (br (b37)
  (∃ b38 : Bool, CallN Tryz.prog 74 [(.agg [i5, s6, l7]), (.agg [i22, s23, l24])] [[l1, l2, i3, i4, i5, s6, l7, i8, i9, i10, i11, i12, l13, s14, l15, l16, l17], [l18, l19, i20, i21, i22, s23, l24, i25, i26, i27, i28, i29, l30, s31, l32, l33, l34]] b38
  (br (b38)
  (∃ b39 : Bool, CallN Tryz.prog 28 [(.agg [i9, i10, i11, i12, l13, s14, l15, l16]), (.agg [i26, i27, i28, i29, l30, s31, l32, l33])] [[l1, l2, i3, i4, i5, s6, l7, i8, i9, i10, i11, i12, l13, s14, l15, l16, l17], [l18, l19, i20, i21, i22, s23, l24, i25, i26, i27, i28, i29, l30, s31, l32, l33, l34]] b39
  (Q b39 [[l1, l2, i3, i4, i5, s6, l7, i8, i9, i10, i11, i12, l13, s14, l15, l16, l17], [l18, l19, i20, i21, i22, s23, l24, i25, i26, i27, i28, i29, l30, s31, l32, l33, l34]]))
  (Q (.con (.bool false)) [[l1, l2, i3, i4, i5, s6, l7, i8, i9, i10, i11, i12, l13, s14, l15, l16, l17], [l18, l19, i20, i21, i22, s23, l24, i25, i26, i27, i28, i29, l30, s31, l32, l33, l34]])))
  (Q (.con (.bool false)) [[l1, l2, i3, i4, i5, s6, l7, i8, i9, i10, i11, i12, l13, s14, l15, l16, l17], [l18, l19, i20, i21, i22, s23, l24, i25, i26, i27, i28, i29, l30, s31, l32, l33, l34]])))
  (Q (.con (.bool false)) [[l1, l2, i3, i4, i5, s6, l7, i8, i9, i10, i11, i12, l13, s14, l15, l16, l17], [l18, l19, i20, i21, i22, s23, l24, i25, i26, i27, i28, i29, l30, s31, l32, l33, l34]])))
  (Q (.con (.bool false)) [[l1, l2, i3, i4, i5, s6, l7, i8, i9, i10, i11, i12, l13, s14, l15, l16, l17], [l18, l19, i20, i21, i22, s23, l24, i25, i26, i27, i28, i29, l30, s31, l32, l33, l34]])))
  (Q (.con (.bool false)) [[l1, l2, i3, i4, i5, s6, l7, i8, i9, i10, i11, i12, l13, s14, l15, l16, l17], [l18, l19, i20, i21, i22, s23, l24, i25, i26, i27, i28, i29, l30, s31, l32, l33, l34]]))
  (Q (.con (.bool false)) [[l1, l2, i3, i4, i5, s6, l7, i8, i9, i10, i11, i12, l13, s14, l15, l16, l17], [l18, l19, i20, i21, i22, s23, l24, i25, i26, i27, i28, i29, l30, s31, l32, l33, l34]]))
  (Q (.con (.bool false)) [[l1, l2, i3, i4, i5, s6, l7, i8, i9, i10, i11, i12, l13, s14, l15, l16, l17], [l18, l19, i20, i21, i22, s23, l24, i25, i26, i27, i28, i29, l30, s31, l32, l33, l34]])
theorem a27 (l1 l2 : List (List PV)) (i3 i4 i5 : Int) (s6 : ByteArray) (l7 : List (List PV)) (i8 i9 i10 i11 i12 : Int) (l13 : List (List PV)) (s14 : ByteArray) (l15 l16 l17 l18 l19 : List (List PV)) (i20 i21 i22 : Int) (s23 : ByteArray) (l24 : List (List PV)) (i25 i26 i27 i28 i29 : Int) (l30 : List (List PV)) (s31 : ByteArray) (l32 l33 l34 : List (List PV)) (Q : PV → Heap → Prop) (h : p27 l1 l2 i3 i4 i5 s6 l7 i8 i9 i10 i11 i12 l13 s14 l15 l16 l17 l18 l19 i20 i21 i22 s23 l24 i25 i26 i27 i28 i29 l30 s31 l32 l33 l34 Q) : ACalls Tryz.prog 27 [(.agg [l1, l2, i3, i4, i5, s6, l7, i8, i9, i10, i11, i12, l13, s14, l15, l16, l17]), (.agg [l18, l19, i20, i21, i22, s23, l24, i25, i26, i27, i28, i29, l30, s31, l32, l33, l34])] [] Q := by
  have hb : Option.some (bodyOf Tryz.f27) = Tryz.f27.body := by kernel_rfl
  exact acalls_eq (S := S) (L := loops7) mixed tok Tryz.func27 hb.symm (by kernel_rfl) h
end Go.Proofs.YtcmnjodjebcapaaGreat.Deep

namespace Go.Proofs.YtcmnjodjebcapaaGreat.Deep
open Go.RowKit
set_option linter.unusedVariables false
set_option linter.unusedSimpArgs false
mutual
def bareP : Pt → Pt
  | .mk k _ _ n m ks => .mk k 0 0 n m (barePs ks)
def barePs : List Pt → List Pt
  | [] => []
  | t :: ts => bareP t :: barePs ts
end
mutual
def bareE : Ex → Ex
  | .mk k _ _ m b n ks ps bs => .mk k 0 0 m b n (bareEs ks) (barePs ps) (bareEs bs)
def bareEs : List Ex → List Ex
  | [] => []
  | t :: ts => bareE t :: bareEs ts
end
theorem barePs_map : ∀ ts : List Pt, barePs ts = ts.map bareP
  | [] => rfl
  | t :: ts => by rw [barePs, barePs_map ts]; rfl
theorem bareEs_map : ∀ ts : List Ex, bareEs ts = ts.map bareE
  | [] => rfl
  | t :: ts => by rw [bareEs, bareEs_map ts]; rfl
mutual
theorem bareP_twice : ∀ t : Pt, bareP (bareP t) = bareP t
  | .mk k _ _ n m ks => by simp only [bareP, barePs_twice ks]
theorem barePs_twice : ∀ ts : List Pt, barePs (barePs ts) = barePs ts
  | [] => rfl
  | t :: ts => by rw [barePs, barePs, bareP_twice t, barePs_twice ts]
end
mutual
theorem bareE_twice : ∀ t : Ex, bareE (bareE t) = bareE t
  | .mk k _ _ m b n ks ps bs => by simp only [bareE, bareEs_twice ks, barePs_twice ps, bareEs_twice bs]
theorem bareEs_twice : ∀ ts : List Ex, bareEs (bareEs ts) = bareEs ts
  | [] => rfl
  | t :: ts => by rw [bareEs, bareEs, bareE_twice t, bareEs_twice ts]
end
def bareDa (d : Da) : Da := { d with line := 0, col := 0 }
def bareFu (f : Fu) : Fu := { f with line := 0, col := 0, body := bareE f.body }
def bareHa (h : Ha) : Ha := { h with line := 0, col := 0, body := bareE h.body }
def barePr (p : Pr) : Pr := { p with datas := p.datas.map bareDa, funs := p.funs.map bareFu, init := bareE p.init, hands := p.hands.map bareHa }
theorem barePr_twice (p : Pr) : barePr (barePr p) = barePr p := by
  unfold barePr
  simp only [List.map_map, bareE_twice]
  have h2 : (bareFu ∘ bareFu) = bareFu := by funext f; simp [bareFu, bareE_twice]
  have h3 : (bareHa ∘ bareHa) = bareHa := by funext f; simp [bareHa, bareE_twice]
  have h1 : (bareDa ∘ bareDa) = bareDa := by funext f; simp [bareDa]
  rw [h1, h2, h3]
def alikeL {α : Type} (f : α → α → Bool) : List α → List α → Bool
  | [], [] => true
  | a :: l, b :: m => f a b && alikeL f l m
  | _, _ => false
theorem alikeL_iff {α β : Type} {f : α → α → Bool} {g : α → β} : ∀ l m : List α, (∀ a ∈ l, ∀ b, f a b = true ↔ g a = g b) → (alikeL f l m = true ↔ l.map g = m.map g)
  | [], [], _ => by simp [alikeL]
  | [], b :: m, _ => by simp [alikeL]
  | a :: l, [], _ => by simp [alikeL]
  | a :: l, b :: m, h => by
    rw [alikeL, Bool.and_eq_true, h a (List.mem_cons_self ..), alikeL_iff l m (fun x hx => h x (List.mem_cons_of_mem _ hx))]
    simp
theorem alikeL_len {α : Type} (f : α → α → Bool) : ∀ l m : List α, l.length ≠ m.length → alikeL f l m = false
  | [], [], h => absurd rfl h
  | [], b :: m, _ => rfl
  | a :: l, [], _ => rfl
  | a :: l, b :: m, h => by rw [alikeL, alikeL_len f l m (by simpa using h), Bool.and_false]
theorem alikeL_range {α : Type} (f : α → α → Bool) (d : α) : ∀ l m : List α, l.length = m.length → alikeL f l m = (List.range l.length).all fun j => f (l.getD j d) (m.getD j d)
  | [], [], _ => rfl
  | [], b :: m, h => by simp at h
  | a :: l, [], h => by simp at h
  | a :: l, b :: m, h => by
    rw [alikeL, alikeL_range f d l m (by simpa using h), List.length_cons, List.range_succ_eq_map, List.all_cons, List.all_map]
    rfl
theorem alikeL_all {α : Type} (f : α → α → Bool) (d : α) (l m : List α) : alikeL f l m = (decide (l.length = m.length) && (List.range l.length).all fun j => f (l.getD j d) (m.getD j d)) := by
  by_cases h : l.length = m.length
  · rw [alikeL_range f d l m h]; simp [h]
  · rw [alikeL_len f l m h]; simp [h]
theorem getD_at1 {α : Type} (l : List α) (d : α) (j : Nat) (h : j < l.length) : l.getD j d = l[j] := by
  rw [List.getD_eq_getElem?_getD, List.getElem?_eq_getElem h]; rfl
theorem alikeL_snoc {α : Type} (f : α → α → Bool) : ∀ (l m : List α) (j : Nat) (h : j < l.length) (h2 : j < m.length), alikeL f (l.take (j + 1)) (m.take (j + 1)) = (alikeL f (l.take j) (m.take j) && f l[j] m[j])
  | a :: l, b :: m, 0, _, _ => by simp [alikeL]
  | a :: l, b :: m, j + 1, h, h2 => by
    have := alikeL_snoc f l m j (by simpa using h) (by simpa using h2)
    simp only [List.take_succ_cons, alikeL, List.getElem_cons_succ] at this ⊢
    rw [this, Bool.and_assoc]
theorem alikeL_no {α : Type} (f : α → α → Bool) (l m : List α) (j : Nat) (h : j < l.length) (h2 : j < m.length) (hf : f l[j] m[j] = false) : alikeL f l m = false := by
  by_cases hl : l.length = m.length
  · rw [alikeL_range f l[j] l m hl, List.all_eq_false]
    refine ⟨j, by simpa using h, ?_⟩
    rw [getD_at1 l _ j h, getD_at1 m _ j h2, hf]; simp
  · exact alikeL_len f l m hl
mutual
def sameT : Ty → Ty → Bool
  | .mk k n ps, .mk k' n' ps' => decide (k = k') && (decide (n = n') && sameTs ps ps')
def sameTs : List Ty → List Ty → Bool
  | [], [] => true
  | t :: ts, t' :: ts' => sameT t t' && sameTs ts ts'
  | [], _ :: _ => false
  | _ :: _, [] => false
end
mutual
def sameP : Pt → Pt → Bool
  | .mk k _ _ n m ks, .mk k' _ _ n' m' ks' => decide (k = k') && (decide (n = n') && (decide (m = m') && samePs ks ks'))
def samePs : List Pt → List Pt → Bool
  | [], [] => true
  | t :: ts, t' :: ts' => sameP t t' && samePs ts ts'
  | [], _ :: _ => false
  | _ :: _, [] => false
end
mutual
def sameE : Ex → Ex → Bool
  | .mk k _ _ m b n ks ps bs, .mk k' _ _ m' b' n' ks' ps' bs' => decide (k = k') && (decide (m = m') && (decide (b = b') && (decide (n = n') && (sameEs ks ks' && (samePs ps ps' && sameEs bs bs')))))
def sameEs : List Ex → List Ex → Bool
  | [], [] => true
  | t :: ts, t' :: ts' => sameE t t' && sameEs ts ts'
  | [], _ :: _ => false
  | _ :: _, [] => false
end
theorem sameTs_l : ∀ l m : List Ty, sameTs l m = alikeL sameT l m
  | [], [] => rfl
  | [], b :: m => rfl
  | a :: l, [] => rfl
  | a :: l, b :: m => by rw [sameTs, alikeL, sameTs_l l m]
theorem samePs_l : ∀ l m : List Pt, samePs l m = alikeL sameP l m
  | [], [] => rfl
  | [], b :: m => rfl
  | a :: l, [] => rfl
  | a :: l, b :: m => by rw [samePs, alikeL, samePs_l l m]
theorem sameEs_l : ∀ l m : List Ex, sameEs l m = alikeL sameE l m
  | [], [] => rfl
  | [], b :: m => rfl
  | a :: l, [] => rfl
  | a :: l, b :: m => by rw [sameEs, alikeL, sameEs_l l m]
mutual
theorem sameT_iff : ∀ a b : Ty, sameT a b = true ↔ a = b
  | .mk k n ps, .mk k' n' ps' => by
    unfold sameT
    simp only [Bool.and_eq_true, decide_eq_true_eq, Ty.mk.injEq, sameTs_iff ps ps']
theorem sameTs_iff : ∀ a b : List Ty, sameTs a b = true ↔ a = b
  | [], [] => by simp [sameTs]
  | [], b :: m => by simp [sameTs]
  | a :: l, [] => by simp [sameTs]
  | a :: l, b :: m => by rw [sameTs, Bool.and_eq_true, sameT_iff a b, sameTs_iff l m, List.cons.injEq]
end
mutual
theorem sameP_iff : ∀ a b : Pt, sameP a b = true ↔ bareP a = bareP b
  | .mk k _ _ n m ks, .mk k' _ _ n' m' ks' => by
    unfold sameP bareP
    simp only [Bool.and_eq_true, decide_eq_true_eq, Pt.mk.injEq, samePs_iff ks ks', true_and]
theorem samePs_iff : ∀ a b : List Pt, samePs a b = true ↔ barePs a = barePs b
  | [], [] => by simp [samePs]
  | [], b :: m => by simp [samePs, barePs]
  | a :: l, [] => by simp [samePs, barePs]
  | a :: l, b :: m => by rw [samePs, Bool.and_eq_true, sameP_iff a b, samePs_iff l m, barePs, barePs, List.cons.injEq]
end
mutual
theorem sameE_iff : ∀ a b : Ex, sameE a b = true ↔ bareE a = bareE b
  | .mk k _ _ m b n ks ps bs, .mk k' _ _ m' b' n' ks' ps' bs' => by
    unfold sameE bareE
    simp only [Bool.and_eq_true, decide_eq_true_eq, Ex.mk.injEq, sameEs_iff ks ks', sameEs_iff bs bs', samePs_iff ps ps', true_and]
theorem sameEs_iff : ∀ a b : List Ex, sameEs a b = true ↔ bareEs a = bareEs b
  | [], [] => by simp [sameEs]
  | [], b :: m => by simp [sameEs, bareEs]
  | a :: l, [] => by simp [sameEs, bareEs]
  | a :: l, b :: m => by rw [sameEs, Bool.and_eq_true, sameE_iff a b, sameEs_iff l m, bareEs, bareEs, List.cons.injEq]
end
def sameCo (a b : Co) : Bool := decide (a.name = b.name) && alikeL sameT a.fields b.fields
def sameDa (a b : Da) : Bool := decide (a.name = b.name) && alikeL sameCo a.cons b.cons
def samePa (a b : Pa) : Bool := decide (a.name = b.name) && sameT a.ty b.ty
def sameFu (a b : Fu) : Bool := decide (a.name = b.name) && (alikeL samePa a.params b.params && (sameT a.result b.result && sameE a.body b.body))
def sameHa (a b : Ha) : Bool := decide (a.name = b.name) && (decide (a.cap = b.cap) && (samePa a.param b.param && sameE a.body b.body))
def samePr (a b : Pr) : Bool := decide (a.queue = b.queue) && (decide (a.timers = b.timers) && (decide (a.cap = b.cap) && (alikeL sameDa a.datas b.datas && (alikeL sameFu a.funs b.funs && (alikeL sameHa a.hands b.hands && (sameT a.state b.state && sameE a.init b.init))))))
theorem sameCo_iff (a b : Co) : sameCo a b = true ↔ a = b := by
  unfold sameCo
  rw [Bool.and_eq_true, decide_eq_true_eq, alikeL_iff (g := id) _ _ (fun a _ b => sameT_iff a b), List.map_id, List.map_id]
  cases a; cases b; simp
theorem sameDa_iff (a b : Da) : sameDa a b = true ↔ bareDa a = bareDa b := by
  unfold sameDa bareDa
  rw [Bool.and_eq_true, decide_eq_true_eq, alikeL_iff (g := id) _ _ (fun a _ b => sameCo_iff a b), List.map_id, List.map_id]
  cases a; cases b; simp
theorem samePa_iff (a b : Pa) : samePa a b = true ↔ a = b := by
  unfold samePa
  rw [Bool.and_eq_true, decide_eq_true_eq, sameT_iff]
  cases a; cases b; simp
theorem sameFu_iff (a b : Fu) : sameFu a b = true ↔ bareFu a = bareFu b := by
  unfold sameFu bareFu
  simp only [Bool.and_eq_true, decide_eq_true_eq, alikeL_iff (g := id) _ _ (fun a _ b => samePa_iff a b), List.map_id, sameT_iff, sameE_iff]
  cases a; cases b; simp
theorem sameHa_iff (a b : Ha) : sameHa a b = true ↔ bareHa a = bareHa b := by
  unfold sameHa bareHa
  simp only [Bool.and_eq_true, decide_eq_true_eq, samePa_iff, sameE_iff]
  cases a; cases b; simp only [Ha.mk.injEq, true_and]
  constructor
  · rintro ⟨h1, h2, h3, h4⟩; exact ⟨h1, h3, h2, h4⟩
  · rintro ⟨h1, h2, h3, h4⟩; exact ⟨h1, h3, h2, h4⟩
theorem samePr_iff (a b : Pr) : samePr a b = true ↔ barePr a = barePr b := by
  unfold samePr barePr
  simp only [Bool.and_eq_true, decide_eq_true_eq, alikeL_iff (g := bareDa) _ _ (fun a _ b => sameDa_iff a b), alikeL_iff (g := bareFu) _ _ (fun a _ b => sameFu_iff a b), alikeL_iff (g := bareHa) _ _ (fun a _ b => sameHa_iff a b), sameT_iff, sameE_iff]
  cases a; cases b; simp only [Pr.mk.injEq]
  constructor
  · rintro ⟨h1, h2, h3, h4, h5, h6, h7, h8⟩; exact ⟨h4, h5, h1, h2, h7, h3, h8, h6⟩
  · rintro ⟨h4, h5, h1, h2, h7, h3, h8, h6⟩; exact ⟨h1, h2, h3, h4, h5, h6, h7, h8⟩
theorem bare_samePr (p : Pr) : samePr (barePr p) p = true := (samePr_iff _ _).2 (barePr_twice p)
mutual
theorem smallPt_bare : ∀ t : Pt, smallPt t → smallPt (bareP t)
  | .mk k li co n m ks, h => by
    unfold smallPt at h
    unfold bareP smallPt
    exact ⟨h.1, by rw [barePs_map, List.length_map]; exact h.2.1, smallPts_bare ks h.2.2⟩
theorem smallPts_bare : ∀ ts : List Pt, smallPts ts → smallPts (barePs ts)
  | [], _ => trivial
  | t :: ts, h => ⟨smallPt_bare t h.1, smallPts_bare ts h.2⟩
end
mutual
theorem smallEx_bare : ∀ t : Ex, smallEx t → smallEx (bareE t)
  | .mk k li co m b n ks ps bs, h => by
    unfold smallEx at h
    obtain ⟨h1, h2, h3, h4, h5, h6, h7, h8⟩ := h
    unfold bareE smallEx
    exact ⟨h1, h2, by rw [bareEs_map, List.length_map]; exact h3, by rw [barePs_map, List.length_map]; exact h4, by rw [bareEs_map, List.length_map]; exact h5, smallExs_bare ks h6, smallPts_bare ps h7, smallExs_bare bs h8⟩
theorem smallExs_bare : ∀ ts : List Ex, smallExs ts → smallExs (bareEs ts)
  | [], _ => trivial
  | t :: ts, h => ⟨smallEx_bare t h.1, smallExs_bare ts h.2⟩
end
mutual
theorem wfEx_bare : ∀ t : Ex, wfEx t → wfEx (bareE t)
  | .mk k li co m b n ks ps bs, h => by
    unfold wfEx at h
    unfold bareE wfEx
    exact ⟨by rw [barePs_map, bareEs_map, List.length_map, List.length_map]; exact h.1, wfExs_bare ks h.2.1, wfExs_bare bs h.2.2⟩
theorem wfExs_bare : ∀ ts : List Ex, wfExs ts → wfExs (bareEs ts)
  | [], _ => trivial
  | t :: ts, h => ⟨wfEx_bare t h.1, wfExs_bare ts h.2⟩
end
theorem smallPr_bare (p : Pr) (h : smallPr p) : smallPr (barePr p) := by
  obtain ⟨h1, h2, h3, h4, h5, h6, h7, h8⟩ := h
  unfold barePr
  refine ⟨by simpa using h1, ?_, by simpa using h3, ?_, by simpa using h5, ?_, h7, smallEx_bare _ h8⟩
  · intro d hd
    obtain ⟨x, hx, rfl⟩ := List.mem_map.1 hd
    exact h2 x hx
  · intro d hd
    obtain ⟨x, hx, rfl⟩ := List.mem_map.1 hd
    obtain ⟨a1, a2, a3, a4, a5⟩ := h4 x hx
    exact ⟨a1, a2, a3, a4, smallEx_bare _ a5⟩
  · intro d hd
    obtain ⟨x, hx, rfl⟩ := List.mem_map.1 hd
    obtain ⟨a1, a2, a3⟩ := h6 x hx
    exact ⟨a1, a2, smallEx_bare _ a3⟩
theorem wfPr_bare (p : Pr) (h : wfPr p) : wfPr (barePr p) := by
  obtain ⟨h1, h2, h3⟩ := h
  unfold barePr
  refine ⟨?_, ?_, wfEx_bare _ h3⟩
  · intro d hd
    obtain ⟨x, hx, rfl⟩ := List.mem_map.1 hd
    exact wfEx_bare _ (h1 x hx)
  · intro d hd
    obtain ⟨x, hx, rfl⟩ := List.mem_map.1 hd
    exact wfEx_bare _ (h2 x hx)
mutual
def placedP : Pt → Bool
  | .mk _ li co _ _ ks => !(decide (li = 0) && decide (co = 0)) || placedPs ks
def placedPs : List Pt → Bool
  | [] => false
  | t :: ts => placedP t || placedPs ts
end
mutual
def placedE : Ex → Bool
  | .mk _ li co _ _ _ ks ps bs => !(decide (li = 0) && decide (co = 0)) || (placedEs ks || placedAr bs ps)
def placedEs : List Ex → Bool
  | [] => false
  | t :: ts => placedE t || placedEs ts
def placedAr : List Ex → List Pt → Bool
  | b :: bs, p :: ps => (placedE b || placedP p) || placedAr bs ps
  | [], _ => false
  | _ :: _, [] => false
end
mutual
theorem placedP_bare : ∀ t : Pt, placedP (bareP t) = false
  | .mk _ li co _ _ ks => by unfold bareP placedP; simp [placedPs_bare ks]
theorem placedPs_bare : ∀ ts : List Pt, placedPs (barePs ts) = false
  | [] => rfl
  | t :: ts => by rw [barePs, placedPs, placedP_bare t, placedPs_bare ts]; rfl
end
mutual
theorem placedE_bare : ∀ t : Ex, placedE (bareE t) = false
  | .mk _ li co _ _ _ ks ps bs => by unfold bareE placedE; simp [placedEs_bare ks, placedAr_bare bs ps]
theorem placedEs_bare : ∀ ts : List Ex, placedEs (bareEs ts) = false
  | [] => rfl
  | t :: ts => by rw [bareEs, placedEs, placedE_bare t, placedEs_bare ts]; rfl
theorem placedAr_bare : ∀ (bs : List Ex) (ps : List Pt), placedAr (bareEs bs) (barePs ps) = false
  | b :: bs, p :: ps => by rw [bareEs, barePs, placedAr, placedE_bare b, placedP_bare p, placedAr_bare bs ps]; rfl
  | [], ps => by rw [bareEs, placedAr]
  | _ :: _, [] => by rw [bareEs, barePs, placedAr]
end
def atB (li co : Int) : Bool := !(decide (li = 0) && decide (co = 0))
def placedPr (p : Pr) : Bool := placedE p.init || (p.datas.any (fun d => atB d.line d.col) || (p.funs.any (fun f => atB f.line f.col || placedE f.body) || p.hands.any (fun h => atB h.line h.col || placedE h.body)))
theorem placedPr_bare (p : Pr) : placedPr (barePr p) = false := by
  unfold placedPr barePr
  simp only [placedE_bare, List.any_map, Bool.or_eq_false_iff, List.any_eq_false]
  refine ⟨trivial, fun d _ => ?_, fun f _ => ?_, fun h _ => ?_⟩ <;> simp [bareDa, bareFu, bareHa, atB, placedE_bare]
end Go.Proofs.YtcmnjodjebcapaaGreat.Deep

namespace Go.Proofs.YtcmnjodjebcapaaGreat.Deep
open Go.RowKit
set_option linter.unusedVariables false
set_option linter.unusedSimpArgs false
def coT (c : Co) : Ty := .mk 0 c.name c.fields
def lightCos : List Co → Int → Int
  | [], l => l
  | c :: cs, l => if l < 0 then l else lightCos cs (lightTy (coT c) l)
def lightDas : List Da → Int → Int
  | [], l => l
  | d :: ds, l => if l < 0 then l else lightDas ds (lightCos d.cons (l - 1 - take20 d.name.size))
def lightPas : List Pa → Int → Int
  | [], l => l
  | p :: ps, l => if l < 0 then l else lightPas ps (lightTy p.ty (l - take20 p.name.size))
def lightFu (f : Fu) (l : Int) : Int := lightPas f.params (lightEx f.body (lightTy f.result (l - 1 - take20 f.name.size)))
def lightFus : List Fu → Int → Int
  | [], l => l
  | f :: fs, l => if l < 0 then l else lightFus fs (lightFu f l)
def lightHa (h : Ha) (l : Int) : Int := lightEx h.body (lightTy h.param.ty (l - 1 - take20 h.name.size - take20 h.param.name.size))
def lightHas : List Ha → Int → Int
  | [], l => l
  | h :: hs, l => if l < 0 then l else lightHas hs (lightHa h l)
def lightPr (p : Pr) (l : Int) : Int := lightHas p.hands (lightFus p.funs (lightDas p.datas (lightEx p.init (lightTy p.state l))))
theorem lightCos_neg (ts : List Co) (l : Int) (h : l < 0) : lightCos ts l = l := by cases ts <;> simp [lightCos, h]
theorem lightDas_neg (ts : List Da) (l : Int) (h : l < 0) : lightDas ts l = l := by cases ts <;> simp [lightDas, h]
theorem lightPas_neg (ts : List Pa) (l : Int) (h : l < 0) : lightPas ts l = l := by cases ts <;> simp [lightPas, h]
theorem lightFus_neg (ts : List Fu) (l : Int) (h : l < 0) : lightFus ts l = l := by cases ts <;> simp [lightFus, h]
theorem lightHas_neg (ts : List Ha) (l : Int) (h : l < 0) : lightHas ts l = l := by cases ts <;> simp [lightHas, h]
theorem lightCos_ok : ∀ (cs : List Co) (l : Int), lightCos cs l ≤ l ∧ (0 ≤ l → -1048577 ≤ lightCos cs l) ∧ (0 ≤ lightCos cs l → l ≤ 3000 → (cs.length : Int) ≤ l ∧ ∀ c ∈ cs, smallCo c)
  | [], l => by unfold lightCos; exact ⟨by omega, fun h => by omega, fun h _ => ⟨by simpa using h, by simp⟩⟩
  | c :: cs, l => by
    unfold lightCos
    split
    · exact ⟨by omega, fun h => by omega, fun h => by omega⟩
    · obtain ⟨a1, a2, a3, a4⟩ := lightTy_ok (coT c) l
      obtain ⟨b1, b2, b3⟩ := lightCos_ok cs (lightTy (coT c) l)
      refine ⟨by omega, fun h => ?_, fun h h3 => ?_⟩
      · by_cases hn : lightTy (coT c) l < 0
        · rw [lightCos_neg _ _ hn]; exact a2 h
        · exact b2 (by omega)
      · obtain ⟨c1, c2⟩ := b3 h (by omega)
        have hs := a4 h3 (by omega)
        unfold coT smallTy at hs
        refine ⟨by simp; omega, fun x hx => ?_⟩
        rcases List.mem_cons.1 hx with rfl | hx
        · exact hs
        · exact c2 x hx
theorem lightDas_ok : ∀ (cs : List Da) (l : Int), lightDas cs l ≤ l ∧ (0 ≤ l → -2097155 ≤ lightDas cs l) ∧ (0 ≤ lightDas cs l → l ≤ 3000 → (cs.length : Int) ≤ l ∧ ∀ c ∈ cs, smallDa c)
  | [], l => by unfold lightDas; exact ⟨by omega, fun h => by omega, fun h _ => ⟨by simpa using h, by simp⟩⟩
  | c :: cs, l => by
    unfold lightDas
    split
    · exact ⟨by omega, fun h => by omega, fun h => by omega⟩
    · have ht := take20_le c.name.size
      obtain ⟨a1, a2, a3⟩ := lightCos_ok c.cons (l - 1 - take20 c.name.size)
      obtain ⟨b1, b2, b3⟩ := lightDas_ok cs (lightCos c.cons (l - 1 - take20 c.name.size))
      refine ⟨by omega, fun h => ?_, fun h h3 => ?_⟩
      · by_cases hn : lightCos c.cons (l - 1 - take20 c.name.size) < 0
        · rw [lightDas_neg _ _ hn]
          by_cases hn2 : l - 1 - take20 c.name.size < 0
          · rw [lightCos_neg _ _ hn2]; omega
          · have := a2 (by omega); omega
        · exact b2 (by omega)
      · obtain ⟨c1, c2⟩ := b3 h (by omega)
        obtain ⟨d1, d2⟩ := a3 (by omega) (by omega)
        refine ⟨by simp; omega, fun x hx => ?_⟩
        rcases List.mem_cons.1 hx with rfl | hx
        · exact ⟨take20_small (by omega), by omega, d2⟩
        · exact c2 x hx
theorem lightPas_ok : ∀ (cs : List Pa) (l : Int), lightPas cs l ≤ l ∧ (0 ≤ l → -2097155 ≤ lightPas cs l) ∧ (0 ≤ lightPas cs l → l ≤ 3000 → (cs.length : Int) ≤ l ∧ ∀ c ∈ cs, smallPa c)
  | [], l => by unfold lightPas; exact ⟨by omega, fun h => by omega, fun h _ => ⟨by simpa using h, by simp⟩⟩
  | c :: cs, l => by
    unfold lightPas
    split
    · exact ⟨by omega, fun h => by omega, fun h => by omega⟩
    · have ht := take20_le c.name.size
      obtain ⟨a1, a2, a3, a4⟩ := lightTy_ok c.ty (l - take20 c.name.size)
      obtain ⟨b1, b2, b3⟩ := lightPas_ok cs (lightTy c.ty (l - take20 c.name.size))
      refine ⟨by omega, fun h => ?_, fun h h3 => ?_⟩
      · by_cases hn : lightTy c.ty (l - take20 c.name.size) < 0
        · rw [lightPas_neg _ _ hn]
          by_cases hn2 : l - take20 c.name.size < 0
          · have := a3 hn2; omega
          · have := a2 (by omega); omega
        · exact b2 (by omega)
      · obtain ⟨c1, c2⟩ := b3 h (by omega)
        refine ⟨by simp; omega, fun x hx => ?_⟩
        rcases List.mem_cons.1 hx with rfl | hx
        · exact ⟨take20_small (by omega), a4 (by omega) (by omega)⟩
        · exact c2 x hx
theorem lightFu_ok (f : Fu) (l : Int) : lightFu f l ≤ l - 1 ∧ (0 ≤ l → -20000000 ≤ lightFu f l) ∧ (0 ≤ lightFu f l → l ≤ 3000 → wfEx f.body → smallFu f) := by
  unfold lightFu
  have ht := take20_le f.name.size
  obtain ⟨a1, a2, a3, a4⟩ := lightTy_ok f.result (l - 1 - take20 f.name.size)
  obtain ⟨b1, b2, b3, b4⟩ := lightEx_ok f.body (lightTy f.result (l - 1 - take20 f.name.size))
  obtain ⟨c1, c2, c3⟩ := lightPas_ok f.params (lightEx f.body (lightTy f.result (l - 1 - take20 f.name.size)))
  refine ⟨by omega, fun h => ?_, fun h h3 hw => ?_⟩
  · have e1 : -2097155 ≤ lightTy f.result (l - 1 - take20 f.name.size) := by
      by_cases hn : l - 1 - take20 f.name.size < 0
      · have := a3 hn; omega
      · have := a2 (by omega); omega
    have e2 : -10000000 ≤ lightEx f.body (lightTy f.result (l - 1 - take20 f.name.size)) := by
      by_cases hn : lightTy f.result (l - 1 - take20 f.name.size) < 0
      · have := b3 hn; omega
      · have := b2 (by omega); omega
    by_cases hn : lightEx f.body (lightTy f.result (l - 1 - take20 f.name.size)) < 0
    · rw [lightPas_neg _ _ hn]; omega
    · have := c2 (by omega); omega
  · obtain ⟨d1, d2⟩ := c3 h (by omega)
    exact ⟨take20_small (by omega), by omega, d2, a4 (by omega) (by omega), b4 (by omega) (by omega) hw⟩
theorem lightHa_ok (f : Ha) (l : Int) : lightHa f l ≤ l - 1 ∧ (0 ≤ l → -20000000 ≤ lightHa f l) ∧ (0 ≤ lightHa f l → l ≤ 3000 → wfEx f.body → smallHa f) := by
  unfold lightHa
  have ht := take20_le f.name.size
  have ht2 := take20_le f.param.name.size
  obtain ⟨a1, a2, a3, a4⟩ := lightTy_ok f.param.ty (l - 1 - take20 f.name.size - take20 f.param.name.size)
  obtain ⟨b1, b2, b3, b4⟩ := lightEx_ok f.body (lightTy f.param.ty (l - 1 - take20 f.name.size - take20 f.param.name.size))
  refine ⟨by omega, fun h => ?_, fun h h3 hw => ?_⟩
  · have e1 : -4097155 ≤ lightTy f.param.ty (l - 1 - take20 f.name.size - take20 f.param.name.size) := by
      by_cases hn : l - 1 - take20 f.name.size - take20 f.param.name.size < 0
      · have := a3 hn; omega
      · have := a2 (by omega); omega
    by_cases hn : lightTy f.param.ty (l - 1 - take20 f.name.size - take20 f.param.name.size) < 0
    · have := b3 hn; omega
    · have := b2 (by omega); omega
  · exact ⟨take20_small (by omega), ⟨take20_small (by omega), a4 (by omega) (by omega)⟩, b4 (by omega) (by omega) hw⟩
theorem lightFus_ok : ∀ (cs : List Fu) (l : Int), lightFus cs l ≤ l ∧ (0 ≤ l → -20000000 ≤ lightFus cs l) ∧ (0 ≤ lightFus cs l → l ≤ 3000 → (∀ f ∈ cs, wfEx f.body) → (cs.length : Int) ≤ l ∧ ∀ c ∈ cs, smallFu c)
  | [], l => by unfold lightFus; exact ⟨by omega, fun h => by omega, fun h _ _ => ⟨by simpa using h, by simp⟩⟩
  | c :: cs, l => by
    unfold lightFus
    split
    · exact ⟨by omega, fun h => by omega, fun h => by omega⟩
    · obtain ⟨a1, a2, a3⟩ := lightFu_ok c l
      obtain ⟨b1, b2, b3⟩ := lightFus_ok cs (lightFu c l)
      refine ⟨by omega, fun h => ?_, fun h h3 hw => ?_⟩
      · by_cases hn : lightFu c l < 0
        · rw [lightFus_neg _ _ hn]; exact a2 h
        · exact b2 (by omega)
      · obtain ⟨c1, c2⟩ := b3 h (by omega) (fun f hf => hw f (List.mem_cons_of_mem _ hf))
        refine ⟨by simp; omega, fun x hx => ?_⟩
        rcases List.mem_cons.1 hx with rfl | hx
        · exact a3 (by omega) h3 (hw _ List.mem_cons_self)
        · exact c2 x hx
theorem lightHas_ok : ∀ (cs : List Ha) (l : Int), lightHas cs l ≤ l ∧ (0 ≤ l → -20000000 ≤ lightHas cs l) ∧ (0 ≤ lightHas cs l → l ≤ 3000 → (∀ f ∈ cs, wfEx f.body) → (cs.length : Int) ≤ l ∧ ∀ c ∈ cs, smallHa c)
  | [], l => by unfold lightHas; exact ⟨by omega, fun h => by omega, fun h _ _ => ⟨by simpa using h, by simp⟩⟩
  | c :: cs, l => by
    unfold lightHas
    split
    · exact ⟨by omega, fun h => by omega, fun h => by omega⟩
    · obtain ⟨a1, a2, a3⟩ := lightHa_ok c l
      obtain ⟨b1, b2, b3⟩ := lightHas_ok cs (lightHa c l)
      refine ⟨by omega, fun h => ?_, fun h h3 hw => ?_⟩
      · by_cases hn : lightHa c l < 0
        · rw [lightHas_neg _ _ hn]; exact a2 h
        · exact b2 (by omega)
      · obtain ⟨c1, c2⟩ := b3 h (by omega) (fun f hf => hw f (List.mem_cons_of_mem _ hf))
        refine ⟨by simp; omega, fun x hx => ?_⟩
        rcases List.mem_cons.1 hx with rfl | hx
        · exact a3 (by omega) h3 (hw _ List.mem_cons_self)
        · exact c2 x hx
theorem lightPr_small (p : Pr) (hw : wfPr p) (h : 0 ≤ lightPr p 3000) : smallPr p := by
  unfold lightPr at h
  obtain ⟨w1, w2, w3⟩ := hw
  obtain ⟨a1, a2, a3, a4⟩ := lightTy_ok p.state 3000
  obtain ⟨b1, b2, b3, b4⟩ := lightEx_ok p.init (lightTy p.state 3000)
  obtain ⟨c1, c2, c3⟩ := lightDas_ok p.datas (lightEx p.init (lightTy p.state 3000))
  obtain ⟨d1, d2, d3⟩ := lightFus_ok p.funs (lightDas p.datas (lightEx p.init (lightTy p.state 3000)))
  obtain ⟨e1, e2, e3⟩ := lightHas_ok p.hands (lightFus p.funs (lightDas p.datas (lightEx p.init (lightTy p.state 3000))))
  obtain ⟨e4, e5⟩ := e3 h (by omega) w2
  obtain ⟨d4, d5⟩ := d3 (by omega) (by omega) w1
  obtain ⟨c4, c5⟩ := c3 (by omega) (by omega)
  exact ⟨by omega, c5, by omega, d5, by omega, e5, a4 (by omega) (by omega), b4 (by omega) (by omega) w3⟩
set_option maxHeartbeats 1000000 in
theorem light_prog (p : Pr) (hw : wfPr p) (l : Int) (h0 : 0 ≤ l) (h1 : l ≤ 3000) : PCalls Tryz.prog 32 [.agg (prP p), .con (.int .i64 l)] (fun r => r = .con (.int .i64 (lightPr p l))) := by
  obtain ⟨ds, fs, q, tm, st, cp, ini, hds⟩ := p
  obtain ⟨w1, w2, w3⟩ := hw
  dsimp only at w1 w2 w3
  obtain ⟨L, hL⟩ : ∃ L, lightPr ⟨ds, fs, q, tm, st, cp, ini, hds⟩ l = L := ⟨_, rfl⟩
  rw [hL]
  unfold lightPr at hL
  dsimp only at hL
  obtain ⟨a1, a2, a3, a4⟩ := lightTy_ok st l
  have b1' := a2 h0
  obtain ⟨b1, b2, b3, b4⟩ := lightEx_ok ini (lightTy st l)
  have b5 : -10000000 ≤ lightEx ini (lightTy st l) := by
    by_cases hn : lightTy st l < 0
    · have := b3 hn; omega
    · have := b2 (by omega); omega
  have hr := light_ty st l (by omega) h1
  have hb := light_ex ini w3 (lightTy st l) (by omega) (by omega)
  obtain ⟨z1, hz1⟩ : ∃ z, lightTy st l = z := ⟨_, rfl⟩
  rw [hz1] at hr hb hL b1 b5 a1 b1'
  obtain ⟨z2, hz2⟩ : ∃ z, lightEx ini z1 = z := ⟨_, rfl⟩
  rw [hz2] at hb hL b1 b5
  obtain ⟨k, n, ps, hp⟩ := ty_mk st
  obtain ⟨k', li', co', m', b', n', ks', ps', bs', hp2⟩ := ex_mk ini
  subst hp hp2
  refine a32 _ _ _ _ _ _ _ _ _ _ _ _ _ _ _ _ _ _ _ ?_
  unfold p32
  rw [List.length_map, List.length_map, List.length_map]
  refine ⟨_, call_p (enters_of Tryz.func10 (by kernel_rfl) rfl) hr rfl ?_⟩
  refine ⟨_, call_p (enters_of Tryz.func8 (by kernel_rfl) rfl) hb rfl ?_⟩
  -- the datas
  refine ⟨fun c v => ∃ j : Nat, j ≤ ds.length ∧ c = ds.length - j ∧ v.2.1 = (j : Int) ∧ lightHas hds (lightFus fs (lightDas (ds.drop j) v.1)) = L ∧ -100000000 ≤ v.1 ∧ v.1 + j ≤ 3000, ⟨_, 0, Nat.zero_le _, rfl, rfl, by simpa using hL, by dsimp only; omega, by dsimp only; omega⟩, ?_⟩
  rintro c ⟨cur, i, u⟩ ⟨j, hj, rfl, hi, hLj, b0, b1⟩
  dsimp only at hi hLj b0 b1 ⊢
  subst hi
  by_cases hgo : j < ds.length ∧ 0 ≤ cur
  · obtain ⟨hlt, hc⟩ := hgo
    rw [List.drop_eq_getElem_cons hlt, lightDas, if_neg (by omega)] at hLj
    have hx := map_get daP ds j hlt
    obtain ⟨cc, hcc⟩ : ∃ cc, ds[j] = cc := ⟨_, rfl⟩
    rw [hcc] at hx hLj
    obtain ⟨dli, dco, dnm, dcs⟩ := cc
    dsimp only at hLj
    have ht := take20_le dnm.size
    refine br_i (fun _ => br_i (fun _ => ?_) (fun hf => absurd hc (by simpa using hf))) (fun hf => absurd hlt (by simpa using hf))
    refine ⟨_, _, _, _, ⟨by omega, by rw [Int.toNat_natCast]; exact hx, ?_⟩⟩
    rw [min_take, wrap_id (n := cur - 1) (by omega) (by omega), wrap_id (n := cur - 1 - take20 dnm.size) (by omega) (by omega)]
    refine ⟨fun c v => ∃ j2 : Nat, j2 ≤ dcs.length ∧ c = dcs.length - j2 ∧ v.2.1 = (j2 : Int) ∧ lightHas hds (lightFus fs (lightDas (ds.drop (j + 1)) (lightCos (dcs.drop j2) v.1))) = L ∧ -100000000 ≤ v.1 ∧ v.1 + j2 + j + 1 ≤ 3000, ⟨_, 0, Nat.zero_le _, rfl, rfl, by simpa using hLj, by dsimp only; omega, by dsimp only; omega⟩, ?_⟩
    rintro c ⟨cur2, i, u⟩ ⟨j2, hj2, rfl, hi, hLj2, b2, b3⟩
    dsimp only at hi hLj2 b2 b3 ⊢
    subst hi
    refine ⟨_, _, _, _, ⟨by omega, by rw [Int.toNat_natCast]; exact hx, ?_⟩⟩
    rw [List.length_map]
    by_cases hgo2 : j2 < dcs.length ∧ 0 ≤ cur2
    · obtain ⟨hlt2, hc2⟩ := hgo2
      rw [List.drop_eq_getElem_cons hlt2, lightCos, if_neg (by omega)] at hLj2
      have hx2 := map_get coP dcs j2 hlt2
      obtain ⟨c3, hc3⟩ : ∃ cc, dcs[j2] = cc := ⟨_, rfl⟩
      rw [hc3] at hx2 hLj2
      obtain ⟨cn, cf⟩ := c3
      obtain ⟨q1, q2, q3, q4⟩ := lightTy_ok (coT ⟨cn, cf⟩) cur2
      have q5 := q2 hc2
      have hi2 := light_ty (coT ⟨cn, cf⟩) cur2 (by omega) (by omega)
      refine br_i (fun _ => br_i (fun _ => ?_) (fun hf => absurd hc2 (by simpa using hf))) (fun hf => absurd hlt2 (by simpa using hf))
      refine ⟨_, _, _, _, ⟨by omega, by rw [Int.toNat_natCast]; exact hx, ?_⟩⟩
      refine ⟨_, _, ⟨by omega, by rw [Int.toNat_natCast]; exact hx2, ?_⟩⟩
      refine ⟨_, _, _, _, ⟨by omega, by rw [Int.toNat_natCast]; exact hx, ?_⟩⟩
      refine ⟨_, _, ⟨by omega, by rw [Int.toNat_natCast]; exact hx2, ?_⟩⟩
      refine ⟨_, call_p (enters_of Tryz.func10 (by kernel_rfl) rfl) hi2 rfl ⟨⟨by trivial, by trivial, trivial⟩, by trivial, dcs.length - (j2 + 1), by omega, j2 + 1, by omega, rfl, ?_, hLj2, ?_, ?_⟩⟩
      · rw [wrap_id (by omega) (by omega)]; simp
      · omega
      · omega
    replace hLj2 : lightHas hds (lightFus fs (lightDas (ds.drop (j + 1)) cur2)) = L := by
      by_cases hlt2 : j2 < dcs.length
      · rw [List.drop_eq_getElem_cons hlt2, lightCos, if_pos (by omega)] at hLj2; exact hLj2
      · rw [List.drop_of_length_le (show dcs.length ≤ j2 by omega), lightCos] at hLj2; exact hLj2
    refine br_i (fun hlt2 => br_i (fun hc2 => absurd ⟨by simpa using hlt2, by simpa using hc2⟩ hgo2) (fun hc2 => ?_)) (fun hge2 => ?_)
    all_goals
      refine ⟨⟨by trivial, trivial⟩, by trivial, ds.length - (j + 1), by omega, j + 1, by omega, by trivial, ?_, hLj2, by omega, by omega⟩
      rw [wrap_id (by omega) (by omega)]; simp
  replace hLj : lightHas hds (lightFus fs cur) = L := by
    by_cases hlt : j < ds.length
    · rw [List.drop_eq_getElem_cons hlt, lightDas, if_pos (by omega)] at hLj; exact hLj
    · rw [List.drop_of_length_le (by omega), lightDas] at hLj; exact hLj
  refine br_i (fun hlt => br_i (fun hc => absurd ⟨by simpa using hlt, by simpa using hc⟩ hgo) (fun hc => ?_)) (fun hge => ?_)
  all_goals
    clear hgo
    -- the functions
    refine ⟨fun c v => ∃ j : Nat, j ≤ fs.length ∧ c = fs.length - j ∧ v.2.1 = (j : Int) ∧ lightHas hds (lightFus (fs.drop j) v.1) = L ∧ -200000000 ≤ v.1 ∧ v.1 + j ≤ 3000, ⟨_, 0, Nat.zero_le _, rfl, rfl, by simpa using hLj, by dsimp only; omega, by dsimp only; omega⟩, ?_⟩
    rintro c ⟨fcur, i, u⟩ ⟨f, hf, rfl, hi, hLf, g0, g1⟩
    dsimp only at hi hLf g0 g1 ⊢
    subst hi
    by_cases hgo : f < fs.length ∧ 0 ≤ fcur
    · obtain ⟨hlt, hc⟩ := hgo
      rw [List.drop_eq_getElem_cons hlt, lightFus, if_neg (by omega)] at hLf
      have hx := map_get fuP fs f hlt
      have hwf := w1 fs[f] (List.getElem_mem hlt)
      obtain ⟨cc, hcc⟩ : ∃ cc, fs[f] = cc := ⟨_, rfl⟩
      rw [hcc] at hx hLf hwf
      obtain ⟨fli, fco, fnm, fpa, fre, fbo⟩ := cc
      dsimp only at hwf
      unfold lightFu at hLf
      dsimp only at hLf
      have ht := take20_le fnm.size
      obtain ⟨a1, a2, a3, a4⟩ := lightTy_ok fre (fcur - 1 - take20 fnm.size)
      have e1 : -2097155 ≤ lightTy fre (fcur - 1 - take20 fnm.size) := by
        by_cases hn : fcur - 1 - take20 fnm.size < 0
        · have := a3 hn; omega
        · have := a2 (by omega); omega
      obtain ⟨b1, b2, b3, b4⟩ := lightEx_ok fbo (lightTy fre (fcur - 1 - take20 fnm.size))
      have e2 : -10000000 ≤ lightEx fbo (lightTy fre (fcur - 1 - take20 fnm.size)) := by
        by_cases hn : lightTy fre (fcur - 1 - take20 fnm.size) < 0
        · have := b3 hn; omega
        · have := b2 (by omega); omega
      have hr2 := light_ty fre (fcur - 1 - take20 fnm.size) (by omega) (by omega)
      have hb2 := light_ex fbo hwf (lightTy fre (fcur - 1 - take20 fnm.size)) (by omega) (by omega)
      obtain ⟨y1, hy1⟩ : ∃ z, lightTy fre (fcur - 1 - take20 fnm.size) = z := ⟨_, rfl⟩
      rw [hy1] at hr2 hb2 hLf b1 e2 a1 e1
      obtain ⟨y2, hy2⟩ : ∃ z, lightEx fbo y1 = z := ⟨_, rfl⟩
      rw [hy2] at hb2 hLf b1 e2
      clear a2 a3 a4 b2 b3 b4 hy1 hy2
      obtain ⟨k, n, ps, hp⟩ := ty_mk fre
      obtain ⟨k', li', co', m', b', n', ks', ps', bs', hp2⟩ := ex_mk fbo
      subst hp hp2
      refine br_i (fun _ => br_i (fun _ => ?_) (fun hf => absurd hc (by simpa using hf))) (fun hf => absurd hlt (by simpa using hf))
      refine ⟨_, _, _, _, _, _, _, _, _, _, _, _, _, _, _, ⟨by omega, by rw [Int.toNat_natCast]; exact hx, ?_⟩⟩
      rw [min_take, wrap_id (n := fcur - 1) (by omega) (by omega), wrap_id (n := fcur - 1 - take20 fnm.size) (by omega) (by omega), List.length_map]
      refine ⟨_, call_p (enters_of Tryz.func10 (by kernel_rfl) rfl) hr2 rfl ?_⟩
      refine ⟨_, call_p (enters_of Tryz.func8 (by kernel_rfl) rfl) hb2 rfl ?_⟩
      refine ⟨fun c v => ∃ j2 : Nat, j2 ≤ fpa.length ∧ c = fpa.length - j2 ∧ v.2.1 = (j2 : Int) ∧ lightHas hds (lightFus (fs.drop (f + 1)) (lightPas (fpa.drop j2) v.1)) = L ∧ -100000000 ≤ v.1 ∧ v.1 + j2 + f + 1 ≤ 3000, ⟨_, 0, Nat.zero_le _, rfl, rfl, by simpa using hLf, by dsimp only; omega, by dsimp only; omega⟩, ?_⟩
      rintro c ⟨cur2, i, u⟩ ⟨j2, hj2, rfl, hi, hLj2, b2, b3⟩
      dsimp only at hi hLj2 b2 b3 ⊢
      subst hi
      by_cases hgo2 : j2 < fpa.length ∧ 0 ≤ cur2
      · obtain ⟨hlt2, hc2⟩ := hgo2
        rw [List.drop_eq_getElem_cons hlt2, lightPas, if_neg (by omega)] at hLj2
        have hx2 := map_get paP fpa j2 hlt2
        obtain ⟨c3, hc3⟩ : ∃ cc, fpa[j2] = cc := ⟨_, rfl⟩
        rw [hc3] at hx2 hLj2
        obtain ⟨cn, ct⟩ := c3
        dsimp only at hLj2
        have ht2 := take20_le cn.size
        obtain ⟨q1, q2, q3, q4⟩ := lightTy_ok ct (cur2 - take20 cn.size)
        have q5 : -10000000 ≤ lightTy ct (cur2 - take20 cn.size) := by
          by_cases hn : cur2 - take20 cn.size < 0
          · have := q3 hn; omega
          · have := q2 (by omega); omega
        have hi2 := light_ty ct (cur2 - take20 cn.size) (by omega) (by omega)
        obtain ⟨k, n, ps, hp⟩ := ty_mk ct
        subst hp
        refine br_i (fun _ => br_i (fun _ => ?_) (fun hf => absurd hc2 (by simpa using hf))) (fun hf => absurd hlt2 (by simpa using hf))
        refine ⟨_, _, _, _, ⟨by omega, by rw [Int.toNat_natCast]; exact hx2, ?_⟩⟩
        refine ⟨_, _, _, _, ⟨by omega, by rw [Int.toNat_natCast]; exact hx2, ?_⟩⟩
        rw [min_take, wrap_id (n := cur2 - take20 cn.size) (by omega) (by omega)]
        refine ⟨_, call_p (enters_of Tryz.func10 (by kernel_rfl) rfl) hi2 rfl ⟨⟨by trivial, by trivial, by trivial, trivial⟩, by trivial, fpa.length - (j2 + 1), by omega, j2 + 1, by omega, rfl, ?_, hLj2, ?_, ?_⟩⟩
        · rw [wrap_id (by omega) (by omega)]; simp
        · omega
        · omega
      replace hLj2 : lightHas hds (lightFus (fs.drop (f + 1)) cur2) = L := by
        by_cases hlt2 : j2 < fpa.length
        · rw [List.drop_eq_getElem_cons hlt2, lightPas, if_pos (by omega)] at hLj2; exact hLj2
        · rw [List.drop_of_length_le (show fpa.length ≤ j2 by omega), lightPas] at hLj2; exact hLj2
      refine br_i (fun hlt2 => br_i (fun hc2 => absurd ⟨by simpa using hlt2, by simpa using hc2⟩ hgo2) (fun hc2 => ?_)) (fun hge2 => ?_)
      all_goals
        refine ⟨⟨by trivial, trivial⟩, by trivial, fs.length - (f + 1), by omega, f + 1, by omega, by trivial, ?_, hLj2, by omega, by omega⟩
        rw [wrap_id (by omega) (by omega)]; simp
    replace hLf : lightHas hds fcur = L := by
      by_cases hlt : f < fs.length
      · rw [List.drop_eq_getElem_cons hlt, lightFus, if_pos (by omega)] at hLf; exact hLf
      · rw [List.drop_of_length_le (by omega), lightFus] at hLf; exact hLf
    refine br_i (fun hlt => br_i (fun hc => absurd ⟨by simpa using hlt, by simpa using hc⟩ hgo) (fun hc => ?_)) (fun hge => ?_)
    all_goals
      clear hgo
      -- the handlers
      refine ⟨fun c v => ∃ j : Nat, j ≤ hds.length ∧ c = hds.length - j ∧ v.2.1 = (j : Int) ∧ lightHas (hds.drop j) v.1 = L ∧ -300000000 ≤ v.1 ∧ v.1 + j ≤ 3000, ⟨_, 0, Nat.zero_le _, rfl, rfl, by simpa using hLf, by dsimp only; omega, by dsimp only; omega⟩, ?_⟩
      rintro c ⟨gcur, i, u⟩ ⟨g, hg, rfl, hi, hLg, r0, r1⟩
      dsimp only at hi hLg r0 r1 ⊢
      subst hi
      by_cases hgo : g < hds.length ∧ 0 ≤ gcur
      · obtain ⟨hlt, hc⟩ := hgo
        rw [List.drop_eq_getElem_cons hlt, lightHas, if_neg (by omega)] at hLg
        have hx := map_get haP hds g hlt
        have hwf := w2 hds[g] (List.getElem_mem hlt)
        obtain ⟨cc, hcc⟩ : ∃ cc, hds[g] = cc := ⟨_, rfl⟩
        rw [hcc] at hx hLg hwf
        obtain ⟨hli, hco, hnm, hpa, hcp, hbo⟩ := cc
        obtain ⟨pn, pt⟩ := hpa
        dsimp only at hwf
        unfold lightHa at hLg
        dsimp only at hLg
        have ht := take20_le hnm.size
        have ht2 := take20_le pn.size
        obtain ⟨a1, a2, a3, a4⟩ := lightTy_ok pt (gcur - 1 - take20 hnm.size - take20 pn.size)
        have e1 : -4097155 ≤ lightTy pt (gcur - 1 - take20 hnm.size - take20 pn.size) := by
          by_cases hn : gcur - 1 - take20 hnm.size - take20 pn.size < 0
          · have := a3 hn; omega
          · have := a2 (by omega); omega
        obtain ⟨b1, b2, b3, b4⟩ := lightEx_ok hbo (lightTy pt (gcur - 1 - take20 hnm.size - take20 pn.size))
        have e2 : -10000000 ≤ lightEx hbo (lightTy pt (gcur - 1 - take20 hnm.size - take20 pn.size)) := by
          by_cases hn : lightTy pt (gcur - 1 - take20 hnm.size - take20 pn.size) < 0
          · have := b3 hn; omega
          · have := b2 (by omega); omega
        have hr2 := light_ty pt (gcur - 1 - take20 hnm.size - take20 pn.size) (by omega) (by omega)
        have hb2 := light_ex hbo hwf (lightTy pt (gcur - 1 - take20 hnm.size - take20 pn.size)) (by omega) (by omega)
        obtain ⟨k, n, ps, hp⟩ := ty_mk pt
        obtain ⟨k', li', co', m', b', n', ks', ps', bs', hp2⟩ := ex_mk hbo
        subst hp hp2
        refine br_i (fun _ => br_i (fun _ => ?_) (fun hf => absurd hc (by simpa using hf))) (fun hf => absurd hlt (by simpa using hf))
        refine ⟨_, _, _, _, _, _, _, _, _, _, _, _, _, _, _, _, ⟨by omega, by rw [Int.toNat_natCast]; exact hx, ?_⟩⟩
        rw [min_take, min_take, wrap_id (n := gcur - 1) (by omega) (by omega), wrap_id (n := gcur - 1 - take20 hnm.size) (by omega) (by omega), wrap_id (n := gcur - 1 - take20 hnm.size - take20 pn.size) (by omega) (by omega)]
        refine ⟨_, call_p (enters_of Tryz.func10 (by kernel_rfl) rfl) hr2 rfl ?_⟩
        refine ⟨_, call_p (enters_of Tryz.func8 (by kernel_rfl) rfl) hb2 rfl ⟨⟨by trivial, trivial⟩, by trivial, hds.length - (g + 1), by omega, g + 1, by omega, rfl, ?_, hLg, ?_, ?_⟩⟩
        · rw [wrap_id (by omega) (by omega)]; simp
        · omega
        · omega
      replace hLg : gcur = L := by
        by_cases hlt : g < hds.length
        · rw [List.drop_eq_getElem_cons hlt, lightHas, if_pos (by omega)] at hLg; exact hLg
        · rw [List.drop_of_length_le (by omega), lightHas] at hLg; exact hLg
      refine br_i (fun hlt => br_i (fun hc => absurd ⟨by simpa using hlt, by simpa using hc⟩ hgo) (fun hc => ⟨by rw [hLg], rfl⟩)) (fun hge => ⟨by rw [hLg], rfl⟩)
theorem light_p (p : Pr) (hw : wfPr p) : PCalls Tryz.prog 7 [.agg (prP p)] (fun r => r = .con (.bool (decide (lightPr p 3000 ≥ 0)))) := by
  have h := light_prog p hw 3000 (by omega) (by omega)
  obtain ⟨ds, fs, q, tm, st, cp, ini, hds⟩ := p
  obtain ⟨k, n, ps, hp⟩ := ty_mk st
  obtain ⟨k', li', co', m', b', n', ks', ps', bs', hp2⟩ := ex_mk ini
  subst hp hp2
  refine a7 _ _ _ _ _ _ _ _ _ _ _ _ _ _ _ _ _ _ ?_
  unfold p7
  exact ⟨_, call_p (enters_of Tryz.func32 (by kernel_rfl) rfl) h rfl ⟨rfl, rfl⟩⟩
end Go.Proofs.YtcmnjodjebcapaaGreat.Deep

namespace Go.Proofs.YtcmnjodjebcapaaGreat.Deep
open Go.RowKit
set_option linter.unusedVariables false
def p33 (i1 i2 : Int) (Q : PV → Heap → Prop) : Prop :=
Q (.agg [i1, i2]) [[i1, i2]]
theorem a33 (i1 i2 : Int) (Q : PV → Heap → Prop) (h : p33 i1 i2 Q) : ACalls Tryz.prog 33 [i1, i2] [] Q := by
  have hb : Option.some (bodyOf Tryz.f33) = Tryz.f33.body := by kernel_rfl
  exact acalls_eq (S := S) (L := loops7) mixed tok Tryz.func33 hb.symm (by kernel_rfl) h
def p106 (i1 : Int) (Q : PV → Heap → Prop) : Prop :=
∃ i2 : Int, ∃ i3 : Int, ∃ i4 : Int, ∃ i5 : Int, ∃ i6 : Int, ∃ i7 : Int, ∃ i8 : Int, ∃ i9 : Int, CallN Tryz.prog 163 [] [[(.con .nilFunc), (.con (.int .i64 0)), (.con (.int .i64 0)), (.con (.int .i64 0)), (.con (.int .i64 0)), (.con (.int .i64 0)), (.con (.int .i64 0)), (.con (.int .i64 0)), (.con (.int .i64 0))]] (.agg [(.fn 195 []), i2, i3, i4, i5, i6, i7, i8, i9])
  (br (((i1 : Int) == 0))
  (Q (.agg [(.fn 164 []), i2, i3, i4, i5, i6, i7, i8, i9]) [[(.fn 164 []), i2, i3, i4, i5, i6, i7, i8, i9], [(.fn 164 []), i2, i3, i4, i5, i6, i7, i8, i9]])
  (br (((i1 : Int) == 1))
  (Q (.agg [(.fn 92 []), i2, i3, i4, i5, i6, i7, i8, i9]) [[(.fn 92 []), i2, i3, i4, i5, i6, i7, i8, i9], [(.fn 92 []), i2, i3, i4, i5, i6, i7, i8, i9]])
  (br (((i1 : Int) == 2))
  (∃ i10 : Int, ∃ i11 : Int, CallN Tryz.prog 33 [(.con (.int .i64 (-4611686018427387903))), (.con (.int .i64 4611686018427387903))] [[(.con .nilFunc), (.con (.int .i64 0)), (.con (.int .i64 0)), (.con (.int .i64 0)), (.con (.int .i64 0)), (.con (.int .i64 0)), (.con (.int .i64 0)), (.con (.int .i64 0)), (.con (.int .i64 0))], [(.fn 195 []), i2, i3, i4, i5, i6, i7, i8, i9]] (.agg [i10, i11])
  (Q (.agg [(.fn 164 []), i10, i11, i4, i5, i6, i7, i8, i9]) [[(.fn 164 []), i10, i11, i4, i5, i6, i7, i8, i9], [(.fn 164 []), i10, i11, i4, i5, i6, i7, i8, i9]]))
  (br (((i1 : Int) == 3))
  (∃ i12 : Int, ∃ i13 : Int, CallN Tryz.prog 33 [(.con (.int .i64 0)), (.con (.int .i64 6))] [[(.con .nilFunc), (.con (.int .i64 0)), (.con (.int .i64 0)), (.con (.int .i64 0)), (.con (.int .i64 0)), (.con (.int .i64 0)), (.con (.int .i64 0)), (.con (.int .i64 0)), (.con (.int .i64 0))], [(.fn 195 []), i2, i3, i4, i5, i6, i7, i8, i9]] (.agg [i12, i13])
  (Q (.agg [(.fn 156 []), i2, i3, i4, i5, i12, i13, i8, i9]) [[(.fn 156 []), i2, i3, i4, i5, i12, i13, i8, i9], [(.fn 156 []), i2, i3, i4, i5, i12, i13, i8, i9]]))
  (br (((i1 : Int) == 4))
  (∃ i14 : Int, ∃ i15 : Int, CallN Tryz.prog 33 [(.con (.int .i64 2)), (.con (.int .i64 6))] [[(.con .nilFunc), (.con (.int .i64 0)), (.con (.int .i64 0)), (.con (.int .i64 0)), (.con (.int .i64 0)), (.con (.int .i64 0)), (.con (.int .i64 0)), (.con (.int .i64 0)), (.con (.int .i64 0))], [(.fn 195 []), i2, i3, i4, i5, i6, i7, i8, i9]] (.agg [i14, i15])
  (Q (.agg [(.fn 164 []), i2, i3, i4, i5, i14, i15, i8, i9]) [[(.fn 164 []), i2, i3, i4, i5, i14, i15, i8, i9], [(.fn 164 []), i2, i3, i4, i5, i14, i15, i8, i9]]))
  (Q (.agg [(.fn 195 []), i2, i3, i4, i5, i6, i7, i8, i9]) [[(.fn 195 []), i2, i3, i4, i5, i6, i7, i8, i9], [(.fn 195 []), i2, i3, i4, i5, i6, i7, i8, i9]]))))))
theorem a106 (i1 : Int) (Q : PV → Heap → Prop) (h : p106 i1 Q) : ACalls Tryz.prog 106 [i1] [] Q := by
  have hb : Option.some (bodyOf Tryz.f106) = Tryz.f106.body := by kernel_rfl
  exact acalls_eq (S := S) (L := loops7) mixed tok Tryz.func106 hb.symm (by kernel_rfl) h
def p163  (Q : PV → Heap → Prop) : Prop :=
Q (.agg [(.fn 195 []), (.con (.int .i64 0)), (.con (.int .i64 0)), (.con (.int .i64 0)), (.con (.int .i64 0)), (.con (.int .i64 0)), (.con (.int .i64 0)), (.con (.int .i64 0)), (.con (.int .i64 0))]) [[(.fn 195 []), (.con (.int .i64 0)), (.con (.int .i64 0)), (.con (.int .i64 0)), (.con (.int .i64 0)), (.con (.int .i64 0)), (.con (.int .i64 0)), (.con (.int .i64 0)), (.con (.int .i64 0))]]
theorem a163  (Q : PV → Heap → Prop) (h : p163  Q) : ACalls Tryz.prog 163 [] [] Q := by
  have hb : Option.some (bodyOf Tryz.f163) = Tryz.f163.body := by kernel_rfl
  exact acalls_eq (S := S) (L := loops7) mixed tok Tryz.func163 hb.symm (by kernel_rfl) h
def p79 (i1 i2 i3 : Int) (Q : PV → Heap → Prop) : Prop :=
br ((decide ((i1 : Int) ≤ i3)))
  (Q (.con (.bool (decide ((i3 : Int) ≤ i2)))) [[i1, i2]])
  (Q (.con (.bool false)) [[i1, i2]])
theorem a79 (i1 i2 i3 : Int) (Q : PV → Heap → Prop) (h : p79 i1 i2 i3 Q) : ACalls Tryz.prog 79 [(.agg [i1, i2]), i3] [] Q := by
  have hb : Option.some (bodyOf Tryz.f79) = Tryz.f79.body := by kernel_rfl
  exact acalls_eq (S := S) (L := loops7) mixed tok Tryz.func79 hb.symm (by kernel_rfl) h
def p34 (i1 i2 i3 : Int) (Q : PV → Heap → Prop) : Prop :=
∃ b4 : Bool, CallN Tryz.prog 79 [(.agg [i1, i2]), i3] [[i1, i2]] b4
  (Q b4 [[i1, i2]])
theorem a34 (i1 i2 i3 : Int) (Q : PV → Heap → Prop) (h : p34 i1 i2 i3 Q) : ACalls Tryz.prog 34 [(.agg [i1, i2]), i3] [] Q := by
  have hb : Option.some (bodyOf Tryz.f34) = Tryz.f34.body := by kernel_rfl
  exact acalls_eq (S := S) (L := loops7) mixed tok Tryz.func34 hb.symm (by kernel_rfl) h
def p166 (i1 : Int) (Q : PV → Heap → Prop) : Prop :=
Q (.agg [i1, i1]) [[i1, i1]]
theorem a166 (i1 : Int) (Q : PV → Heap → Prop) (h : p166 i1 Q) : ACalls Tryz.prog 166 [i1] [] Q := by
  have hb : Option.some (bodyOf Tryz.f166) = Tryz.f166.body := by kernel_rfl
  exact acalls_eq (S := S) (L := loops7) mixed tok Tryz.func166 hb.symm (by kernel_rfl) h
def p47 (i1 i2 i3 : Int) (s4 : ByteArray) (i5 : Int) (l6 : List (List PV)) (i7 : Int) (Q : PV → Heap → Prop) : Prop :=
(∃ i8 : Int, ∃ i9 : Int, ∃ i10 : Int, ∃ i11 : Int, ∃ i12 : Int, ∃ i13 : Int, ∃ i14 : Int, ∃ i15 : Int, CallN Tryz.prog 106 [i1] [[i1, i2, i3, s4, i5, l6], [i7]] (.agg [(.fn 195 []), i8, i9, i10, i11, i12, i13, i14, i15])
  (br ((decide ((i7 : Int) > 0)))
  (∃ b16 : Bool, CallN Tryz.prog 195 [s4] [[i1, i2, i3, s4, i5, l6], [i7], [(.fn 195 []), i8, i9, i10, i11, i12, i13, i14, i15]] b16
  (br (b16)
  (∃ b17 : Bool, CallN Tryz.prog 79 [(.agg [i8, i9]), i5] [[i1, i2, i3, s4, i5, l6], [i7], [(.fn 195 []), i8, i9, i10, i11, i12, i13, i14, i15]] b17
  (br (b17)
  (∃ b18 : Bool, CallN Tryz.prog 34 [(.agg [i12, i13]), (.con (.int .i64 (List.length l6 : Int)))] [[i1, i2, i3, s4, i5, l6], [i7], [(.fn 195 []), i8, i9, i10, i11, i12, i13, i14, i15]] b18
  (br (b18)
  (∃ b19 : Bool, CallN Tryz.prog 107 [l6, (.fn 108 [(.ept [i7] 0)])] [[i1, i2, i3, s4, i5, l6], [], [(.fn 195 []), i8, i9, i10, i11, i12, i13, i14, i15]] b19
  (Q b19 [[i1, i2, i3, s4, i5, l6], [], [(.fn 195 []), i8, i9, i10, i11, i12, i13, i14, i15]]))
  (Q (.con (.bool false)) [[i1, i2, i3, s4, i5, l6], [i7], [(.fn 195 []), i8, i9, i10, i11, i12, i13, i14, i15]])))
  (Q (.con (.bool false)) [[i1, i2, i3, s4, i5, l6], [i7], [(.fn 195 []), i8, i9, i10, i11, i12, i13, i14, i15]])))
  (Q (.con (.bool false)) [[i1, i2, i3, s4, i5, l6], [i7], [(.fn 195 []), i8, i9, i10, i11, i12, i13, i14, i15]])))
  (Q (.con (.bool false)) [[i1, i2, i3, s4, i5, l6], [i7], [(.fn 195 []), i8, i9, i10, i11, i12, i13, i14, i15]]))) ∨ (∃ i20 : Int, ∃ i21 : Int, ∃ i22 : Int, ∃ i23 : Int, ∃ i24 : Int, ∃ i25 : Int, ∃ i26 : Int, ∃ i27 : Int, CallN Tryz.prog 106 [i1] [[i1, i2, i3, s4, i5, l6], [i7]] (.agg [(.fn 164 []), i20, i21, i22, i23, i24, i25, i26, i27])
  (br ((decide ((i7 : Int) > 0)))
  (∃ b28 : Bool, CallN Tryz.prog 164 [s4] [[i1, i2, i3, s4, i5, l6], [i7], [(.fn 164 []), i20, i21, i22, i23, i24, i25, i26, i27]] b28
  (br (b28)
  (∃ b29 : Bool, CallN Tryz.prog 79 [(.agg [i20, i21]), i5] [[i1, i2, i3, s4, i5, l6], [i7], [(.fn 164 []), i20, i21, i22, i23, i24, i25, i26, i27]] b29
  (br (b29)
  (∃ b30 : Bool, CallN Tryz.prog 34 [(.agg [i24, i25]), (.con (.int .i64 (List.length l6 : Int)))] [[i1, i2, i3, s4, i5, l6], [i7], [(.fn 164 []), i20, i21, i22, i23, i24, i25, i26, i27]] b30
  (br (b30)
  (∃ b31 : Bool, CallN Tryz.prog 107 [l6, (.fn 108 [(.ept [i7] 0)])] [[i1, i2, i3, s4, i5, l6], [], [(.fn 164 []), i20, i21, i22, i23, i24, i25, i26, i27]] b31
  (Q b31 [[i1, i2, i3, s4, i5, l6], [], [(.fn 164 []), i20, i21, i22, i23, i24, i25, i26, i27]]))
  (Q (.con (.bool false)) [[i1, i2, i3, s4, i5, l6], [i7], [(.fn 164 []), i20, i21, i22, i23, i24, i25, i26, i27]])))
  (Q (.con (.bool false)) [[i1, i2, i3, s4, i5, l6], [i7], [(.fn 164 []), i20, i21, i22, i23, i24, i25, i26, i27]])))
  (Q (.con (.bool false)) [[i1, i2, i3, s4, i5, l6], [i7], [(.fn 164 []), i20, i21, i22, i23, i24, i25, i26, i27]])))
  (Q (.con (.bool false)) [[i1, i2, i3, s4, i5, l6], [i7], [(.fn 164 []), i20, i21, i22, i23, i24, i25, i26, i27]]))) ∨ (∃ i32 : Int, ∃ i33 : Int, ∃ i34 : Int, ∃ i35 : Int, ∃ i36 : Int, ∃ i37 : Int, ∃ i38 : Int, ∃ i39 : Int, CallN Tryz.prog 106 [i1] [[i1, i2, i3, s4, i5, l6], [i7]] (.agg [(.fn 92 []), i32, i33, i34, i35, i36, i37, i38, i39])
  (br ((decide ((i7 : Int) > 0)))
  (∃ b40 : Bool, CallN Tryz.prog 92 [s4] [[i1, i2, i3, s4, i5, l6], [i7], [(.fn 92 []), i32, i33, i34, i35, i36, i37, i38, i39]] b40
  (br (b40)
  (∃ b41 : Bool, CallN Tryz.prog 79 [(.agg [i32, i33]), i5] [[i1, i2, i3, s4, i5, l6], [i7], [(.fn 92 []), i32, i33, i34, i35, i36, i37, i38, i39]] b41
  (br (b41)
  (∃ b42 : Bool, CallN Tryz.prog 34 [(.agg [i36, i37]), (.con (.int .i64 (List.length l6 : Int)))] [[i1, i2, i3, s4, i5, l6], [i7], [(.fn 92 []), i32, i33, i34, i35, i36, i37, i38, i39]] b42
  (br (b42)
  (∃ b43 : Bool, CallN Tryz.prog 107 [l6, (.fn 108 [(.ept [i7] 0)])] [[i1, i2, i3, s4, i5, l6], [], [(.fn 92 []), i32, i33, i34, i35, i36, i37, i38, i39]] b43
  (Q b43 [[i1, i2, i3, s4, i5, l6], [], [(.fn 92 []), i32, i33, i34, i35, i36, i37, i38, i39]]))
  (Q (.con (.bool false)) [[i1, i2, i3, s4, i5, l6], [i7], [(.fn 92 []), i32, i33, i34, i35, i36, i37, i38, i39]])))
  (Q (.con (.bool false)) [[i1, i2, i3, s4, i5, l6], [i7], [(.fn 92 []), i32, i33, i34, i35, i36, i37, i38, i39]])))
  (Q (.con (.bool false)) [[i1, i2, i3, s4, i5, l6], [i7], [(.fn 92 []), i32, i33, i34, i35, i36, i37, i38, i39]])))
  (Q (.con (.bool false)) [[i1, i2, i3, s4, i5, l6], [i7], [(.fn 92 []), i32, i33, i34, i35, i36, i37, i38, i39]]))) ∨ (∃ i44 : Int, ∃ i45 : Int, ∃ i46 : Int, ∃ i47 : Int, ∃ i48 : Int, ∃ i49 : Int, ∃ i50 : Int, ∃ i51 : Int, CallN Tryz.prog 106 [i1] [[i1, i2, i3, s4, i5, l6], [i7]] (.agg [(.fn 156 []), i44, i45, i46, i47, i48, i49, i50, i51])
  (br ((decide ((i7 : Int) > 0)))
  (∃ b52 : Bool, CallN Tryz.prog 156 [s4] [[i1, i2, i3, s4, i5, l6], [i7], [(.fn 156 []), i44, i45, i46, i47, i48, i49, i50, i51]] b52
  (br (b52)
  (∃ b53 : Bool, CallN Tryz.prog 79 [(.agg [i44, i45]), i5] [[i1, i2, i3, s4, i5, l6], [i7], [(.fn 156 []), i44, i45, i46, i47, i48, i49, i50, i51]] b53
  (br (b53)
  (∃ b54 : Bool, CallN Tryz.prog 34 [(.agg [i48, i49]), (.con (.int .i64 (List.length l6 : Int)))] [[i1, i2, i3, s4, i5, l6], [i7], [(.fn 156 []), i44, i45, i46, i47, i48, i49, i50, i51]] b54
  (br (b54)
  (∃ b55 : Bool, CallN Tryz.prog 107 [l6, (.fn 108 [(.ept [i7] 0)])] [[i1, i2, i3, s4, i5, l6], [], [(.fn 156 []), i44, i45, i46, i47, i48, i49, i50, i51]] b55
  (Q b55 [[i1, i2, i3, s4, i5, l6], [], [(.fn 156 []), i44, i45, i46, i47, i48, i49, i50, i51]]))
  (Q (.con (.bool false)) [[i1, i2, i3, s4, i5, l6], [i7], [(.fn 156 []), i44, i45, i46, i47, i48, i49, i50, i51]])))
  (Q (.con (.bool false)) [[i1, i2, i3, s4, i5, l6], [i7], [(.fn 156 []), i44, i45, i46, i47, i48, i49, i50, i51]])))
  (Q (.con (.bool false)) [[i1, i2, i3, s4, i5, l6], [i7], [(.fn 156 []), i44, i45, i46, i47, i48, i49, i50, i51]])))
  (Q (.con (.bool false)) [[i1, i2, i3, s4, i5, l6], [i7], [(.fn 156 []), i44, i45, i46, i47, i48, i49, i50, i51]])))
theorem a47 (i1 i2 i3 : Int) (s4 : ByteArray) (i5 : Int) (l6 : List (List PV)) (i7 : Int) (Q : PV → Heap → Prop) (h : p47 i1 i2 i3 s4 i5 l6 i7 Q) : ACalls Tryz.prog 47 [(.agg [i1, i2, i3, s4, i5, l6]), i7] [] Q := by
  have hb : Option.some (bodyOf Tryz.f47) = Tryz.f47.body := by kernel_rfl
  exact acalls_eq (S := S) (L := loops7) mixed tok Tryz.func47 hb.symm (by kernel_rfl) h
def p108c (i1 i2 i3 : Int) (s4 : ByteArray) (i5 : Int) (l6 : List (List PV)) (i7 : Int) (Q : PV → Heap → Prop) : Prop :=
∃ b8 : Bool, CallN Tryz.prog 47 [(.agg [i1, i2, i3, s4, i5, l6]), (IntKind.wrap .i64 (i7 - 1))] [[i1, i2, i3, s4, i5, l6]] b8
  (Q b8 [[i1, i2, i3, s4, i5, l6]])
theorem a108c (i1 i2 i3 : Int) (s4 : ByteArray) (i5 : Int) (l6 : List (List PV)) (i7 : Int) (Q : PV → Heap → Prop) (h : p108c i1 i2 i3 s4 i5 l6 i7 Q) : ACalls Tryz.prog 108 [(.agg [i1, i2, i3, s4, i5, l6]), (.ept [i7] 0)] [] Q := by
  have hb : Option.some (bodyOf Tryz.f108) = Tryz.f108.body := by kernel_rfl
  exact acalls_eq (S := S) (L := loops7) mixed tok Tryz.func108 hb.symm (by kernel_rfl) h
def p45 (i1 i2 i3 i4 : Int) (l5 : List (List PV)) (s6 : ByteArray) (l7 l8 : List (List PV)) (i9 : Int) (Q : PV → Heap → Prop) : Prop :=
(∃ i10 : Int, ∃ i11 : Int, ∃ i12 : Int, ∃ i13 : Int, ∃ i14 : Int, ∃ i15 : Int, ∃ i16 : Int, ∃ i17 : Int, CallN Tryz.prog 100 [i1, i4] [[i1, i2, i3, i4, l5, s6, l7, l8], [i9]] (.agg [(.fn 195 []), i10, i11, i12, i13, i14, i15, i16, i17])
  (br ((decide ((i9 : Int) > 0)))
  (∃ b18 : Bool, CallN Tryz.prog 195 [s6] [[i1, i2, i3, i4, l5, s6, l7, l8], [i9], [(.fn 195 []), i10, i11, i12, i13, i14, i15, i16, i17]] b18
  (br (b18)
  (∃ b19 : Bool, CallN Tryz.prog 79 [(.agg [i10, i11]), i4] [[i1, i2, i3, i4, l5, s6, l7, l8], [i9], [(.fn 195 []), i10, i11, i12, i13, i14, i15, i16, i17]] b19
  (br (b19)
  (∃ b20 : Bool, CallN Tryz.prog 34 [(.agg [i12, i13]), (.con (.int .i64 (List.length l5 : Int)))] [[i1, i2, i3, i4, l5, s6, l7, l8], [i9], [(.fn 195 []), i10, i11, i12, i13, i14, i15, i16, i17]] b20
  (br (b20)
  (∃ b21 : Bool, CallN Tryz.prog 34 [(.agg [i14, i15]), (.con (.int .i64 (List.length l7 : Int)))] [[i1, i2, i3, i4, l5, s6, l7, l8], [i9], [(.fn 195 []), i10, i11, i12, i13, i14, i15, i16, i17]] b21
  (br (b21)
  (∃ b22 : Bool, CallN Tryz.prog 34 [(.agg [i16, i17]), (.con (.int .i64 (List.length l8 : Int)))] [[i1, i2, i3, i4, l5, s6, l7, l8], [i9], [(.fn 195 []), i10, i11, i12, i13, i14, i15, i16, i17]] b22
  (br (b22)
  (∃ b23 : Bool, CallN Tryz.prog 101 [l7, (.fn 102 [(.ept [i9] 0)])] [[i1, i2, i3, i4, l5, s6, l7, l8], [], [(.fn 195 []), i10, i11, i12, i13, i14, i15, i16, i17]] b23
  (br (b23)
  (∃ b24 : Bool, CallN Tryz.prog 103 [l8, (.fn 104 [(.ept [i9] 0)])] [[i1, i2, i3, i4, l5, s6, l7, l8], [], [(.fn 195 []), i10, i11, i12, i13, i14, i15, i16, i17]] b24
  (Q b24 [[i1, i2, i3, i4, l5, s6, l7, l8], [], [(.fn 195 []), i10, i11, i12, i13, i14, i15, i16, i17]]))
  (Q (.con (.bool false)) [[i1, i2, i3, i4, l5, s6, l7, l8], [], [(.fn 195 []), i10, i11, i12, i13, i14, i15, i16, i17]])))
  (Q (.con (.bool false)) [[i1, i2, i3, i4, l5, s6, l7, l8], [i9], [(.fn 195 []), i10, i11, i12, i13, i14, i15, i16, i17]])))
  (Q (.con (.bool false)) [[i1, i2, i3, i4, l5, s6, l7, l8], [i9], [(.fn 195 []), i10, i11, i12, i13, i14, i15, i16, i17]])))
  (Q (.con (.bool false)) [[i1, i2, i3, i4, l5, s6, l7, l8], [i9], [(.fn 195 []), i10, i11, i12, i13, i14, i15, i16, i17]])))
  (Q (.con (.bool false)) [[i1, i2, i3, i4, l5, s6, l7, l8], [i9], [(.fn 195 []), i10, i11, i12, i13, i14, i15, i16, i17]])))
  (Q (.con (.bool false)) [[i1, i2, i3, i4, l5, s6, l7, l8], [i9], [(.fn 195 []), i10, i11, i12, i13, i14, i15, i16, i17]])))
  (Q (.con (.bool false)) [[i1, i2, i3, i4, l5, s6, l7, l8], [i9], [(.fn 195 []), i10, i11, i12, i13, i14, i15, i16, i17]]))) ∨ (∃ i25 : Int, ∃ i26 : Int, ∃ i27 : Int, ∃ i28 : Int, ∃ i29 : Int, ∃ i30 : Int, ∃ i31 : Int, ∃ i32 : Int, CallN Tryz.prog 100 [i1, i4] [[i1, i2, i3, i4, l5, s6, l7, l8], [i9]] (.agg [(.fn 164 []), i25, i26, i27, i28, i29, i30, i31, i32])
  (br ((decide ((i9 : Int) > 0)))
  (∃ b33 : Bool, CallN Tryz.prog 164 [s6] [[i1, i2, i3, i4, l5, s6, l7, l8], [i9], [(.fn 164 []), i25, i26, i27, i28, i29, i30, i31, i32]] b33
  (br (b33)
  (∃ b34 : Bool, CallN Tryz.prog 79 [(.agg [i25, i26]), i4] [[i1, i2, i3, i4, l5, s6, l7, l8], [i9], [(.fn 164 []), i25, i26, i27, i28, i29, i30, i31, i32]] b34
  (br (b34)
  (∃ b35 : Bool, CallN Tryz.prog 34 [(.agg [i27, i28]), (.con (.int .i64 (List.length l5 : Int)))] [[i1, i2, i3, i4, l5, s6, l7, l8], [i9], [(.fn 164 []), i25, i26, i27, i28, i29, i30, i31, i32]] b35
  (br (b35)
  (∃ b36 : Bool, CallN Tryz.prog 34 [(.agg [i29, i30]), (.con (.int .i64 (List.length l7 : Int)))] [[i1, i2, i3, i4, l5, s6, l7, l8], [i9], [(.fn 164 []), i25, i26, i27, i28, i29, i30, i31, i32]] b36
  (br (b36)
  (∃ b37 : Bool, CallN Tryz.prog 34 [(.agg [i31, i32]), (.con (.int .i64 (List.length l8 : Int)))] [[i1, i2, i3, i4, l5, s6, l7, l8], [i9], [(.fn 164 []), i25, i26, i27, i28, i29, i30, i31, i32]] b37
  (br (b37)
  (∃ b38 : Bool, CallN Tryz.prog 101 [l7, (.fn 102 [(.ept [i9] 0)])] [[i1, i2, i3, i4, l5, s6, l7, l8], [], [(.fn 164 []), i25, i26, i27, i28, i29, i30, i31, i32]] b38
  (br (b38)
  (∃ b39 : Bool, CallN Tryz.prog 103 [l8, (.fn 104 [(.ept [i9] 0)])] [[i1, i2, i3, i4, l5, s6, l7, l8], [], [(.fn 164 []), i25, i26, i27, i28, i29, i30, i31, i32]] b39
  (Q b39 [[i1, i2, i3, i4, l5, s6, l7, l8], [], [(.fn 164 []), i25, i26, i27, i28, i29, i30, i31, i32]]))
  (Q (.con (.bool false)) [[i1, i2, i3, i4, l5, s6, l7, l8], [], [(.fn 164 []), i25, i26, i27, i28, i29, i30, i31, i32]])))
  (Q (.con (.bool false)) [[i1, i2, i3, i4, l5, s6, l7, l8], [i9], [(.fn 164 []), i25, i26, i27, i28, i29, i30, i31, i32]])))
  (Q (.con (.bool false)) [[i1, i2, i3, i4, l5, s6, l7, l8], [i9], [(.fn 164 []), i25, i26, i27, i28, i29, i30, i31, i32]])))
  (Q (.con (.bool false)) [[i1, i2, i3, i4, l5, s6, l7, l8], [i9], [(.fn 164 []), i25, i26, i27, i28, i29, i30, i31, i32]])))
  (Q (.con (.bool false)) [[i1, i2, i3, i4, l5, s6, l7, l8], [i9], [(.fn 164 []), i25, i26, i27, i28, i29, i30, i31, i32]])))
  (Q (.con (.bool false)) [[i1, i2, i3, i4, l5, s6, l7, l8], [i9], [(.fn 164 []), i25, i26, i27, i28, i29, i30, i31, i32]])))
  (Q (.con (.bool false)) [[i1, i2, i3, i4, l5, s6, l7, l8], [i9], [(.fn 164 []), i25, i26, i27, i28, i29, i30, i31, i32]]))) ∨ (∃ i40 : Int, ∃ i41 : Int, ∃ i42 : Int, ∃ i43 : Int, ∃ i44 : Int, ∃ i45 : Int, ∃ i46 : Int, ∃ i47 : Int, CallN Tryz.prog 100 [i1, i4] [[i1, i2, i3, i4, l5, s6, l7, l8], [i9]] (.agg [(.fn 165 []), i40, i41, i42, i43, i44, i45, i46, i47])
  (br ((decide ((i9 : Int) > 0)))
  (∃ b48 : Bool, CallN Tryz.prog 165 [s6] [[i1, i2, i3, i4, l5, s6, l7, l8], [i9], [(.fn 165 []), i40, i41, i42, i43, i44, i45, i46, i47]] b48
  (br (b48)
  (∃ b49 : Bool, CallN Tryz.prog 79 [(.agg [i40, i41]), i4] [[i1, i2, i3, i4, l5, s6, l7, l8], [i9], [(.fn 165 []), i40, i41, i42, i43, i44, i45, i46, i47]] b49
  (br (b49)
  (∃ b50 : Bool, CallN Tryz.prog 34 [(.agg [i42, i43]), (.con (.int .i64 (List.length l5 : Int)))] [[i1, i2, i3, i4, l5, s6, l7, l8], [i9], [(.fn 165 []), i40, i41, i42, i43, i44, i45, i46, i47]] b50
  (br (b50)
  (∃ b51 : Bool, CallN Tryz.prog 34 [(.agg [i44, i45]), (.con (.int .i64 (List.length l7 : Int)))] [[i1, i2, i3, i4, l5, s6, l7, l8], [i9], [(.fn 165 []), i40, i41, i42, i43, i44, i45, i46, i47]] b51
  (br (b51)
  (∃ b52 : Bool, CallN Tryz.prog 34 [(.agg [i46, i47]), (.con (.int .i64 (List.length l8 : Int)))] [[i1, i2, i3, i4, l5, s6, l7, l8], [i9], [(.fn 165 []), i40, i41, i42, i43, i44, i45, i46, i47]] b52
  (br (b52)
  (∃ b53 : Bool, CallN Tryz.prog 101 [l7, (.fn 102 [(.ept [i9] 0)])] [[i1, i2, i3, i4, l5, s6, l7, l8], [], [(.fn 165 []), i40, i41, i42, i43, i44, i45, i46, i47]] b53
  (br (b53)
  (∃ b54 : Bool, CallN Tryz.prog 103 [l8, (.fn 104 [(.ept [i9] 0)])] [[i1, i2, i3, i4, l5, s6, l7, l8], [], [(.fn 165 []), i40, i41, i42, i43, i44, i45, i46, i47]] b54
  (Q b54 [[i1, i2, i3, i4, l5, s6, l7, l8], [], [(.fn 165 []), i40, i41, i42, i43, i44, i45, i46, i47]]))
  (Q (.con (.bool false)) [[i1, i2, i3, i4, l5, s6, l7, l8], [], [(.fn 165 []), i40, i41, i42, i43, i44, i45, i46, i47]])))
  (Q (.con (.bool false)) [[i1, i2, i3, i4, l5, s6, l7, l8], [i9], [(.fn 165 []), i40, i41, i42, i43, i44, i45, i46, i47]])))
  (Q (.con (.bool false)) [[i1, i2, i3, i4, l5, s6, l7, l8], [i9], [(.fn 165 []), i40, i41, i42, i43, i44, i45, i46, i47]])))
  (Q (.con (.bool false)) [[i1, i2, i3, i4, l5, s6, l7, l8], [i9], [(.fn 165 []), i40, i41, i42, i43, i44, i45, i46, i47]])))
  (Q (.con (.bool false)) [[i1, i2, i3, i4, l5, s6, l7, l8], [i9], [(.fn 165 []), i40, i41, i42, i43, i44, i45, i46, i47]])))
  (Q (.con (.bool false)) [[i1, i2, i3, i4, l5, s6, l7, l8], [i9], [(.fn 165 []), i40, i41, i42, i43, i44, i45, i46, i47]])))
  (Q (.con (.bool false)) [[i1, i2, i3, i4, l5, s6, l7, l8], [i9], [(.fn 165 []), i40, i41, i42, i43, i44, i45, i46, i47]]))) ∨ (∃ i55 : Int, ∃ i56 : Int, ∃ i57 : Int, ∃ i58 : Int, ∃ i59 : Int, ∃ i60 : Int, ∃ i61 : Int, ∃ i62 : Int, CallN Tryz.prog 100 [i1, i4] [[i1, i2, i3, i4, l5, s6, l7, l8], [i9]] (.agg [(.fn 156 []), i55, i56, i57, i58, i59, i60, i61, i62])
  (br ((decide ((i9 : Int) > 0)))
  (∃ b63 : Bool, CallN Tryz.prog 156 [s6] [[i1, i2, i3, i4, l5, s6, l7, l8], [i9], [(.fn 156 []), i55, i56, i57, i58, i59, i60, i61, i62]] b63
  (br (b63)
  (∃ b64 : Bool, CallN Tryz.prog 79 [(.agg [i55, i56]), i4] [[i1, i2, i3, i4, l5, s6, l7, l8], [i9], [(.fn 156 []), i55, i56, i57, i58, i59, i60, i61, i62]] b64
  (br (b64)
  (∃ b65 : Bool, CallN Tryz.prog 34 [(.agg [i57, i58]), (.con (.int .i64 (List.length l5 : Int)))] [[i1, i2, i3, i4, l5, s6, l7, l8], [i9], [(.fn 156 []), i55, i56, i57, i58, i59, i60, i61, i62]] b65
  (br (b65)
  (∃ b66 : Bool, CallN Tryz.prog 34 [(.agg [i59, i60]), (.con (.int .i64 (List.length l7 : Int)))] [[i1, i2, i3, i4, l5, s6, l7, l8], [i9], [(.fn 156 []), i55, i56, i57, i58, i59, i60, i61, i62]] b66
  (br (b66)
  (∃ b67 : Bool, CallN Tryz.prog 34 [(.agg [i61, i62]), (.con (.int .i64 (List.length l8 : Int)))] [[i1, i2, i3, i4, l5, s6, l7, l8], [i9], [(.fn 156 []), i55, i56, i57, i58, i59, i60, i61, i62]] b67
  (br (b67)
  (∃ b68 : Bool, CallN Tryz.prog 101 [l7, (.fn 102 [(.ept [i9] 0)])] [[i1, i2, i3, i4, l5, s6, l7, l8], [], [(.fn 156 []), i55, i56, i57, i58, i59, i60, i61, i62]] b68
  (br (b68)
  (∃ b69 : Bool, CallN Tryz.prog 103 [l8, (.fn 104 [(.ept [i9] 0)])] [[i1, i2, i3, i4, l5, s6, l7, l8], [], [(.fn 156 []), i55, i56, i57, i58, i59, i60, i61, i62]] b69
  (Q b69 [[i1, i2, i3, i4, l5, s6, l7, l8], [], [(.fn 156 []), i55, i56, i57, i58, i59, i60, i61, i62]]))
  (Q (.con (.bool false)) [[i1, i2, i3, i4, l5, s6, l7, l8], [], [(.fn 156 []), i55, i56, i57, i58, i59, i60, i61, i62]])))
  (Q (.con (.bool false)) [[i1, i2, i3, i4, l5, s6, l7, l8], [i9], [(.fn 156 []), i55, i56, i57, i58, i59, i60, i61, i62]])))
  (Q (.con (.bool false)) [[i1, i2, i3, i4, l5, s6, l7, l8], [i9], [(.fn 156 []), i55, i56, i57, i58, i59, i60, i61, i62]])))
  (Q (.con (.bool false)) [[i1, i2, i3, i4, l5, s6, l7, l8], [i9], [(.fn 156 []), i55, i56, i57, i58, i59, i60, i61, i62]])))
  (Q (.con (.bool false)) [[i1, i2, i3, i4, l5, s6, l7, l8], [i9], [(.fn 156 []), i55, i56, i57, i58, i59, i60, i61, i62]])))
  (Q (.con (.bool false)) [[i1, i2, i3, i4, l5, s6, l7, l8], [i9], [(.fn 156 []), i55, i56, i57, i58, i59, i60, i61, i62]])))
  (Q (.con (.bool false)) [[i1, i2, i3, i4, l5, s6, l7, l8], [i9], [(.fn 156 []), i55, i56, i57, i58, i59, i60, i61, i62]]))) ∨ (∃ i70 : Int, ∃ i71 : Int, ∃ i72 : Int, ∃ i73 : Int, ∃ i74 : Int, ∃ i75 : Int, ∃ i76 : Int, ∃ i77 : Int, CallN Tryz.prog 100 [i1, i4] [[i1, i2, i3, i4, l5, s6, l7, l8], [i9]] (.agg [(.fn 87 []), i70, i71, i72, i73, i74, i75, i76, i77])
  (br ((decide ((i9 : Int) > 0)))
  (∃ b78 : Bool, CallN Tryz.prog 87 [s6] [[i1, i2, i3, i4, l5, s6, l7, l8], [i9], [(.fn 87 []), i70, i71, i72, i73, i74, i75, i76, i77]] b78
  (br (b78)
  (∃ b79 : Bool, CallN Tryz.prog 79 [(.agg [i70, i71]), i4] [[i1, i2, i3, i4, l5, s6, l7, l8], [i9], [(.fn 87 []), i70, i71, i72, i73, i74, i75, i76, i77]] b79
  (br (b79)
  (∃ b80 : Bool, CallN Tryz.prog 34 [(.agg [i72, i73]), (.con (.int .i64 (List.length l5 : Int)))] [[i1, i2, i3, i4, l5, s6, l7, l8], [i9], [(.fn 87 []), i70, i71, i72, i73, i74, i75, i76, i77]] b80
  (br (b80)
  (∃ b81 : Bool, CallN Tryz.prog 34 [(.agg [i74, i75]), (.con (.int .i64 (List.length l7 : Int)))] [[i1, i2, i3, i4, l5, s6, l7, l8], [i9], [(.fn 87 []), i70, i71, i72, i73, i74, i75, i76, i77]] b81
  (br (b81)
  (∃ b82 : Bool, CallN Tryz.prog 34 [(.agg [i76, i77]), (.con (.int .i64 (List.length l8 : Int)))] [[i1, i2, i3, i4, l5, s6, l7, l8], [i9], [(.fn 87 []), i70, i71, i72, i73, i74, i75, i76, i77]] b82
  (br (b82)
  (∃ b83 : Bool, CallN Tryz.prog 101 [l7, (.fn 102 [(.ept [i9] 0)])] [[i1, i2, i3, i4, l5, s6, l7, l8], [], [(.fn 87 []), i70, i71, i72, i73, i74, i75, i76, i77]] b83
  (br (b83)
  (∃ b84 : Bool, CallN Tryz.prog 103 [l8, (.fn 104 [(.ept [i9] 0)])] [[i1, i2, i3, i4, l5, s6, l7, l8], [], [(.fn 87 []), i70, i71, i72, i73, i74, i75, i76, i77]] b84
  (Q b84 [[i1, i2, i3, i4, l5, s6, l7, l8], [], [(.fn 87 []), i70, i71, i72, i73, i74, i75, i76, i77]]))
  (Q (.con (.bool false)) [[i1, i2, i3, i4, l5, s6, l7, l8], [], [(.fn 87 []), i70, i71, i72, i73, i74, i75, i76, i77]])))
  (Q (.con (.bool false)) [[i1, i2, i3, i4, l5, s6, l7, l8], [i9], [(.fn 87 []), i70, i71, i72, i73, i74, i75, i76, i77]])))
  (Q (.con (.bool false)) [[i1, i2, i3, i4, l5, s6, l7, l8], [i9], [(.fn 87 []), i70, i71, i72, i73, i74, i75, i76, i77]])))
  (Q (.con (.bool false)) [[i1, i2, i3, i4, l5, s6, l7, l8], [i9], [(.fn 87 []), i70, i71, i72, i73, i74, i75, i76, i77]])))
  (Q (.con (.bool false)) [[i1, i2, i3, i4, l5, s6, l7, l8], [i9], [(.fn 87 []), i70, i71, i72, i73, i74, i75, i76, i77]])))
  (Q (.con (.bool false)) [[i1, i2, i3, i4, l5, s6, l7, l8], [i9], [(.fn 87 []), i70, i71, i72, i73, i74, i75, i76, i77]])))
  (Q (.con (.bool false)) [[i1, i2, i3, i4, l5, s6, l7, l8], [i9], [(.fn 87 []), i70, i71, i72, i73, i74, i75, i76, i77]]))) ∨ (∃ i85 : Int, ∃ i86 : Int, ∃ i87 : Int, ∃ i88 : Int, ∃ i89 : Int, ∃ i90 : Int, ∃ i91 : Int, ∃ i92 : Int, CallN Tryz.prog 100 [i1, i4] [[i1, i2, i3, i4, l5, s6, l7, l8], [i9]] (.agg [(.fn 92 []), i85, i86, i87, i88, i89, i90, i91, i92])
  (br ((decide ((i9 : Int) > 0)))
  (∃ b93 : Bool, CallN Tryz.prog 92 [s6] [[i1, i2, i3, i4, l5, s6, l7, l8], [i9], [(.fn 92 []), i85, i86, i87, i88, i89, i90, i91, i92]] b93
  (br (b93)
  (∃ b94 : Bool, CallN Tryz.prog 79 [(.agg [i85, i86]), i4] [[i1, i2, i3, i4, l5, s6, l7, l8], [i9], [(.fn 92 []), i85, i86, i87, i88, i89, i90, i91, i92]] b94
  (br (b94)
  (∃ b95 : Bool, CallN Tryz.prog 34 [(.agg [i87, i88]), (.con (.int .i64 (List.length l5 : Int)))] [[i1, i2, i3, i4, l5, s6, l7, l8], [i9], [(.fn 92 []), i85, i86, i87, i88, i89, i90, i91, i92]] b95
  (br (b95)
  (∃ b96 : Bool, CallN Tryz.prog 34 [(.agg [i89, i90]), (.con (.int .i64 (List.length l7 : Int)))] [[i1, i2, i3, i4, l5, s6, l7, l8], [i9], [(.fn 92 []), i85, i86, i87, i88, i89, i90, i91, i92]] b96
  (br (b96)
  (∃ b97 : Bool, CallN Tryz.prog 34 [(.agg [i91, i92]), (.con (.int .i64 (List.length l8 : Int)))] [[i1, i2, i3, i4, l5, s6, l7, l8], [i9], [(.fn 92 []), i85, i86, i87, i88, i89, i90, i91, i92]] b97
  (br (b97)
  (∃ b98 : Bool, CallN Tryz.prog 101 [l7, (.fn 102 [(.ept [i9] 0)])] [[i1, i2, i3, i4, l5, s6, l7, l8], [], [(.fn 92 []), i85, i86, i87, i88, i89, i90, i91, i92]] b98
  (br (b98)
  (∃ b99 : Bool, CallN Tryz.prog 103 [l8, (.fn 104 [(.ept [i9] 0)])] [[i1, i2, i3, i4, l5, s6, l7, l8], [], [(.fn 92 []), i85, i86, i87, i88, i89, i90, i91, i92]] b99
  (Q b99 [[i1, i2, i3, i4, l5, s6, l7, l8], [], [(.fn 92 []), i85, i86, i87, i88, i89, i90, i91, i92]]))
  (Q (.con (.bool false)) [[i1, i2, i3, i4, l5, s6, l7, l8], [], [(.fn 92 []), i85, i86, i87, i88, i89, i90, i91, i92]])))
  (Q (.con (.bool false)) [[i1, i2, i3, i4, l5, s6, l7, l8], [i9], [(.fn 92 []), i85, i86, i87, i88, i89, i90, i91, i92]])))
  (Q (.con (.bool false)) [[i1, i2, i3, i4, l5, s6, l7, l8], [i9], [(.fn 92 []), i85, i86, i87, i88, i89, i90, i91, i92]])))
  (Q (.con (.bool false)) [[i1, i2, i3, i4, l5, s6, l7, l8], [i9], [(.fn 92 []), i85, i86, i87, i88, i89, i90, i91, i92]])))
  (Q (.con (.bool false)) [[i1, i2, i3, i4, l5, s6, l7, l8], [i9], [(.fn 92 []), i85, i86, i87, i88, i89, i90, i91, i92]])))
  (Q (.con (.bool false)) [[i1, i2, i3, i4, l5, s6, l7, l8], [i9], [(.fn 92 []), i85, i86, i87, i88, i89, i90, i91, i92]])))
  (Q (.con (.bool false)) [[i1, i2, i3, i4, l5, s6, l7, l8], [i9], [(.fn 92 []), i85, i86, i87, i88, i89, i90, i91, i92]])))
theorem a45 (i1 i2 i3 i4 : Int) (l5 : List (List PV)) (s6 : ByteArray) (l7 l8 : List (List PV)) (i9 : Int) (Q : PV → Heap → Prop) (h : p45 i1 i2 i3 i4 l5 s6 l7 l8 i9 Q) : ACalls Tryz.prog 45 [(.agg [i1, i2, i3, i4, l5, s6, l7, l8]), i9] [] Q := by
  have hb : Option.some (bodyOf Tryz.f45) = Tryz.f45.body := by kernel_rfl
  exact acalls_eq (S := S) (L := loops7) mixed tok Tryz.func45 hb.symm (by kernel_rfl) h
def p14 (i1 i2 i3 i4 : Int) (l5 : List (List PV)) (s6 : ByteArray) (l7 l8 : List (List PV)) (Q : PV → Heap → Prop) : Prop :=
∃ b9 : Bool, CallN Tryz.prog 45 [(.agg [i1, i2, i3, i4, l5, s6, l7, l8]), (.con (.int .i64 64))] [[i1, i2, i3, i4, l5, s6, l7, l8]] b9
  (Q b9 [[i1, i2, i3, i4, l5, s6, l7, l8]])
theorem a14 (i1 i2 i3 i4 : Int) (l5 : List (List PV)) (s6 : ByteArray) (l7 l8 : List (List PV)) (Q : PV → Heap → Prop) (h : p14 i1 i2 i3 i4 l5 s6 l7 l8 Q) : ACalls Tryz.prog 14 [(.agg [i1, i2, i3, i4, l5, s6, l7, l8])] [] Q := by
  have hb : Option.some (bodyOf Tryz.f14) = Tryz.f14.body := by kernel_rfl
  exact acalls_eq (S := S) (L := loops7) mixed tok Tryz.func14 hb.symm (by kernel_rfl) h
def p102d (i1 i2 i3 i4 : Int) (l5 : List (List PV)) (s6 : ByteArray) (l7 l8 : List (List PV)) (i9 : Int) (Q : PV → Heap → Prop) : Prop :=
∃ b10 : Bool, CallN Tryz.prog 45 [(.agg [i1, i2, i3, i4, l5, s6, l7, l8]), (IntKind.wrap .i64 (i9 - 1))] [[i1, i2, i3, i4, l5, s6, l7, l8]] b10
  (Q b10 [[i1, i2, i3, i4, l5, s6, l7, l8]])
theorem a102d (i1 i2 i3 i4 : Int) (l5 : List (List PV)) (s6 : ByteArray) (l7 l8 : List (List PV)) (i9 : Int) (Q : PV → Heap → Prop) (h : p102d i1 i2 i3 i4 l5 s6 l7 l8 i9 Q) : ACalls Tryz.prog 102 [(.agg [i1, i2, i3, i4, l5, s6, l7, l8]), (.ept [i9] 0)] [] Q := by
  have hb : Option.some (bodyOf Tryz.f102) = Tryz.f102.body := by kernel_rfl
  exact acalls_eq (S := S) (L := loops7) mixed tok Tryz.func102 hb.symm (by kernel_rfl) h
def p104e (i1 i2 i3 : Int) (s4 : ByteArray) (i5 : Int) (l6 : List (List PV)) (i7 i8 i9 i10 : Int) (l11 : List (List PV)) (s12 : ByteArray) (l13 l14 : List (List PV)) (i15 : Int) (Q : PV → Heap → Prop) : Prop :=
∃ b16 : Bool, CallN Tryz.prog 47 [(.agg [i1, i2, i3, s4, i5, l6]), (IntKind.wrap .i64 (i15 - 1))] [[i1, i2, i3, s4, i5, l6, i7, i8, i9, i10, l11, s12, l13, l14]] b16
  (br (b16)
  (∃ b17 : Bool, CallN Tryz.prog 45 [(.agg [i7, i8, i9, i10, l11, s12, l13, l14]), (IntKind.wrap .i64 (i15 - 1))] [[i1, i2, i3, s4, i5, l6, i7, i8, i9, i10, l11, s12, l13, l14]] b17
  (Q b17 [[i1, i2, i3, s4, i5, l6, i7, i8, i9, i10, l11, s12, l13, l14]]))
  (Q (.con (.bool false)) [[i1, i2, i3, s4, i5, l6, i7, i8, i9, i10, l11, s12, l13, l14]]))
theorem a104e (i1 i2 i3 : Int) (s4 : ByteArray) (i5 : Int) (l6 : List (List PV)) (i7 i8 i9 i10 : Int) (l11 : List (List PV)) (s12 : ByteArray) (l13 l14 : List (List PV)) (i15 : Int) (Q : PV → Heap → Prop) (h : p104e i1 i2 i3 s4 i5 l6 i7 i8 i9 i10 l11 s12 l13 l14 i15 Q) : ACalls Tryz.prog 104 [(.agg [i1, i2, i3, s4, i5, l6, i7, i8, i9, i10, l11, s12, l13, l14]), (.ept [i15] 0)] [] Q := by
  have hb : Option.some (bodyOf Tryz.f104) = Tryz.f104.body := by kernel_rfl
  exact acalls_eq (S := S) (L := loops7) mixed tok Tryz.func104 hb.symm (by kernel_rfl) h
def p100 (i1 i2 : Int) (Q : PV → Heap → Prop) : Prop :=
∃ i3 : Int, ∃ i4 : Int, ∃ i5 : Int, ∃ i6 : Int, ∃ i7 : Int, ∃ i8 : Int, ∃ i9 : Int, ∃ i10 : Int, CallN Tryz.prog 163 [] [[(.con .nilFunc), (.con (.int .i64 0)), (.con (.int .i64 0)), (.con (.int .i64 0)), (.con (.int .i64 0)), (.con (.int .i64 0)), (.con (.int .i64 0)), (.con (.int .i64 0)), (.con (.int .i64 0))]] (.agg [(.fn 195 []), i3, i4, i5, i6, i7, i8, i9, i10])
  (br (((i1 : Int) == 0))
  (∃ i11 : Int, ∃ i12 : Int, CallN Tryz.prog 33 [(.con (.int .i64 (-4611686018427387903))), (.con (.int .i64 4611686018427387903))] [[(.con .nilFunc), (.con (.int .i64 0)), (.con (.int .i64 0)), (.con (.int .i64 0)), (.con (.int .i64 0)), (.con (.int .i64 0)), (.con (.int .i64 0)), (.con (.int .i64 0)), (.con (.int .i64 0))], [(.fn 195 []), i3, i4, i5, i6, i7, i8, i9, i10]] (.agg [i11, i12])
  (Q (.agg [(.fn 164 []), i11, i12, i5, i6, i7, i8, i9, i10]) [[(.fn 164 []), i11, i12, i5, i6, i7, i8, i9, i10], [(.fn 164 []), i11, i12, i5, i6, i7, i8, i9, i10]]))
  (br (((i1 : Int) == 1))
  (∃ i13 : Int, ∃ i14 : Int, CallN Tryz.prog 33 [(.con (.int .i64 0)), (.con (.int .i64 64))] [[(.con .nilFunc), (.con (.int .i64 0)), (.con (.int .i64 0)), (.con (.int .i64 0)), (.con (.int .i64 0)), (.con (.int .i64 0)), (.con (.int .i64 0)), (.con (.int .i64 0)), (.con (.int .i64 0))], [(.fn 195 []), i3, i4, i5, i6, i7, i8, i9, i10]] (.agg [i13, i14])
  (Q (.agg [(.fn 164 []), i3, i4, i13, i14, i7, i8, i9, i10]) [[(.fn 164 []), i3, i4, i13, i14, i7, i8, i9, i10], [(.fn 164 []), i3, i4, i13, i14, i7, i8, i9, i10]]))
  (br (((i1 : Int) == 2))
  (Q (.agg [(.fn 165 []), i3, i4, i5, i6, i7, i8, i9, i10]) [[(.fn 165 []), i3, i4, i5, i6, i7, i8, i9, i10], [(.fn 165 []), i3, i4, i5, i6, i7, i8, i9, i10]])
  (br (((i1 : Int) == 3))
  (∃ i15 : Int, ∃ i16 : Int, CallN Tryz.prog 33 [(.con (.int .i64 0)), (.con (.int .i64 6))] [[(.con .nilFunc), (.con (.int .i64 0)), (.con (.int .i64 0)), (.con (.int .i64 0)), (.con (.int .i64 0)), (.con (.int .i64 0)), (.con (.int .i64 0)), (.con (.int .i64 0)), (.con (.int .i64 0))], [(.fn 195 []), i3, i4, i5, i6, i7, i8, i9, i10]] (.agg [i15, i16])
  (Q (.agg [(.fn 156 []), i3, i4, i5, i6, i15, i16, i9, i10]) [[(.fn 156 []), i3, i4, i5, i6, i15, i16, i9, i10], [(.fn 156 []), i3, i4, i5, i6, i15, i16, i9, i10]]))
  (br (((i1 : Int) == 4))
  (∃ i17 : Int, ∃ i18 : Int, CallN Tryz.prog 33 [(.con (.int .i64 2)), (.con (.int .i64 6))] [[(.con .nilFunc), (.con (.int .i64 0)), (.con (.int .i64 0)), (.con (.int .i64 0)), (.con (.int .i64 0)), (.con (.int .i64 0)), (.con (.int .i64 0)), (.con (.int .i64 0)), (.con (.int .i64 0))], [(.fn 195 []), i3, i4, i5, i6, i7, i8, i9, i10]] (.agg [i17, i18])
  (Q (.agg [(.fn 164 []), i3, i4, i5, i6, i17, i18, i9, i10]) [[(.fn 164 []), i3, i4, i5, i6, i17, i18, i9, i10], [(.fn 164 []), i3, i4, i5, i6, i17, i18, i9, i10]]))
  (br (((i1 : Int) == 5))
  (∃ i19 : Int, ∃ i20 : Int, CallN Tryz.prog 33 [(.con (.int .i64 1)), (.con (.int .i64 6))] [[(.con .nilFunc), (.con (.int .i64 0)), (.con (.int .i64 0)), (.con (.int .i64 0)), (.con (.int .i64 0)), (.con (.int .i64 0)), (.con (.int .i64 0)), (.con (.int .i64 0)), (.con (.int .i64 0))], [(.fn 195 []), i3, i4, i5, i6, i7, i8, i9, i10]] (.agg [i19, i20])
  (Q (.agg [(.fn 87 []), i3, i4, i5, i6, i19, i20, i9, i10]) [[(.fn 87 []), i3, i4, i5, i6, i19, i20, i9, i10], [(.fn 87 []), i3, i4, i5, i6, i19, i20, i9, i10]]))
  (br (((i1 : Int) == 6))
  (∃ i21 : Int, ∃ i22 : Int, CallN Tryz.prog 166 [(.con (.int .i64 2))] [[(.con .nilFunc), (.con (.int .i64 0)), (.con (.int .i64 0)), (.con (.int .i64 0)), (.con (.int .i64 0)), (.con (.int .i64 0)), (.con (.int .i64 0)), (.con (.int .i64 0)), (.con (.int .i64 0))], [(.fn 195 []), i3, i4, i5, i6, i7, i8, i9, i10]] (.agg [i21, i22])
  (Q (.agg [(.fn 92 []), i3, i4, i5, i6, i21, i22, i9, i10]) [[(.fn 92 []), i3, i4, i5, i6, i21, i22, i9, i10], [(.fn 92 []), i3, i4, i5, i6, i21, i22, i9, i10]]))
  (br (((i1 : Int) == 7))
  (∃ i23 : Int, ∃ i24 : Int, CallN Tryz.prog 166 [(.con (.int .i64 3))] [[(.con .nilFunc), (.con (.int .i64 0)), (.con (.int .i64 0)), (.con (.int .i64 0)), (.con (.int .i64 0)), (.con (.int .i64 0)), (.con (.int .i64 0)), (.con (.int .i64 0)), (.con (.int .i64 0))], [(.fn 195 []), i3, i4, i5, i6, i7, i8, i9, i10]] (.agg [i23, i24])
  (Q (.agg [(.fn 164 []), i3, i4, i5, i6, i23, i24, i9, i10]) [[(.fn 164 []), i3, i4, i5, i6, i23, i24, i9, i10], [(.fn 164 []), i3, i4, i5, i6, i23, i24, i9, i10]]))
  (br (((i1 : Int) == 8))
  (∃ i25 : Int, ∃ i26 : Int, CallN Tryz.prog 166 [(.con (.int .i64 1))] [[(.con .nilFunc), (.con (.int .i64 0)), (.con (.int .i64 0)), (.con (.int .i64 0)), (.con (.int .i64 0)), (.con (.int .i64 0)), (.con (.int .i64 0)), (.con (.int .i64 0)), (.con (.int .i64 0))], [(.fn 195 []), i3, i4, i5, i6, i7, i8, i9, i10]] (.agg [i25, i26])
  (∃ i27 : Int, ∃ i28 : Int, CallN Tryz.prog 33 [(.con (.int .i64 1)), (.con (.int .i64 32))] [[(.con .nilFunc), (.con (.int .i64 0)), (.con (.int .i64 0)), (.con (.int .i64 0)), (.con (.int .i64 0)), (.con (.int .i64 0)), (.con (.int .i64 0)), (.con (.int .i64 0)), (.con (.int .i64 0))], [(.fn 195 []), i3, i4, i5, i6, i7, i8, i9, i10]] (.agg [i27, i28])
  (Q (.agg [(.fn 164 []), i3, i4, i5, i6, i25, i26, i27, i28]) [[(.fn 164 []), i3, i4, i5, i6, i25, i26, i27, i28], [(.fn 164 []), i3, i4, i5, i6, i25, i26, i27, i28]])))
  (br (((i1 : Int) == 9))
  (∃ i29 : Int, ∃ i30 : Int, CallN Tryz.prog 33 [(.con (.int .i64 0)), (.con (.int .i64 11))] [[(.con .nilFunc), (.con (.int .i64 0)), (.con (.int .i64 0)), (.con (.int .i64 0)), (.con (.int .i64 0)), (.con (.int .i64 0)), (.con (.int .i64 0)), (.con (.int .i64 0)), (.con (.int .i64 0))], [(.fn 195 []), i3, i4, i5, i6, i7, i8, i9, i10]] (.agg [i29, i30])
  (∃ i31 : Int, CallN Tryz.prog 167 [i2] [[(.con .nilFunc), (.con (.int .i64 0)), (.con (.int .i64 0)), (.con (.int .i64 0)), (.con (.int .i64 0)), (.con (.int .i64 0)), (.con (.int .i64 0)), (.con (.int .i64 0)), (.con (.int .i64 0))], [(.fn 195 []), i3, i4, i5, i6, i7, i8, i9, i10]] i31
  (∃ i32 : Int, ∃ i33 : Int, CallN Tryz.prog 166 [i31] [[(.con .nilFunc), (.con (.int .i64 0)), (.con (.int .i64 0)), (.con (.int .i64 0)), (.con (.int .i64 0)), (.con (.int .i64 0)), (.con (.int .i64 0)), (.con (.int .i64 0)), (.con (.int .i64 0))], [(.fn 195 []), i3, i4, i5, i6, i7, i8, i9, i10]] (.agg [i32, i33])
  (Q (.agg [(.fn 164 []), i29, i30, i5, i6, i32, i33, i9, i10]) [[(.fn 164 []), i29, i30, i5, i6, i32, i33, i9, i10], [(.fn 164 []), i29, i30, i5, i6, i32, i33, i9, i10]]))))
  (br (((i1 : Int) == 10))
  (∃ i34 : Int, ∃ i35 : Int, CallN Tryz.prog 33 [(.con (.int .i64 0)), (.con (.int .i64 1000))] [[(.con .nilFunc), (.con (.int .i64 0)), (.con (.int .i64 0)), (.con (.int .i64 0)), (.con (.int .i64 0)), (.con (.int .i64 0)), (.con (.int .i64 0)), (.con (.int .i64 0)), (.con (.int .i64 0))], [(.fn 195 []), i3, i4, i5, i6, i7, i8, i9, i10]] (.agg [i34, i35])
  (∃ i36 : Int, ∃ i37 : Int, CallN Tryz.prog 166 [(.con (.int .i64 2))] [[(.con .nilFunc), (.con (.int .i64 0)), (.con (.int .i64 0)), (.con (.int .i64 0)), (.con (.int .i64 0)), (.con (.int .i64 0)), (.con (.int .i64 0)), (.con (.int .i64 0)), (.con (.int .i64 0))], [(.fn 195 []), i3, i4, i5, i6, i7, i8, i9, i10]] (.agg [i36, i37])
  (Q (.agg [(.fn 92 []), i34, i35, i5, i6, i36, i37, i9, i10]) [[(.fn 92 []), i34, i35, i5, i6, i36, i37, i9, i10], [(.fn 92 []), i34, i35, i5, i6, i36, i37, i9, i10]])))
  (Q (.agg [(.fn 195 []), i3, i4, i5, i6, i7, i8, i9, i10]) [[(.fn 195 []), i3, i4, i5, i6, i7, i8, i9, i10], [(.fn 195 []), i3, i4, i5, i6, i7, i8, i9, i10]]))))))))))))
theorem a100 (i1 i2 : Int) (Q : PV → Heap → Prop) (h : p100 i1 i2 Q) : ACalls Tryz.prog 100 [i1, i2] [] Q := by
  have hb : Option.some (bodyOf Tryz.f100) = Tryz.f100.body := by kernel_rfl
  exact acalls_eq (S := S) (L := loops7) mixed tok Tryz.func100 hb.symm (by kernel_rfl) h
def p107c (l1 : List (List PV)) (i2 : Int) (Q : PV → Heap → Prop) : Prop :=
∃ b3 : Bool, CallN Tryz.prog 171 [l1, (.con (.bool true)), (.fn 172 [(.ept [(.fn 108 [(.ept [i2] 0)])] 0)])] [[]] b3
  (Q b3 [[]])
theorem a107c (l1 : List (List PV)) (i2 : Int) (Q : PV → Heap → Prop) (h : p107c l1 i2 Q) : ACalls Tryz.prog 107 [l1, (.fn 108 [(.ept [i2] 0)])] [] Q := by
  have hb : Option.some (bodyOf Tryz.f107) = Tryz.f107.body := by kernel_rfl
  exact acalls_eq (S := S) (L := loops7) mixed tok Tryz.func107 hb.symm (by kernel_rfl) h
def loops171c (id : Nat) : Option (List Nat × List (Nat × Sh)) := match Nat.beq id 2 with | true => some ([2, 9, 10], [(1, .bool), (11, .int .i64)]) | false => none
def p171c (l1 : List (List PV)) (b2 : Bool) (i3 : Int) (Q : PV → Heap → Prop) : Prop :=
∃ I4 : Nat → ((Bool) × (Int) × Unit) → Prop, (∃ n, I4 n (b2, 0, ())) ∧ ∀ (n5 : Nat) (v6 : (Bool) × (Int) × Unit), I4 n5 v6 →
  (br ((decide ((v6.2.1 : Int) < (List.length l1 : Int))))
  (∃ i7 : Int, ∃ i8 : Int, ∃ i9 : Int, ∃ s10 : ByteArray, ∃ i11 : Int, ∃ l12 : List (List PV), IdxN l1 v6.2.1 [i7, i8, i9, s10, i11, l12]
  (∃ b13 : Bool, CallN Tryz.prog 172 [v6.1, v6.2.1, (.agg [i7, i8, i9, s10, i11, l12]), (.ept [(.fn 108 [(.ept [i3] 0)])] 0)] [[i7, i8, i9, s10, i11, l12]] b13
  ((@Eq PV (.fn 172 [(.ept [(.fn 108 [(.ept [i3] 0)])] 0)]) (.fn 172 [(.ept [(.fn 108 [(.ept [i3] 0)])] 0)]) ∧ @Eq PV l1 l1 ∧ @Eq PV (.con (.int .i64 (List.length l1 : Int))) (.con (.int .i64 (List.length l1 : Int))) ∧ True) ∧ @Eq Heap [] [] ∧ ∃ k14, k14 < n5 ∧ I4 k14 (b13, (IntKind.wrap .i64 (v6.2.1 + 1)), ()))))
  (Q v6.1 []))
theorem a171c (l1 : List (List PV)) (b2 : Bool) (i3 : Int) (Q : PV → Heap → Prop) (h : p171c l1 b2 i3 Q) : ACalls Tryz.prog 171 [l1, b2, (.fn 172 [(.ept [(.fn 108 [(.ept [i3] 0)])] 0)])] [] Q := by
  have hb : Option.some (bodyOf Tryz.f171) = Tryz.f171.body := by kernel_rfl
  exact acalls_eq (S := S) (L := loops171c) mixed tok Tryz.func171 hb.symm (by kernel_rfl) h
def p172c (b1 : Bool) (i2 i3 i4 i5 : Int) (s6 : ByteArray) (i7 : Int) (l8 : List (List PV)) (i9 : Int) (Q : PV → Heap → Prop) : Prop :=
br (b1)
  (∃ b10 : Bool, CallN Tryz.prog 108 [(.agg [i3, i4, i5, s6, i7, l8]), (.ept [i9] 0)] [[i3, i4, i5, s6, i7, l8]] b10
  (Q b10 [[i3, i4, i5, s6, i7, l8]]))
  (Q (.con (.bool false)) [[i3, i4, i5, s6, i7, l8]])
theorem a172c (b1 : Bool) (i2 i3 i4 i5 : Int) (s6 : ByteArray) (i7 : Int) (l8 : List (List PV)) (i9 : Int) (Q : PV → Heap → Prop) (h : p172c b1 i2 i3 i4 i5 s6 i7 l8 i9 Q) : ACalls Tryz.prog 172 [b1, i2, (.agg [i3, i4, i5, s6, i7, l8]), (.ept [(.fn 108 [(.ept [i9] 0)])] 0)] [] Q := by
  have hb : Option.some (bodyOf Tryz.f172) = Tryz.f172.body := by kernel_rfl
  exact acalls_eq (S := S) (L := loops7) mixed tok Tryz.func172 hb.symm (by kernel_rfl) h
def p101d (l1 : List (List PV)) (i2 : Int) (Q : PV → Heap → Prop) : Prop :=
∃ b3 : Bool, CallN Tryz.prog 149 [l1, (.con (.bool true)), (.fn 168 [(.ept [(.fn 102 [(.ept [i2] 0)])] 0)])] [[]] b3
  (Q b3 [[]])
theorem a101d (l1 : List (List PV)) (i2 : Int) (Q : PV → Heap → Prop) (h : p101d l1 i2 Q) : ACalls Tryz.prog 101 [l1, (.fn 102 [(.ept [i2] 0)])] [] Q := by
  have hb : Option.some (bodyOf Tryz.f101) = Tryz.f101.body := by kernel_rfl
  exact acalls_eq (S := S) (L := loops7) mixed tok Tryz.func101 hb.symm (by kernel_rfl) h
def loops149d (id : Nat) : Option (List Nat × List (Nat × Sh)) := match Nat.beq id 2 with | true => some ([2, 9, 10], [(1, .bool), (11, .int .i64)]) | false => none
def p149d (l1 : List (List PV)) (b2 : Bool) (i3 : Int) (Q : PV → Heap → Prop) : Prop :=
∃ I4 : Nat → ((Bool) × (Int) × Unit) → Prop, (∃ n, I4 n (b2, 0, ())) ∧ ∀ (n5 : Nat) (v6 : (Bool) × (Int) × Unit), I4 n5 v6 →
  (br ((decide ((v6.2.1 : Int) < (List.length l1 : Int))))
  (∃ i7 : Int, ∃ i8 : Int, ∃ i9 : Int, ∃ i10 : Int, ∃ l11 : List (List PV), ∃ s12 : ByteArray, ∃ l13 : List (List PV), ∃ l14 : List (List PV), IdxN l1 v6.2.1 [i7, i8, i9, i10, l11, s12, l13, l14]
  (∃ b15 : Bool, CallN Tryz.prog 168 [v6.1, v6.2.1, (.agg [i7, i8, i9, i10, l11, s12, l13, l14]), (.ept [(.fn 102 [(.ept [i3] 0)])] 0)] [[i7, i8, i9, i10, l11, s12, l13, l14]] b15
  ((@Eq PV (.fn 168 [(.ept [(.fn 102 [(.ept [i3] 0)])] 0)]) (.fn 168 [(.ept [(.fn 102 [(.ept [i3] 0)])] 0)]) ∧ @Eq PV l1 l1 ∧ @Eq PV (.con (.int .i64 (List.length l1 : Int))) (.con (.int .i64 (List.length l1 : Int))) ∧ True) ∧ @Eq Heap [] [] ∧ ∃ k16, k16 < n5 ∧ I4 k16 (b15, (IntKind.wrap .i64 (v6.2.1 + 1)), ()))))
  (Q v6.1 []))
theorem a149d (l1 : List (List PV)) (b2 : Bool) (i3 : Int) (Q : PV → Heap → Prop) (h : p149d l1 b2 i3 Q) : ACalls Tryz.prog 149 [l1, b2, (.fn 168 [(.ept [(.fn 102 [(.ept [i3] 0)])] 0)])] [] Q := by
  have hb : Option.some (bodyOf Tryz.f149) = Tryz.f149.body := by kernel_rfl
  exact acalls_eq (S := S) (L := loops149d) mixed tok Tryz.func149 hb.symm (by kernel_rfl) h
def p168d (b1 : Bool) (i2 i3 i4 i5 i6 : Int) (l7 : List (List PV)) (s8 : ByteArray) (l9 l10 : List (List PV)) (i11 : Int) (Q : PV → Heap → Prop) : Prop :=
br (b1)
  (∃ b12 : Bool, CallN Tryz.prog 102 [(.agg [i3, i4, i5, i6, l7, s8, l9, l10]), (.ept [i11] 0)] [[i3, i4, i5, i6, l7, s8, l9, l10]] b12
  (Q b12 [[i3, i4, i5, i6, l7, s8, l9, l10]]))
  (Q (.con (.bool false)) [[i3, i4, i5, i6, l7, s8, l9, l10]])
theorem a168d (b1 : Bool) (i2 i3 i4 i5 i6 : Int) (l7 : List (List PV)) (s8 : ByteArray) (l9 l10 : List (List PV)) (i11 : Int) (Q : PV → Heap → Prop) (h : p168d b1 i2 i3 i4 i5 i6 l7 s8 l9 l10 i11 Q) : ACalls Tryz.prog 168 [b1, i2, (.agg [i3, i4, i5, i6, l7, s8, l9, l10]), (.ept [(.fn 102 [(.ept [i11] 0)])] 0)] [] Q := by
  have hb : Option.some (bodyOf Tryz.f168) = Tryz.f168.body := by kernel_rfl
  exact acalls_eq (S := S) (L := loops7) mixed tok Tryz.func168 hb.symm (by kernel_rfl) h
def p103e (l1 : List (List PV)) (i2 : Int) (Q : PV → Heap → Prop) : Prop :=
∃ b3 : Bool, CallN Tryz.prog 151 [l1, (.con (.bool true)), (.fn 169 [(.ept [(.fn 104 [(.ept [i2] 0)])] 0)])] [[]] b3
  (Q b3 [[]])
theorem a103e (l1 : List (List PV)) (i2 : Int) (Q : PV → Heap → Prop) (h : p103e l1 i2 Q) : ACalls Tryz.prog 103 [l1, (.fn 104 [(.ept [i2] 0)])] [] Q := by
  have hb : Option.some (bodyOf Tryz.f103) = Tryz.f103.body := by kernel_rfl
  exact acalls_eq (S := S) (L := loops7) mixed tok Tryz.func103 hb.symm (by kernel_rfl) h
def loops151e (id : Nat) : Option (List Nat × List (Nat × Sh)) := match Nat.beq id 2 with | true => some ([2, 9, 10], [(1, .bool), (11, .int .i64)]) | false => none
def p151e (l1 : List (List PV)) (b2 : Bool) (i3 : Int) (Q : PV → Heap → Prop) : Prop :=
∃ I4 : Nat → ((Bool) × (Int) × Unit) → Prop, (∃ n, I4 n (b2, 0, ())) ∧ ∀ (n5 : Nat) (v6 : (Bool) × (Int) × Unit), I4 n5 v6 →
  (br ((decide ((v6.2.1 : Int) < (List.length l1 : Int))))
  (∃ i7 : Int, ∃ i8 : Int, ∃ i9 : Int, ∃ s10 : ByteArray, ∃ i11 : Int, ∃ l12 : List (List PV), ∃ i13 : Int, ∃ i14 : Int, ∃ i15 : Int, ∃ i16 : Int, ∃ l17 : List (List PV), ∃ s18 : ByteArray, ∃ l19 : List (List PV), ∃ l20 : List (List PV), IdxN l1 v6.2.1 [i7, i8, i9, s10, i11, l12, i13, i14, i15, i16, l17, s18, l19, l20]
  (∃ b21 : Bool, CallN Tryz.prog 169 [v6.1, v6.2.1, (.agg [i7, i8, i9, s10, i11, l12, i13, i14, i15, i16, l17, s18, l19, l20]), (.ept [(.fn 104 [(.ept [i3] 0)])] 0)] [[i7, i8, i9, s10, i11, l12, i13, i14, i15, i16, l17, s18, l19, l20]] b21
  ((@Eq PV (.fn 169 [(.ept [(.fn 104 [(.ept [i3] 0)])] 0)]) (.fn 169 [(.ept [(.fn 104 [(.ept [i3] 0)])] 0)]) ∧ @Eq PV l1 l1 ∧ @Eq PV (.con (.int .i64 (List.length l1 : Int))) (.con (.int .i64 (List.length l1 : Int))) ∧ True) ∧ @Eq Heap [] [] ∧ ∃ k22, k22 < n5 ∧ I4 k22 (b21, (IntKind.wrap .i64 (v6.2.1 + 1)), ()))))
  (Q v6.1 []))
theorem a151e (l1 : List (List PV)) (b2 : Bool) (i3 : Int) (Q : PV → Heap → Prop) (h : p151e l1 b2 i3 Q) : ACalls Tryz.prog 151 [l1, b2, (.fn 169 [(.ept [(.fn 104 [(.ept [i3] 0)])] 0)])] [] Q := by
  have hb : Option.some (bodyOf Tryz.f151) = Tryz.f151.body := by kernel_rfl
  exact acalls_eq (S := S) (L := loops151e) mixed tok Tryz.func151 hb.symm (by kernel_rfl) h
def p169e (b1 : Bool) (i2 i3 i4 i5 : Int) (s6 : ByteArray) (i7 : Int) (l8 : List (List PV)) (i9 i10 i11 i12 : Int) (l13 : List (List PV)) (s14 : ByteArray) (l15 l16 : List (List PV)) (i17 : Int) (Q : PV → Heap → Prop) : Prop :=
br (b1)
  (∃ b18 : Bool, CallN Tryz.prog 104 [(.agg [i3, i4, i5, s6, i7, l8, i9, i10, i11, i12, l13, s14, l15, l16]), (.ept [i17] 0)] [[i3, i4, i5, s6, i7, l8, i9, i10, i11, i12, l13, s14, l15, l16]] b18
  (Q b18 [[i3, i4, i5, s6, i7, l8, i9, i10, i11, i12, l13, s14, l15, l16]]))
  (Q (.con (.bool false)) [[i3, i4, i5, s6, i7, l8, i9, i10, i11, i12, l13, s14, l15, l16]])
theorem a169e (b1 : Bool) (i2 i3 i4 i5 : Int) (s6 : ByteArray) (i7 : Int) (l8 : List (List PV)) (i9 i10 i11 i12 : Int) (l13 : List (List PV)) (s14 : ByteArray) (l15 l16 : List (List PV)) (i17 : Int) (Q : PV → Heap → Prop) (h : p169e b1 i2 i3 i4 i5 s6 i7 l8 i9 i10 i11 i12 l13 s14 l15 l16 i17 Q) : ACalls Tryz.prog 169 [b1, i2, (.agg [i3, i4, i5, s6, i7, l8, i9, i10, i11, i12, l13, s14, l15, l16]), (.ept [(.fn 104 [(.ept [i17] 0)])] 0)] [] Q := by
  have hb : Option.some (bodyOf Tryz.f169) = Tryz.f169.body := by kernel_rfl
  exact acalls_eq (S := S) (L := loops7) mixed tok Tryz.func169 hb.symm (by kernel_rfl) h
end Go.Proofs.YtcmnjodjebcapaaGreat.Deep

namespace Go.Proofs.YtcmnjodjebcapaaGreat.Deep
open Go.RowKit
set_option linter.unusedVariables false
set_option linter.unusedSimpArgs false
theorem clo_c (b c : Bool) (i : Int) (x0 : Int) (x1 : Int) (x2 : Int) (x3 : ByteArray) (x4 : Int) (x5 : List (List PV)) (d : Int) (h : PCalls Tryz.prog 108 [.agg [.con (.int .i64 x0), .con (.int .i64 x1), .con (.int .i64 x2), .con (.string x3), .con (.int .i64 x4), .sl x5], .ept [.con (.int .i64 d)] 0] (fun r => r = .con (.bool c))) : PCalls Tryz.prog 172 [.con (.bool b), .con (.int .i64 i), .agg [.con (.int .i64 x0), .con (.int .i64 x1), .con (.int .i64 x2), .con (.string x3), .con (.int .i64 x4), .sl x5], .ept [.fn 108 [.ept [.con (.int .i64 d)] 0]] 0] (fun r => r = .con (.bool (b && c))) := by
  refine a172c _ _ _ _ _ _ _ _ _ _ ?_
  unfold p172c
  refine br_i (fun hb => ?_) (fun hb => ⟨by rw [hb]; rfl, rfl⟩)
  exact ⟨_, call_p (enters_of Tryz.func108 (by kernel_rfl) rfl) h rfl ⟨by rw [hb]; rfl, rfl⟩⟩
theorem fold_c (l : List (List PV)) (n : Nat) (hn : l.length = n) (hm : n ≤ 9223372036854775806) (d : Int) (q : Nat → Bool) (H : ∀ j, j < n → ∃ x0 : Int, ∃ x1 : Int, ∃ x2 : Int, ∃ x3 : ByteArray, ∃ x4 : Int, ∃ x5 : List (List PV), l[j]? = some [.con (.int .i64 x0), .con (.int .i64 x1), .con (.int .i64 x2), .con (.string x3), .con (.int .i64 x4), .sl x5] ∧ PCalls Tryz.prog 108 [.agg [.con (.int .i64 x0), .con (.int .i64 x1), .con (.int .i64 x2), .con (.string x3), .con (.int .i64 x4), .sl x5], .ept [.con (.int .i64 d)] 0] (fun r => r = .con (.bool (q j)))) (b0 : Bool) : PCalls Tryz.prog 171 [.sl l, .con (.bool b0), .fn 172 [.ept [.fn 108 [.ept [.con (.int .i64 d)] 0]] 0]] (fun r => r = .con (.bool (AllTo b0 q n))) := by
  refine a171c _ _ _ _ ?_
  unfold p171c
  rw [hn]
  refine ⟨fun c v => ∃ j : Nat, j ≤ n ∧ c = n - j ∧ v.2.1 = (j : Int) ∧ v.1 = AllTo b0 q j, ⟨_, 0, Nat.zero_le _, rfl, rfl, by simp [AllTo]⟩, ?_⟩
  rintro c ⟨b, i, u⟩ ⟨j, hj, rfl, hi, hb⟩
  dsimp only at hi hb ⊢
  subst hi hb
  refine br_i (fun hlt => ?_) (fun hge => ?_)
  · have hlt : j < n := by simpa using hlt
    obtain ⟨x0, x1, x2, x3, x4, x5, hx, hc⟩ := H j hlt
    refine ⟨_, _, _, _, _, _, ⟨by omega, by rw [Int.toNat_natCast]; exact hx, ?_⟩⟩
    refine ⟨_, call_p (enters_of Tryz.func172 (by kernel_rfl) rfl) (clo_c (AllTo b0 q j) (q j) j _ _ _ _ _ _ _ hc) rfl ⟨⟨by trivial, by trivial, by trivial, trivial⟩, by trivial, n - (j + 1), by omega, j + 1, by omega, rfl, ?_, ?_⟩⟩
    · rw [wrap_id (by omega) (by omega)]; simp
    · rw [AllTo.succ]
  · have hge : ¬ j < n := by simpa using hge
    obtain rfl : j = n := by omega
    exact ⟨rfl, rfl⟩
theorem all_c (l : List (List PV)) (n : Nat) (hn : l.length = n) (hm : n ≤ 9223372036854775806) (d : Int) (q : Nat → Bool) (H : ∀ j, j < n → ∃ x0 : Int, ∃ x1 : Int, ∃ x2 : Int, ∃ x3 : ByteArray, ∃ x4 : Int, ∃ x5 : List (List PV), l[j]? = some [.con (.int .i64 x0), .con (.int .i64 x1), .con (.int .i64 x2), .con (.string x3), .con (.int .i64 x4), .sl x5] ∧ PCalls Tryz.prog 108 [.agg [.con (.int .i64 x0), .con (.int .i64 x1), .con (.int .i64 x2), .con (.string x3), .con (.int .i64 x4), .sl x5], .ept [.con (.int .i64 d)] 0] (fun r => r = .con (.bool (q j)))) : PCalls Tryz.prog 107 [.sl l, .fn 108 [.ept [.con (.int .i64 d)] 0]] (fun r => r = .con (.bool ((List.range n).all q))) := by
  have h := fold_c l n hn hm _ q H true
  rw [show AllTo true q n = (List.range n).all q by simp [AllTo]] at h
  refine a107c _ _ _ ?_
  unfold p107c
  exact ⟨_, call_p (enters_of Tryz.func171 (by kernel_rfl) rfl) h rfl ⟨rfl, rfl⟩⟩
theorem clo_d (b c : Bool) (i : Int) (x0 : Int) (x1 : Int) (x2 : Int) (x3 : Int) (x4 : List (List PV)) (x5 : ByteArray) (x6 : List (List PV)) (x7 : List (List PV)) (d : Int) (h : PCalls Tryz.prog 102 [.agg [.con (.int .i64 x0), .con (.int .i64 x1), .con (.int .i64 x2), .con (.int .i64 x3), .sl x4, .con (.string x5), .sl x6, .sl x7], .ept [.con (.int .i64 d)] 0] (fun r => r = .con (.bool c))) : PCalls Tryz.prog 168 [.con (.bool b), .con (.int .i64 i), .agg [.con (.int .i64 x0), .con (.int .i64 x1), .con (.int .i64 x2), .con (.int .i64 x3), .sl x4, .con (.string x5), .sl x6, .sl x7], .ept [.fn 102 [.ept [.con (.int .i64 d)] 0]] 0] (fun r => r = .con (.bool (b && c))) := by
  refine a168d _ _ _ _ _ _ _ _ _ _ _ _ ?_
  unfold p168d
  refine br_i (fun hb => ?_) (fun hb => ⟨by rw [hb]; rfl, rfl⟩)
  exact ⟨_, call_p (enters_of Tryz.func102 (by kernel_rfl) rfl) h rfl ⟨by rw [hb]; rfl, rfl⟩⟩
theorem fold_d (l : List (List PV)) (n : Nat) (hn : l.length = n) (hm : n ≤ 9223372036854775806) (d : Int) (q : Nat → Bool) (H : ∀ j, j < n → ∃ x0 : Int, ∃ x1 : Int, ∃ x2 : Int, ∃ x3 : Int, ∃ x4 : List (List PV), ∃ x5 : ByteArray, ∃ x6 : List (List PV), ∃ x7 : List (List PV), l[j]? = some [.con (.int .i64 x0), .con (.int .i64 x1), .con (.int .i64 x2), .con (.int .i64 x3), .sl x4, .con (.string x5), .sl x6, .sl x7] ∧ PCalls Tryz.prog 102 [.agg [.con (.int .i64 x0), .con (.int .i64 x1), .con (.int .i64 x2), .con (.int .i64 x3), .sl x4, .con (.string x5), .sl x6, .sl x7], .ept [.con (.int .i64 d)] 0] (fun r => r = .con (.bool (q j)))) (b0 : Bool) : PCalls Tryz.prog 149 [.sl l, .con (.bool b0), .fn 168 [.ept [.fn 102 [.ept [.con (.int .i64 d)] 0]] 0]] (fun r => r = .con (.bool (AllTo b0 q n))) := by
  refine a149d _ _ _ _ ?_
  unfold p149d
  rw [hn]
  refine ⟨fun c v => ∃ j : Nat, j ≤ n ∧ c = n - j ∧ v.2.1 = (j : Int) ∧ v.1 = AllTo b0 q j, ⟨_, 0, Nat.zero_le _, rfl, rfl, by simp [AllTo]⟩, ?_⟩
  rintro c ⟨b, i, u⟩ ⟨j, hj, rfl, hi, hb⟩
  dsimp only at hi hb ⊢
  subst hi hb
  refine br_i (fun hlt => ?_) (fun hge => ?_)
  · have hlt : j < n := by simpa using hlt
    obtain ⟨x0, x1, x2, x3, x4, x5, x6, x7, hx, hc⟩ := H j hlt
    refine ⟨_, _, _, _, _, _, _, _, ⟨by omega, by rw [Int.toNat_natCast]; exact hx, ?_⟩⟩
    refine ⟨_, call_p (enters_of Tryz.func168 (by kernel_rfl) rfl) (clo_d (AllTo b0 q j) (q j) j _ _ _ _ _ _ _ _ _ hc) rfl ⟨⟨by trivial, by trivial, by trivial, trivial⟩, by trivial, n - (j + 1), by omega, j + 1, by omega, rfl, ?_, ?_⟩⟩
    · rw [wrap_id (by omega) (by omega)]; simp
    · rw [AllTo.succ]
  · have hge : ¬ j < n := by simpa using hge
    obtain rfl : j = n := by omega
    exact ⟨rfl, rfl⟩
theorem all_d (l : List (List PV)) (n : Nat) (hn : l.length = n) (hm : n ≤ 9223372036854775806) (d : Int) (q : Nat → Bool) (H : ∀ j, j < n → ∃ x0 : Int, ∃ x1 : Int, ∃ x2 : Int, ∃ x3 : Int, ∃ x4 : List (List PV), ∃ x5 : ByteArray, ∃ x6 : List (List PV), ∃ x7 : List (List PV), l[j]? = some [.con (.int .i64 x0), .con (.int .i64 x1), .con (.int .i64 x2), .con (.int .i64 x3), .sl x4, .con (.string x5), .sl x6, .sl x7] ∧ PCalls Tryz.prog 102 [.agg [.con (.int .i64 x0), .con (.int .i64 x1), .con (.int .i64 x2), .con (.int .i64 x3), .sl x4, .con (.string x5), .sl x6, .sl x7], .ept [.con (.int .i64 d)] 0] (fun r => r = .con (.bool (q j)))) : PCalls Tryz.prog 101 [.sl l, .fn 102 [.ept [.con (.int .i64 d)] 0]] (fun r => r = .con (.bool ((List.range n).all q))) := by
  have h := fold_d l n hn hm _ q H true
  rw [show AllTo true q n = (List.range n).all q by simp [AllTo]] at h
  refine a101d _ _ _ ?_
  unfold p101d
  exact ⟨_, call_p (enters_of Tryz.func149 (by kernel_rfl) rfl) h rfl ⟨rfl, rfl⟩⟩
theorem clo_e (b c : Bool) (i : Int) (x0 : Int) (x1 : Int) (x2 : Int) (x3 : ByteArray) (x4 : Int) (x5 : List (List PV)) (x6 : Int) (x7 : Int) (x8 : Int) (x9 : Int) (x10 : List (List PV)) (x11 : ByteArray) (x12 : List (List PV)) (x13 : List (List PV)) (d : Int) (h : PCalls Tryz.prog 104 [.agg [.con (.int .i64 x0), .con (.int .i64 x1), .con (.int .i64 x2), .con (.string x3), .con (.int .i64 x4), .sl x5, .con (.int .i64 x6), .con (.int .i64 x7), .con (.int .i64 x8), .con (.int .i64 x9), .sl x10, .con (.string x11), .sl x12, .sl x13], .ept [.con (.int .i64 d)] 0] (fun r => r = .con (.bool c))) : PCalls Tryz.prog 169 [.con (.bool b), .con (.int .i64 i), .agg [.con (.int .i64 x0), .con (.int .i64 x1), .con (.int .i64 x2), .con (.string x3), .con (.int .i64 x4), .sl x5, .con (.int .i64 x6), .con (.int .i64 x7), .con (.int .i64 x8), .con (.int .i64 x9), .sl x10, .con (.string x11), .sl x12, .sl x13], .ept [.fn 104 [.ept [.con (.int .i64 d)] 0]] 0] (fun r => r = .con (.bool (b && c))) := by
  refine a169e _ _ _ _ _ _ _ _ _ _ _ _ _ _ _ _ _ _ ?_
  unfold p169e
  refine br_i (fun hb => ?_) (fun hb => ⟨by rw [hb]; rfl, rfl⟩)
  exact ⟨_, call_p (enters_of Tryz.func104 (by kernel_rfl) rfl) h rfl ⟨by rw [hb]; rfl, rfl⟩⟩
theorem fold_e (l : List (List PV)) (n : Nat) (hn : l.length = n) (hm : n ≤ 9223372036854775806) (d : Int) (q : Nat → Bool) (H : ∀ j, j < n → ∃ x0 : Int, ∃ x1 : Int, ∃ x2 : Int, ∃ x3 : ByteArray, ∃ x4 : Int, ∃ x5 : List (List PV), ∃ x6 : Int, ∃ x7 : Int, ∃ x8 : Int, ∃ x9 : Int, ∃ x10 : List (List PV), ∃ x11 : ByteArray, ∃ x12 : List (List PV), ∃ x13 : List (List PV), l[j]? = some [.con (.int .i64 x0), .con (.int .i64 x1), .con (.int .i64 x2), .con (.string x3), .con (.int .i64 x4), .sl x5, .con (.int .i64 x6), .con (.int .i64 x7), .con (.int .i64 x8), .con (.int .i64 x9), .sl x10, .con (.string x11), .sl x12, .sl x13] ∧ PCalls Tryz.prog 104 [.agg [.con (.int .i64 x0), .con (.int .i64 x1), .con (.int .i64 x2), .con (.string x3), .con (.int .i64 x4), .sl x5, .con (.int .i64 x6), .con (.int .i64 x7), .con (.int .i64 x8), .con (.int .i64 x9), .sl x10, .con (.string x11), .sl x12, .sl x13], .ept [.con (.int .i64 d)] 0] (fun r => r = .con (.bool (q j)))) (b0 : Bool) : PCalls Tryz.prog 151 [.sl l, .con (.bool b0), .fn 169 [.ept [.fn 104 [.ept [.con (.int .i64 d)] 0]] 0]] (fun r => r = .con (.bool (AllTo b0 q n))) := by
  refine a151e _ _ _ _ ?_
  unfold p151e
  rw [hn]
  refine ⟨fun c v => ∃ j : Nat, j ≤ n ∧ c = n - j ∧ v.2.1 = (j : Int) ∧ v.1 = AllTo b0 q j, ⟨_, 0, Nat.zero_le _, rfl, rfl, by simp [AllTo]⟩, ?_⟩
  rintro c ⟨b, i, u⟩ ⟨j, hj, rfl, hi, hb⟩
  dsimp only at hi hb ⊢
  subst hi hb
  refine br_i (fun hlt => ?_) (fun hge => ?_)
  · have hlt : j < n := by simpa using hlt
    obtain ⟨x0, x1, x2, x3, x4, x5, x6, x7, x8, x9, x10, x11, x12, x13, hx, hc⟩ := H j hlt
    refine ⟨_, _, _, _, _, _, _, _, _, _, _, _, _, _, ⟨by omega, by rw [Int.toNat_natCast]; exact hx, ?_⟩⟩
    refine ⟨_, call_p (enters_of Tryz.func169 (by kernel_rfl) rfl) (clo_e (AllTo b0 q j) (q j) j _ _ _ _ _ _ _ _ _ _ _ _ _ _ _ hc) rfl ⟨⟨by trivial, by trivial, by trivial, trivial⟩, by trivial, n - (j + 1), by omega, j + 1, by omega, rfl, ?_, ?_⟩⟩
    · rw [wrap_id (by omega) (by omega)]; simp
    · rw [AllTo.succ]
  · have hge : ¬ j < n := by simpa using hge
    obtain rfl : j = n := by omega
    exact ⟨rfl, rfl⟩
theorem all_e (l : List (List PV)) (n : Nat) (hn : l.length = n) (hm : n ≤ 9223372036854775806) (d : Int) (q : Nat → Bool) (H : ∀ j, j < n → ∃ x0 : Int, ∃ x1 : Int, ∃ x2 : Int, ∃ x3 : ByteArray, ∃ x4 : Int, ∃ x5 : List (List PV), ∃ x6 : Int, ∃ x7 : Int, ∃ x8 : Int, ∃ x9 : Int, ∃ x10 : List (List PV), ∃ x11 : ByteArray, ∃ x12 : List (List PV), ∃ x13 : List (List PV), l[j]? = some [.con (.int .i64 x0), .con (.int .i64 x1), .con (.int .i64 x2), .con (.string x3), .con (.int .i64 x4), .sl x5, .con (.int .i64 x6), .con (.int .i64 x7), .con (.int .i64 x8), .con (.int .i64 x9), .sl x10, .con (.string x11), .sl x12, .sl x13] ∧ PCalls Tryz.prog 104 [.agg [.con (.int .i64 x0), .con (.int .i64 x1), .con (.int .i64 x2), .con (.string x3), .con (.int .i64 x4), .sl x5, .con (.int .i64 x6), .con (.int .i64 x7), .con (.int .i64 x8), .con (.int .i64 x9), .sl x10, .con (.string x11), .sl x12, .sl x13], .ept [.con (.int .i64 d)] 0] (fun r => r = .con (.bool (q j)))) : PCalls Tryz.prog 103 [.sl l, .fn 104 [.ept [.con (.int .i64 d)] 0]] (fun r => r = .con (.bool ((List.range n).all q))) := by
  have h := fold_e l n hn hm _ q H true
  rw [show AllTo true q n = (List.range n).all q by simp [AllTo]] at h
  refine a103e _ _ _ ?_
  unfold p103e
  exact ⟨_, call_p (enters_of Tryz.func151 (by kernel_rfl) rfl) h rfl ⟨rfl, rfl⟩⟩
end Go.Proofs.YtcmnjodjebcapaaGreat.Deep
