/-
  Texts of one proof, in their order. No condition.
-/
import Derived.Laws.BitsLemmas
import Derived.Maps.Views
import Derived.Test.YtcmnjodjebcapaaGreatFtPkd
namespace Go.Proofs.YtcmnjodjebcapaaGreat.Deep
open Go.RowKit
set_option linter.unusedVariables false
set_option linter.unusedSimpArgs false
theorem eachV_eT (l : List (Ty)) (hm : l.length ≤ 3000) (g : Ty → Ty) (H : ∀ a ∈ l, PCalls Tryz.prog 55 [.agg (tyP a)] (fun r => r = .agg (tyP (g a)))) : PCalls Tryz.prog 121 [.sl (l.map tyP), .fn 55 []] (fun r => r = .sl ((l.map g).map tyP)) := by
  have clo : ∀ (acc : List (List PV)) (i : Int) (a : Ty), a ∈ l → acc.length ≤ 3000 → ACalls Tryz.prog 180 [.own 0 26 3 acc, .con (.int .i64 i), .agg (tyP a), .ept [.fn 55 []] 0] [[.tip]] (fun r h => r = .own 1 26 3 (acc ++ [tyP (g a)]) ∧ h = [[], [.tip]]) := fun acc i a ha hl => by
    have h := H a ha
    obtain ⟨x0, x1, x2, hx⟩ := cells_Type a
    obtain ⟨y0, y1, y2, hy⟩ := cells_Type (g a)
    rw [hx, hy] at h
    rw [hx, hy]
    refine a180k acc i _ _ _ _ ?_
    unfold p180k
    exact ⟨_, _, _, call_p (enters_of Tryz.func55 (by kernel_rfl) rfl) h rfl ⟨by simp only [List.length_cons, List.length_nil]; omega, oneL_of rfl rfl, rfl, rfl⟩⟩
  have fold : ACalls Tryz.prog 179 [.sl (l.map tyP), .own 0 26 3 [], .fn 180 [.ept [.fn 55 []] 0]] [[.tip]] (fun r h => r = .own 1 26 3 ((l.map g).map tyP) ∧ h = [[], [.tip]]) := by
    refine a179k _ _ _ ?_
    unfold p179k
    rw [List.length_map]
    refine ⟨fun c w => ∃ j : Nat, j ≤ l.length ∧ c = l.length - j ∧ w.1 = ((l.take j).map g).map tyP ∧ w.2.1 = (j : Int), ⟨_, 0, Nat.zero_le _, rfl, by simp, rfl⟩, ?_⟩
    rintro c ⟨x, i, u⟩ ⟨j, hj, rfl, hx, hi⟩
    dsimp only at hi hx ⊢
    subst hi hx
    refine br_i (fun hlt => ?_) (fun hge => ?_)
    · have hlt : j < l.length := by simpa using hlt
      have hc := clo (((l.take j).map g).map tyP) (j : Int) l[j] (List.getElem_mem hlt) (by rw [List.length_map, List.length_map, List.length_take]; omega)
      have hs : ((l.take j).map g).map tyP ++ [tyP (g l[j])] = ((l.take (j + 1)).map g).map tyP := by rw [List.take_succ_eq_append_getElem hlt, List.map_append, List.map_append]; rfl
      rw [hs] at hc
      obtain ⟨x0, x1, x2, hx⟩ := cells_Type l[j]
      rw [hx] at hc
      refine ⟨x0, x1, x2, ⟨by omega, by rw [Int.toNat_natCast, map_get tyP l j hlt, hx], ?_⟩⟩
      refine ⟨_, ⟨enters_of Tryz.func180 (by kernel_rfl) rfl, hc, ?_⟩⟩
      refine ⟨⟨by trivial, by trivial, by trivial, trivial⟩, by trivial, l.length - (j + 1), by omega, j + 1, by omega, rfl, rfl, ?_⟩
      rw [wrap_id (by omega) (by omega)]; simp
    · have hge : ¬ j < l.length := by simpa using hge
      obtain rfl : j = l.length := by omega
      rw [List.take_length]
      exact ⟨rfl, rfl⟩
  refine pcalls_weak (a121k _ _ ?_)
  unfold p121k
  exact ⟨_, ⟨enters_of Tryz.func179 (by kernel_rfl) rfl, fold, ⟨rfl, rfl⟩⟩⟩
theorem eachV_eP (l : List (Pt)) (hm : l.length ≤ 3000) (g : Pt → Pt) (H : ∀ a ∈ l, PCalls Tryz.prog 185 [.agg (ptP a)] (fun r => r = .agg (ptP (g a)))) : PCalls Tryz.prog 196 [.sl (l.map ptP), .fn 185 []] (fun r => r = .sl ((l.map g).map ptP)) := by
  have clo : ∀ (acc : List (List PV)) (i : Int) (a : Pt), a ∈ l → acc.length ≤ 3000 → ACalls Tryz.prog 202 [.own 0 39 6 acc, .con (.int .i64 i), .agg (ptP a), .ept [.fn 185 []] 0] [[.tip]] (fun r h => r = .own 1 39 6 (acc ++ [ptP (g a)]) ∧ h = [[], [.tip]]) := fun acc i a ha hl => by
    have h := H a ha
    obtain ⟨x0, x1, x2, x3, x4, x5, hx⟩ := cells_Pat a
    obtain ⟨y0, y1, y2, y3, y4, y5, hy⟩ := cells_Pat (g a)
    rw [hx, hy] at h
    rw [hx, hy]
    refine a202k acc i _ _ _ _ _ _ _ ?_
    unfold p202k
    exact ⟨_, _, _, _, _, _, call_p (enters_of Tryz.func185 (by kernel_rfl) rfl) h rfl ⟨by simp only [List.length_cons, List.length_nil]; omega, oneL_of rfl rfl, rfl, rfl⟩⟩
  have fold : ACalls Tryz.prog 201 [.sl (l.map ptP), .own 0 39 6 [], .fn 202 [.ept [.fn 185 []] 0]] [[.tip]] (fun r h => r = .own 1 39 6 ((l.map g).map ptP) ∧ h = [[], [.tip]]) := by
    refine a201k _ _ _ ?_
    unfold p201k
    rw [List.length_map]
    refine ⟨fun c w => ∃ j : Nat, j ≤ l.length ∧ c = l.length - j ∧ w.1 = ((l.take j).map g).map ptP ∧ w.2.1 = (j : Int), ⟨_, 0, Nat.zero_le _, rfl, by simp, rfl⟩, ?_⟩
    rintro c ⟨x, i, u⟩ ⟨j, hj, rfl, hx, hi⟩
    dsimp only at hi hx ⊢
    subst hi hx
    refine br_i (fun hlt => ?_) (fun hge => ?_)
    · have hlt : j < l.length := by simpa using hlt
      have hc := clo (((l.take j).map g).map ptP) (j : Int) l[j] (List.getElem_mem hlt) (by rw [List.length_map, List.length_map, List.length_take]; omega)
      have hs : ((l.take j).map g).map ptP ++ [ptP (g l[j])] = ((l.take (j + 1)).map g).map ptP := by rw [List.take_succ_eq_append_getElem hlt, List.map_append, List.map_append]; rfl
      rw [hs] at hc
      obtain ⟨x0, x1, x2, x3, x4, x5, hx⟩ := cells_Pat l[j]
      rw [hx] at hc
      refine ⟨x0, x1, x2, x3, x4, x5, ⟨by omega, by rw [Int.toNat_natCast, map_get ptP l j hlt, hx], ?_⟩⟩
      refine ⟨_, ⟨enters_of Tryz.func202 (by kernel_rfl) rfl, hc, ?_⟩⟩
      refine ⟨⟨by trivial, by trivial, by trivial, trivial⟩, by trivial, l.length - (j + 1), by omega, j + 1, by omega, rfl, rfl, ?_⟩
      rw [wrap_id (by omega) (by omega)]; simp
    · have hge : ¬ j < l.length := by simpa using hge
      obtain rfl : j = l.length := by omega
      rw [List.take_length]
      exact ⟨rfl, rfl⟩
  refine pcalls_weak (a196k _ _ ?_)
  unfold p196k
  exact ⟨_, ⟨enters_of Tryz.func201 (by kernel_rfl) rfl, fold, ⟨rfl, rfl⟩⟩⟩
theorem eachV_eE (l : List (Ex)) (hm : l.length ≤ 3000) (g : Ex → Ex) (H : ∀ a ∈ l, PCalls Tryz.prog 56 [.agg (exP a)] (fun r => r = .agg (exP (g a)))) : PCalls Tryz.prog 122 [.sl (l.map exP), .fn 56 []] (fun r => r = .sl ((l.map g).map exP)) := by
  have clo : ∀ (acc : List (List PV)) (i : Int) (a : Ex), a ∈ l → acc.length ≤ 3000 → ACalls Tryz.prog 182 [.own 0 33 8 acc, .con (.int .i64 i), .agg (exP a), .ept [.fn 56 []] 0] [[.tip]] (fun r h => r = .own 1 33 8 (acc ++ [exP (g a)]) ∧ h = [[], [.tip]]) := fun acc i a ha hl => by
    have h := H a ha
    obtain ⟨x0, x1, x2, x3, x4, x5, x6, x7, hx⟩ := cells_Expr a
    obtain ⟨y0, y1, y2, y3, y4, y5, y6, y7, hy⟩ := cells_Expr (g a)
    rw [hx, hy] at h
    rw [hx, hy]
    refine a182k acc i _ _ _ _ _ _ _ _ _ ?_
    unfold p182k
    exact ⟨_, _, _, _, _, _, _, _, call_p (enters_of Tryz.func56 (by kernel_rfl) rfl) h rfl ⟨by simp only [List.length_cons, List.length_nil]; omega, oneL_of rfl rfl, rfl, rfl⟩⟩
  have fold : ACalls Tryz.prog 181 [.sl (l.map exP), .own 0 33 8 [], .fn 182 [.ept [.fn 56 []] 0]] [[.tip]] (fun r h => r = .own 1 33 8 ((l.map g).map exP) ∧ h = [[], [.tip]]) := by
    refine a181k _ _ _ ?_
    unfold p181k
    rw [List.length_map]
    refine ⟨fun c w => ∃ j : Nat, j ≤ l.length ∧ c = l.length - j ∧ w.1 = ((l.take j).map g).map exP ∧ w.2.1 = (j : Int), ⟨_, 0, Nat.zero_le _, rfl, by simp, rfl⟩, ?_⟩
    rintro c ⟨x, i, u⟩ ⟨j, hj, rfl, hx, hi⟩
    dsimp only at hi hx ⊢
    subst hi hx
    refine br_i (fun hlt => ?_) (fun hge => ?_)
    · have hlt : j < l.length := by simpa using hlt
      have hc := clo (((l.take j).map g).map exP) (j : Int) l[j] (List.getElem_mem hlt) (by rw [List.length_map, List.length_map, List.length_take]; omega)
      have hs : ((l.take j).map g).map exP ++ [exP (g l[j])] = ((l.take (j + 1)).map g).map exP := by rw [List.take_succ_eq_append_getElem hlt, List.map_append, List.map_append]; rfl
      rw [hs] at hc
      obtain ⟨x0, x1, x2, x3, x4, x5, x6, x7, hx⟩ := cells_Expr l[j]
      rw [hx] at hc
      refine ⟨x0, x1, x2, x3, x4, x5, x6, x7, ⟨by omega, by rw [Int.toNat_natCast, map_get exP l j hlt, hx], ?_⟩⟩
      refine ⟨_, ⟨enters_of Tryz.func182 (by kernel_rfl) rfl, hc, ?_⟩⟩
      refine ⟨⟨by trivial, by trivial, by trivial, trivial⟩, by trivial, l.length - (j + 1), by omega, j + 1, by omega, rfl, rfl, ?_⟩
      rw [wrap_id (by omega) (by omega)]; simp
    · have hge : ¬ j < l.length := by simpa using hge
      obtain rfl : j = l.length := by omega
      rw [List.take_length]
      exact ⟨rfl, rfl⟩
  refine pcalls_weak (a122k _ _ ?_)
  unfold p122k
  exact ⟨_, ⟨enters_of Tryz.func181 (by kernel_rfl) rfl, fold, ⟨rfl, rfl⟩⟩⟩
theorem eachV_eA (l : List (Pt × Ex)) (hm : l.length ≤ 3000) (g : Pt × Ex → Pt × Ex) (H : ∀ a ∈ l, PCalls Tryz.prog 124 [.agg (amP a)] (fun r => r = .agg (amP (g a)))) : PCalls Tryz.prog 123 [.sl (l.map amP), .fn 124 []] (fun r => r = .sl ((l.map g).map amP)) := by
  have clo : ∀ (acc : List (List PV)) (i : Int) (a : Pt × Ex), a ∈ l → acc.length ≤ 3000 → ACalls Tryz.prog 184 [.own 0 59 14 acc, .con (.int .i64 i), .agg (amP a), .ept [.fn 124 []] 0] [[.tip]] (fun r h => r = .own 1 59 14 (acc ++ [amP (g a)]) ∧ h = [[], [.tip]]) := fun acc i a ha hl => by
    have h := H a ha
    obtain ⟨x0, x1, x2, x3, x4, x5, x6, x7, x8, x9, x10, x11, x12, x13, hx⟩ := cells_Arm a
    obtain ⟨y0, y1, y2, y3, y4, y5, y6, y7, y8, y9, y10, y11, y12, y13, hy⟩ := cells_Arm (g a)
    rw [hx, hy] at h
    rw [hx, hy]
    refine a184k acc i _ _ _ _ _ _ _ _ _ _ _ _ _ _ _ ?_
    unfold p184k
    exact ⟨_, _, _, _, _, _, _, _, _, _, _, _, _, _, call_p (enters_of Tryz.func124 (by kernel_rfl) rfl) h rfl ⟨by simp only [List.length_cons, List.length_nil]; omega, oneL_of rfl rfl, rfl, rfl⟩⟩
  have fold : ACalls Tryz.prog 183 [.sl (l.map amP), .own 0 59 14 [], .fn 184 [.ept [.fn 124 []] 0]] [[.tip]] (fun r h => r = .own 1 59 14 ((l.map g).map amP) ∧ h = [[], [.tip]]) := by
    refine a183k _ _ _ ?_
    unfold p183k
    rw [List.length_map]
    refine ⟨fun c w => ∃ j : Nat, j ≤ l.length ∧ c = l.length - j ∧ w.1 = ((l.take j).map g).map amP ∧ w.2.1 = (j : Int), ⟨_, 0, Nat.zero_le _, rfl, by simp, rfl⟩, ?_⟩
    rintro c ⟨x, i, u⟩ ⟨j, hj, rfl, hx, hi⟩
    dsimp only at hi hx ⊢
    subst hi hx
    refine br_i (fun hlt => ?_) (fun hge => ?_)
    · have hlt : j < l.length := by simpa using hlt
      have hc := clo (((l.take j).map g).map amP) (j : Int) l[j] (List.getElem_mem hlt) (by rw [List.length_map, List.length_map, List.length_take]; omega)
      have hs : ((l.take j).map g).map amP ++ [amP (g l[j])] = ((l.take (j + 1)).map g).map amP := by rw [List.take_succ_eq_append_getElem hlt, List.map_append, List.map_append]; rfl
      rw [hs] at hc
      obtain ⟨x0, x1, x2, x3, x4, x5, x6, x7, x8, x9, x10, x11, x12, x13, hx⟩ := cells_Arm l[j]
      rw [hx] at hc
      refine ⟨x0, x1, x2, x3, x4, x5, x6, x7, x8, x9, x10, x11, x12, x13, ⟨by omega, by rw [Int.toNat_natCast, map_get amP l j hlt, hx], ?_⟩⟩
      refine ⟨_, ⟨enters_of Tryz.func184 (by kernel_rfl) rfl, hc, ?_⟩⟩
      refine ⟨⟨by trivial, by trivial, by trivial, trivial⟩, by trivial, l.length - (j + 1), by omega, j + 1, by omega, rfl, rfl, ?_⟩
      rw [wrap_id (by omega) (by omega)]; simp
    · have hge : ¬ j < l.length := by simpa using hge
      obtain rfl : j = l.length := by omega
      rw [List.take_length]
      exact ⟨rfl, rfl⟩
  refine pcalls_weak (a123k _ _ ?_)
  unfold p123k
  exact ⟨_, ⟨enters_of Tryz.func183 (by kernel_rfl) rfl, fold, ⟨rfl, rfl⟩⟩⟩
theorem eachV_eC (l : List (Co)) (hm : l.length ≤ 3000) (g : Co → Co) (H : ∀ a ∈ l, PCalls Tryz.prog 116 [.agg (coP a)] (fun r => r = .agg (coP (g a)))) : PCalls Tryz.prog 115 [.sl (l.map coP), .fn 116 []] (fun r => r = .sl ((l.map g).map coP)) := by
  have clo : ∀ (acc : List (List PV)) (i : Int) (a : Co), a ∈ l → acc.length ≤ 3000 → ACalls Tryz.prog 176 [.own 0 119 2 acc, .con (.int .i64 i), .agg (coP a), .ept [.fn 116 []] 0] [[.tip]] (fun r h => r = .own 1 119 2 (acc ++ [coP (g a)]) ∧ h = [[], [.tip]]) := fun acc i a ha hl => by
    have h := H a ha
    obtain ⟨x0, x1, hx⟩ := cells_Con a
    obtain ⟨y0, y1, hy⟩ := cells_Con (g a)
    rw [hx, hy] at h
    rw [hx, hy]
    refine a176k acc i _ _ _ ?_
    unfold p176k
    exact ⟨_, _, call_p (enters_of Tryz.func116 (by kernel_rfl) rfl) h rfl ⟨by simp only [List.length_cons, List.length_nil]; omega, oneL_of rfl rfl, rfl, rfl⟩⟩
  have fold : ACalls Tryz.prog 175 [.sl (l.map coP), .own 0 119 2 [], .fn 176 [.ept [.fn 116 []] 0]] [[.tip]] (fun r h => r = .own 1 119 2 ((l.map g).map coP) ∧ h = [[], [.tip]]) := by
    refine a175k _ _ _ ?_
    unfold p175k
    rw [List.length_map]
    refine ⟨fun c w => ∃ j : Nat, j ≤ l.length ∧ c = l.length - j ∧ w.1 = ((l.take j).map g).map coP ∧ w.2.1 = (j : Int), ⟨_, 0, Nat.zero_le _, rfl, by simp, rfl⟩, ?_⟩
    rintro c ⟨x, i, u⟩ ⟨j, hj, rfl, hx, hi⟩
    dsimp only at hi hx ⊢
    subst hi hx
    refine br_i (fun hlt => ?_) (fun hge => ?_)
    · have hlt : j < l.length := by simpa using hlt
      have hc := clo (((l.take j).map g).map coP) (j : Int) l[j] (List.getElem_mem hlt) (by rw [List.length_map, List.length_map, List.length_take]; omega)
      have hs : ((l.take j).map g).map coP ++ [coP (g l[j])] = ((l.take (j + 1)).map g).map coP := by rw [List.take_succ_eq_append_getElem hlt, List.map_append, List.map_append]; rfl
      rw [hs] at hc
      obtain ⟨x0, x1, hx⟩ := cells_Con l[j]
      rw [hx] at hc
      refine ⟨x0, x1, ⟨by omega, by rw [Int.toNat_natCast, map_get coP l j hlt, hx], ?_⟩⟩
      refine ⟨_, ⟨enters_of Tryz.func176 (by kernel_rfl) rfl, hc, ?_⟩⟩
      refine ⟨⟨by trivial, by trivial, by trivial, trivial⟩, by trivial, l.length - (j + 1), by omega, j + 1, by omega, rfl, rfl, ?_⟩
      rw [wrap_id (by omega) (by omega)]; simp
    · have hge : ¬ j < l.length := by simpa using hge
      obtain rfl : j = l.length := by omega
      rw [List.take_length]
      exact ⟨rfl, rfl⟩
  refine pcalls_weak (a115k _ _ ?_)
  unfold p115k
  exact ⟨_, ⟨enters_of Tryz.func175 (by kernel_rfl) rfl, fold, ⟨rfl, rfl⟩⟩⟩
theorem eachV_eQ (l : List (Pa)) (hm : l.length ≤ 3000) (g : Pa → Pa) (H : ∀ a ∈ l, PCalls Tryz.prog 120 [.agg (paP a)] (fun r => r = .agg (paP (g a)))) : PCalls Tryz.prog 119 [.sl (l.map paP), .fn 120 []] (fun r => r = .sl ((l.map g).map paP)) := by
  have clo : ∀ (acc : List (List PV)) (i : Int) (a : Pa), a ∈ l → acc.length ≤ 3000 → ACalls Tryz.prog 178 [.own 0 79 4 acc, .con (.int .i64 i), .agg (paP a), .ept [.fn 120 []] 0] [[.tip]] (fun r h => r = .own 1 79 4 (acc ++ [paP (g a)]) ∧ h = [[], [.tip]]) := fun acc i a ha hl => by
    have h := H a ha
    obtain ⟨x0, x1, x2, x3, hx⟩ := cells_Param a
    obtain ⟨y0, y1, y2, y3, hy⟩ := cells_Param (g a)
    rw [hx, hy] at h
    rw [hx, hy]
    refine a178k acc i _ _ _ _ _ ?_
    unfold p178k
    exact ⟨_, _, _, _, call_p (enters_of Tryz.func120 (by kernel_rfl) rfl) h rfl ⟨by simp only [List.length_cons, List.length_nil]; omega, oneL_of rfl rfl, rfl, rfl⟩⟩
  have fold : ACalls Tryz.prog 177 [.sl (l.map paP), .own 0 79 4 [], .fn 178 [.ept [.fn 120 []] 0]] [[.tip]] (fun r h => r = .own 1 79 4 ((l.map g).map paP) ∧ h = [[], [.tip]]) := by
    refine a177k _ _ _ ?_
    unfold p177k
    rw [List.length_map]
    refine ⟨fun c w => ∃ j : Nat, j ≤ l.length ∧ c = l.length - j ∧ w.1 = ((l.take j).map g).map paP ∧ w.2.1 = (j : Int), ⟨_, 0, Nat.zero_le _, rfl, by simp, rfl⟩, ?_⟩
    rintro c ⟨x, i, u⟩ ⟨j, hj, rfl, hx, hi⟩
    dsimp only at hi hx ⊢
    subst hi hx
    refine br_i (fun hlt => ?_) (fun hge => ?_)
    · have hlt : j < l.length := by simpa using hlt
      have hc := clo (((l.take j).map g).map paP) (j : Int) l[j] (List.getElem_mem hlt) (by rw [List.length_map, List.length_map, List.length_take]; omega)
      have hs : ((l.take j).map g).map paP ++ [paP (g l[j])] = ((l.take (j + 1)).map g).map paP := by rw [List.take_succ_eq_append_getElem hlt, List.map_append, List.map_append]; rfl
      rw [hs] at hc
      obtain ⟨x0, x1, x2, x3, hx⟩ := cells_Param l[j]
      rw [hx] at hc
      refine ⟨x0, x1, x2, x3, ⟨by omega, by rw [Int.toNat_natCast, map_get paP l j hlt, hx], ?_⟩⟩
      refine ⟨_, ⟨enters_of Tryz.func178 (by kernel_rfl) rfl, hc, ?_⟩⟩
      refine ⟨⟨by trivial, by trivial, by trivial, trivial⟩, by trivial, l.length - (j + 1), by omega, j + 1, by omega, rfl, rfl, ?_⟩
      rw [wrap_id (by omega) (by omega)]; simp
    · have hge : ¬ j < l.length := by simpa using hge
      obtain rfl : j = l.length := by omega
      rw [List.take_length]
      exact ⟨rfl, rfl⟩
  refine pcalls_weak (a119k _ _ ?_)
  unfold p119k
  exact ⟨_, ⟨enters_of Tryz.func177 (by kernel_rfl) rfl, fold, ⟨rfl, rfl⟩⟩⟩
theorem eachV_eD (l : List (Da)) (hm : l.length ≤ 3000) (g : Da → Da) (H : ∀ a ∈ l, PCalls Tryz.prog 52 [.agg (daP a)] (fun r => r = .agg (daP (g a)))) : PCalls Tryz.prog 51 [.sl (l.map daP), .fn 52 []] (fun r => r = .sl ((l.map g).map daP)) := by
  have clo : ∀ (acc : List (List PV)) (i : Int) (a : Da), a ∈ l → acc.length ≤ 3000 → ACalls Tryz.prog 114 [.own 0 70 4 acc, .con (.int .i64 i), .agg (daP a), .ept [.fn 52 []] 0] [[.tip]] (fun r h => r = .own 1 70 4 (acc ++ [daP (g a)]) ∧ h = [[], [.tip]]) := fun acc i a ha hl => by
    have h := H a ha
    obtain ⟨x0, x1, x2, x3, hx⟩ := cells_Data a
    obtain ⟨y0, y1, y2, y3, hy⟩ := cells_Data (g a)
    rw [hx, hy] at h
    rw [hx, hy]
    refine a114k acc i _ _ _ _ _ ?_
    unfold p114k
    exact ⟨_, _, _, _, call_p (enters_of Tryz.func52 (by kernel_rfl) rfl) h rfl ⟨by simp only [List.length_cons, List.length_nil]; omega, oneL_of rfl rfl, rfl, rfl⟩⟩
  have fold : ACalls Tryz.prog 113 [.sl (l.map daP), .own 0 70 4 [], .fn 114 [.ept [.fn 52 []] 0]] [[.tip]] (fun r h => r = .own 1 70 4 ((l.map g).map daP) ∧ h = [[], [.tip]]) := by
    refine a113k _ _ _ ?_
    unfold p113k
    rw [List.length_map]
    refine ⟨fun c w => ∃ j : Nat, j ≤ l.length ∧ c = l.length - j ∧ w.1 = ((l.take j).map g).map daP ∧ w.2.1 = (j : Int), ⟨_, 0, Nat.zero_le _, rfl, by simp, rfl⟩, ?_⟩
    rintro c ⟨x, i, u⟩ ⟨j, hj, rfl, hx, hi⟩
    dsimp only at hi hx ⊢
    subst hi hx
    refine br_i (fun hlt => ?_) (fun hge => ?_)
    · have hlt : j < l.length := by simpa using hlt
      have hc := clo (((l.take j).map g).map daP) (j : Int) l[j] (List.getElem_mem hlt) (by rw [List.length_map, List.length_map, List.length_take]; omega)
      have hs : ((l.take j).map g).map daP ++ [daP (g l[j])] = ((l.take (j + 1)).map g).map daP := by rw [List.take_succ_eq_append_getElem hlt, List.map_append, List.map_append]; rfl
      rw [hs] at hc
      obtain ⟨x0, x1, x2, x3, hx⟩ := cells_Data l[j]
      rw [hx] at hc
      refine ⟨x0, x1, x2, x3, ⟨by omega, by rw [Int.toNat_natCast, map_get daP l j hlt, hx], ?_⟩⟩
      refine ⟨_, ⟨enters_of Tryz.func114 (by kernel_rfl) rfl, hc, ?_⟩⟩
      refine ⟨⟨by trivial, by trivial, by trivial, trivial⟩, by trivial, l.length - (j + 1), by omega, j + 1, by omega, rfl, rfl, ?_⟩
      rw [wrap_id (by omega) (by omega)]; simp
    · have hge : ¬ j < l.length := by simpa using hge
      obtain rfl : j = l.length := by omega
      rw [List.take_length]
      exact ⟨rfl, rfl⟩
  refine pcalls_weak (a51k _ _ ?_)
  unfold p51k
  exact ⟨_, ⟨enters_of Tryz.func113 (by kernel_rfl) rfl, fold, ⟨rfl, rfl⟩⟩⟩
theorem eachV_eF (l : List (Fu)) (hm : l.length ≤ 3000) (g : Fu → Fu) (H : ∀ a ∈ l, PCalls Tryz.prog 54 [.agg (fuP a)] (fun r => r = .agg (fuP (g a)))) : PCalls Tryz.prog 53 [.sl (l.map fuP), .fn 54 []] (fun r => r = .sl ((l.map g).map fuP)) := by
  have clo : ∀ (acc : List (List PV)) (i : Int) (a : Fu), a ∈ l → acc.length ≤ 3000 → ACalls Tryz.prog 118 [.own 0 75 15 acc, .con (.int .i64 i), .agg (fuP a), .ept [.fn 54 []] 0] [[.tip]] (fun r h => r = .own 1 75 15 (acc ++ [fuP (g a)]) ∧ h = [[], [.tip]]) := fun acc i a ha hl => by
    have h := H a ha
    obtain ⟨x0, x1, x2, x3, x4, x5, x6, x7, x8, x9, x10, x11, x12, x13, x14, hx⟩ := cells_Fun a
    obtain ⟨y0, y1, y2, y3, y4, y5, y6, y7, y8, y9, y10, y11, y12, y13, y14, hy⟩ := cells_Fun (g a)
    rw [hx, hy] at h
    rw [hx, hy]
    refine a118k acc i _ _ _ _ _ _ _ _ _ _ _ _ _ _ _ _ ?_
    unfold p118k
    exact ⟨_, _, _, _, _, _, _, _, _, _, _, _, _, _, _, call_p (enters_of Tryz.func54 (by kernel_rfl) rfl) h rfl ⟨by simp only [List.length_cons, List.length_nil]; omega, oneL_of rfl rfl, rfl, rfl⟩⟩
  have fold : ACalls Tryz.prog 117 [.sl (l.map fuP), .own 0 75 15 [], .fn 118 [.ept [.fn 54 []] 0]] [[.tip]] (fun r h => r = .own 1 75 15 ((l.map g).map fuP) ∧ h = [[], [.tip]]) := by
    refine a117k _ _ _ ?_
    unfold p117k
    rw [List.length_map]
    refine ⟨fun c w => ∃ j : Nat, j ≤ l.length ∧ c = l.length - j ∧ w.1 = ((l.take j).map g).map fuP ∧ w.2.1 = (j : Int), ⟨_, 0, Nat.zero_le _, rfl, by simp, rfl⟩, ?_⟩
    rintro c ⟨x, i, u⟩ ⟨j, hj, rfl, hx, hi⟩
    dsimp only at hi hx ⊢
    subst hi hx
    refine br_i (fun hlt => ?_) (fun hge => ?_)
    · have hlt : j < l.length := by simpa using hlt
      have hc := clo (((l.take j).map g).map fuP) (j : Int) l[j] (List.getElem_mem hlt) (by rw [List.length_map, List.length_map, List.length_take]; omega)
      have hs : ((l.take j).map g).map fuP ++ [fuP (g l[j])] = ((l.take (j + 1)).map g).map fuP := by rw [List.take_succ_eq_append_getElem hlt, List.map_append, List.map_append]; rfl
      rw [hs] at hc
      obtain ⟨x0, x1, x2, x3, x4, x5, x6, x7, x8, x9, x10, x11, x12, x13, x14, hx⟩ := cells_Fun l[j]
      rw [hx] at hc
      refine ⟨x0, x1, x2, x3, x4, x5, x6, x7, x8, x9, x10, x11, x12, x13, x14, ⟨by omega, by rw [Int.toNat_natCast, map_get fuP l j hlt, hx], ?_⟩⟩
      refine ⟨_, ⟨enters_of Tryz.func118 (by kernel_rfl) rfl, hc, ?_⟩⟩
      refine ⟨⟨by trivial, by trivial, by trivial, trivial⟩, by trivial, l.length - (j + 1), by omega, j + 1, by omega, rfl, rfl, ?_⟩
      rw [wrap_id (by omega) (by omega)]; simp
    · have hge : ¬ j < l.length := by simpa using hge
      obtain rfl : j = l.length := by omega
      rw [List.take_length]
      exact ⟨rfl, rfl⟩
  refine pcalls_weak (a53k _ _ ?_)
  unfold p53k
  exact ⟨_, ⟨enters_of Tryz.func117 (by kernel_rfl) rfl, fold, ⟨rfl, rfl⟩⟩⟩
theorem eachV_eH (l : List (Ha)) (hm : l.length ≤ 3000) (g : Ha → Ha) (H : ∀ a ∈ l, PCalls Tryz.prog 58 [.agg (haP a)] (fun r => r = .agg (haP (g a)))) : PCalls Tryz.prog 57 [.sl (l.map haP), .fn 58 []] (fun r => r = .sl ((l.map g).map haP)) := by
  have clo : ∀ (acc : List (List PV)) (i : Int) (a : Ha), a ∈ l → acc.length ≤ 3000 → ACalls Tryz.prog 126 [.own 0 81 16 acc, .con (.int .i64 i), .agg (haP a), .ept [.fn 58 []] 0] [[.tip]] (fun r h => r = .own 1 81 16 (acc ++ [haP (g a)]) ∧ h = [[], [.tip]]) := fun acc i a ha hl => by
    have h := H a ha
    obtain ⟨x0, x1, x2, x3, x4, x5, x6, x7, x8, x9, x10, x11, x12, x13, x14, x15, hx⟩ := cells_Hand a
    obtain ⟨y0, y1, y2, y3, y4, y5, y6, y7, y8, y9, y10, y11, y12, y13, y14, y15, hy⟩ := cells_Hand (g a)
    rw [hx, hy] at h
    rw [hx, hy]
    refine a126k acc i _ _ _ _ _ _ _ _ _ _ _ _ _ _ _ _ _ ?_
    unfold p126k
    exact ⟨_, _, _, _, _, _, _, _, _, _, _, _, _, _, _, _, call_p (enters_of Tryz.func58 (by kernel_rfl) rfl) h rfl ⟨by simp only [List.length_cons, List.length_nil]; omega, oneL_of rfl rfl, rfl, rfl⟩⟩
  have fold : ACalls Tryz.prog 125 [.sl (l.map haP), .own 0 81 16 [], .fn 126 [.ept [.fn 58 []] 0]] [[.tip]] (fun r h => r = .own 1 81 16 ((l.map g).map haP) ∧ h = [[], [.tip]]) := by
    refine a125k _ _ _ ?_
    unfold p125k
    rw [List.length_map]
    refine ⟨fun c w => ∃ j : Nat, j ≤ l.length ∧ c = l.length - j ∧ w.1 = ((l.take j).map g).map haP ∧ w.2.1 = (j : Int), ⟨_, 0, Nat.zero_le _, rfl, by simp, rfl⟩, ?_⟩
    rintro c ⟨x, i, u⟩ ⟨j, hj, rfl, hx, hi⟩
    dsimp only at hi hx ⊢
    subst hi hx
    refine br_i (fun hlt => ?_) (fun hge => ?_)
    · have hlt : j < l.length := by simpa using hlt
      have hc := clo (((l.take j).map g).map haP) (j : Int) l[j] (List.getElem_mem hlt) (by rw [List.length_map, List.length_map, List.length_take]; omega)
      have hs : ((l.take j).map g).map haP ++ [haP (g l[j])] = ((l.take (j + 1)).map g).map haP := by rw [List.take_succ_eq_append_getElem hlt, List.map_append, List.map_append]; rfl
      rw [hs] at hc
      obtain ⟨x0, x1, x2, x3, x4, x5, x6, x7, x8, x9, x10, x11, x12, x13, x14, x15, hx⟩ := cells_Hand l[j]
      rw [hx] at hc
      refine ⟨x0, x1, x2, x3, x4, x5, x6, x7, x8, x9, x10, x11, x12, x13, x14, x15, ⟨by omega, by rw [Int.toNat_natCast, map_get haP l j hlt, hx], ?_⟩⟩
      refine ⟨_, ⟨enters_of Tryz.func126 (by kernel_rfl) rfl, hc, ?_⟩⟩
      refine ⟨⟨by trivial, by trivial, by trivial, trivial⟩, by trivial, l.length - (j + 1), by omega, j + 1, by omega, rfl, rfl, ?_⟩
      rw [wrap_id (by omega) (by omega)]; simp
    · have hge : ¬ j < l.length := by simpa using hge
      obtain rfl : j = l.length := by omega
      rw [List.take_length]
      exact ⟨rfl, rfl⟩
  refine pcalls_weak (a57k _ _ ?_)
  unfold p57k
  exact ⟨_, ⟨enters_of Tryz.func125 (by kernel_rfl) rfl, fold, ⟨rfl, rfl⟩⟩⟩
end Go.Proofs.YtcmnjodjebcapaaGreat.Deep

namespace Go.Proofs.YtcmnjodjebcapaaGreat.Deep
open Go.RowKit
set_option linter.unusedVariables false
set_option linter.unusedSimpArgs false
theorem bare_ty (t : Ty) : smallTy t → PCalls Tryz.prog 55 [.agg (tyP t)] (fun r => r = .agg (tyP t)) := by
  induction t using Ty.indM with
  | h k n ps ih =>
  intro hs
  unfold smallTy at hs
  have hc := eachV_eT ps hs.2.1 id (fun a ha => ih a ha (smallTys_mem hs.2.2 a ha))
  rw [List.map_id, ← tyPs_mp] at hc
  refine a55 _ _ _ _ ?_
  unfold p55
  exact ⟨_, call_p (enters_of Tryz.func121 (by kernel_rfl) rfl) hc rfl ⟨rfl, rfl⟩⟩
theorem bare_pt (t : Pt) : smallPt t → PCalls Tryz.prog 185 [.agg (ptP t)] (fun r => r = .agg (ptP (bareP t))) := by
  induction t using Pt.indM with
  | h k li co n m ks ih =>
  intro hs
  unfold smallPt at hs
  have hc := eachV_eP ks hs.2.1 bareP (fun a ha => ih a ha (smallPts_mem hs.2.2 a ha))
  rw [← barePs_map, ← ptPs_mp, ← ptPs_mp] at hc
  refine a185 _ _ _ _ _ _ _ ?_
  unfold p185
  exact ⟨_, call_p (enters_of Tryz.func196 (by kernel_rfl) rfl) hc rfl ⟨by unfold bareP; rfl, rfl⟩⟩
theorem bare_arm (a : Pt × Ex) (h1 : PCalls Tryz.prog 185 [.agg (ptP a.1)] (fun r => r = .agg (ptP (bareP a.1)))) (h2 : PCalls Tryz.prog 56 [.agg (exP a.2)] (fun r => r = .agg (exP (bareE a.2)))) : PCalls Tryz.prog 124 [.agg (amP a)] (fun r => r = .agg (amP (bareP a.1, bareE a.2))) := by
  obtain ⟨P, e1⟩ : ∃ x, bareP a.1 = x := ⟨_, rfl⟩
  obtain ⟨E, e2⟩ : ∃ x, bareE a.2 = x := ⟨_, rfl⟩
  rw [e1] at h1
  rw [e2] at h2
  rw [e1, e2]
  clear e1 e2
  obtain ⟨⟨k, li, co, n, m, ks⟩, ⟨k2, li2, co2, m2, b2, n2, ks2, ps2, bs2⟩⟩ := a
  obtain ⟨k', li', co', n', m', ks'⟩ := P
  obtain ⟨k2', li2', co2', m2', b2', n2', ks2', ps2', bs2'⟩ := E
  refine a124 _ _ _ _ _ _ _ _ _ _ _ _ _ _ _ ?_
  unfold p124
  refine ⟨_, _, _, _, _, _, call_p (enters_of Tryz.func185 (by kernel_rfl) rfl) h1 rfl ?_⟩
  exact ⟨_, _, _, _, _, _, _, _, call_p (enters_of Tryz.func56 (by kernel_rfl) rfl) h2 rfl ⟨rfl, rfl⟩⟩
theorem one_by (b : List UInt8) : ∀ y ∈ byP b, y.length = 1 ∧ ∀ p ∈ y, PV.one p = true := by
  intro y hy
  obtain ⟨x, _, rfl⟩ := List.mem_map.1 hy
  exact oneL_of rfl rfl _ (List.mem_singleton.2 rfl)
theorem byP_len (b : List UInt8) : (byP b).length = b.length := by simp [byP]
theorem zip_bare : ∀ (ps : List Pt) (bs : List Ex), (ps.zip bs).map (fun a : Pt × Ex => (bareP a.1, bareE a.2)) = (barePs ps).zip (bareEs bs)
  | [], _ => rfl
  | p :: ps, [] => rfl
  | p :: ps, b :: bs => by rw [List.zip_cons_cons, List.map_cons, zip_bare ps bs, barePs, bareEs, List.zip_cons_cons]
theorem bare_ex (t : Ex) : smallEx t → wfEx t → PCalls Tryz.prog 56 [.agg (exP t)] (fun r => r = .agg (exP (bareE t))) := by
  induction t using Ex.indM with
  | h k li co m b n ks ps bs ihk ihb =>
  intro hs hw
  unfold smallEx at hs
  unfold wfEx at hw
  obtain ⟨hsb, hsn, hsk, hsp, hsbs, hsks, hsps, hsbb⟩ := hs
  obtain ⟨hpl, hwk, hwb⟩ := hw
  have hk := eachV_eE ks hsk bareE (fun a ha => ihk a ha (smallExs_mem hsks a ha) (wfExs_mem hwk a ha))
  rw [← bareEs_map, ← exPs_mp, ← exPs_mp] at hk
  have ha := eachV_eA (ps.zip bs) (by rw [List.length_zip]; omega) (fun a => (bareP a.1, bareE a.2)) (fun a ha => by
    obtain ⟨p, e⟩ := a
    obtain ⟨q1, q2⟩ := List.of_mem_zip ha
    exact bare_arm (p, e) (bare_pt p (smallPts_mem hsps p q1)) (ihb e q2 (smallExs_mem hsbb e q2) (wfExs_mem hwb e q2)))
  rw [zip_bare, ← arPs_mp, ← arPs_mp] at ha
  refine pcalls_weak (a56 _ _ _ _ _ _ _ _ _ ?_)
  unfold p56
  refine ⟨by rw [byP_len]; simp only [List.length_nil]; omega, one_by b, ?_⟩
  refine ⟨_, call_p (enters_of Tryz.func122 (by kernel_rfl) rfl) hk rfl ?_⟩
  exact ⟨_, call_p (enters_of Tryz.func123 (by kernel_rfl) rfl) ha rfl ⟨by unfold bareE; rfl, rfl⟩⟩
theorem bare_con (c : Co) (hs : smallCo c) : PCalls Tryz.prog 116 [.agg (coP c)] (fun r => r = .agg (coP c)) := by
  have hc := eachV_eT c.fields hs.2.1 id (fun a ha => bare_ty a (smallTys_mem hs.2.2 a ha))
  rw [List.map_id, ← tyPs_mp] at hc
  refine a116 _ _ _ ?_
  unfold p116
  exact ⟨_, call_p (enters_of Tryz.func121 (by kernel_rfl) rfl) hc rfl ⟨rfl, rfl⟩⟩
theorem bare_data (d : Da) (hs : smallDa d) : PCalls Tryz.prog 52 [.agg (daP d)] (fun r => r = .agg (daP (bareDa d))) := by
  have hc := eachV_eC d.cons hs.2.1 id (fun a ha => bare_con a (hs.2.2 a ha))
  rw [List.map_id] at hc
  refine a52 _ _ _ _ _ ?_
  unfold p52
  exact ⟨_, call_p (enters_of Tryz.func115 (by kernel_rfl) rfl) hc rfl ⟨rfl, rfl⟩⟩
theorem bare_param (p : Pa) (hs : smallPa p) : PCalls Tryz.prog 120 [.agg (paP p)] (fun r => r = .agg (paP p)) := by
  have hc := bare_ty p.ty hs.2
  obtain ⟨pn, ⟨k, n, ps⟩⟩ := p
  refine a120 _ _ _ _ _ ?_
  unfold p120
  exact ⟨_, _, _, call_p (enters_of Tryz.func55 (by kernel_rfl) rfl) hc rfl ⟨rfl, rfl⟩⟩
theorem bare_fun (f : Fu) (hs : smallFu f) (hw : wfEx f.body) : PCalls Tryz.prog 54 [.agg (fuP f)] (fun r => r = .agg (fuP (bareFu f))) := by
  have hc := eachV_eQ f.params hs.2.1 id (fun a ha => bare_param a (hs.2.2.1 a ha))
  rw [List.map_id] at hc
  have ht := bare_ty f.result hs.2.2.2.1
  have he := bare_ex f.body hs.2.2.2.2 hw
  obtain ⟨E, e2⟩ : ∃ x, bareE f.body = x := ⟨_, rfl⟩
  have e3 : bareFu f = { f with line := 0, col := 0, body := E } := by rw [← e2]; rfl
  rw [e2] at he
  rw [e3]
  clear e2 e3
  obtain ⟨fl, fc, fn, fp, ⟨k, n, ps⟩, ⟨k2, li2, co2, m2, b2, n2, ks2, ps2, bs2⟩⟩ := f
  obtain ⟨k2', li2', co2', m2', b2', n2', ks2', ps2', bs2'⟩ := E
  refine a54 _ _ _ _ _ _ _ _ _ _ _ _ _ _ _ _ ?_
  unfold p54
  refine ⟨_, call_p (enters_of Tryz.func119 (by kernel_rfl) rfl) hc rfl ?_⟩
  refine ⟨_, _, _, call_p (enters_of Tryz.func55 (by kernel_rfl) rfl) ht rfl ?_⟩
  exact ⟨_, _, _, _, _, _, _, _, call_p (enters_of Tryz.func56 (by kernel_rfl) rfl) he rfl ⟨rfl, rfl⟩⟩
theorem bare_hand (f : Ha) (hs : smallHa f) (hw : wfEx f.body) : PCalls Tryz.prog 58 [.agg (haP f)] (fun r => r = .agg (haP (bareHa f))) := by
  have hc := bare_param f.param hs.2.1
  have he := bare_ex f.body hs.2.2 hw
  obtain ⟨E, e2⟩ : ∃ x, bareE f.body = x := ⟨_, rfl⟩
  have e3 : bareHa f = { f with line := 0, col := 0, body := E } := by rw [← e2]; rfl
  rw [e2] at he
  rw [e3]
  clear e2 e3
  obtain ⟨fl, fc, fn, ⟨pn, ⟨k, n, ps⟩⟩, fcap, ⟨k2, li2, co2, m2, b2, n2, ks2, ps2, bs2⟩⟩ := f
  obtain ⟨k2', li2', co2', m2', b2', n2', ks2', ps2', bs2'⟩ := E
  refine a58 _ _ _ _ _ _ _ _ _ _ _ _ _ _ _ _ _ ?_
  unfold p58
  refine ⟨_, _, _, _, call_p (enters_of Tryz.func120 (by kernel_rfl) rfl) hc rfl ?_⟩
  exact ⟨_, _, _, _, _, _, _, _, call_p (enters_of Tryz.func56 (by kernel_rfl) rfl) he rfl ⟨rfl, rfl⟩⟩
theorem bare_prog (p : Pr) (hs : smallPr p) (hw : wfPr p) : PCalls Tryz.prog 20 [.agg (prP p)] (fun r => r = .agg (prP (barePr p))) := by
  obtain ⟨s1, s2, s3, s4, s5, s6, s7, s8⟩ := hs
  have hD := eachV_eD p.datas s1 bareDa (fun a ha => bare_data a (s2 a ha))
  have hF := eachV_eF p.funs s3 bareFu (fun a ha => bare_fun a (s4 a ha) (hw.1 a ha))
  have hH := eachV_eH p.hands s5 bareHa (fun a ha => bare_hand a (s6 a ha) (hw.2.1 a ha))
  have ht := bare_ty p.state s7
  have he := bare_ex p.init s8 hw.2.2
  obtain ⟨E, e2⟩ : ∃ x, bareE p.init = x := ⟨_, rfl⟩
  have e3 : barePr p = { p with datas := p.datas.map bareDa, funs := p.funs.map bareFu, init := E, hands := p.hands.map bareHa } := by rw [← e2]; rfl
  rw [e2] at he
  rw [e3]
  clear e2 e3 s1 s2 s3 s4 s5 s6 s7 s8 hw
  obtain ⟨a1, a2, a3, a4, ⟨k, n, ps⟩, a6, ⟨k2, li2, co2, m2, b2, n2, ks2, ps2, bs2⟩, a8⟩ := p
  obtain ⟨k2', li2', co2', m2', b2', n2', ks2', ps2', bs2'⟩ := E
  refine a20 _ _ _ _ _ _ _ _ _ _ _ _ _ _ _ _ _ _ ?_
  unfold p20
  refine ⟨_, call_p (enters_of Tryz.func51 (by kernel_rfl) rfl) hD rfl ?_⟩
  refine ⟨_, call_p (enters_of Tryz.func53 (by kernel_rfl) rfl) hF rfl ?_⟩
  refine ⟨_, _, _, call_p (enters_of Tryz.func55 (by kernel_rfl) rfl) ht rfl ?_⟩
  refine ⟨_, _, _, _, _, _, _, _, call_p (enters_of Tryz.func56 (by kernel_rfl) rfl) he rfl ?_⟩
  exact ⟨_, call_p (enters_of Tryz.func57 (by kernel_rfl) rfl) hH rfl ⟨rfl, rfl⟩⟩
end Go.Proofs.YtcmnjodjebcapaaGreat.Deep

namespace Go.Proofs.YtcmnjodjebcapaaGreat.Deep
open Go.RowKit
set_option linter.unusedVariables false
set_option linter.unusedSimpArgs false
theorem at_eq (li co : Int) : (!((li == 0) && ((co == 0) && true))) = atB li co := by
  unfold atB
  rw [beq_int, beq_int, Bool.and_true]
theorem placedPs_any : ∀ ts : List Pt, placedPs ts = ts.any placedP
  | [] => rfl
  | t :: ts => by rw [placedPs, placedPs_any ts]; rfl
theorem placedEs_any : ∀ ts : List Ex, placedEs ts = ts.any placedE
  | [] => rfl
  | t :: ts => by rw [placedEs, placedEs_any ts]; rfl
theorem placedAr_any : ∀ (bs : List Ex) (ps : List Pt), placedAr bs ps = (ps.zip bs).any (fun a : Pt × Ex => placedE a.2 || placedP a.1)
  | [], ps => by cases ps <;> rfl
  | b :: bs, [] => rfl
  | b :: bs, p :: ps => by rw [placedAr, placedAr_any bs ps]; rfl
theorem rplaced_pt (t : Pt) : smallPt t → PCalls Tryz.prog 140 [.agg (ptP t)] (fun r => r = .con (.bool (placedP t))) := by
  induction t using Pt.indM with
  | h k li co n m ks ih =>
  intro hs
  unfold smallPt at hs
  have H : ∀ a ∈ ks, PCalls Tryz.prog 140 [.agg (ptP a)] (fun r => r = .con (.bool (placedP a))) := fun a ha => ih a ha (smallPts_mem hs.2.2 a ha)
  have hsz := hs.2.1
  refine a140 _ _ _ _ _ _ _ ?_
  unfold p140 placedP
  rw [at_eq, ptPs_mp, List.length_map, placedPs_any]
  refine ⟨by kernel_rfl, by kernel_rfl, by kernel_rfl, ?_⟩
  refine ⟨fun c v => ∃ j : Nat, j ≤ (ks).length ∧ c = (ks).length - j ∧ v.2.1 = (j : Int) ∧ v.1 = (atB li co || ((ks).take j).any placedP), ⟨_, 0, Nat.zero_le _, rfl, rfl, by simp⟩, ?_⟩
  rintro c1 ⟨b1, i1, u1⟩ ⟨j1, hj1, rfl, hi1, hb1⟩
  dsimp only at hi1 hb1 ⊢
  subst hi1 hb1
  refine br_i (fun hlt => ?_) (fun hge1 => ?_)
  · have hlt : j1 < (ks).length := by simpa using hlt
    have hsn : (atB li co || ((ks).take (j1 + 1)).any placedP) = ((atB li co || ((ks).take j1).any placedP) || placedP (ks)[j1]) := by rw [List.take_succ_eq_append_getElem hlt, List.any_append]; simp [Bool.or_assoc]
    refine br_i (fun hb => ?_) (fun hb => ?_)
    · exact ⟨⟨rfl, trivial⟩, rfl, (ks).length - (j1 + 1), by omega, j1 + 1, by omega, rfl, by rw [wrap_id (by omega) (by omega)]; simp, by rw [hsn, hb]; rfl⟩
    have hc := H (ks)[j1] (List.getElem_mem hlt)
    obtain ⟨x0, x1, x2, x3, x4, x5, ex⟩ := cells_Pat (ks)[j1]
    obtain ⟨B, e⟩ : ∃ x, placedP (ks)[j1] = x := ⟨_, rfl⟩
    rw [e] at hc hsn
    rw [ex] at hc
    refine ⟨_, _, _, _, _, _, ⟨by omega, by rw [Int.toNat_natCast, map_get ptP (ks) j1 hlt, ex], ?_⟩⟩
    exact ⟨_, call_p (enters_of Tryz.func140 (by kernel_rfl) rfl) hc rfl ⟨⟨rfl, trivial⟩, rfl, (ks).length - (j1 + 1), by omega, j1 + 1, by omega, rfl, by rw [wrap_id (by omega) (by omega)]; simp, by rw [hsn, hb]; rfl⟩⟩
  have hge1 : ¬ j1 < (ks).length := by simpa using hge1
  obtain rfl : j1 = (ks).length := by omega
  rw [List.take_length]
  exact ⟨rfl, rfl⟩
theorem rplaced_ex (t : Ex) : smallEx t → wfEx t → PCalls Tryz.prog 63 [.agg (exP t)] (fun r => r = .con (.bool (placedE t))) := by
  induction t using Ex.indM with
  | h k li co m b n ks ps bs ihk ihb =>
  intro hs hw
  unfold smallEx at hs
  unfold wfEx at hw
  obtain ⟨hsb, hsn, hsk, hsp, hsbs, hsks, hsps, hsbb⟩ := hs
  obtain ⟨hpl, hwk, hwb⟩ := hw
  have H : ∀ a ∈ ks, PCalls Tryz.prog 63 [.agg (exP a)] (fun r => r = .con (.bool (placedE a))) := fun a ha => ihk a ha (smallExs_mem hsks a ha) (wfExs_mem hwk a ha)
  have HA : ∀ a ∈ ps.zip bs, PCalls Tryz.prog 140 [.agg (ptP a.1)] (fun r => r = .con (.bool (placedP a.1))) ∧ PCalls Tryz.prog 63 [.agg (exP a.2)] (fun r => r = .con (.bool (placedE a.2))) := fun a ha => by
    obtain ⟨p, e⟩ := a
    obtain ⟨q1, q2⟩ := List.of_mem_zip ha
    exact ⟨rplaced_pt p (smallPts_mem hsps p q1), ihb e q2 (smallExs_mem hsbb e q2) (wfExs_mem hwb e q2)⟩
  have hz : (ps.zip bs).length = bs.length := by rw [List.length_zip]; omega
  refine a63 _ _ _ _ _ _ _ _ _ ?_
  unfold p63 placedE
  rw [at_eq, exPs_mp, arPs_mp, List.length_map, List.length_map, placedEs_any, placedAr_any, ← Bool.or_assoc]
  refine ⟨by kernel_rfl, by kernel_rfl, by kernel_rfl, ?_⟩
  refine ⟨fun c v => ∃ j : Nat, j ≤ (ks).length ∧ c = (ks).length - j ∧ v.2.1 = (j : Int) ∧ v.1 = (atB li co || ((ks).take j).any placedE), ⟨_, 0, Nat.zero_le _, rfl, rfl, by simp⟩, ?_⟩
  rintro c1 ⟨b1, i1, u1⟩ ⟨j1, hj1, rfl, hi1, hb1⟩
  dsimp only at hi1 hb1 ⊢
  subst hi1 hb1
  refine br_i (fun hlt => ?_) (fun hge1 => ?_)
  · have hlt : j1 < (ks).length := by simpa using hlt
    have hsn : (atB li co || ((ks).take (j1 + 1)).any placedE) = ((atB li co || ((ks).take j1).any placedE) || placedE (ks)[j1]) := by rw [List.take_succ_eq_append_getElem hlt, List.any_append]; simp [Bool.or_assoc]
    refine br_i (fun hb => ?_) (fun hb => ?_)
    · exact ⟨⟨rfl, trivial⟩, rfl, (ks).length - (j1 + 1), by omega, j1 + 1, by omega, rfl, by rw [wrap_id (by omega) (by omega)]; simp, by rw [hsn, hb]; rfl⟩
    have hc := H (ks)[j1] (List.getElem_mem hlt)
    obtain ⟨x0, x1, x2, x3, x4, x5, x6, x7, ex⟩ := cells_Expr (ks)[j1]
    obtain ⟨B, e⟩ : ∃ x, placedE (ks)[j1] = x := ⟨_, rfl⟩
    rw [e] at hc hsn
    rw [ex] at hc
    refine ⟨_, _, _, _, _, _, _, _, ⟨by omega, by rw [Int.toNat_natCast, map_get exP (ks) j1 hlt, ex], ?_⟩⟩
    exact ⟨_, call_p (enters_of Tryz.func63 (by kernel_rfl) rfl) hc rfl ⟨⟨rfl, trivial⟩, rfl, (ks).length - (j1 + 1), by omega, j1 + 1, by omega, rfl, by rw [wrap_id (by omega) (by omega)]; simp, by rw [hsn, hb]; rfl⟩⟩
  have hge1 : ¬ j1 < (ks).length := by simpa using hge1
  obtain rfl : j1 = (ks).length := by omega
  rw [List.take_length]
  refine ⟨fun c v => ∃ j : Nat, j ≤ (ps.zip bs).length ∧ c = (ps.zip bs).length - j ∧ v.2.1 = (j : Int) ∧ v.1 = ((atB li co || ks.any placedE) || ((ps.zip bs).take j).any (fun a : Pt × Ex => placedE a.2 || placedP a.1)), ⟨_, 0, Nat.zero_le _, rfl, rfl, by simp⟩, ?_⟩
  rintro c2 ⟨b2, i2, u2⟩ ⟨j2, hj2, rfl, hi2, hb2⟩
  dsimp only at hi2 hb2 ⊢
  subst hi2 hb2
  refine br_i (fun hlt => ?_) (fun hge2 => ?_)
  · have hlt : j2 < (ps.zip bs).length := by simpa using hlt
    have hsn : ((atB li co || ks.any placedE) || ((ps.zip bs).take (j2 + 1)).any (fun a : Pt × Ex => placedE a.2 || placedP a.1)) = (((atB li co || ks.any placedE) || ((ps.zip bs).take j2).any (fun a : Pt × Ex => placedE a.2 || placedP a.1)) || (fun a : Pt × Ex => placedE a.2 || placedP a.1) (ps.zip bs)[j2]) := by rw [List.take_succ_eq_append_getElem hlt, List.any_append]; simp [Bool.or_assoc]
    refine br_i (fun hb => ?_) (fun hb => ?_)
    · exact ⟨⟨rfl, trivial⟩, rfl, (ps.zip bs).length - (j2 + 1), by omega, j2 + 1, by omega, rfl, by rw [wrap_id (by omega) (by omega)]; simp, by rw [hsn, hb]; rfl⟩
    obtain ⟨hc1, hc2⟩ := HA (ps.zip bs)[j2] (List.getElem_mem hlt)
    have hx : ((ps.zip bs).map amP)[j2]? = some (amP (ps.zip bs)[j2]) := map_get amP _ j2 hlt
    dsimp only at hsn
    obtain ⟨B1, e1⟩ : ∃ x, placedP (ps.zip bs)[j2].1 = x := ⟨_, rfl⟩
    obtain ⟨B2, e2⟩ : ∃ x, placedE (ps.zip bs)[j2].2 = x := ⟨_, rfl⟩
    rw [e1] at hc1 hsn
    rw [e2] at hc2 hsn
    clear e1 e2
    generalize (ps.zip bs)[j2] = A at hc1 hc2 hx
    obtain ⟨⟨xk, xl, xc, xn, xm, xks⟩, ⟨xk2, xl2, xc2, xm2, xb2, xn2, xks2, xps2, xbs2⟩⟩ := A
    refine ⟨_, _, _, _, _, _, _, _, _, _, _, _, _, _, ⟨by omega, by rw [Int.toNat_natCast]; exact hx, ?_⟩⟩
    refine ⟨_, call_p (enters_of Tryz.func63 (by kernel_rfl) rfl) hc2 rfl ?_⟩
    refine br_i (fun ha => ?_) (fun ha => ?_)
    · exact ⟨⟨rfl, trivial⟩, rfl, (ps.zip bs).length - (j2 + 1), by omega, j2 + 1, by omega, rfl, by rw [wrap_id (by omega) (by omega)]; simp, by rw [hsn, hb, ha]; rfl⟩
    refine ⟨_, _, _, _, _, _, _, _, _, _, _, _, _, _, ⟨by omega, by rw [Int.toNat_natCast]; exact hx, ?_⟩⟩
    exact ⟨_, call_p (enters_of Tryz.func140 (by kernel_rfl) rfl) hc1 rfl ⟨⟨rfl, trivial⟩, rfl, (ps.zip bs).length - (j2 + 1), by omega, j2 + 1, by omega, rfl, by rw [wrap_id (by omega) (by omega)]; simp, by rw [hsn, hb, ha]; rfl⟩⟩
  have hge2 : ¬ j2 < (ps.zip bs).length := by simpa using hge2
  obtain rfl : j2 = (ps.zip bs).length := by omega
  rw [List.take_length]
  exact ⟨rfl, rfl⟩
theorem rplaced_prog (p : Pr) (hs : smallPr p) (hw : wfPr p) : PCalls Tryz.prog 25 [.agg (prP p)] (fun r => r = .con (.bool (placedPr p))) := by
  obtain ⟨s1, s2, s3, s4, s5, s6, s7, s8⟩ := hs
  have HF : ∀ f ∈ p.funs, PCalls Tryz.prog 63 [.agg (exP f.body)] (fun r => r = .con (.bool (placedE f.body))) := fun f hf => rplaced_ex f.body (s4 f hf).2.2.2.2 (hw.1 f hf)
  have HH : ∀ f ∈ p.hands, PCalls Tryz.prog 63 [.agg (exP f.body)] (fun r => r = .con (.bool (placedE f.body))) := fun f hf => rplaced_ex f.body (s6 f hf).2.2 (hw.2.1 f hf)
  have he := rplaced_ex p.init s8 hw.2.2
  unfold placedPr
  obtain ⟨a1, a2, a3, a4, a5, a6, a7, a8⟩ := p
  dsimp only at HF HH he s1 s3 s5 ⊢
  obtain ⟨B0, e0⟩ : ∃ x, placedE a7 = x := ⟨_, rfl⟩
  rw [e0] at he
  rw [e0, ← Bool.or_assoc, ← Bool.or_assoc]
  clear e0 s2 s4 s6 s7 s8 hw
  obtain ⟨k, n, ps⟩ := a5
  obtain ⟨k2, li2, co2, m2, b2', n2, ks2, ps2, bs2⟩ := a7
  refine a25 _ _ _ _ _ _ _ _ _ _ _ _ _ _ _ _ _ _ ?_
  unfold p25
  rw [show (List.map daP a1).length = a1.length by simp, show (List.map fuP a2).length = a2.length by simp, show (List.map haP a8).length = a8.length by simp]
  refine ⟨_, call_p (enters_of Tryz.func63 (by kernel_rfl) rfl) he rfl ?_⟩
  refine ⟨fun c v => ∃ j : Nat, j ≤ (a1).length ∧ c = (a1).length - j ∧ v.2.1 = (j : Int) ∧ v.1 = (B0 || ((a1).take j).any (fun d : Da => atB d.line d.col)), ⟨_, 0, Nat.zero_le _, rfl, rfl, by simp⟩, ?_⟩
  rintro c1 ⟨b1, i1, u1⟩ ⟨j1, hj1, rfl, hi1, hb1⟩
  dsimp only at hi1 hb1 ⊢
  subst hi1 hb1
  refine br_i (fun hlt => ?_) (fun hge1 => ?_)
  · have hlt : j1 < (a1).length := by simpa using hlt
    have hsn : (B0 || ((a1).take (j1 + 1)).any (fun d : Da => atB d.line d.col)) = ((B0 || ((a1).take j1).any (fun d : Da => atB d.line d.col)) || (fun d : Da => atB d.line d.col) (a1)[j1]) := by rw [List.take_succ_eq_append_getElem hlt, List.any_append]; simp [Bool.or_assoc]
    refine br_i (fun hb => ?_) (fun hb => ?_)
    · exact ⟨⟨rfl, trivial⟩, rfl, (a1).length - (j1 + 1), by omega, j1 + 1, by omega, rfl, by rw [wrap_id (by omega) (by omega)]; simp, by rw [hsn, hb]; rfl⟩
    have hx : (a1.map daP)[j1]? = some (daP a1[j1]) := map_get daP _ j1 hlt
    refine ⟨_, _, _, _, ⟨by omega, by rw [Int.toNat_natCast]; exact hx, ?_⟩⟩
    refine ⟨by kernel_rfl, by kernel_rfl, by kernel_rfl, ?_⟩
    rw [at_eq]
    exact ⟨⟨rfl, trivial⟩, rfl, (a1).length - (j1 + 1), by omega, j1 + 1, by omega, rfl, by rw [wrap_id (by omega) (by omega)]; simp, by rw [hsn, hb]; rfl⟩
  have hge1 : ¬ j1 < (a1).length := by simpa using hge1
  obtain rfl : j1 = (a1).length := by omega
  rw [List.take_length]
  refine ⟨fun c v => ∃ j : Nat, j ≤ (a2).length ∧ c = (a2).length - j ∧ v.2.1 = (j : Int) ∧ v.1 = ((B0 || a1.any (fun d : Da => atB d.line d.col)) || ((a2).take j).any (fun f : Fu => atB f.line f.col || placedE f.body)), ⟨_, 0, Nat.zero_le _, rfl, rfl, by simp⟩, ?_⟩
  rintro c2 ⟨b2, i2, u2⟩ ⟨j2, hj2, rfl, hi2, hb2⟩
  dsimp only at hi2 hb2 ⊢
  subst hi2 hb2
  refine br_i (fun hlt => ?_) (fun hge2 => ?_)
  · have hlt : j2 < (a2).length := by simpa using hlt
    have hsn : ((B0 || a1.any (fun d : Da => atB d.line d.col)) || ((a2).take (j2 + 1)).any (fun f : Fu => atB f.line f.col || placedE f.body)) = (((B0 || a1.any (fun d : Da => atB d.line d.col)) || ((a2).take j2).any (fun f : Fu => atB f.line f.col || placedE f.body)) || (fun f : Fu => atB f.line f.col || placedE f.body) (a2)[j2]) := by rw [List.take_succ_eq_append_getElem hlt, List.any_append]; simp [Bool.or_assoc]
    refine br_i (fun hb => ?_) (fun hb => ?_)
    · exact ⟨⟨rfl, trivial⟩, rfl, (a2).length - (j2 + 1), by omega, j2 + 1, by omega, rfl, by rw [wrap_id (by omega) (by omega)]; simp, by rw [hsn, hb]; rfl⟩
    have hc := HF (a2)[j2] (List.getElem_mem hlt)
    have hx : ((a2).map fuP)[j2]? = some (fuP (a2)[j2]) := map_get fuP _ j2 hlt
    obtain ⟨B, e⟩ : ∃ x, placedE (a2)[j2].body = x := ⟨_, rfl⟩
    dsimp only at hsn
    rw [e] at hc hsn
    clear e
    generalize (a2)[j2] = A at hc hx hsn
    obtain ⟨fl, fc, fn, fp, ⟨xk, xn, xps⟩, ⟨xk2, xl2, xc2, xm2, xb2, xn2, xks2, xps2, xbs2⟩⟩ := A
    dsimp only at hc hsn
    refine ⟨_, _, _, _, _, _, _, _, _, _, _, _, _, _, _, ⟨by omega, by rw [Int.toNat_natCast]; exact hx, ?_⟩⟩
    refine ⟨by kernel_rfl, by kernel_rfl, by kernel_rfl, ?_⟩
    rw [at_eq]
    refine br_i (fun ha => ?_) (fun ha => ?_)
    · exact ⟨⟨rfl, trivial⟩, rfl, (a2).length - (j2 + 1), by omega, j2 + 1, by omega, rfl, by rw [wrap_id (by omega) (by omega)]; simp, by rw [hsn, hb, ha]; rfl⟩
    refine ⟨_, _, _, _, _, _, _, _, _, _, _, _, _, _, _, ⟨by omega, by rw [Int.toNat_natCast]; exact hx, ?_⟩⟩
    exact ⟨_, call_p (enters_of Tryz.func63 (by kernel_rfl) rfl) hc rfl ⟨⟨rfl, trivial⟩, rfl, (a2).length - (j2 + 1), by omega, j2 + 1, by omega, rfl, by rw [wrap_id (by omega) (by omega)]; simp, by rw [hsn, hb, ha]; rfl⟩⟩
  have hge2 : ¬ j2 < (a2).length := by simpa using hge2
  obtain rfl : j2 = (a2).length := by omega
  rw [List.take_length]
  refine ⟨fun c v => ∃ j : Nat, j ≤ (a8).length ∧ c = (a8).length - j ∧ v.2.1 = (j : Int) ∧ v.1 = (((B0 || a1.any (fun d : Da => atB d.line d.col)) || a2.any (fun f : Fu => atB f.line f.col || placedE f.body)) || ((a8).take j).any (fun f : Ha => atB f.line f.col || placedE f.body)), ⟨_, 0, Nat.zero_le _, rfl, rfl, by simp⟩, ?_⟩
  rintro c3 ⟨b3, i3, u3⟩ ⟨j3, hj3, rfl, hi3, hb3⟩
  dsimp only at hi3 hb3 ⊢
  subst hi3 hb3
  refine br_i (fun hlt => ?_) (fun hge3 => ?_)
  · have hlt : j3 < (a8).length := by simpa using hlt
    have hsn : (((B0 || a1.any (fun d : Da => atB d.line d.col)) || a2.any (fun f : Fu => atB f.line f.col || placedE f.body)) || ((a8).take (j3 + 1)).any (fun f : Ha => atB f.line f.col || placedE f.body)) = ((((B0 || a1.any (fun d : Da => atB d.line d.col)) || a2.any (fun f : Fu => atB f.line f.col || placedE f.body)) || ((a8).take j3).any (fun f : Ha => atB f.line f.col || placedE f.body)) || (fun f : Ha => atB f.line f.col || placedE f.body) (a8)[j3]) := by rw [List.take_succ_eq_append_getElem hlt, List.any_append]; simp [Bool.or_assoc]
    refine br_i (fun hb => ?_) (fun hb => ?_)
    · exact ⟨⟨rfl, trivial⟩, rfl, (a8).length - (j3 + 1), by omega, j3 + 1, by omega, rfl, by rw [wrap_id (by omega) (by omega)]; simp, by rw [hsn, hb]; rfl⟩
    have hc := HH (a8)[j3] (List.getElem_mem hlt)
    have hx : ((a8).map haP)[j3]? = some (haP (a8)[j3]) := map_get haP _ j3 hlt
    obtain ⟨B, e⟩ : ∃ x, placedE (a8)[j3].body = x := ⟨_, rfl⟩
    dsimp only at hsn
    rw [e] at hc hsn
    clear e
    generalize (a8)[j3] = A at hc hx hsn
    obtain ⟨fl, fc, fn, ⟨pn, ⟨xk, xn, xps⟩⟩, fcap, ⟨xk2, xl2, xc2, xm2, xb2, xn2, xks2, xps2, xbs2⟩⟩ := A
    dsimp only at hc hsn
    refine ⟨_, _, _, _, _, _, _, _, _, _, _, _, _, _, _, _, ⟨by omega, by rw [Int.toNat_natCast]; exact hx, ?_⟩⟩
    refine ⟨by kernel_rfl, by kernel_rfl, by kernel_rfl, ?_⟩
    rw [at_eq]
    refine br_i (fun ha => ?_) (fun ha => ?_)
    · exact ⟨⟨rfl, trivial⟩, rfl, (a8).length - (j3 + 1), by omega, j3 + 1, by omega, rfl, by rw [wrap_id (by omega) (by omega)]; simp, by rw [hsn, hb, ha]; rfl⟩
    refine ⟨_, _, _, _, _, _, _, _, _, _, _, _, _, _, _, _, ⟨by omega, by rw [Int.toNat_natCast]; exact hx, ?_⟩⟩
    exact ⟨_, call_p (enters_of Tryz.func63 (by kernel_rfl) rfl) hc rfl ⟨⟨rfl, trivial⟩, rfl, (a8).length - (j3 + 1), by omega, j3 + 1, by omega, rfl, by rw [wrap_id (by omega) (by omega)]; simp, by rw [hsn, hb, ha]; rfl⟩⟩
  have hge3 : ¬ j3 < (a8).length := by simpa using hge3
  obtain rfl : j3 = (a8).length := by omega
  rw [List.take_length]
  exact ⟨rfl, rfl⟩
end Go.Proofs.YtcmnjodjebcapaaGreat.Deep

namespace Go.Proofs.YtcmnjodjebcapaaGreat.Deep
open Go.RowKit
set_option linter.unusedVariables false
def p21 (i1 i2 i3 i4 : Int) (l5 : List (List PV)) (s6 : ByteArray) (l7 l8 : List (List PV)) (Q : PV → Heap → Prop) : Prop :=
∃ i9 : Int, ∃ i10 : Int, CallN Tryz.prog 59 [(.agg [(.con (.int .i64 0)), (.con (.int .i64 0))]), (.agg [i1, i2, i3, i4, l5, s6, l7, l8])] [[i1, i2, i3, i4, l5, s6, l7, l8]] (.agg [i9, i10])
  (Q (.tup [i9, i10]) [[i1, i2, i3, i4, l5, s6, l7, l8], [i9, i10]])
theorem a21 (i1 i2 i3 i4 : Int) (l5 : List (List PV)) (s6 : ByteArray) (l7 l8 : List (List PV)) (Q : PV → Heap → Prop) (h : p21 i1 i2 i3 i4 l5 s6 l7 l8 Q) : ACalls Tryz.prog 21 [(.agg [i1, i2, i3, i4, l5, s6, l7, l8])] [] Q := by
  have hb : Option.some (bodyOf Tryz.f21) = Tryz.f21.body := by kernel_rfl
  exact acalls_eq (S := S) (L := loops7) mixed tok Tryz.func21 hb.symm (by kernel_rfl) h
def p59 (i1 i2 i3 i4 i5 i6 : Int) (l7 : List (List PV)) (s8 : ByteArray) (l9 l10 : List (List PV)) (Q : PV → Heap → Prop) : Prop :=
∃ i11 : Int, ∃ i12 : Int, CallN Tryz.prog 127 [l9, (.agg [(IntKind.wrap .i64 (i1 + 1)), i2]), (.fn 128 [])] [[(IntKind.wrap .i64 (i1 + 1)), i2], [i3, i4, i5, i6, l7, s8, l9, l10], [(.con (.int .i64 0)), (.con (.int .i64 0))]] (.agg [i11, i12])
  (∃ i13 : Int, ∃ i14 : Int, CallN Tryz.prog 129 [l10, (.agg [i11, i12]), (.fn 130 [])] [[i11, i12], [i3, i4, i5, i6, l7, s8, l9, l10], [(.con (.int .i64 0)), (.con (.int .i64 0))]] (.agg [i13, i14])
  (Q (.agg [i13, i14]) [[i11, i12], [i3, i4, i5, i6, l7, s8, l9, l10], [i13, i14]]))
theorem a59 (i1 i2 i3 i4 i5 i6 : Int) (l7 : List (List PV)) (s8 : ByteArray) (l9 l10 : List (List PV)) (Q : PV → Heap → Prop) (h : p59 i1 i2 i3 i4 i5 i6 l7 s8 l9 l10 Q) : ACalls Tryz.prog 59 [(.agg [i1, i2]), (.agg [i3, i4, i5, i6, l7, s8, l9, l10])] [] Q := by
  have hb : Option.some (bodyOf Tryz.f59) = Tryz.f59.body := by kernel_rfl
  exact acalls_eq (S := S) (L := loops7) mixed tok Tryz.func59 hb.symm (by kernel_rfl) h
def p131 (i1 i2 i3 i4 i5 : Int) (s6 : ByteArray) (i7 : Int) (l8 : List (List PV)) (Q : PV → Heap → Prop) : Prop :=
∃ i9 : Int, ∃ i10 : Int, CallN Tryz.prog 186 [l8, (.agg [i1, (IntKind.wrap .i64 (i2 + 1))]), (.fn 187 [])] [[i1, (IntKind.wrap .i64 (i2 + 1))], [i3, i4, i5, s6, i7, l8], [(.con (.int .i64 0)), (.con (.int .i64 0))]] (.agg [i9, i10])
  (Q (.agg [i9, i10]) [[i1, (IntKind.wrap .i64 (i2 + 1))], [i3, i4, i5, s6, i7, l8], [i9, i10]])
theorem a131 (i1 i2 i3 i4 i5 : Int) (s6 : ByteArray) (i7 : Int) (l8 : List (List PV)) (Q : PV → Heap → Prop) (h : p131 i1 i2 i3 i4 i5 s6 i7 l8 Q) : ACalls Tryz.prog 131 [(.agg [i1, i2]), (.agg [i3, i4, i5, s6, i7, l8])] [] Q := by
  have hb : Option.some (bodyOf Tryz.f131) = Tryz.f131.body := by kernel_rfl
  exact acalls_eq (S := S) (L := loops7) mixed tok Tryz.func131 hb.symm (by kernel_rfl) h
def loops22 (id : Nat) : Option (List Nat × List (Nat × Sh)) := match Nat.beq id 10 with | true => some ([1], [(4, .int .i64), (5, .int .i64), (9, .int .i64)]) | false => match Nat.beq id 4 with | true => some ([1], [(4, .int .i64), (5, .int .i64), (6, .int .i64)]) | false => none
def p22 (i1 i2 i3 i4 : Int) (l5 : List (List PV)) (s6 : ByteArray) (l7 l8 : List (List PV)) (Q : PV → Heap → Prop) : Prop :=
∃ I9 : Nat → ((Int) × (Int) × (Int) × Unit) → Prop, (∃ n, I9 n (1, 0, 0, ())) ∧ ∀ (n10 : Nat) (v11 : (Int) × (Int) × (Int) × Unit), I9 n10 v11 →
  (br ((decide ((v11.2.2.1 : Int) < (List.length l7 : Int))))
  (∃ i12 : Int, ∃ i13 : Int, ∃ i14 : Int, ∃ i15 : Int, ∃ l16 : List (List PV), ∃ s17 : ByteArray, ∃ l18 : List (List PV), ∃ l19 : List (List PV), IdxN l7 v11.2.2.1 [i12, i13, i14, i15, l16, s17, l18, l19]
  (∃ i20 : Int, ∃ i21 : Int, CallN Tryz.prog 22 [(.agg [i12, i13, i14, i15, l16, s17, l18, l19])] [[i1, i2, i3, i4, l5, s6, l7, l8]] (.tup [i20, i21])
  ((@Eq PV (.ptr 0 0) (.ptr 0 0) ∧ True) ∧ @Eq Heap [[i1, i2, i3, i4, l5, s6, l7, l8]] [[i1, i2, i3, i4, l5, s6, l7, l8]] ∧ ∃ k22, k22 < n10 ∧ I9 k22 ((IntKind.wrap .i64 (v11.1 + i20)), (IntKind.wrap .i64 (v11.2.1 + i21)), (IntKind.wrap .i64 (v11.2.2.1 + 1)), ()))))
  (∃ I23 : Nat → ((Int) × (Int) × (Int) × Unit) → Prop, (∃ n, I23 n (v11.1, v11.2.1, 0, ())) ∧ ∀ (n24 : Nat) (v25 : (Int) × (Int) × (Int) × Unit), I23 n24 v25 →
  (br ((decide ((v25.2.2.1 : Int) < (List.length l8 : Int))))
  (∃ i26 : Int, ∃ i27 : Int, ∃ i28 : Int, ∃ s29 : ByteArray, ∃ i30 : Int, ∃ l31 : List (List PV), ∃ i32 : Int, ∃ i33 : Int, ∃ i34 : Int, ∃ i35 : Int, ∃ l36 : List (List PV), ∃ s37 : ByteArray, ∃ l38 : List (List PV), ∃ l39 : List (List PV), IdxN l8 v25.2.2.1 [i26, i27, i28, s29, i30, l31, i32, i33, i34, i35, l36, s37, l38, l39]
  (∃ i40 : Int, ∃ i41 : Int, CallN Tryz.prog 22 [(.agg [i32, i33, i34, i35, l36, s37, l38, l39])] [[i1, i2, i3, i4, l5, s6, l7, l8]] (.tup [i40, i41])
  (∃ i42 : Int, ∃ i43 : Int, ∃ i44 : Int, ∃ s45 : ByteArray, ∃ i46 : Int, ∃ l47 : List (List PV), ∃ i48 : Int, ∃ i49 : Int, ∃ i50 : Int, ∃ i51 : Int, ∃ l52 : List (List PV), ∃ s53 : ByteArray, ∃ l54 : List (List PV), ∃ l55 : List (List PV), IdxN l8 v25.2.2.1 [i42, i43, i44, s45, i46, l47, i48, i49, i50, i51, l52, s53, l54, l55]
  (∃ i56 : Int, CallN Tryz.prog 60 [(.agg [i42, i43, i44, s45, i46, l47])] [[i1, i2, i3, i4, l5, s6, l7, l8]] i56
  ((@Eq PV (.ptr 0 0) (.ptr 0 0) ∧ True) ∧ @Eq Heap [[i1, i2, i3, i4, l5, s6, l7, l8]] [[i1, i2, i3, i4, l5, s6, l7, l8]] ∧ ∃ k57, k57 < n24 ∧ I23 k57 ((IntKind.wrap .i64 (v25.1 + i40)), (IntKind.wrap .i64 ((IntKind.wrap .i64 (v25.2.1 + i41)) + i56)), (IntKind.wrap .i64 (v25.2.2.1 + 1)), ()))))))
  (Q (.tup [v25.1, v25.2.1]) [[i1, i2, i3, i4, l5, s6, l7, l8]]))))
theorem a22 (i1 i2 i3 i4 : Int) (l5 : List (List PV)) (s6 : ByteArray) (l7 l8 : List (List PV)) (Q : PV → Heap → Prop) (h : p22 i1 i2 i3 i4 l5 s6 l7 l8 Q) : ACalls Tryz.prog 22 [(.agg [i1, i2, i3, i4, l5, s6, l7, l8])] [] Q := by
  have hb : Option.some (bodyOf Tryz.f22) = Tryz.f22.body := by kernel_rfl
  exact acalls_eq (S := S) (L := loops22) mixed tok Tryz.func22 hb.symm (by kernel_rfl) h
def loops60 (id : Nat) : Option (List Nat × List (Nat × Sh)) := match Nat.beq id 3 with | true => some ([1], [(3, .int .i64), (4, .int .i64)]) | false => none
def p60 (i1 i2 i3 : Int) (s4 : ByteArray) (i5 : Int) (l6 : List (List PV)) (Q : PV → Heap → Prop) : Prop :=
∃ I7 : Nat → ((Int) × (Int) × Unit) → Prop, (∃ n, I7 n (1, 0, ())) ∧ ∀ (n8 : Nat) (v9 : (Int) × (Int) × Unit), I7 n8 v9 →
  (br ((decide ((v9.2.1 : Int) < (List.length l6 : Int))))
  (∃ i10 : Int, ∃ i11 : Int, ∃ i12 : Int, ∃ s13 : ByteArray, ∃ i14 : Int, ∃ l15 : List (List PV), IdxN l6 v9.2.1 [i10, i11, i12, s13, i14, l15]
  (∃ i16 : Int, CallN Tryz.prog 60 [(.agg [i10, i11, i12, s13, i14, l15])] [[i1, i2, i3, s4, i5, l6]] i16
  ((@Eq PV (.ptr 0 0) (.ptr 0 0) ∧ True) ∧ @Eq Heap [[i1, i2, i3, s4, i5, l6]] [[i1, i2, i3, s4, i5, l6]] ∧ ∃ k17, k17 < n8 ∧ I7 k17 ((IntKind.wrap .i64 (v9.1 + i16)), (IntKind.wrap .i64 (v9.2.1 + 1)), ()))))
  (Q v9.1 [[i1, i2, i3, s4, i5, l6]]))
theorem a60 (i1 i2 i3 : Int) (s4 : ByteArray) (i5 : Int) (l6 : List (List PV)) (Q : PV → Heap → Prop) (h : p60 i1 i2 i3 s4 i5 l6 Q) : ACalls Tryz.prog 60 [(.agg [i1, i2, i3, s4, i5, l6])] [] Q := by
  have hb : Option.some (bodyOf Tryz.f60) = Tryz.f60.body := by kernel_rfl
  exact acalls_eq (S := S) (L := loops60) mixed tok Tryz.func60 hb.symm (by kernel_rfl) h
def p128 (i1 i2 i3 i4 i5 i6 i7 : Int) (l8 : List (List PV)) (s9 : ByteArray) (l10 l11 : List (List PV)) (Q : PV → Heap → Prop) : Prop :=
∃ i12 : Int, ∃ i13 : Int, CallN Tryz.prog 59 [(.agg [i1, i2]), (.agg [i4, i5, i6, i7, l8, s9, l10, l11])] [[i1, i2], [i4, i5, i6, i7, l8, s9, l10, l11], [(.con (.int .i64 0)), (.con (.int .i64 0))]] (.agg [i12, i13])
  (Q (.agg [i12, i13]) [[i1, i2], [i4, i5, i6, i7, l8, s9, l10, l11], [i12, i13]])
theorem a128 (i1 i2 i3 i4 i5 i6 i7 : Int) (l8 : List (List PV)) (s9 : ByteArray) (l10 l11 : List (List PV)) (Q : PV → Heap → Prop) (h : p128 i1 i2 i3 i4 i5 i6 i7 l8 s9 l10 l11 Q) : ACalls Tryz.prog 128 [(.agg [i1, i2]), i3, (.agg [i4, i5, i6, i7, l8, s9, l10, l11])] [] Q := by
  have hb : Option.some (bodyOf Tryz.f128) = Tryz.f128.body := by kernel_rfl
  exact acalls_eq (S := S) (L := loops7) mixed tok Tryz.func128 hb.symm (by kernel_rfl) h
def p130 (i1 i2 i3 i4 i5 i6 : Int) (s7 : ByteArray) (i8 : Int) (l9 : List (List PV)) (i10 i11 i12 i13 : Int) (l14 : List (List PV)) (s15 : ByteArray) (l16 l17 : List (List PV)) (Q : PV → Heap → Prop) : Prop :=
∃ i18 : Int, ∃ i19 : Int, CallN Tryz.prog 131 [(.agg [i1, i2]), (.agg [i4, i5, i6, s7, i8, l9])] [[i1, i2], [i4, i5, i6, s7, i8, l9, i10, i11, i12, i13, l14, s15, l16, l17], [(.con (.int .i64 0)), (.con (.int .i64 0))]] (.agg [i18, i19])
  (∃ i20 : Int, ∃ i21 : Int, CallN Tryz.prog 59 [(.agg [i18, i19]), (.agg [i10, i11, i12, i13, l14, s15, l16, l17])] [[i1, i2], [i4, i5, i6, s7, i8, l9, i10, i11, i12, i13, l14, s15, l16, l17], [(.con (.int .i64 0)), (.con (.int .i64 0))]] (.agg [i20, i21])
  (Q (.agg [i20, i21]) [[i1, i2], [i4, i5, i6, s7, i8, l9, i10, i11, i12, i13, l14, s15, l16, l17], [i20, i21]]))
theorem a130 (i1 i2 i3 i4 i5 i6 : Int) (s7 : ByteArray) (i8 : Int) (l9 : List (List PV)) (i10 i11 i12 i13 : Int) (l14 : List (List PV)) (s15 : ByteArray) (l16 l17 : List (List PV)) (Q : PV → Heap → Prop) (h : p130 i1 i2 i3 i4 i5 i6 s7 i8 l9 i10 i11 i12 i13 l14 s15 l16 l17 Q) : ACalls Tryz.prog 130 [(.agg [i1, i2]), i3, (.agg [i4, i5, i6, s7, i8, l9, i10, i11, i12, i13, l14, s15, l16, l17])] [] Q := by
  have hb : Option.some (bodyOf Tryz.f130) = Tryz.f130.body := by kernel_rfl
  exact acalls_eq (S := S) (L := loops7) mixed tok Tryz.func130 hb.symm (by kernel_rfl) h
def p187 (i1 i2 i3 i4 i5 i6 : Int) (s7 : ByteArray) (i8 : Int) (l9 : List (List PV)) (Q : PV → Heap → Prop) : Prop :=
∃ i10 : Int, ∃ i11 : Int, CallN Tryz.prog 131 [(.agg [i1, i2]), (.agg [i4, i5, i6, s7, i8, l9])] [[i1, i2], [i4, i5, i6, s7, i8, l9], [(.con (.int .i64 0)), (.con (.int .i64 0))]] (.agg [i10, i11])
  (Q (.agg [i10, i11]) [[i1, i2], [i4, i5, i6, s7, i8, l9], [i10, i11]])
theorem a187 (i1 i2 i3 i4 i5 i6 : Int) (s7 : ByteArray) (i8 : Int) (l9 : List (List PV)) (Q : PV → Heap → Prop) (h : p187 i1 i2 i3 i4 i5 i6 s7 i8 l9 Q) : ACalls Tryz.prog 187 [(.agg [i1, i2]), i3, (.agg [i4, i5, i6, s7, i8, l9])] [] Q := by
  have hb : Option.some (bodyOf Tryz.f187) = Tryz.f187.body := by kernel_rfl
  exact acalls_eq (S := S) (L := loops7) mixed tok Tryz.func187 hb.symm (by kernel_rfl) h
def loops127k (id : Nat) : Option (List Nat × List (Nat × Sh)) := match Nat.beq id 2 with | true => some ([2, 4, 6, 9, 10], [(11, .int .i64), (1000000, .int .i64), (1000001, .int .i64)]) | false => none
def p127k (l1 : List (List PV)) (i2 i3 : Int) (Q : PV → Heap → Prop) : Prop :=
∃ I4 : Nat → ((Int) × (Int) × (Int) × Unit) → Prop, (∃ n, I4 n (0, i2, i3, ())) ∧ ∀ (n5 : Nat) (v6 : (Int) × (Int) × (Int) × Unit), I4 n5 v6 →
  (br ((decide ((v6.1 : Int) < (List.length l1 : Int))))
  (∃ i7 : Int, ∃ i8 : Int, ∃ i9 : Int, ∃ i10 : Int, ∃ l11 : List (List PV), ∃ s12 : ByteArray, ∃ l13 : List (List PV), ∃ l14 : List (List PV), IdxN l1 v6.1 [i7, i8, i9, i10, l11, s12, l13, l14]
  (∃ i15 : Int, ∃ i16 : Int, CallN Tryz.prog 128 [(.agg [v6.2.1, v6.2.2.1]), v6.1, (.agg [i7, i8, i9, i10, l11, s12, l13, l14])] [[v6.2.1, v6.2.2.1], [(.con (.int .i64 0)), (.con (.int .i64 0))], [i7, i8, i9, i10, l11, s12, l13, l14]] (.agg [i15, i16])
  ((@Eq PV (.fn 128 []) (.fn 128 []) ∧ @Eq PV (.ptr 0 0) (.ptr 0 0) ∧ @Eq PV (.ptr 1 0) (.ptr 1 0) ∧ @Eq PV l1 l1 ∧ @Eq PV (.con (.int .i64 (List.length l1 : Int))) (.con (.int .i64 (List.length l1 : Int))) ∧ True) ∧ @Eq Heap [[i15, i16], [(.con (.int .i64 0)), (.con (.int .i64 0))]] [[i15, i16], [(.con (.int .i64 0)), (.con (.int .i64 0))]] ∧ ∃ k17, k17 < n5 ∧ I4 k17 ((IntKind.wrap .i64 (v6.1 + 1)), i15, i16, ()))))
  (Q (.agg [v6.2.1, v6.2.2.1]) [[v6.2.1, v6.2.2.1], [v6.2.1, v6.2.2.1]]))
theorem a127k (l1 : List (List PV)) (i2 i3 : Int) (Q : PV → Heap → Prop) (h : p127k l1 i2 i3 Q) : ACalls Tryz.prog 127 [l1, (.agg [i2, i3]), (.fn 128 [])] [] Q := by
  have hb : Option.some (bodyOf Tryz.f127) = Tryz.f127.body := by kernel_rfl
  exact acalls_eq (S := S) (L := loops127k) mixed tok Tryz.func127 hb.symm (by kernel_rfl) h
def loops129k (id : Nat) : Option (List Nat × List (Nat × Sh)) := match Nat.beq id 2 with | true => some ([2, 4, 6, 9, 10], [(11, .int .i64), (1000000, .int .i64), (1000001, .int .i64)]) | false => none
def p129k (l1 : List (List PV)) (i2 i3 : Int) (Q : PV → Heap → Prop) : Prop :=
∃ I4 : Nat → ((Int) × (Int) × (Int) × Unit) → Prop, (∃ n, I4 n (0, i2, i3, ())) ∧ ∀ (n5 : Nat) (v6 : (Int) × (Int) × (Int) × Unit), I4 n5 v6 →
  (br ((decide ((v6.1 : Int) < (List.length l1 : Int))))
  (∃ i7 : Int, ∃ i8 : Int, ∃ i9 : Int, ∃ s10 : ByteArray, ∃ i11 : Int, ∃ l12 : List (List PV), ∃ i13 : Int, ∃ i14 : Int, ∃ i15 : Int, ∃ i16 : Int, ∃ l17 : List (List PV), ∃ s18 : ByteArray, ∃ l19 : List (List PV), ∃ l20 : List (List PV), IdxN l1 v6.1 [i7, i8, i9, s10, i11, l12, i13, i14, i15, i16, l17, s18, l19, l20]
  (∃ i21 : Int, ∃ i22 : Int, CallN Tryz.prog 130 [(.agg [v6.2.1, v6.2.2.1]), v6.1, (.agg [i7, i8, i9, s10, i11, l12, i13, i14, i15, i16, l17, s18, l19, l20])] [[v6.2.1, v6.2.2.1], [(.con (.int .i64 0)), (.con (.int .i64 0))], [i7, i8, i9, s10, i11, l12, i13, i14, i15, i16, l17, s18, l19, l20]] (.agg [i21, i22])
  ((@Eq PV (.fn 130 []) (.fn 130 []) ∧ @Eq PV (.ptr 0 0) (.ptr 0 0) ∧ @Eq PV (.ptr 1 0) (.ptr 1 0) ∧ @Eq PV l1 l1 ∧ @Eq PV (.con (.int .i64 (List.length l1 : Int))) (.con (.int .i64 (List.length l1 : Int))) ∧ True) ∧ @Eq Heap [[i21, i22], [(.con (.int .i64 0)), (.con (.int .i64 0))]] [[i21, i22], [(.con (.int .i64 0)), (.con (.int .i64 0))]] ∧ ∃ k23, k23 < n5 ∧ I4 k23 ((IntKind.wrap .i64 (v6.1 + 1)), i21, i22, ()))))
  (Q (.agg [v6.2.1, v6.2.2.1]) [[v6.2.1, v6.2.2.1], [v6.2.1, v6.2.2.1]]))
theorem a129k (l1 : List (List PV)) (i2 i3 : Int) (Q : PV → Heap → Prop) (h : p129k l1 i2 i3 Q) : ACalls Tryz.prog 129 [l1, (.agg [i2, i3]), (.fn 130 [])] [] Q := by
  have hb : Option.some (bodyOf Tryz.f129) = Tryz.f129.body := by kernel_rfl
  exact acalls_eq (S := S) (L := loops129k) mixed tok Tryz.func129 hb.symm (by kernel_rfl) h
def loops186k (id : Nat) : Option (List Nat × List (Nat × Sh)) := match Nat.beq id 2 with | true => some ([2, 4, 6, 9, 10], [(11, .int .i64), (1000000, .int .i64), (1000001, .int .i64)]) | false => none
def p186k (l1 : List (List PV)) (i2 i3 : Int) (Q : PV → Heap → Prop) : Prop :=
∃ I4 : Nat → ((Int) × (Int) × (Int) × Unit) → Prop, (∃ n, I4 n (0, i2, i3, ())) ∧ ∀ (n5 : Nat) (v6 : (Int) × (Int) × (Int) × Unit), I4 n5 v6 →
  (br ((decide ((v6.1 : Int) < (List.length l1 : Int))))
  (∃ i7 : Int, ∃ i8 : Int, ∃ i9 : Int, ∃ s10 : ByteArray, ∃ i11 : Int, ∃ l12 : List (List PV), IdxN l1 v6.1 [i7, i8, i9, s10, i11, l12]
  (∃ i13 : Int, ∃ i14 : Int, CallN Tryz.prog 187 [(.agg [v6.2.1, v6.2.2.1]), v6.1, (.agg [i7, i8, i9, s10, i11, l12])] [[v6.2.1, v6.2.2.1], [(.con (.int .i64 0)), (.con (.int .i64 0))], [i7, i8, i9, s10, i11, l12]] (.agg [i13, i14])
  ((@Eq PV (.fn 187 []) (.fn 187 []) ∧ @Eq PV (.ptr 0 0) (.ptr 0 0) ∧ @Eq PV (.ptr 1 0) (.ptr 1 0) ∧ @Eq PV l1 l1 ∧ @Eq PV (.con (.int .i64 (List.length l1 : Int))) (.con (.int .i64 (List.length l1 : Int))) ∧ True) ∧ @Eq Heap [[i13, i14], [(.con (.int .i64 0)), (.con (.int .i64 0))]] [[i13, i14], [(.con (.int .i64 0)), (.con (.int .i64 0))]] ∧ ∃ k15, k15 < n5 ∧ I4 k15 ((IntKind.wrap .i64 (v6.1 + 1)), i13, i14, ()))))
  (Q (.agg [v6.2.1, v6.2.2.1]) [[v6.2.1, v6.2.2.1], [v6.2.1, v6.2.2.1]]))
theorem a186k (l1 : List (List PV)) (i2 i3 : Int) (Q : PV → Heap → Prop) (h : p186k l1 i2 i3 Q) : ACalls Tryz.prog 186 [l1, (.agg [i2, i3]), (.fn 187 [])] [] Q := by
  have hb : Option.some (bodyOf Tryz.f186) = Tryz.f186.body := by kernel_rfl
  exact acalls_eq (S := S) (L := loops186k) mixed tok Tryz.func186 hb.symm (by kernel_rfl) h
end Go.Proofs.YtcmnjodjebcapaaGreat.Deep

namespace Go.Proofs.YtcmnjodjebcapaaGreat.Deep
open Go.RowKit
set_option linter.unusedVariables false
set_option linter.unusedSimpArgs false
def W (n : Int) : Int := IntKind.i64.wrap n
theorem W_l (a b : Int) : IntKind.i64.wrap (W a + b) = W (a + b) := by unfold W; simp only [IntKind.wrap_i64]; omega
theorem W_lr (a b : Int) : IntKind.i64.wrap (W a + W b) = W (a + b) := by unfold W; simp only [IntKind.wrap_i64]; omega
theorem W_zero : W 0 = 0 := by decide
theorem W_one : W 1 = 1 := by decide
mutual
def cntP : Pt → Int
  | .mk _ _ _ _ _ ks => 1 + cntPs ks
def cntPs : List Pt → Int
  | [] => 0
  | t :: ts => cntP t + cntPs ts
end
mutual
def cntE : Ex → Int
  | .mk _ _ _ _ _ _ ks _ bs => 1 + (cntEs ks + cntEs bs)
def cntEs : List Ex → Int
  | [] => 0
  | t :: ts => cntE t + cntEs ts
end
mutual
def cntQ : Ex → Int
  | .mk _ _ _ _ _ _ ks ps bs => cntQs ks + (cntPs ps + cntQs bs)
def cntQs : List Ex → Int
  | [] => 0
  | t :: ts => cntQ t + cntQs ts
end
def sumTo (f : Nat → Int) : Nat → Int
  | 0 => 0
  | n + 1 => sumTo f n + f n
theorem sumTo_add (f g : Nat → Int) : ∀ n, sumTo (fun j => f j + g j) n = sumTo f n + sumTo g n
  | 0 => rfl
  | n + 1 => by simp only [sumTo]; rw [sumTo_add f g n]; omega
theorem sumTo_zero : ∀ n, sumTo (fun _ => 0) n = 0
  | 0 => rfl
  | n + 1 => by simp only [sumTo]; rw [sumTo_zero n]; rfl
theorem sumTo_shift (f : Nat → Int) : ∀ n, sumTo f (n + 1) = f 0 + sumTo (fun j => f (j + 1)) n
  | 0 => by simp [sumTo]
  | n + 1 => by rw [sumTo, sumTo_shift f n, sumTo]; omega
theorem cntPs_sum (d : Pt) : ∀ ts : List Pt, cntPs ts = sumTo (fun j => cntP (ts.getD j d)) ts.length
  | [] => rfl
  | t :: ts => by rw [cntPs, cntPs_sum d ts, List.length_cons, sumTo_shift]; rfl
theorem cntEs_sum (d : Ex) : ∀ ts : List Ex, cntEs ts = sumTo (fun j => cntE (ts.getD j d)) ts.length
  | [] => rfl
  | t :: ts => by rw [cntEs, cntEs_sum d ts, List.length_cons, sumTo_shift]; rfl
theorem cntQs_sum (d : Ex) : ∀ ts : List Ex, cntQs ts = sumTo (fun j => cntQ (ts.getD j d)) ts.length
  | [] => rfl
  | t :: ts => by rw [cntQs, cntQs_sum d ts, List.length_cons, sumTo_shift]; rfl
def cP (a b : Int) : PV := .agg [.con (.int .i64 (W a)), .con (.int .i64 (W b))]
theorem countE (l : List (List PV)) (n : Nat) (hn : l.length = n) (hm : n ≤ 9223372036854775806) (f g : Nat → Int) (H : ∀ j, j < n → ∃ x0 : Int, ∃ x1 : Int, ∃ x2 : Int, ∃ x3 : Int, ∃ x4 : List (List PV), ∃ x5 : ByteArray, ∃ x6 : List (List PV), ∃ x7 : List (List PV), l[j]? = some [.con (.int .i64 x0), .con (.int .i64 x1), .con (.int .i64 x2), .con (.int .i64 x3), .sl x4, .con (.string x5), .sl x6, .sl x7] ∧ ∀ a b : Int, PCalls Tryz.prog 128 [cP a b, .con (.int .i64 j), .agg [.con (.int .i64 x0), .con (.int .i64 x1), .con (.int .i64 x2), .con (.int .i64 x3), .sl x4, .con (.string x5), .sl x6, .sl x7]] (fun r => r = cP (a + f j) (b + g j))) (a b : Int) : PCalls Tryz.prog 127 [.sl l, cP a b, .fn 128 []] (fun r => r = cP (a + sumTo f n) (b + sumTo g n)) := by
  refine a127k _ _ _ _ ?_
  unfold p127k
  rw [hn]
  refine ⟨fun c v => ∃ j : Nat, j ≤ n ∧ c = n - j ∧ v.1 = (j : Int) ∧ v.2.1 = W (a + sumTo f j) ∧ v.2.2.1 = W (b + sumTo g j), ⟨_, 0, Nat.zero_le _, rfl, rfl, by simp [sumTo], by simp [sumTo]⟩, ?_⟩
  rintro c ⟨i, p, q, u⟩ ⟨j, hj, rfl, hi, hp, hq⟩
  dsimp only at hi hp hq ⊢
  subst hi hp hq
  refine br_i (fun hlt => ?_) (fun hge => ?_)
  · have hlt : j < n := by simpa using hlt
    obtain ⟨x0, x1, x2, x3, x4, x5, x6, x7, hx, hc⟩ := H j hlt
    refine ⟨_, _, _, _, _, _, _, _, ⟨by omega, by rw [Int.toNat_natCast]; exact hx, ?_⟩⟩
    refine ⟨_, _, call_p (enters_of Tryz.func128 (by kernel_rfl) rfl) (hc (a + sumTo f j) (b + sumTo g j)) rfl ⟨⟨by trivial, by trivial, by trivial, by trivial, by trivial, trivial⟩, by trivial, n - (j + 1), by omega, j + 1, by omega, rfl, ?_, ?_, ?_⟩⟩
    · rw [wrap_id (by omega) (by omega)]; simp
    · rw [sumTo, Int.add_assoc]
    · rw [sumTo, Int.add_assoc]
  · have hge : ¬ j < n := by simpa using hge
    obtain rfl : j = n := by omega
    exact ⟨rfl, rfl⟩
theorem countA (l : List (List PV)) (n : Nat) (hn : l.length = n) (hm : n ≤ 9223372036854775806) (f g : Nat → Int) (H : ∀ j, j < n → ∃ x0 : Int, ∃ x1 : Int, ∃ x2 : Int, ∃ x3 : ByteArray, ∃ x4 : Int, ∃ x5 : List (List PV), ∃ x6 : Int, ∃ x7 : Int, ∃ x8 : Int, ∃ x9 : Int, ∃ x10 : List (List PV), ∃ x11 : ByteArray, ∃ x12 : List (List PV), ∃ x13 : List (List PV), l[j]? = some [.con (.int .i64 x0), .con (.int .i64 x1), .con (.int .i64 x2), .con (.string x3), .con (.int .i64 x4), .sl x5, .con (.int .i64 x6), .con (.int .i64 x7), .con (.int .i64 x8), .con (.int .i64 x9), .sl x10, .con (.string x11), .sl x12, .sl x13] ∧ ∀ a b : Int, PCalls Tryz.prog 130 [cP a b, .con (.int .i64 j), .agg [.con (.int .i64 x0), .con (.int .i64 x1), .con (.int .i64 x2), .con (.string x3), .con (.int .i64 x4), .sl x5, .con (.int .i64 x6), .con (.int .i64 x7), .con (.int .i64 x8), .con (.int .i64 x9), .sl x10, .con (.string x11), .sl x12, .sl x13]] (fun r => r = cP (a + f j) (b + g j))) (a b : Int) : PCalls Tryz.prog 129 [.sl l, cP a b, .fn 130 []] (fun r => r = cP (a + sumTo f n) (b + sumTo g n)) := by
  refine a129k _ _ _ _ ?_
  unfold p129k
  rw [hn]
  refine ⟨fun c v => ∃ j : Nat, j ≤ n ∧ c = n - j ∧ v.1 = (j : Int) ∧ v.2.1 = W (a + sumTo f j) ∧ v.2.2.1 = W (b + sumTo g j), ⟨_, 0, Nat.zero_le _, rfl, rfl, by simp [sumTo], by simp [sumTo]⟩, ?_⟩
  rintro c ⟨i, p, q, u⟩ ⟨j, hj, rfl, hi, hp, hq⟩
  dsimp only at hi hp hq ⊢
  subst hi hp hq
  refine br_i (fun hlt => ?_) (fun hge => ?_)
  · have hlt : j < n := by simpa using hlt
    obtain ⟨x0, x1, x2, x3, x4, x5, x6, x7, x8, x9, x10, x11, x12, x13, hx, hc⟩ := H j hlt
    refine ⟨_, _, _, _, _, _, _, _, _, _, _, _, _, _, ⟨by omega, by rw [Int.toNat_natCast]; exact hx, ?_⟩⟩
    refine ⟨_, _, call_p (enters_of Tryz.func130 (by kernel_rfl) rfl) (hc (a + sumTo f j) (b + sumTo g j)) rfl ⟨⟨by trivial, by trivial, by trivial, by trivial, by trivial, trivial⟩, by trivial, n - (j + 1), by omega, j + 1, by omega, rfl, ?_, ?_, ?_⟩⟩
    · rw [wrap_id (by omega) (by omega)]; simp
    · rw [sumTo, Int.add_assoc]
    · rw [sumTo, Int.add_assoc]
  · have hge : ¬ j < n := by simpa using hge
    obtain rfl : j = n := by omega
    exact ⟨rfl, rfl⟩
theorem countP (l : List (List PV)) (n : Nat) (hn : l.length = n) (hm : n ≤ 9223372036854775806) (f g : Nat → Int) (H : ∀ j, j < n → ∃ x0 : Int, ∃ x1 : Int, ∃ x2 : Int, ∃ x3 : ByteArray, ∃ x4 : Int, ∃ x5 : List (List PV), l[j]? = some [.con (.int .i64 x0), .con (.int .i64 x1), .con (.int .i64 x2), .con (.string x3), .con (.int .i64 x4), .sl x5] ∧ ∀ a b : Int, PCalls Tryz.prog 187 [cP a b, .con (.int .i64 j), .agg [.con (.int .i64 x0), .con (.int .i64 x1), .con (.int .i64 x2), .con (.string x3), .con (.int .i64 x4), .sl x5]] (fun r => r = cP (a + f j) (b + g j))) (a b : Int) : PCalls Tryz.prog 186 [.sl l, cP a b, .fn 187 []] (fun r => r = cP (a + sumTo f n) (b + sumTo g n)) := by
  refine a186k _ _ _ _ ?_
  unfold p186k
  rw [hn]
  refine ⟨fun c v => ∃ j : Nat, j ≤ n ∧ c = n - j ∧ v.1 = (j : Int) ∧ v.2.1 = W (a + sumTo f j) ∧ v.2.2.1 = W (b + sumTo g j), ⟨_, 0, Nat.zero_le _, rfl, rfl, by simp [sumTo], by simp [sumTo]⟩, ?_⟩
  rintro c ⟨i, p, q, u⟩ ⟨j, hj, rfl, hi, hp, hq⟩
  dsimp only at hi hp hq ⊢
  subst hi hp hq
  refine br_i (fun hlt => ?_) (fun hge => ?_)
  · have hlt : j < n := by simpa using hlt
    obtain ⟨x0, x1, x2, x3, x4, x5, hx, hc⟩ := H j hlt
    refine ⟨_, _, _, _, _, _, ⟨by omega, by rw [Int.toNat_natCast]; exact hx, ?_⟩⟩
    refine ⟨_, _, call_p (enters_of Tryz.func187 (by kernel_rfl) rfl) (hc (a + sumTo f j) (b + sumTo g j)) rfl ⟨⟨by trivial, by trivial, by trivial, by trivial, by trivial, trivial⟩, by trivial, n - (j + 1), by omega, j + 1, by omega, rfl, ?_, ?_, ?_⟩⟩
    · rw [wrap_id (by omega) (by omega)]; simp
    · rw [sumTo, Int.add_assoc]
    · rw [sumTo, Int.add_assoc]
  · have hge : ¬ j < n := by simpa using hge
    obtain rfl : j = n := by omega
    exact ⟨rfl, rfl⟩
theorem cnt_pt (t : Pt) : smallPt t → ∀ a b : Int, PCalls Tryz.prog 131 [cP a b, .agg (ptP t)] (fun r => r = cP a (b + cntP t)) := by
  induction t using Pt.ind with
  | h k li co n m ps ih =>
  intro hs a b
  unfold smallPt at hs
  have hF := countP (ptPs ps) ps.length (ptPs_len ps) (by omega) (fun _ => 0) (fun j => cntP (ps.getD j Pt.zero)) (fun j hj => by
    have hx := ptPs_get ps j hj
    have hi := ih j hj (smallPts_get ps hs.2.2 j hj)
    rw [getD_at ps Pt.zero j hj]
    obtain ⟨k', li', co', n', m', ps', hp⟩ := pt_mk ps[j]
    rw [hp] at hx hi ⊢
    refine ⟨_, _, _, _, _, _, hx, fun a b => ?_⟩
    refine a187 _ _ _ _ _ _ _ _ _ _ ?_
    unfold p187
    rw [Int.add_zero]
    exact ⟨_, _, call_p (enters_of Tryz.func131 (by kernel_rfl) rfl) (hi a b) rfl ⟨rfl, rfl⟩⟩) a (b + 1)
  rw [sumTo_zero, Int.add_zero, ← cntPs_sum, Int.add_assoc] at hF
  unfold cntP
  refine a131 _ _ _ _ _ _ _ _ _ ?_
  unfold p131
  rw [W_l]
  exact ⟨_, _, call_p (enters_of Tryz.func186 (by kernel_rfl) rfl) hF rfl ⟨rfl, rfl⟩⟩
theorem cnt_ex (t : Ex) : smallEx t → wfEx t → ∀ a b : Int, PCalls Tryz.prog 59 [cP a b, .agg (exP t)] (fun r => r = cP (a + cntE t) (b + cntQ t)) := by
  induction t using Ex.ind with
  | h k li co m by_ n ks ps bs ihk ihb =>
  intro hs hw a b
  unfold smallEx at hs
  unfold wfEx at hw
  obtain ⟨hpb, hwk, hwb⟩ := hw
  have hK := countE (exPs ks) ks.length (exPs_len ks) (by omega) (fun j => cntE (ks.getD j Ex.zero)) (fun j => cntQ (ks.getD j Ex.zero)) (fun j hj => by
    have hx := exPs_get ks j hj
    have hi := ihk j hj (smallExs_get ks (by simp only [hs]) j hj) (wfExs_at ks hwk j hj)
    rw [getD_at ks Ex.zero j hj]
    obtain ⟨k', li', co', m', b', n', ks', ps', bs', hp⟩ := ex_mk ks[j]
    rw [hp] at hx hi ⊢
    refine ⟨_, _, _, _, _, _, _, _, hx, fun a b => ?_⟩
    refine a128 _ _ _ _ _ _ _ _ _ _ _ _ ?_
    unfold p128
    exact ⟨_, _, call_p (enters_of Tryz.func59 (by kernel_rfl) rfl) (hi a b) rfl ⟨rfl, rfl⟩⟩) (a + 1) b
  have hA := countA (arPs bs ps) bs.length (arPs_len bs ps hpb) (by omega) (fun j => cntE (bs.getD j Ex.zero)) (fun j => cntP (ps.getD j Pt.zero) + cntQ (bs.getD j Ex.zero)) (fun j hj => by
    have hjp : j < ps.length := by omega
    have hx := arPs_get bs ps j hj hjp
    have hi := ihb j hj (smallExs_get bs (by simp only [hs]) j hj) (wfExs_at bs hwb j hj)
    have hq := cnt_pt ps[j] (smallPts_get ps (by simp only [hs]) j hjp)
    rw [getD_at bs Ex.zero j hj, getD_at ps Pt.zero j hjp]
    obtain ⟨k', li', co', m', b', n', ks', ps', bs', hp⟩ := ex_mk bs[j]
    obtain ⟨k2, li2, co2, n2, m2, ps2, hp2⟩ := pt_mk ps[j]
    rw [hp] at hx hi ⊢
    rw [hp2] at hx hq ⊢
    refine ⟨_, _, _, _, _, _, _, _, _, _, _, _, _, _, hx, fun a b => ?_⟩
    refine a130 _ _ _ _ _ _ _ _ _ _ _ _ _ _ _ _ _ _ ?_
    unfold p130
    refine ⟨_, _, call_p (enters_of Tryz.func131 (by kernel_rfl) rfl) (hq a b) rfl ?_⟩
    rw [← Int.add_assoc]
    exact ⟨_, _, call_p (enters_of Tryz.func59 (by kernel_rfl) rfl) (hi a (b + cntP (.mk k2 li2 co2 n2 m2 ps2))) rfl ⟨rfl, rfl⟩⟩) (a + 1 + cntEs ks) (b + cntQs ks)
  rw [← cntEs_sum, ← cntQs_sum] at hK
  rw [sumTo_add, ← cntEs_sum, ← cntQs_sum, ← hpb, ← cntPs_sum] at hA
  rw [show a + cntE (.mk k li co m by_ n ks ps bs) = a + 1 + cntEs ks + cntEs bs by rw [cntE]; omega, show b + cntQ (.mk k li co m by_ n ks ps bs) = b + cntQs ks + (cntPs ps + cntQs bs) by rw [cntQ]; omega]
  refine a59 _ _ _ _ _ _ _ _ _ _ _ ?_
  unfold p59
  rw [W_l]
  refine ⟨_, _, call_p (enters_of Tryz.func127 (by kernel_rfl) rfl) hK rfl ?_⟩
  exact ⟨_, _, call_p (enters_of Tryz.func129 (by kernel_rfl) rfl) hA rfl ⟨rfl, rfl⟩⟩
theorem nodes_p (t : Ex) (hs : smallEx t) (hw : wfEx t) : PCalls Tryz.prog 21 [.agg (exP t)] (fun r => r = .tup [.con (.int .i64 (W (cntE t))), .con (.int .i64 (W (cntQ t)))]) := by
  have h := cnt_ex t hs hw 0 0
  rw [Int.zero_add, Int.zero_add] at h
  unfold cP at h
  rw [W_zero] at h
  obtain ⟨k', li', co', m', b', n', ks', ps', bs', hp⟩ := ex_mk t
  subst hp
  refine a21 _ _ _ _ _ _ _ _ _ ?_
  unfold p21
  exact ⟨_, _, call_p (enters_of Tryz.func59 (by kernel_rfl) rfl) h rfl ⟨rfl, rfl⟩⟩
end Go.Proofs.YtcmnjodjebcapaaGreat.Deep

namespace Go.Proofs.YtcmnjodjebcapaaGreat.Deep
open Go.RowKit
set_option linter.unusedVariables false
def p136 (i1 i2 i3 i4 : Int) (l5 : List (List PV)) (s6 : ByteArray) (l7 l8 : List (List PV)) (i9 : Int) (Q : PV → Heap → Prop) : Prop :=
br (((i9 : Int) == 1))
  (br (((i1 : Int) == 6))
  (Q (.own 1 9 1 [[s6]]) [[i1, i2, i3, i4, l5, s6, l7, l8], [.tip]])
  (br (((i1 : Int) == 10))
  (Q (.own 1 9 1 [[s6]]) [[i1, i2, i3, i4, l5, s6, l7, l8], [.tip]])
  (Q (.con (.slice none 0 0)) [[i1, i2, i3, i4, l5, s6, l7, l8]])))
  (Q (.con (.slice none 0 0)) [[i1, i2, i3, i4, l5, s6, l7, l8]])
theorem a136 (i1 i2 i3 i4 : Int) (l5 : List (List PV)) (s6 : ByteArray) (l7 l8 : List (List PV)) (i9 : Int) (Q : PV → Heap → Prop) (h : p136 i1 i2 i3 i4 l5 s6 l7 l8 i9 Q) : ACalls Tryz.prog 136 [(.agg [i1, i2, i3, i4, l5, s6, l7, l8]), i9] [] Q := by
  have hb : Option.some (bodyOf Tryz.f136) = Tryz.f136.body := by kernel_rfl
  exact acalls_eq (S := S) (L := loops7) mixed tok Tryz.func136 hb.symm (by kernel_rfl) h
def p139 (l1 : List (List PV)) (i2 i3 i4 i5 : Int) (s6 : ByteArray) (i7 : Int) (l8 : List (List PV)) (Q : PV → Heap → Prop) : Prop :=
br (((i3 : Int) == 1))
  (AppN l1 [[s6]] 1 16 PV.one
  (∃ l9 : List (List PV), CallF Tryz.prog 189 [l8, (.own 0 9 1 (l1 ++ ([[s6]] : List (List PV)))), (.fn 139 [])] [[.tip]] (.own 1 9 1 l9) [[], [.tip]]
  (Q (.own 1 9 1 l9) [[], [.tip]])))
  (∃ l10 : List (List PV), CallF Tryz.prog 189 [l8, (.own 0 9 1 l1), (.fn 139 [])] [[.tip]] (.own 1 9 1 l10) [[], [.tip]]
  (Q (.own 1 9 1 l10) [[], [.tip]]))
theorem a139 (l1 : List (List PV)) (i2 i3 i4 i5 : Int) (s6 : ByteArray) (i7 : Int) (l8 : List (List PV)) (Q : PV → Heap → Prop) (h : p139 l1 i2 i3 i4 i5 s6 i7 l8 Q) : ACalls Tryz.prog 139 [(.own 0 9 1 l1), i2, (.agg [i3, i4, i5, s6, i7, l8])] [[.tip]] Q := by
  have hb : Option.some (bodyOf Tryz.f139) = Tryz.f139.body := by kernel_rfl
  exact acalls_canon (res := [.cell (.own 1 9 1)]) (post := [.dead, .tip]) (acalls_eq (S := S) (L := loops7) mixed tok Tryz.func139 hb.symm (by kernel_rfl) h)
def loops189k (id : Nat) : Option (List Nat × List (Nat × Sh)) := match Nat.beq id 2 with | true => some ([2, 9, 10], [(1, .own 0 9 1), (11, .int .i64)]) | false => none
def p189k (l1 l2 : List (List PV)) (Q : PV → Heap → Prop) : Prop :=
∃ I3 : Nat → ((List (List PV)) × (Int) × Unit) → Prop, (∃ n, I3 n (l2, 0, ())) ∧ ∀ (n4 : Nat) (v5 : (List (List PV)) × (Int) × Unit), I3 n4 v5 →
  (br ((decide ((v5.2.1 : Int) < (List.length l1 : Int))))
  (∃ i6 : Int, ∃ i7 : Int, ∃ i8 : Int, ∃ s9 : ByteArray, ∃ i10 : Int, ∃ l11 : List (List PV), IdxN l1 v5.2.1 [i6, i7, i8, s9, i10, l11]
  (∃ l12 : List (List PV), CallF Tryz.prog 139 [(.own 0 9 1 v5.1), v5.2.1, (.agg [i6, i7, i8, s9, i10, l11])] [[.tip]] (.own 1 9 1 l12) [[], [.tip]]
  ((@Eq PV (.fn 139 []) (.fn 139 []) ∧ @Eq PV l1 l1 ∧ @Eq PV (.con (.int .i64 (List.length l1 : Int))) (.con (.int .i64 (List.length l1 : Int))) ∧ True) ∧ @Eq Heap [[]] [[]] ∧ ∃ k13, k13 < n4 ∧ I3 k13 (l12, (IntKind.wrap .i64 (v5.2.1 + 1)), ()))))
  (Q (.own 1 9 1 v5.1) [[], [.tip]]))
theorem a189k (l1 l2 : List (List PV)) (Q : PV → Heap → Prop) (h : p189k l1 l2 Q) : ACalls Tryz.prog 189 [l1, (.own 0 9 1 l2), (.fn 139 [])] [[.tip]] Q := by
  have hb : Option.some (bodyOf Tryz.f189) = Tryz.f189.body := by kernel_rfl
  exact acalls_canon (res := [.cell (.own 1 9 1)]) (post := [.dead, .tip]) (acalls_eq (S := S) (L := loops189k) mixed tok Tryz.func189 hb.symm (by kernel_rfl) h)
def p188 (s1 : ByteArray) (l2 : List (List PV)) (n3 : Nat) (D4 : DataW Unit) (n5 : Nat) (D6 : DataW Unit) (Q : PV → Heap → Prop) : Prop :=
∃ c7 : Int, MapN D4 s1 .i64 c7
  (MapU n3 s1 .i64 (IntKind.wrap .i64 (c7 - 1))
  (∃ c8 : Int, MapN (DataW.put D4 (.string (Array.toList (ByteArray.data s1))) (.lit (.int .i64 (IntKind.wrap .i64 (c7 - 1))))) s1 .i64 c8
  (br (((c8 : Int) == 0))
  (MapD s1
  (Q (.tup []) [[(.mp 1), (.mp 2), (.own 3 9 1 l2)], [(.mpc 9 3 (n3 + 1) (DataW.del (DataW.put D4 (.string (Array.toList (ByteArray.data s1))) (.lit (.int .i64 (IntKind.wrap .i64 (c7 - 1))))) (.string (Array.toList (ByteArray.data s1)))))], [(.mpc 9 3 n5 D6)], [.tip]]))
  (Q (.tup []) [[(.mp 1), (.mp 2), (.own 3 9 1 l2)], [(.mpc 9 3 (n3 + 1) (DataW.put D4 (.string (Array.toList (ByteArray.data s1))) (.lit (.int .i64 (IntKind.wrap .i64 (c7 - 1))))))], [(.mpc 9 3 n5 D6)], [.tip]]))))
theorem a188 (s1 : ByteArray) (l2 : List (List PV)) (n3 : Nat) (D4 : DataW Unit) (n5 : Nat) (D6 : DataW Unit) (Q : PV → Heap → Prop) (h : p188 s1 l2 n3 D4 n5 D6 Q) : ACalls Tryz.prog 188 [(.ptr 0 0), s1] [[(.mp 1), (.mp 2), (.own 3 9 1 l2)], [(.mpc 9 3 n3 D4)], [(.mpc 9 3 n5 D6)], [.tip]] Q := by
  have hb : Option.some (bodyOf Tryz.f188) = Tryz.f188.body := by kernel_rfl
  exact acalls_canon (res := []) (post := [.keep, .cells [.mpc 9 3], .keep, .keep]) (acalls_eq (S := S) (L := loops7) mixed tok Tryz.func188 hb.symm (by kernel_rfl) h)
def p132 (s1 : ByteArray) (l2 : List (List PV)) (n3 : Nat) (D4 : DataW Unit) (n5 : Nat) (D6 : DataW Unit) (Q : PV → Heap → Prop) : Prop :=
∃ c7 : Int, MapN D4 s1 .i64 c7
  (br ((decide ((c7 : Int) > 0)))
  (Q (.tup []) [[(.mp 1), (.mp 2), (.own 4 9 1 l2)], [(.mpc 9 3 n3 D4)], [(.mpc 9 3 n5 D6)], [], [.tip]])
  (∃ c8 : Int, MapN D6 s1 .i64 c8
  (br ((decide ((c8 : Int) > 0)))
  (Q (.tup []) [[(.mp 1), (.mp 2), (.own 4 9 1 l2)], [(.mpc 9 3 n3 D4)], [(.mpc 9 3 n5 D6)], [], [.tip]])
  (∃ c9 : Int, MapN D6 s1 .i64 c9
  (MapU n5 s1 .i64 (IntKind.wrap .i64 (c9 + 1))
  (AppN l2 [[s1]] 1 16 PV.one
  (Q (.tup []) [[(.mp 1), (.mp 2), (.own 4 9 1 (l2 ++ ([[s1]] : List (List PV))))], [(.mpc 9 3 n3 D4)], [(.mpc 9 3 (n5 + 1) (DataW.put D6 (.string (Array.toList (ByteArray.data s1))) (.lit (.int .i64 (IntKind.wrap .i64 (c9 + 1))))))], [], [.tip]])))))))
theorem a132 (s1 : ByteArray) (l2 : List (List PV)) (n3 : Nat) (D4 : DataW Unit) (n5 : Nat) (D6 : DataW Unit) (Q : PV → Heap → Prop) (h : p132 s1 l2 n3 D4 n5 D6 Q) : ACalls Tryz.prog 132 [(.ptr 0 0), s1] [[(.mp 1), (.mp 2), (.own 3 9 1 l2)], [(.mpc 9 3 n3 D4)], [(.mpc 9 3 n5 D6)], [.tip]] Q := by
  have hb : Option.some (bodyOf Tryz.f132) = Tryz.f132.body := by kernel_rfl
  exact acalls_canon (res := []) (post := [.cells [.mp 1, .mp 2, .own 4 9 1], .cells [.mpc 9 3], .cells [.mpc 9 3], .dead, .tip]) (acalls_eq (S := S) (L := loops7) mixed tok Tryz.func132 hb.symm (by kernel_rfl) h)
def loops135 (id : Nat) : Option (List Nat × List (Nat × Sh)) := match Nat.beq id 8 with | true => some ([0, 28, 29], [(30, .int .i64), (1001000, .mpc 9 3)]) | false => match Nat.beq id 2 with | true => some ([0, 1, 5, 11, 12], [(13, .int .i64), (1001000, .mpc 9 3)]) | false => none
def p135 (l1 : List (List PV)) (i2 i3 i4 i5 : Int) (l6 : List (List PV)) (s7 : ByteArray) (l8 l9 l10 : List (List PV)) (n11 : Nat) (D12 : DataW Unit) (n13 : Nat) (D14 : DataW Unit) (Q : PV → Heap → Prop) : Prop :=
∃ I15 : Nat → ((Int) × ((Nat × DataW Unit)) × Unit) → Prop, (∃ n, I15 n (0, (n11, D12), ())) ∧ ∀ (n16 : Nat) (v17 : (Int) × ((Nat × DataW Unit)) × Unit), I15 n16 v17 →
  (br ((decide ((v17.1 : Int) < (List.length l1 : Int))))
  (∃ s18 : ByteArray, IdxN l1 v17.1 [s18]
  (∃ c19 : Int, MapN v17.2.1.2 s18 .i64 c19
  (MapU v17.2.1.1 s18 .i64 (IntKind.wrap .i64 (c19 + 1))
  ((@Eq PV (.ptr 0 0) (.ptr 0 0) ∧ @Eq PV l1 l1 ∧ @Eq PV (.ptr 4 0) (.ptr 4 0) ∧ @Eq PV l1 l1 ∧ @Eq PV (.con (.int .i64 (List.length l1 : Int))) (.con (.int .i64 (List.length l1 : Int))) ∧ True) ∧ @Eq Heap [[(.mp 1), (.mp 2), (.own 3 9 1 l10)], [(.mpc 9 3 (v17.2.1.1 + 1) (DataW.put v17.2.1.2 (.string (Array.toList (ByteArray.data s18))) (.lit (.int .i64 (IntKind.wrap .i64 (c19 + 1))))))], [(.mpc 9 3 n13 D14)], [.tip], [i2, i3, i4, i5, l6, s7, l8, l9]] [[(.mp 1), (.mp 2), (.own 3 9 1 l10)], [(.mpc 9 3 (v17.2.1.1 + 1) (DataW.put v17.2.1.2 (.string (Array.toList (ByteArray.data s18))) (.lit (.int .i64 (IntKind.wrap .i64 (c19 + 1))))))], [(.mpc 9 3 n13 D14)], [.tip], [i2, i3, i4, i5, l6, s7, l8, l9]] ∧ ∃ k20, k20 < n16 ∧ I15 k20 ((IntKind.wrap .i64 (v17.1 + 1)), ((v17.2.1.1 + 1), (DataW.put v17.2.1.2 (.string (Array.toList (ByteArray.data s18))) (.lit (.int .i64 (IntKind.wrap .i64 (c19 + 1)))))), ())))))
  (∃ l21 : List (List PV), ∃ n22 : Nat, ∃ D23 : DataW Unit, ∃ n24 : Nat, ∃ D25 : DataW Unit, CallF Tryz.prog 61 [(.ptr 0 0), (.agg [i2, i3, i4, i5, l6, s7, l8, l9])] [[(.mp 1), (.mp 2), (.own 3 9 1 l10)], [(.mpc 9 3 v17.2.1.1 v17.2.1.2)], [(.mpc 9 3 n13 D14)], [.tip]] (.ptr 0 0) [[(.mp 1), (.mp 2), (.own 4 9 1 l21)], [(.mpc 9 3 n22 D23)], [(.mpc 9 3 n24 D25)], [], [.tip]]
  (∃ I26 : Nat → ((Int) × ((Nat × DataW Unit)) × Unit) → Prop, (∃ n, I26 n (0, (n22, D23), ())) ∧ ∀ (n27 : Nat) (v28 : (Int) × ((Nat × DataW Unit)) × Unit), I26 n27 v28 →
  (br ((decide ((v28.1 : Int) < (List.length l1 : Int))))
  (∃ s29 : ByteArray, IdxN l1 v28.1 [s29]
  (∃ n30 : Nat, ∃ D31 : DataW Unit, CallF Tryz.prog 188 [(.ptr 0 0), s29] [[(.mp 1), (.mp 2), (.own 3 9 1 l21)], [(.mpc 9 3 v28.2.1.1 v28.2.1.2)], [(.mpc 9 3 n24 D25)], [.tip]] (.tup []) [[(.mp 1), (.mp 2), (.own 3 9 1 l21)], [(.mpc 9 3 n30 D31)], [(.mpc 9 3 n24 D25)], [.tip]]
  ((@Eq PV (.ptr 0 0) (.ptr 0 0) ∧ @Eq PV l1 l1 ∧ @Eq PV (.con (.int .i64 (List.length l1 : Int))) (.con (.int .i64 (List.length l1 : Int))) ∧ True) ∧ @Eq Heap [[(.mp 1), (.mp 2), (.own 9 9 1 l21)], [(.mpc 9 3 n30 D31)], [(.mpc 9 3 n24 D25)], [], [i2, i3, i4, i5, l6, s7, l8, l9], [.tip], [.tip], [.tip], [.tip], [.tip]] [[(.mp 1), (.mp 2), (.own 9 9 1 l21)], [(.mpc 9 3 n30 D31)], [(.mpc 9 3 n24 D25)], [], [i2, i3, i4, i5, l6, s7, l8, l9], [.tip], [.tip], [.tip], [.tip], [.tip]] ∧ ∃ k32, k32 < n27 ∧ I26 k32 ((IntKind.wrap .i64 (v28.1 + 1)), (n30, D31), ()))))
  (Q (.ptr 0 0) [[(.mp 1), (.mp 2), (.own 4 9 1 l21)], [(.mpc 9 3 v28.2.1.1 v28.2.1.2)], [(.mpc 9 3 n24 D25)], [], [.tip]])))))
theorem a135 (l1 : List (List PV)) (i2 i3 i4 i5 : Int) (l6 : List (List PV)) (s7 : ByteArray) (l8 l9 l10 : List (List PV)) (n11 : Nat) (D12 : DataW Unit) (n13 : Nat) (D14 : DataW Unit) (Q : PV → Heap → Prop) (h : p135 l1 i2 i3 i4 i5 l6 s7 l8 l9 l10 n11 D12 n13 D14 Q) : ACalls Tryz.prog 135 [(.ptr 0 0), l1, (.agg [i2, i3, i4, i5, l6, s7, l8, l9])] [[(.mp 1), (.mp 2), (.own 3 9 1 l10)], [(.mpc 9 3 n11 D12)], [(.mpc 9 3 n13 D14)], [.tip]] Q := by
  have hb : Option.some (bodyOf Tryz.f135) = Tryz.f135.body := by kernel_rfl
  exact acalls_canon (res := [.cell (.ptr 0 0)]) (post := [.cells [.mp 1, .mp 2, .own 4 9 1], .cells [.mpc 9 3], .cells [.mpc 9 3], .dead, .tip]) (acalls_eq (S := S) (L := loops135) mixed tok Tryz.func135 hb.symm (by kernel_rfl) h)
def p134k (i1 i2 i3 i4 i5 : Int) (l6 : List (List PV)) (s7 : ByteArray) (l8 l9 : List (List PV)) (i10 i11 i12 i13 : Int) (l14 : List (List PV)) (s15 : ByteArray) (l16 l17 l18 : List (List PV)) (n19 : Nat) (D20 : DataW Unit) (n21 : Nat) (D22 : DataW Unit) (Q : PV → Heap → Prop) : Prop :=
∃ l23 : List (List PV), CallN Tryz.prog 136 [(.agg [i10, i11, i12, i13, l14, s15, l16, l17]), i1] [[(.mp 1), (.mp 2), (.own 3 9 1 l18)], [(.mpc 9 3 n19 D20)], [(.mpc 9 3 n21 D22)], [.tip], [i2, i3, i4, i5, l6, s7, l8, l9]] l23
  (∃ l24 : List (List PV), ∃ n25 : Nat, ∃ D26 : DataW Unit, ∃ n27 : Nat, ∃ D28 : DataW Unit, CallF Tryz.prog 135 [(.ptr 0 0), l23, (.agg [i2, i3, i4, i5, l6, s7, l8, l9])] [[(.mp 1), (.mp 2), (.own 3 9 1 l18)], [(.mpc 9 3 n19 D20)], [(.mpc 9 3 n21 D22)], [.tip]] (.ptr 0 0) [[(.mp 1), (.mp 2), (.own 4 9 1 l24)], [(.mpc 9 3 n25 D26)], [(.mpc 9 3 n27 D28)], [], [.tip]]
  (Q (.ptr 0 0) [[(.mp 1), (.mp 2), (.own 4 9 1 l24)], [(.mpc 9 3 n25 D26)], [(.mpc 9 3 n27 D28)], [], [.tip]]))
theorem a134k (i1 i2 i3 i4 i5 : Int) (l6 : List (List PV)) (s7 : ByteArray) (l8 l9 : List (List PV)) (i10 i11 i12 i13 : Int) (l14 : List (List PV)) (s15 : ByteArray) (l16 l17 l18 : List (List PV)) (n19 : Nat) (D20 : DataW Unit) (n21 : Nat) (D22 : DataW Unit) (Q : PV → Heap → Prop) (h : p134k i1 i2 i3 i4 i5 l6 s7 l8 l9 i10 i11 i12 i13 l14 s15 l16 l17 l18 n19 D20 n21 D22 Q) : ACalls Tryz.prog 134 [(.ptr 0 0), i1, (.agg [i2, i3, i4, i5, l6, s7, l8, l9]), (.ept [i10, i11, i12, i13, l14, s15, l16, l17] 0)] [[(.mp 1), (.mp 2), (.own 3 9 1 l18)], [(.mpc 9 3 n19 D20)], [(.mpc 9 3 n21 D22)], [.tip]] Q := by
  have hb : Option.some (bodyOf Tryz.f134) = Tryz.f134.body := by kernel_rfl
  exact acalls_canon (res := [.cell (.ptr 0 0)]) (post := [.cells [.mp 1, .mp 2, .own 4 9 1], .cells [.mpc 9 3], .cells [.mpc 9 3], .dead, .tip]) (acalls_eq (S := S) (L := loops7) mixed tok Tryz.func134 hb.symm (by kernel_rfl) h)
def p138 (i1 i2 i3 i4 : Int) (s5 : ByteArray) (i6 : Int) (l7 : List (List PV)) (i8 i9 i10 i11 : Int) (l12 : List (List PV)) (s13 : ByteArray) (l14 l15 l16 : List (List PV)) (n17 : Nat) (D18 : DataW Unit) (n19 : Nat) (D20 : DataW Unit) (Q : PV → Heap → Prop) : Prop :=
∃ l21 : List (List PV), CallF Tryz.prog 139 [(.own 0 9 1 []), (.con (.int .i64 0)), (.agg [i2, i3, i4, s5, i6, l7])] [[.tip]] (.own 1 9 1 l21) [[], [.tip]]
  (∃ l22 : List (List PV), ∃ n23 : Nat, ∃ D24 : DataW Unit, ∃ n25 : Nat, ∃ D26 : DataW Unit, CallF Tryz.prog 135 [(.ptr 0 0), l21, (.agg [i8, i9, i10, i11, l12, s13, l14, l15])] [[(.mp 1), (.mp 2), (.own 3 9 1 l16)], [(.mpc 9 3 n17 D18)], [(.mpc 9 3 n19 D20)], [.tip]] (.ptr 0 0) [[(.mp 1), (.mp 2), (.own 4 9 1 l22)], [(.mpc 9 3 n23 D24)], [(.mpc 9 3 n25 D26)], [], [.tip]]
  (Q (.ptr 0 0) [[(.mp 1), (.mp 2), (.own 4 9 1 l22)], [(.mpc 9 3 n23 D24)], [(.mpc 9 3 n25 D26)], [], [.tip]]))
theorem a138 (i1 i2 i3 i4 : Int) (s5 : ByteArray) (i6 : Int) (l7 : List (List PV)) (i8 i9 i10 i11 : Int) (l12 : List (List PV)) (s13 : ByteArray) (l14 l15 l16 : List (List PV)) (n17 : Nat) (D18 : DataW Unit) (n19 : Nat) (D20 : DataW Unit) (Q : PV → Heap → Prop) (h : p138 i1 i2 i3 i4 s5 i6 l7 i8 i9 i10 i11 l12 s13 l14 l15 l16 n17 D18 n19 D20 Q) : ACalls Tryz.prog 138 [(.ptr 0 0), i1, (.agg [i2, i3, i4, s5, i6, l7, i8, i9, i10, i11, l12, s13, l14, l15])] [[(.mp 1), (.mp 2), (.own 3 9 1 l16)], [(.mpc 9 3 n17 D18)], [(.mpc 9 3 n19 D20)], [.tip]] Q := by
  have hb : Option.some (bodyOf Tryz.f138) = Tryz.f138.body := by kernel_rfl
  exact acalls_canon (res := [.cell (.ptr 0 0)]) (post := [.cells [.mp 1, .mp 2, .own 4 9 1], .cells [.mpc 9 3], .cells [.mpc 9 3], .dead, .tip]) (acalls_eq (S := S) (L := loops7) mixed tok Tryz.func138 hb.symm (by kernel_rfl) h)
def loops133k (id : Nat) : Option (List Nat × List (Nat × Sh)) := match Nat.beq id 2 with | true => some ([1, 2, 9, 10], [(11, .int .i64), (1000002, .own 0 9 1), (1001000, .mpc 9 3), (1002000, .mpc 9 3)]) | false => none
def p133k (l1 : List (List PV)) (i2 i3 i4 i5 : Int) (l6 : List (List PV)) (s7 : ByteArray) (l8 l9 l10 : List (List PV)) (n11 : Nat) (D12 : DataW Unit) (n13 : Nat) (D14 : DataW Unit) (Q : PV → Heap → Prop) : Prop :=
∃ I15 : Nat → ((Int) × (List (List PV)) × ((Nat × DataW Unit)) × ((Nat × DataW Unit)) × Unit) → Prop, (∃ n, I15 n (0, l10, (n11, D12), (n13, D14), ())) ∧ ∀ (n16 : Nat) (v17 : (Int) × (List (List PV)) × ((Nat × DataW Unit)) × ((Nat × DataW Unit)) × Unit), I15 n16 v17 →
  (br ((decide ((v17.1 : Int) < (List.length l1 : Int))))
  (∃ i18 : Int, ∃ i19 : Int, ∃ i20 : Int, ∃ i21 : Int, ∃ l22 : List (List PV), ∃ s23 : ByteArray, ∃ l24 : List (List PV), ∃ l25 : List (List PV), IdxN l1 v17.1 [i18, i19, i20, i21, l22, s23, l24, l25]
  (∃ l26 : List (List PV), ∃ n27 : Nat, ∃ D28 : DataW Unit, ∃ n29 : Nat, ∃ D30 : DataW Unit, CallF Tryz.prog 134 [(.ptr 0 0), v17.1, (.agg [i18, i19, i20, i21, l22, s23, l24, l25]), (.ept [i2, i3, i4, i5, l6, s7, l8, l9] 0)] [[(.mp 1), (.mp 2), (.own 3 9 1 v17.2.1)], [(.mpc 9 3 v17.2.2.1.1 v17.2.2.1.2)], [(.mpc 9 3 v17.2.2.2.1.1 v17.2.2.2.1.2)], [.tip]] (.ptr 0 0) [[(.mp 1), (.mp 2), (.own 4 9 1 l26)], [(.mpc 9 3 n27 D28)], [(.mpc 9 3 n29 D30)], [], [.tip]]
  ((@Eq PV (.ptr 0 0) (.ptr 0 0) ∧ @Eq PV (.fn 134 [(.ept [i2, i3, i4, i5, l6, s7, l8, l9] 0)]) (.fn 134 [(.ept [i2, i3, i4, i5, l6, s7, l8, l9] 0)]) ∧ @Eq PV l1 l1 ∧ @Eq PV (.con (.int .i64 (List.length l1 : Int))) (.con (.int .i64 (List.length l1 : Int))) ∧ True) ∧ @Eq Heap [[(.mp 1), (.mp 2), (.own 4 9 1 l26)], [(.mpc 9 3 n27 D28)], [(.mpc 9 3 n29 D30)], []] [[(.mp 1), (.mp 2), (.own 4 9 1 l26)], [(.mpc 9 3 n27 D28)], [(.mpc 9 3 n29 D30)], []] ∧ ∃ k31, k31 < n16 ∧ I15 k31 ((IntKind.wrap .i64 (v17.1 + 1)), l26, (n27, D28), (n29, D30), ()))))
  (Q (.ptr 0 0) [[(.mp 1), (.mp 2), (.own 4 9 1 v17.2.1)], [(.mpc 9 3 v17.2.2.1.1 v17.2.2.1.2)], [(.mpc 9 3 v17.2.2.2.1.1 v17.2.2.2.1.2)], [], [.tip]]))
theorem a133k (l1 : List (List PV)) (i2 i3 i4 i5 : Int) (l6 : List (List PV)) (s7 : ByteArray) (l8 l9 l10 : List (List PV)) (n11 : Nat) (D12 : DataW Unit) (n13 : Nat) (D14 : DataW Unit) (Q : PV → Heap → Prop) (h : p133k l1 i2 i3 i4 i5 l6 s7 l8 l9 l10 n11 D12 n13 D14 Q) : ACalls Tryz.prog 133 [l1, (.ptr 0 0), (.fn 134 [(.ept [i2, i3, i4, i5, l6, s7, l8, l9] 0)])] [[(.mp 1), (.mp 2), (.own 3 9 1 l10)], [(.mpc 9 3 n11 D12)], [(.mpc 9 3 n13 D14)], [.tip]] Q := by
  have hb : Option.some (bodyOf Tryz.f133) = Tryz.f133.body := by kernel_rfl
  exact acalls_canon (res := [.cell (.ptr 0 0)]) (post := [.cells [.mp 1, .mp 2, .own 4 9 1], .cells [.mpc 9 3], .cells [.mpc 9 3], .dead, .tip]) (acalls_eq (S := S) (L := loops133k) mixed tok Tryz.func133 hb.symm (by kernel_rfl) h)
def loops137k (id : Nat) : Option (List Nat × List (Nat × Sh)) := match Nat.beq id 2 with | true => some ([1, 2, 9, 10], [(11, .int .i64), (1000002, .own 0 9 1), (1001000, .mpc 9 3), (1002000, .mpc 9 3)]) | false => none
def p137k (l1 l2 : List (List PV)) (n3 : Nat) (D4 : DataW Unit) (n5 : Nat) (D6 : DataW Unit) (Q : PV → Heap → Prop) : Prop :=
∃ I7 : Nat → ((Int) × (List (List PV)) × ((Nat × DataW Unit)) × ((Nat × DataW Unit)) × Unit) → Prop, (∃ n, I7 n (0, l2, (n3, D4), (n5, D6), ())) ∧ ∀ (n8 : Nat) (v9 : (Int) × (List (List PV)) × ((Nat × DataW Unit)) × ((Nat × DataW Unit)) × Unit), I7 n8 v9 →
  (br ((decide ((v9.1 : Int) < (List.length l1 : Int))))
  (∃ i10 : Int, ∃ i11 : Int, ∃ i12 : Int, ∃ s13 : ByteArray, ∃ i14 : Int, ∃ l15 : List (List PV), ∃ i16 : Int, ∃ i17 : Int, ∃ i18 : Int, ∃ i19 : Int, ∃ l20 : List (List PV), ∃ s21 : ByteArray, ∃ l22 : List (List PV), ∃ l23 : List (List PV), IdxN l1 v9.1 [i10, i11, i12, s13, i14, l15, i16, i17, i18, i19, l20, s21, l22, l23]
  (∃ l24 : List (List PV), ∃ n25 : Nat, ∃ D26 : DataW Unit, ∃ n27 : Nat, ∃ D28 : DataW Unit, CallF Tryz.prog 138 [(.ptr 0 0), v9.1, (.agg [i10, i11, i12, s13, i14, l15, i16, i17, i18, i19, l20, s21, l22, l23])] [[(.mp 1), (.mp 2), (.own 3 9 1 v9.2.1)], [(.mpc 9 3 v9.2.2.1.1 v9.2.2.1.2)], [(.mpc 9 3 v9.2.2.2.1.1 v9.2.2.2.1.2)], [.tip]] (.ptr 0 0) [[(.mp 1), (.mp 2), (.own 4 9 1 l24)], [(.mpc 9 3 n25 D26)], [(.mpc 9 3 n27 D28)], [], [.tip]]
  ((@Eq PV (.ptr 0 0) (.ptr 0 0) ∧ @Eq PV (.fn 138 []) (.fn 138 []) ∧ @Eq PV l1 l1 ∧ @Eq PV (.con (.int .i64 (List.length l1 : Int))) (.con (.int .i64 (List.length l1 : Int))) ∧ True) ∧ @Eq Heap [[(.mp 1), (.mp 2), (.own 4 9 1 l24)], [(.mpc 9 3 n25 D26)], [(.mpc 9 3 n27 D28)], []] [[(.mp 1), (.mp 2), (.own 4 9 1 l24)], [(.mpc 9 3 n25 D26)], [(.mpc 9 3 n27 D28)], []] ∧ ∃ k29, k29 < n8 ∧ I7 k29 ((IntKind.wrap .i64 (v9.1 + 1)), l24, (n25, D26), (n27, D28), ()))))
  (Q (.ptr 0 0) [[(.mp 1), (.mp 2), (.own 4 9 1 v9.2.1)], [(.mpc 9 3 v9.2.2.1.1 v9.2.2.1.2)], [(.mpc 9 3 v9.2.2.2.1.1 v9.2.2.2.1.2)], [], [.tip]]))
theorem a137k (l1 l2 : List (List PV)) (n3 : Nat) (D4 : DataW Unit) (n5 : Nat) (D6 : DataW Unit) (Q : PV → Heap → Prop) (h : p137k l1 l2 n3 D4 n5 D6 Q) : ACalls Tryz.prog 137 [l1, (.ptr 0 0), (.fn 138 [])] [[(.mp 1), (.mp 2), (.own 3 9 1 l2)], [(.mpc 9 3 n3 D4)], [(.mpc 9 3 n5 D6)], [.tip]] Q := by
  have hb : Option.some (bodyOf Tryz.f137) = Tryz.f137.body := by kernel_rfl
  exact acalls_canon (res := [.cell (.ptr 0 0)]) (post := [.cells [.mp 1, .mp 2, .own 4 9 1], .cells [.mpc 9 3], .cells [.mpc 9 3], .dead, .tip]) (acalls_eq (S := S) (L := loops137k) mixed tok Tryz.func137 hb.symm (by kernel_rfl) h)
def p61 (i1 i2 i3 i4 : Int) (l5 : List (List PV)) (s6 : ByteArray) (l7 l8 l9 : List (List PV)) (n10 : Nat) (D11 : DataW Unit) (n12 : Nat) (D13 : DataW Unit) (Q : PV → Heap → Prop) : Prop :=
br (((i1 : Int) == 2))
  (∃ l14 : List (List PV), ∃ n15 : Nat, ∃ D16 : DataW Unit, ∃ n17 : Nat, ∃ D18 : DataW Unit, CallF Tryz.prog 132 [(.ptr 0 0), s6] [[(.mp 1), (.mp 2), (.own 3 9 1 l9)], [(.mpc 9 3 n10 D11)], [(.mpc 9 3 n12 D13)], [.tip]] (.tup []) [[(.mp 1), (.mp 2), (.own 4 9 1 l14)], [(.mpc 9 3 n15 D16)], [(.mpc 9 3 n17 D18)], [], [.tip]]
  (∃ l19 : List (List PV), ∃ n20 : Nat, ∃ D21 : DataW Unit, ∃ n22 : Nat, ∃ D23 : DataW Unit, CallF Tryz.prog 133 [l7, (.ptr 0 0), (.fn 134 [(.ept [i1, i2, i3, i4, l5, s6, l7, l8] 0)])] [[(.mp 1), (.mp 2), (.own 3 9 1 l14)], [(.mpc 9 3 n15 D16)], [(.mpc 9 3 n17 D18)], [.tip]] (.ptr 0 0) [[(.mp 1), (.mp 2), (.own 4 9 1 l19)], [(.mpc 9 3 n20 D21)], [(.mpc 9 3 n22 D23)], [], [.tip]]
  (∃ l24 : List (List PV), ∃ n25 : Nat, ∃ D26 : DataW Unit, ∃ n27 : Nat, ∃ D28 : DataW Unit, CallF Tryz.prog 137 [l8, (.ptr 0 0), (.fn 138 [])] [[(.mp 1), (.mp 2), (.own 3 9 1 l19)], [(.mpc 9 3 n20 D21)], [(.mpc 9 3 n22 D23)], [.tip]] (.ptr 0 0) [[(.mp 1), (.mp 2), (.own 4 9 1 l24)], [(.mpc 9 3 n25 D26)], [(.mpc 9 3 n27 D28)], [], [.tip]]
  (Q (.ptr 0 0) [[(.mp 1), (.mp 2), (.own 4 9 1 l24)], [(.mpc 9 3 n25 D26)], [(.mpc 9 3 n27 D28)], [], [.tip]]))))
  (∃ l29 : List (List PV), ∃ n30 : Nat, ∃ D31 : DataW Unit, ∃ n32 : Nat, ∃ D33 : DataW Unit, CallF Tryz.prog 133 [l7, (.ptr 0 0), (.fn 134 [(.ept [i1, i2, i3, i4, l5, s6, l7, l8] 0)])] [[(.mp 1), (.mp 2), (.own 3 9 1 l9)], [(.mpc 9 3 n10 D11)], [(.mpc 9 3 n12 D13)], [.tip]] (.ptr 0 0) [[(.mp 1), (.mp 2), (.own 4 9 1 l29)], [(.mpc 9 3 n30 D31)], [(.mpc 9 3 n32 D33)], [], [.tip]]
  (∃ l34 : List (List PV), ∃ n35 : Nat, ∃ D36 : DataW Unit, ∃ n37 : Nat, ∃ D38 : DataW Unit, CallF Tryz.prog 137 [l8, (.ptr 0 0), (.fn 138 [])] [[(.mp 1), (.mp 2), (.own 3 9 1 l29)], [(.mpc 9 3 n30 D31)], [(.mpc 9 3 n32 D33)], [.tip]] (.ptr 0 0) [[(.mp 1), (.mp 2), (.own 4 9 1 l34)], [(.mpc 9 3 n35 D36)], [(.mpc 9 3 n37 D38)], [], [.tip]]
  (Q (.ptr 0 0) [[(.mp 1), (.mp 2), (.own 4 9 1 l34)], [(.mpc 9 3 n35 D36)], [(.mpc 9 3 n37 D38)], [], [.tip]])))
theorem a61 (i1 i2 i3 i4 : Int) (l5 : List (List PV)) (s6 : ByteArray) (l7 l8 l9 : List (List PV)) (n10 : Nat) (D11 : DataW Unit) (n12 : Nat) (D13 : DataW Unit) (Q : PV → Heap → Prop) (h : p61 i1 i2 i3 i4 l5 s6 l7 l8 l9 n10 D11 n12 D13 Q) : ACalls Tryz.prog 61 [(.ptr 0 0), (.agg [i1, i2, i3, i4, l5, s6, l7, l8])] [[(.mp 1), (.mp 2), (.own 3 9 1 l9)], [(.mpc 9 3 n10 D11)], [(.mpc 9 3 n12 D13)], [.tip]] Q := by
  have hb : Option.some (bodyOf Tryz.f61) = Tryz.f61.body := by kernel_rfl
  exact acalls_canon (res := [.cell (.ptr 0 0)]) (post := [.cells [.mp 1, .mp 2, .own 4 9 1], .cells [.mpc 9 3], .cells [.mpc 9 3], .dead, .tip]) (acalls_eq (S := S) (L := loops7) mixed tok Tryz.func61 hb.symm (by kernel_rfl) h)
def p23 (i1 i2 i3 i4 : Int) (l5 : List (List PV)) (s6 : ByteArray) (l7 l8 : List (List PV)) (Q : PV → Heap → Prop) : Prop :=
∃ l9 : List (List PV), ∃ n10 : Nat, ∃ D11 : DataW Unit, ∃ n12 : Nat, ∃ D13 : DataW Unit, CallF Tryz.prog 61 [(.ptr 0 0), (.agg [i1, i2, i3, i4, l5, s6, l7, l8])] [[(.mp 1), (.mp 2), (.own 3 9 1 [])], [(.mpc 9 3 0 (.map []))], [(.mpc 9 3 0 (.map []))], [.tip]] (.ptr 0 0) [[(.mp 1), (.mp 2), (.own 4 9 1 l9)], [(.mpc 9 3 n10 D11)], [(.mpc 9 3 n12 D13)], [], [.tip]]
  (Q (.own 8 9 1 l9) [[i1, i2, i3, i4, l5, s6, l7, l8], [(.mpc 9 3 n10 D11)], [(.mpc 9 3 n12 D13)], [(.mp 1), (.mp 2), (.own 8 9 1 l9)], [.tip], [.tip], [.tip], [], [.tip]])
theorem a23 (i1 i2 i3 i4 : Int) (l5 : List (List PV)) (s6 : ByteArray) (l7 l8 : List (List PV)) (Q : PV → Heap → Prop) (h : p23 i1 i2 i3 i4 l5 s6 l7 l8 Q) : ACalls Tryz.prog 23 [(.agg [i1, i2, i3, i4, l5, s6, l7, l8])] [] Q := by
  have hb : Option.some (bodyOf Tryz.f23) = Tryz.f23.body := by kernel_rfl
  exact acalls_eq (S := S) (L := loops7) mixed tok Tryz.func23 hb.symm (by kernel_rfl) h
end Go.Proofs.YtcmnjodjebcapaaGreat.Deep

namespace Go.Proofs.YtcmnjodjebcapaaGreat.Deep
open Go.RowKit
set_option linter.unusedVariables false
set_option linter.unusedSimpArgs false
def nmP (l : List ByteArray) : List (List PV) := l.map fun s => [.con (.string s)]
def key (s : ByteArray) : Lit := .string s.data.toList
def cnt (D : DataW Unit) (s : ByteArray) : Int := match D.atKey (key s) (.lit (.int .i64 0)) with | .lit (.int .i64 c) => c | _ => 0
def GoodD (D : DataW Unit) : Prop := Maps.IsMap D ∧ ∀ s : ByteArray, D.atKey (key s) (.lit (.int .i64 0)) = .lit (.int .i64 (cnt D s))
theorem key_inj {s t : ByteArray} (h : key s = key t) : s = t := by
  unfold key at h
  injection h with h
  cases s; cases t
  congr 1
  exact Array.ext' h
theorem GoodD.empty : GoodD (.map []) := ⟨Maps.isMap_empty, fun s => rfl⟩
theorem cnt_empty (s : ByteArray) : cnt (.map []) s = 0 := rfl
theorem GoodD.put {D : DataW Unit} (h : GoodD D) (s : ByteArray) (c : Int) : GoodD (D.put (key s) (.lit (.int .i64 c))) ∧ ∀ t, cnt (D.put (key s) (.lit (.int .i64 c))) t = if t = s then c else cnt D t := by
  have e : ∀ t, (D.put (key s) (.lit (.int .i64 c))).atKey (key t) (.lit (.int .i64 0)) = .lit (.int .i64 (if t = s then c else cnt D t)) := fun t => by
    by_cases ht : t = s
    · subst ht; rw [if_pos rfl]; exact Maps.atKey_put_same h.1 (by unfold key WideAt.IsKeyLit; trivial) _ _
    · rw [if_neg ht, Maps.atKey_put_other (fun he => ht (key_inj he))]; exact h.2 t
  have e2 : ∀ t, cnt (D.put (key s) (.lit (.int .i64 c))) t = if t = s then c else cnt D t := fun t => by
    unfold cnt; rw [e t]; rfl
  exact ⟨⟨h.1.put _ _, fun t => by rw [e, e2]⟩, e2⟩
theorem GoodD.del {D : DataW Unit} (h : GoodD D) (s : ByteArray) : GoodD (D.del (key s)) ∧ ∀ t, cnt (D.del (key s)) t = if t = s then 0 else cnt D t := by
  have e : ∀ t, (D.del (key s)).atKey (key t) (.lit (.int .i64 0)) = .lit (.int .i64 (if t = s then 0 else cnt D t)) := fun t => by
    by_cases ht : t = s
    · subst ht; rw [if_pos rfl]; exact Maps.atKey_del_same _
    · rw [if_neg ht, Maps.atKey_del_other (fun he => ht (key_inj he))]; exact h.2 t
  have e2 : ∀ t, cnt (D.del (key s)) t = if t = s then 0 else cnt D t := fun t => by
    unfold cnt; rw [e t]; rfl
  exact ⟨⟨h.1.del _, fun t => by rw [e, e2]⟩, e2⟩
def wr (c : Int) : Int := IntKind.i64.wrap c
theorem wr_wf (c : Int) : (Lit.int .i64 (wr c)).wf = true := by
  unfold wr
  simp only [IntKind.wrap_i64, Lit.wf]
  simp [IntKind.min, IntKind.max, IntKind.signed, IntKind.bits]
  constructor <;> omega
structure LS where
  l : List ByteArray
  n1 : Nat
  D1 : DataW Unit
  n2 : Nat
  D2 : DataW Unit
def incD (x : Nat × DataW Unit) (s : ByteArray) : Nat × DataW Unit := (x.1 + 1, x.2.put (key s) (.lit (.int .i64 (wr (cnt x.2 s + 1)))))
def dec0 (x : Nat × DataW Unit) (s : ByteArray) : DataW Unit := x.2.put (key s) (.lit (.int .i64 (wr (cnt x.2 s - 1))))
def decD (x : Nat × DataW Unit) (s : ByteArray) : Nat × DataW Unit := (x.1 + 1, if cnt (dec0 x s) s = 0 then (dec0 x s).del (key s) else dec0 x s)
def enterS (ns : List ByteArray) (st : LS) : LS := { st with n1 := (ns.foldl incD (st.n1, st.D1)).1, D1 := (ns.foldl incD (st.n1, st.D1)).2 }
def leaveS (ns : List ByteArray) (st : LS) : LS := { st with n1 := (ns.foldl decD (st.n1, st.D1)).1, D1 := (ns.foldl decD (st.n1, st.D1)).2 }
def meetS (s : ByteArray) (st : LS) : LS := if 0 < cnt st.D1 s then st else if 0 < cnt st.D2 s then st else { st with l := st.l ++ [s], n2 := st.n2 + 1, D2 := st.D2.put (key s) (.lit (.int .i64 (wr (cnt st.D2 s + 1)))) }
mutual
def varsP : Pt → List ByteArray
  | .mk k _ _ n _ ks => (if k = 1 then [n] else []) ++ varsPs ks
def varsPs : List Pt → List ByteArray
  | [] => []
  | t :: ts => varsP t ++ varsPs ts
end
def giv (k : Int) (n : ByteArray) (i : Nat) : List ByteArray := if i = 1 ∧ (k = 6 ∨ k = 10) then [n] else []
mutual
def exS : Ex → LS → LS
  | .mk k _ _ _ _ n ks ps bs, st => arS bs ps (kdS ks k n 0 (if k = 2 then meetS n st else st))
def kdS : List Ex → Int → ByteArray → Nat → LS → LS
  | [], _, _, _, st => st
  | e :: es, k, n, i, st => kdS es k n (i + 1) (leaveS (giv k n i) (exS e (enterS (giv k n i) st)))
def arS : List Ex → List Pt → LS → LS
  | b :: bs, p :: ps, st => arS bs ps (leaveS (varsP p) (exS b (enterS (varsP p) st)))
  | _, _, st => st
end
mutual
def uP : Pt → Nat
  | .mk _ _ _ _ _ ks => 1 + uPs ks
def uPs : List Pt → Nat
  | [] => 0
  | t :: ts => uP t + uPs ts
end
mutual
def uE : Ex → Nat
  | .mk _ _ _ _ _ _ ks ps bs => 1 + (uEs ks + uAr bs ps)
def uEs : List Ex → Nat
  | [] => 0
  | e :: es => 2 + uE e + uEs es
def uAr : List Ex → List Pt → Nat
  | b :: bs, p :: ps => 2 * (varsP p).length + uP p + uE b + uAr bs ps
  | _, _ => 0
end
structure Ok (st : LS) (B : Nat) : Prop where
  g1 : GoodD st.D1
  g2 : GoodD st.D2
  b1 : st.n1 + B ≤ 1099511627776
  b2 : st.n2 + B ≤ 1099511627776
  b3 : st.l.length + B ≤ 1099511627776
theorem Ok.less {st : LS} {B B' : Nat} (h : Ok st B) (hb : B' ≤ B) : Ok st B' := ⟨h.g1, h.g2, by have := h.b1; omega, by have := h.b2; omega, by have := h.b3; omega⟩
theorem Ok.meet {st : LS} {B : Nat} (h : Ok st (1 + B)) (s : ByteArray) : Ok (meetS s st) B := by
  unfold meetS
  split
  · exact h.less (by omega)
  · split
    · exact h.less (by omega)
    · have h1 := h.b1; have h2 := h.b2; have h3 := h.b3
      exact ⟨h.g1, (h.g2.put s _).1, by simp only; omega, by simp only; omega, by simp; omega⟩
theorem incs_ok (ns : List ByteArray) : ∀ (x : Nat × DataW Unit), GoodD x.2 → (ns.foldl incD x).1 = x.1 + ns.length ∧ GoodD (ns.foldl incD x).2 := by
  induction ns with
  | nil => intro x h; exact ⟨rfl, h⟩
  | cons s ns ih =>
    intro x h
    obtain ⟨h1, h2⟩ := ih (incD x s) (h.put s _).1
    refine ⟨?_, h2⟩
    rw [List.foldl_cons, h1]
    simp only [incD, List.length_cons]; omega
theorem decD_good {x : Nat × DataW Unit} (h : GoodD x.2) (s : ByteArray) : GoodD (decD x s).2 := by
  have h0 : GoodD (dec0 x s) := (h.put s _).1
  unfold decD
  dsimp only
  split
  · exact (h0.del s).1
  · exact h0
theorem decs_ok (ns : List ByteArray) : ∀ (x : Nat × DataW Unit), GoodD x.2 → (ns.foldl decD x).1 = x.1 + ns.length ∧ GoodD (ns.foldl decD x).2 := by
  induction ns with
  | nil => intro x h; exact ⟨rfl, h⟩
  | cons s ns ih =>
    intro x h
    obtain ⟨h1, h2⟩ := ih (decD x s) (decD_good h s)
    refine ⟨?_, h2⟩
    rw [List.foldl_cons, h1]
    simp only [decD, List.length_cons]; omega
theorem Ok.enter {st : LS} {B : Nat} {ns : List ByteArray} (h : Ok st (ns.length + B)) : Ok (enterS ns st) B := by
  obtain ⟨e1, e2⟩ := incs_ok ns (st.n1, st.D1) h.g1
  have h1 := h.b1; have h2 := h.b2; have h3 := h.b3
  exact ⟨e2, h.g2, by unfold enterS; simp only [e1]; omega, by unfold enterS; simp only; omega, by unfold enterS; simp only; omega⟩
theorem Ok.leave {st : LS} {B : Nat} {ns : List ByteArray} (h : Ok st (ns.length + B)) : Ok (leaveS ns st) B := by
  obtain ⟨e1, e2⟩ := decs_ok ns (st.n1, st.D1) h.g1
  have h1 := h.b1; have h2 := h.b2; have h3 := h.b3
  exact ⟨e2, h.g2, by unfold leaveS; simp only [e1]; omega, by unfold leaveS; simp only; omega, by unfold leaveS; simp only; omega⟩
theorem giv_len (k : Int) (n : ByteArray) (i : Nat) : (giv k n i).length ≤ 1 := by unfold giv; split <;> simp
mutual
theorem exS_ok : ∀ (e : Ex) (st : LS) (B : Nat), Ok st (uE e + B) → Ok (exS e st) B
  | .mk k _ _ _ _ n ks ps bs, st, B, h => by
    unfold uE at h
    unfold exS
    refine arS_ok bs ps _ B (kdS_ok ks k n 0 _ _ ?_)
    split
    · exact Ok.meet (h.less (by omega)) n
    · exact h.less (by omega)
theorem kdS_ok : ∀ (es : List Ex) (k : Int) (n : ByteArray) (i : Nat) (st : LS) (B : Nat), Ok st (uEs es + B) → Ok (kdS es k n i st) B
  | [], _, _, _, st, B, h => h.less (by omega)
  | e :: es, k, n, i, st, B, h => by
    unfold uEs at h
    unfold kdS
    have hg := giv_len k n i
    exact kdS_ok es k n (i + 1) _ B (Ok.leave (exS_ok e _ _ (Ok.enter (h.less (by omega)))))
theorem arS_ok : ∀ (bs : List Ex) (ps : List Pt) (st : LS) (B : Nat), Ok st (uAr bs ps + B) → Ok (arS bs ps st) B
  | b :: bs, p :: ps, st, B, h => by
    unfold uAr at h
    unfold arS
    exact arS_ok bs ps _ B (Ok.leave (exS_ok b _ _ (Ok.enter (h.less (by omega)))))
  | [], _, st, B, h => by unfold arS; exact h.less (by omega)
  | _ :: _, [], st, B, h => by unfold arS; exact h.less (by omega)
end
def preL (st : LS) : Heap := [[(.mp 1), (.mp 2), (.own 3 9 1 (nmP st.l))], [(.mpc 9 3 st.n1 st.D1)], [(.mpc 9 3 st.n2 st.D2)], [.tip]]
def postL (st : LS) : Heap := [[(.mp 1), (.mp 2), (.own 4 9 1 (nmP st.l))], [(.mpc 9 3 st.n1 st.D1)], [(.mpc 9 3 st.n2 st.D2)], [], [.tip]]
theorem nmP_len (l : List ByteArray) : (nmP l).length = l.length := by simp [nmP]
theorem nmP_get (l : List ByteArray) (i : Nat) (h : i < l.length) : (nmP l)[i]? = some [.con (.string l[i])] := by simp [nmP, List.getElem?_map, List.getElem?_eq_getElem h]
theorem nmP_app (l : List ByteArray) (s : ByteArray) : nmP l ++ [[.con (.string s)]] = nmP (l ++ [s]) := by simp [nmP]
theorem one_name (s : ByteArray) : ∀ y ∈ ([[.con (.string s)]] : List (List PV)), y.length = 1 ∧ ∀ p ∈ y, PV.one p = true := by
  intro y hy
  simp at hy
  subst hy
  exact ⟨rfl, fun p hp => by simp at hp; subst hp; rfl⟩
theorem meet_c (s : ByteArray) (hs : s.size ≤ maxLen) (st : LS) (h : Ok st 1) : ACalls Tryz.prog 132 [.ptr 0 0, .con (.string s)] (preL st) (fun r h' => r = .tup [] ∧ h' = postL (meetS s st)) := by
  refine a132 s (nmP st.l) st.n1 st.D1 st.n2 st.D2 _ ?_
  unfold p132
  refine ⟨cnt st.D1 s, ⟨hs, h.g1.2 s, ?_⟩⟩
  refine br_i (fun h1 => ?_) (fun h1 => ?_)
  · have h1 : 0 < cnt st.D1 s := by simpa using h1
    unfold meetS; rw [if_pos h1]; exact ⟨rfl, rfl⟩
  have h1 : ¬ 0 < cnt st.D1 s := by simpa using h1
  refine ⟨cnt st.D2 s, ⟨hs, h.g2.2 s, ?_⟩⟩
  refine br_i (fun h2 => ?_) (fun h2 => ?_)
  · have h2 : 0 < cnt st.D2 s := by simpa using h2
    unfold meetS; rw [if_neg h1, if_pos h2]; exact ⟨rfl, rfl⟩
  have h2 : ¬ 0 < cnt st.D2 s := by simpa using h2
  have b2 := h.b2; have b3 := h.b3
  refine ⟨cnt st.D2 s, ⟨hs, h.g2.2 s, ⟨by unfold maxLen; omega, hs, wr_wf _, ⟨by rw [nmP_len]; simp only [List.length_cons, List.length_nil]; omega, one_name s, ?_⟩⟩⟩⟩
  unfold meetS; rw [if_neg h1, if_neg h2, nmP_app]; exact ⟨rfl, rfl⟩
theorem leave_c (s : ByteArray) (hs : s.size ≤ maxLen) (st : LS) (h : Ok st 1) : ACalls Tryz.prog 188 [.ptr 0 0, .con (.string s)] (preL st) (fun r h' => r = .tup [] ∧ h' = preL (leaveS [s] st)) := by
  refine a188 s (nmP st.l) st.n1 st.D1 st.n2 st.D2 _ ?_
  unfold p188
  have b1 := h.b1
  have hg : GoodD (dec0 (st.n1, st.D1) s) := (h.g1.put s _).1
  refine ⟨cnt st.D1 s, ⟨hs, h.g1.2 s, ⟨by unfold maxLen; omega, hs, wr_wf _, ?_⟩⟩⟩
  refine ⟨cnt (dec0 (st.n1, st.D1) s) s, ⟨hs, hg.2 s, ?_⟩⟩
  refine br_i (fun h1 => ?_) (fun h1 => ?_)
  · have h1 : cnt (dec0 (st.n1, st.D1) s) s = 0 := by simpa using h1
    refine ⟨hs, ?_⟩
    unfold leaveS
    simp only [List.foldl_cons, List.foldl_nil, decD, if_pos h1]
    exact ⟨by trivial, rfl⟩
  · have h1 : ¬ cnt (dec0 (st.n1, st.D1) s) s = 0 := by simpa using h1
    unfold leaveS
    simp only [List.foldl_cons, List.foldl_nil, decD, if_neg h1]
    exact ⟨by trivial, rfl⟩
theorem take_fold {α β : Type} (f : α → β → α) (x : α) (l : List β) (j : Nat) (h : j < l.length) : (l.take (j + 1)).foldl f x = f ((l.take j).foldl f x) l[j] := by
  rw [List.take_succ_eq_append_getElem h, List.foldl_append]; rfl
def CE (e : Ex) : Prop := ∀ st, Ok st (uE e) → ACalls Tryz.prog 61 [.ptr 0 0, .agg (exP e)] (preL st) (fun r h' => r = .ptr 0 0 ∧ h' = postL (exS e st))
theorem within_c (ns : List ByteArray) (e : Ex) (hns : ∀ s ∈ ns, s.size ≤ maxLen) (hl : ns.length ≤ 1099511627776) (hE : CE e) (st : LS) (h : Ok st (2 * ns.length + uE e)) :
    ACalls Tryz.prog 135 [.ptr 0 0, .sl (nmP ns), .agg (exP e)] (preL st) (fun r h' => r = .ptr 0 0 ∧ h' = postL (leaveS ns (exS e (enterS ns st)))) := by
  obtain ⟨k, li, co, m, b, n, ks, ps, bs⟩ := e
  refine a135 (nmP ns) k li co m (byP b) n (exPs ks) (arPs bs ps) (nmP st.l) st.n1 st.D1 st.n2 st.D2 _ ?_
  unfold p135
  rw [nmP_len]
  refine ⟨fun c v => ∃ j : Nat, j ≤ ns.length ∧ c = ns.length - j ∧ v.1 = (j : Int) ∧ v.2.1 = (ns.take j).foldl incD (st.n1, st.D1), ⟨_, 0, Nat.zero_le _, rfl, rfl, by simp⟩, ?_⟩
  rintro c ⟨i, x, u⟩ ⟨j, hj, rfl, hi, hx⟩
  dsimp only at hi hx ⊢
  subst hi hx
  obtain ⟨i1, i2⟩ := incs_ok (ns.take j) (st.n1, st.D1) h.g1
  have b1 := h.b1
  refine br_i (fun hlt => ?_) (fun hge => ?_)
  · have hlt : j < ns.length := by simpa using hlt
    have hsz := hns _ (List.getElem_mem hlt)
    refine ⟨_, ⟨by omega, by rw [Int.toNat_natCast]; exact nmP_get ns j hlt, ?_⟩⟩
    refine ⟨_, ⟨hsz, i2.2 _, ⟨by rw [i1]; unfold maxLen; simp only [List.length_take]; omega, hsz, wr_wf _, ?_⟩⟩⟩
    refine ⟨⟨by trivial, by trivial, by trivial, by trivial, by trivial, trivial⟩, by trivial, ns.length - (j + 1), by omega, j + 1, by omega, rfl, ?_, ?_⟩
    · rw [wrap_id (by omega) (by omega)]; simp
    · rw [take_fold _ _ _ _ hlt]; rfl
  · have hge : ¬ j < ns.length := by simpa using hge
    obtain rfl : j = ns.length := by omega
    rw [List.take_length]
    have hok : Ok (enterS ns st) (uE (.mk k li co m b n ks ps bs) + ns.length) := Ok.enter (h.less (by omega))
    have hE2 := hE (enterS ns st) (hok.less (by omega))
    have hok2 : Ok (exS (.mk k li co m b n ks ps bs) (enterS ns st)) ns.length := exS_ok _ _ _ hok
    obtain ⟨s2, hs2⟩ : ∃ s2, s2 = exS (.mk k li co m b n ks ps bs) (enterS ns st) := ⟨_, rfl⟩
    rw [← hs2] at hE2 hok2 ⊢
    refine ⟨nmP s2.l, s2.n1, s2.D1, s2.n2, s2.D2, ⟨enters_of Tryz.func61 (by kernel_rfl) rfl, hE2, ?_⟩⟩
    refine ⟨fun c v => ∃ j : Nat, j ≤ ns.length ∧ c = ns.length - j ∧ v.1 = (j : Int) ∧ v.2.1 = (ns.take j).foldl decD (s2.n1, s2.D1), ⟨_, 0, Nat.zero_le _, rfl, rfl, by simp⟩, ?_⟩
    rintro c ⟨i, x, u⟩ ⟨j, hj, rfl, hi, hx⟩
    dsimp only at hi hx ⊢
    subst hi hx
    obtain ⟨k1, k2⟩ := decs_ok (ns.take j) (s2.n1, s2.D1) hok2.g1
    have c1 := hok2.b1
    refine br_i (fun hlt => ?_) (fun hge => ?_)
    · have hlt : j < ns.length := by simpa using hlt
      have hsz := hns _ (List.getElem_mem hlt)
      refine ⟨_, ⟨by omega, by rw [Int.toNat_natCast]; exact nmP_get ns j hlt, ?_⟩⟩
      have hlv := leave_c ns[j] hsz { s2 with n1 := ((ns.take j).foldl decD (s2.n1, s2.D1)).1, D1 := ((ns.take j).foldl decD (s2.n1, s2.D1)).2 } ⟨k2, hok2.g2, by simp only [k1, List.length_take]; omega, by have := hok2.b2; simp only; omega, by have := hok2.b3; simp only; omega⟩
      refine ⟨_, _, ⟨enters_of Tryz.func188 (by kernel_rfl) rfl, hlv, ?_⟩⟩
      refine ⟨⟨by trivial, by trivial, by trivial, trivial⟩, by trivial, ns.length - (j + 1), by omega, j + 1, by omega, rfl, ?_, ?_⟩
      · rw [wrap_id (by omega) (by omega)]; simp
      · rw [take_fold _ _ _ _ hlt]; rfl
    · have hge : ¬ j < ns.length := by simpa using hge
      obtain rfl : j = ns.length := by omega
      rw [List.take_length]
      exact ⟨rfl, rfl⟩
end Go.Proofs.YtcmnjodjebcapaaGreat.Deep

namespace Go.Proofs.YtcmnjodjebcapaaGreat.Deep
open Go.RowKit
set_option linter.unusedVariables false
set_option linter.unusedSimpArgs false
mutual
theorem varsP_len : ∀ t : Pt, (varsP t).length ≤ uP t
  | .mk k _ _ n _ ks => by
    have := varsPs_len ks
    unfold varsP uP
    rw [List.length_append]
    split <;> simp <;> omega
theorem varsPs_len : ∀ ts : List Pt, (varsPs ts).length ≤ uPs ts
  | [] => by simp [varsPs, uPs]
  | t :: ts => by
    have h1 := varsP_len t
    have h2 := varsPs_len ts
    unfold varsPs uPs
    rw [List.length_append]; omega
end
mutual
theorem varsP_small : ∀ t : Pt, smallPt t → ∀ s ∈ varsP t, s.size ≤ 3000
  | .mk k _ _ n _ ks, h, s, hs => by
    unfold smallPt at h
    unfold varsP at hs
    rcases List.mem_append.1 hs with q | q
    · split at q
      · simp at q; subst q; exact h.1
      · simp at q
    · exact varsPs_small ks h.2.2 s q
theorem varsPs_small : ∀ ts : List Pt, smallPts ts → ∀ s ∈ varsPs ts, s.size ≤ 3000
  | [], _, s, hs => by simp [varsPs] at hs
  | t :: ts, h, s, hs => by
    unfold smallPts at h
    unfold varsPs at hs
    rcases List.mem_append.1 hs with q | q
    · exact varsP_small t h.1 s q
    · exact varsPs_small ts h.2 s q
end
theorem varsPs_take (ts : List Pt) (j : Nat) (h : j < ts.length) : varsPs (ts.take (j + 1)) = varsPs (ts.take j) ++ varsP ts[j] := by
  have app : ∀ (a b : List Pt), varsPs (a ++ b) = varsPs a ++ varsPs b := by
    intro a
    induction a with
    | nil => intro b; rfl
    | cons x a ih => intro b; simp [varsPs, ih b]
  rw [List.take_succ_eq_append_getElem h, app]
  simp [varsPs]
theorem uPs_take (ts : List Pt) (j : Nat) (h : j < ts.length) : uPs (ts.take j) + uP ts[j] ≤ uPs ts := by
  have app : ∀ (a b : List Pt), uPs (a ++ b) = uPs a + uPs b := by
    intro a
    induction a with
    | nil => intro b; simp [uPs]
    | cons x a ih => intro b; simp [uPs, ih b]; omega
  have e : ts = ts.take j ++ (ts[j] :: ts.drop (j + 1)) := by
    rw [← List.drop_eq_getElem_cons h, List.take_append_drop]
  have e2 := congrArg uPs e
  rw [app, uPs] at e2
  omega
theorem given_c (t : Pt) : smallPt t → ∀ (l : List ByteArray) (i : Int), l.length + uP t ≤ 1099511627776 → ACalls Tryz.prog 139 [.own 0 9 1 (nmP l), .con (.int .i64 i), .agg (ptP t)] [[.tip]] (fun r h => r = .own 1 9 1 (nmP (l ++ varsP t)) ∧ h = [[], [.tip]]) := by
  induction t using Pt.ind with
  | h k li co n m ks ih =>
  intro hs l i hl
  unfold smallPt at hs
  unfold uP at hl
  have fold : ∀ l0 : List ByteArray, l0.length + uPs ks ≤ 1099511627776 → ACalls Tryz.prog 189 [.sl (ptPs ks), .own 0 9 1 (nmP l0), .fn 139 []] [[.tip]] (fun r h => r = .own 1 9 1 (nmP (l0 ++ varsPs ks)) ∧ h = [[], [.tip]]) := fun l0 hl0 => by
    refine a189k (ptPs ks) (nmP l0) _ ?_
    unfold p189k
    rw [ptPs_len]
    refine ⟨fun c v => ∃ j : Nat, j ≤ ks.length ∧ c = ks.length - j ∧ v.1 = nmP (l0 ++ varsPs (ks.take j)) ∧ v.2.1 = (j : Int), ⟨_, 0, Nat.zero_le _, rfl, by simp [varsPs], rfl⟩, ?_⟩
    rintro c ⟨x, i, u⟩ ⟨j, hj, rfl, hx, hi⟩
    dsimp only at hi hx ⊢
    subst hi hx
    have hsz := hs.2.1
    refine br_i (fun hlt => ?_) (fun hge => ?_)
    · have hlt : j < ks.length := by simpa using hlt
      have hks := smallPts_get ks hs.2.2 j hlt
      have hu := uPs_take ks j hlt
      have hv := varsPs_len (ks.take j)
      have hc := ih j hlt hks (l0 ++ varsPs (ks.take j)) (j : Int) (by rw [List.length_append]; omega)
      have hx := ptPs_get ks j hlt
      rw [List.append_assoc, ← varsPs_take ks j hlt] at hc
      generalize ks[j] = q at hc hx
      obtain ⟨k', li', co', n', m', ks'⟩ := q
      refine ⟨_, _, _, _, _, _, ⟨by omega, by rw [Int.toNat_natCast]; exact hx, ?_⟩⟩
      refine ⟨_, ⟨enters_of Tryz.func139 (by kernel_rfl) rfl, hc, ?_⟩⟩
      refine ⟨⟨by trivial, by trivial, by trivial, trivial⟩, by trivial, ks.length - (j + 1), by omega, j + 1, by omega, rfl, rfl, ?_⟩
      rw [wrap_id (by omega) (by omega)]; simp
    · have hge : ¬ j < ks.length := by simpa using hge
      obtain rfl : j = ks.length := by omega
      rw [List.take_length]
      exact ⟨rfl, rfl⟩
  refine a139 (nmP l) i k li co n m (ptPs ks) _ ?_
  unfold p139
  refine br_i (fun hk => ?_) (fun hk => ?_)
  · have hk : k = 1 := by simpa using hk
    refine ⟨by rw [nmP_len]; simp only [List.length_cons, List.length_nil]; omega, one_name n, ?_⟩
    have hf := fold (l ++ [n]) (by simp; omega)
    rw [← nmP_app] at hf
    refine ⟨_, ⟨enters_of Tryz.func189 (by kernel_rfl) rfl, hf, ?_⟩⟩
    unfold varsP
    rw [if_pos hk, List.append_assoc]; exact ⟨rfl, rfl⟩
  · have hk : ¬ k = 1 := by simpa using hk
    refine ⟨_, ⟨enters_of Tryz.func189 (by kernel_rfl) rfl, fold l (by omega), ?_⟩⟩
    unfold varsP
    rw [if_neg hk, List.nil_append]; exact ⟨rfl, rfl⟩
theorem giv_p (k li co m : Int) (b : List (List PV)) (n : ByteArray) (ks ar : List (List PV)) (i : Nat) : PCalls Tryz.prog 136 [.agg [.con (.int .i64 k), .con (.int .i64 li), .con (.int .i64 co), .con (.int .i64 m), .sl b, .con (.string n), .sl ks, .sl ar], .con (.int .i64 i)] (fun r => r = .sl (nmP (giv k n i))) := by
  refine pcalls_weak (a136 k li co m b n ks ar i _ ?_)
  unfold p136 giv
  refine br_i (fun h1 => ?_) (fun h1 => ?_)
  · have h1 : i = 1 := by have : (i : Int) = 1 := by simpa using h1
                          omega
    refine br_i (fun h2 => ?_) (fun h2 => ?_)
    · have h2 : k = 6 := by simpa using h2
      rw [if_pos ⟨h1, .inl h2⟩]; exact ⟨rfl, rfl⟩
    have h2 : ¬ k = 6 := by simpa using h2
    refine br_i (fun h3 => ?_) (fun h3 => ?_)
    · have h3 : k = 10 := by simpa using h3
      rw [if_pos ⟨h1, .inr h3⟩]; exact ⟨rfl, rfl⟩
    · have h3 : ¬ k = 10 := by simpa using h3
      rw [if_neg (fun h => h.2.elim h2 h3)]; exact ⟨rfl, rfl⟩
  · have h1 : ¬ i = 1 := by have : ¬ (i : Int) = 1 := by simpa using h1
                            omega
    rw [if_neg (fun h => h1 h.1)]; exact ⟨rfl, rfl⟩
theorem kdS_snoc (k : Int) (n : ByteArray) : ∀ (es : List Ex) (i : Nat) (st : LS) (j : Nat) (h : j < es.length), kdS (es.take (j + 1)) k n i st = leaveS (giv k n (i + j)) (exS es[j] (enterS (giv k n (i + j)) (kdS (es.take j) k n i st)))
  | e :: es, i, st, 0, h => by simp [kdS]
  | e :: es, i, st, j + 1, h => by
    have := kdS_snoc k n es (i + 1) (leaveS (giv k n i) (exS e (enterS (giv k n i) st))) j (by simpa using h)
    rw [show i + 1 + j = i + (j + 1) by omega] at this
    simpa [kdS] using this
theorem arS_snoc : ∀ (bs : List Ex) (ps : List Pt) (st : LS) (j : Nat) (h : j < bs.length) (h2 : j < ps.length), arS (bs.take (j + 1)) (ps.take (j + 1)) st = leaveS (varsP ps[j]) (exS bs[j] (enterS (varsP ps[j]) (arS (bs.take j) (ps.take j) st)))
  | b :: bs, p :: ps, st, 0, _, _ => by simp [arS]
  | b :: bs, p :: ps, st, j + 1, h, h2 => by
    have := arS_snoc bs ps (leaveS (varsP p) (exS b (enterS (varsP p) st))) j (by simpa using h) (by simpa using h2)
    simpa [arS] using this
theorem uEs_app : ∀ a b : List Ex, uEs (a ++ b) = uEs a + uEs b
  | [], b => by simp [uEs]
  | x :: a, b => by simp [uEs, uEs_app a b]; omega
theorem uEs_take (es : List Ex) (j : Nat) (h : j < es.length) : uEs (es.take j) + (2 + uE es[j]) ≤ uEs es := by
  have e : es = es.take j ++ (es[j] :: es.drop (j + 1)) := by rw [← List.drop_eq_getElem_cons h, List.take_append_drop]
  have e2 := congrArg uEs e
  rw [uEs_app, uEs] at e2
  omega
theorem uAr_take : ∀ (bs : List Ex) (ps : List Pt) (j : Nat) (h : j < bs.length) (h2 : j < ps.length), uAr (bs.take j) (ps.take j) + (2 * (varsP ps[j]).length + uP ps[j] + uE bs[j]) ≤ uAr bs ps
  | b :: bs, p :: ps, 0, _, _ => by simp [uAr]
  | b :: bs, p :: ps, j + 1, h, h2 => by
    have := uAr_take bs ps j (by simpa using h) (by simpa using h2)
    simp only [List.take_succ_cons, uAr, List.getElem_cons_succ]
    omega
theorem ex_c (e : Ex) : smallEx e → wfEx e → uE e ≤ 1000000 → CE e := by
  induction e using Ex.ind with
  | h k li co m b n ks ps bs ihk ihb =>
  intro hs hw hub st hok
  unfold smallEx at hs
  unfold wfEx at hw
  obtain ⟨hsb, hsn, hsk, hsp, hsbs, hsks, hsps, hsbb⟩ := hs
  obtain ⟨hpl, hwk, hwb⟩ := hw
  unfold uE at hub hok
  have hml : ∀ s : ByteArray, s.size ≤ 3000 → s.size ≤ maxLen := fun s h => by unfold maxLen; omega
  -- the parts
  have kids : ∀ st0 : LS, Ok st0 (uEs ks + uAr bs ps) → ACalls Tryz.prog 133 [.sl (exPs ks), .ptr 0 0, .fn 134 [.ept (exP (.mk k li co m b n ks ps bs)) 0]] (preL st0) (fun r h => r = .ptr 0 0 ∧ h = postL (kdS ks k n 0 st0)) := fun st0 h0 => by
    refine a133k (exPs ks) k li co m (byP b) n (exPs ks) (arPs bs ps) (nmP st0.l) st0.n1 st0.D1 st0.n2 st0.D2 _ ?_
    unfold p133k
    rw [exPs_len]
    refine ⟨fun c v => ∃ j : Nat, j ≤ ks.length ∧ c = ks.length - j ∧ v.1 = (j : Int) ∧ v.2.1 = nmP (kdS (ks.take j) k n 0 st0).l ∧ v.2.2.1 = ((kdS (ks.take j) k n 0 st0).n1, (kdS (ks.take j) k n 0 st0).D1) ∧ v.2.2.2.1 = ((kdS (ks.take j) k n 0 st0).n2, (kdS (ks.take j) k n 0 st0).D2), ⟨_, 0, Nat.zero_le _, rfl, rfl, by simp [kdS], by simp [kdS], by simp [kdS]⟩, ?_⟩
    rintro c ⟨i, x, y, z, u⟩ ⟨j, hj, rfl, hi, hx, hy, hz⟩
    dsimp only at hi hx hy hz ⊢
    subst hi hx hy hz
    refine br_i (fun hlt => ?_) (fun hge => ?_)
    · have hlt : j < ks.length := by simpa using hlt
      have hxx := exPs_get ks j hlt
      have hu := uEs_take ks j hlt
      have hue : uE ks[j] ≤ 1000000 := by omega
      have hgl := giv_len k n j
      have hokj : Ok (kdS (ks.take j) k n 0 st0) (2 * (giv k n j).length + uE ks[j]) := kdS_ok _ _ _ _ _ _ (h0.less (by omega))
      have hin := within_c (giv k n j) ks[j] (fun s hs => by unfold giv at hs; split at hs <;> simp at hs; subst hs; exact hml _ hsn) (by omega) (ihk j hlt (smallExs_get ks hsks j hlt) (wfExs_at ks hwk j hlt) hue) (kdS (ks.take j) k n 0 st0) hokj
      have hsn2 := kdS_snoc k n ks 0 st0 j hlt
      rw [Nat.zero_add] at hsn2
      rw [← hsn2] at hin
      obtain ⟨st1, hst1⟩ : ∃ st1, st1 = kdS (ks.take j) k n 0 st0 := ⟨_, rfl⟩
      rw [← hst1] at hin
      generalize ks[j] = q at hin hxx
      obtain ⟨k', li', co', m', b', n', ks', ps', bs'⟩ := q
      have h134 : ACalls Tryz.prog 134 [.ptr 0 0, .con (.int .i64 (j : Int)), .agg (exP (.mk k' li' co' m' b' n' ks' ps' bs')), .ept (exP (.mk k li co m b n ks ps bs)) 0] (preL st1) (fun r h => r = .ptr 0 0 ∧ h = postL (kdS (ks.take (j + 1)) k n 0 st0)) := by
        refine a134k (j : Int) k' li' co' m' (byP b') n' (exPs ks') (arPs bs' ps') k li co m (byP b) n (exPs ks) (arPs bs ps) (nmP st1.l) st1.n1 st1.D1 st1.n2 st1.D2 _ ?_
        unfold p134k
        refine ⟨_, call_p (enters_of Tryz.func136 (by kernel_rfl) rfl) (giv_p k li co m (byP b) n (exPs ks) (arPs bs ps) j) rfl ?_⟩
        exact ⟨_, _, _, _, _, ⟨enters_of Tryz.func135 (by kernel_rfl) rfl, hin, rfl, rfl⟩⟩
      rw [← hst1]
      refine ⟨_, _, _, _, _, _, _, _, ⟨by omega, by rw [Int.toNat_natCast]; exact hxx, ?_⟩⟩
      refine ⟨_, _, _, _, _, ⟨enters_of Tryz.func134 (by kernel_rfl) rfl, h134, ?_⟩⟩
      refine ⟨⟨by trivial, by trivial, by trivial, by trivial, trivial⟩, by trivial, ks.length - (j + 1), by omega, j + 1, by omega, rfl, ?_, rfl, rfl, rfl⟩
      rw [wrap_id (by omega) (by omega)]; simp
    · have hge : ¬ j < ks.length := by simpa using hge
      obtain rfl : j = ks.length := by omega
      rw [List.take_length]
      exact ⟨rfl, rfl⟩
  -- the arms
  have arms : ∀ st0 : LS, Ok st0 (uAr bs ps) → ACalls Tryz.prog 137 [.sl (arPs bs ps), .ptr 0 0, .fn 138 []] (preL st0) (fun r h => r = .ptr 0 0 ∧ h = postL (arS bs ps st0)) := fun st0 h0 => by
    refine a137k (arPs bs ps) (nmP st0.l) st0.n1 st0.D1 st0.n2 st0.D2 _ ?_
    unfold p137k
    rw [arPs_len bs ps hpl]
    refine ⟨fun c v => ∃ j : Nat, j ≤ bs.length ∧ c = bs.length - j ∧ v.1 = (j : Int) ∧ v.2.1 = nmP (arS (bs.take j) (ps.take j) st0).l ∧ v.2.2.1 = ((arS (bs.take j) (ps.take j) st0).n1, (arS (bs.take j) (ps.take j) st0).D1) ∧ v.2.2.2.1 = ((arS (bs.take j) (ps.take j) st0).n2, (arS (bs.take j) (ps.take j) st0).D2), ⟨_, 0, Nat.zero_le _, rfl, rfl, by simp [arS], by simp [arS], by simp [arS]⟩, ?_⟩
    rintro c ⟨i, x, y, z, u⟩ ⟨j, hj, rfl, hi, hx, hy, hz⟩
    dsimp only at hi hx hy hz ⊢
    subst hi hx hy hz
    refine br_i (fun hlt => ?_) (fun hge => ?_)
    · have hlt : j < bs.length := by simpa using hlt
      have hltp : j < ps.length := by omega
      have hxx := arPs_get bs ps j hlt hltp
      have hu := uAr_take bs ps j hlt hltp
      have hue : uE bs[j] ≤ 1000000 := by omega
      have hsp1 := smallPts_get ps hsps j hltp
      have hokj : Ok (arS (bs.take j) (ps.take j) st0) (2 * (varsP ps[j]).length + uE bs[j]) := arS_ok _ _ _ _ (h0.less (by omega))
      have hin := within_c (varsP ps[j]) bs[j] (fun s hs => hml _ (varsP_small _ hsp1 s hs)) (by omega) (ihb j hlt (smallExs_get bs hsbb j hlt) (wfExs_at bs hwb j hlt) hue) (arS (bs.take j) (ps.take j) st0) hokj
      rw [← arS_snoc bs ps st0 j hlt hltp] at hin
      obtain ⟨st1, hst1⟩ : ∃ st1, st1 = arS (bs.take j) (ps.take j) st0 := ⟨_, rfl⟩
      rw [← hst1] at hin
      have hgp := given_c ps[j] hsp1 [] 0 (by simp; omega)
      rw [List.nil_append] at hgp
      generalize bs[j] = q at hin hxx
      generalize ps[j] = q2 at hin hxx hgp
      obtain ⟨k', li', co', m', b', n', ks', ps', bs'⟩ := q
      obtain ⟨pk, pl, pc, pn, pm, pks⟩ := q2
      have h138 : ACalls Tryz.prog 138 [.ptr 0 0, .con (.int .i64 (j : Int)), .agg (ptP (.mk pk pl pc pn pm pks) ++ exP (.mk k' li' co' m' b' n' ks' ps' bs'))] (preL st1) (fun r h => r = .ptr 0 0 ∧ h = postL (arS (bs.take (j + 1)) (ps.take (j + 1)) st0)) := by
        refine a138 (j : Int) pk pl pc pn pm (ptPs pks) k' li' co' m' (byP b') n' (exPs ks') (arPs bs' ps') (nmP st1.l) st1.n1 st1.D1 st1.n2 st1.D2 _ ?_
        unfold p138
        refine ⟨_, ⟨enters_of Tryz.func139 (by kernel_rfl) rfl, hgp, ?_⟩⟩
        exact ⟨_, _, _, _, _, ⟨enters_of Tryz.func135 (by kernel_rfl) rfl, hin, rfl, rfl⟩⟩
      rw [← hst1]
      refine ⟨_, _, _, _, _, _, _, _, _, _, _, _, _, _, ⟨by omega, by rw [Int.toNat_natCast]; exact hxx, ?_⟩⟩
      refine ⟨_, _, _, _, _, ⟨enters_of Tryz.func138 (by kernel_rfl) rfl, h138, ?_⟩⟩
      refine ⟨⟨by trivial, by trivial, by trivial, by trivial, trivial⟩, by trivial, bs.length - (j + 1), by omega, j + 1, by omega, rfl, ?_, rfl, rfl, rfl⟩
      rw [wrap_id (by omega) (by omega)]; simp
    · have hge : ¬ j < bs.length := by simpa using hge
      obtain rfl : j = bs.length := by omega
      rw [List.take_length, ← hpl, List.take_length]
      exact ⟨rfl, rfl⟩
  refine a61 k li co m (byP b) n (exPs ks) (arPs bs ps) (nmP st.l) st.n1 st.D1 st.n2 st.D2 _ ?_
  unfold p61 exS
  refine br_i (fun hk => ?_) (fun hk => ?_)
  · have hk : k = 2 := by simpa using hk
    rw [if_pos hk]
    have hm := Ok.meet (B := uEs ks + uAr bs ps) (hok.less (by omega)) n
    refine ⟨_, _, _, _, _, ⟨enters_of Tryz.func132 (by kernel_rfl) rfl, meet_c n (hml n hsn) st (hok.less (by omega)), ?_⟩⟩
    refine ⟨_, _, _, _, _, ⟨enters_of Tryz.func133 (by kernel_rfl) rfl, kids _ hm, ?_⟩⟩
    refine ⟨_, _, _, _, _, ⟨enters_of Tryz.func137 (by kernel_rfl) rfl, arms _ (kdS_ok ks k n 0 _ _ (hm.less (by omega))), ?_⟩⟩
    exact ⟨rfl, rfl⟩
  · have hk : ¬ k = 2 := by simpa using hk
    rw [if_neg hk]
    have hm : Ok st (uEs ks + uAr bs ps) := hok.less (by omega)
    refine ⟨_, _, _, _, _, ⟨enters_of Tryz.func133 (by kernel_rfl) rfl, kids _ hm, ?_⟩⟩
    refine ⟨_, _, _, _, _, ⟨enters_of Tryz.func137 (by kernel_rfl) rfl, arms _ (kdS_ok ks k n 0 _ _ (hm.less (by omega))), ?_⟩⟩
    exact ⟨rfl, rfl⟩
def initS : LS := ⟨[], 0, .map [], 0, .map []⟩
theorem initS_ok (B : Nat) (h : B ≤ 1099511627776) : Ok initS B := ⟨GoodD.empty, GoodD.empty, by simp [initS]; omega, by simp [initS]; omega, by simp [initS]; omega⟩
def freeS (e : Ex) : List ByteArray := (exS e initS).l
theorem free_c (e : Ex) (hs : smallEx e) (hw : wfEx e) (hu : uE e ≤ 1000000) : PCalls Tryz.prog 23 [.agg (exP e)] (fun r => r = .sl (nmP (freeS e))) := by
  have hc := ex_c e hs hw hu initS (initS_ok _ (by omega))
  obtain ⟨k, li, co, m, b, n, ks, ps, bs⟩ := e
  refine pcalls_weak (a23 k li co m (byP b) n (exPs ks) (arPs bs ps) _ ?_)
  unfold p23
  exact ⟨_, _, _, _, _, ⟨enters_of Tryz.func61 (by kernel_rfl) rfl, hc, rfl, rfl⟩⟩
end Go.Proofs.YtcmnjodjebcapaaGreat.Deep

namespace Go.Proofs.YtcmnjodjebcapaaGreat.Deep
open Go.RowKit
set_option linter.unusedVariables false
def p11  (Q : PV → Heap → Prop) : Prop :=
∃ i1 : Int, ∃ i2 : Int, CallN Tryz.prog 21 [(.agg [(.con (.int .i64 0)), (.con (.int .i64 0)), (.con (.int .i64 0)), (.con (.int .i64 5)), (.sl []), (.con (.string ⟨#[]⟩)), (.sl []), (.sl [])])] [[(.con (.int .i64 0)), (.con (.int .i64 0)), (.con (.int .i64 0)), (.con (.int .i64 5)), (.con (.slice none 0 0)), (.con (.string ⟨#[]⟩)), (.con (.slice none 0 0)), (.con (.slice none 0 0))]] (.tup [i1, i2])
  (∃ l3 : List (List PV), CallN Tryz.prog 23 [(.agg [(.con (.int .i64 6)), (.con (.int .i64 0)), (.con (.int .i64 0)), (.con (.int .i64 0)), (.sl []), (.con (.string ⟨#[120]⟩)), (.sl [[(.con (.int .i64 2)), (.con (.int .i64 0)), (.con (.int .i64 0)), (.con (.int .i64 0)), (.sl []), (.con (.string ⟨#[121]⟩)), (.sl []), (.sl [])], [(.con (.int .i64 2)), (.con (.int .i64 0)), (.con (.int .i64 0)), (.con (.int .i64 0)), (.sl []), (.con (.string ⟨#[120]⟩)), (.sl []), (.sl [])]]), (.sl [])])] [[(.con (.int .i64 0)), (.con (.int .i64 0)), (.con (.int .i64 0)), (.con (.int .i64 5)), (.con (.slice none 0 0)), (.con (.string ⟨#[]⟩)), (.con (.slice none 0 0)), (.con (.slice none 0 0))], [.tip]] l3
  (∃ b4 : Bool, CallN Tryz.prog 14 [(.agg [(.con (.int .i64 0)), (.con (.int .i64 0)), (.con (.int .i64 0)), (.con (.int .i64 5)), (.sl []), (.con (.string ⟨#[]⟩)), (.sl []), (.sl [])])] [[(.con (.int .i64 0)), (.con (.int .i64 0)), (.con (.int .i64 0)), (.con (.int .i64 5)), (.con (.slice none 0 0)), (.con (.string ⟨#[]⟩)), (.con (.slice none 0 0)), (.con (.slice none 0 0))], [.tip]] b4
  (br (b4)
  (br (((i1 : Int) == 1))
  (br (((i2 : Int) == 0))
  (br ((((List.length l3 : Int) : Int) == 1))
  (∃ s5 : ByteArray, IdxN l3 0 [s5]
  (Q (.con (.bool (ByteArray.toList s5 == ByteArray.toList ⟨#[121]⟩))) [[(.con (.int .i64 0)), (.con (.int .i64 0)), (.con (.int .i64 0)), (.con (.int .i64 5)), (.con (.slice none 0 0)), (.con (.string ⟨#[]⟩)), (.con (.slice none 0 0)), (.con (.slice none 0 0))], [.tip]]))
  (Q (.con (.bool false)) [[(.con (.int .i64 0)), (.con (.int .i64 0)), (.con (.int .i64 0)), (.con (.int .i64 5)), (.con (.slice none 0 0)), (.con (.string ⟨#[]⟩)), (.con (.slice none 0 0)), (.con (.slice none 0 0))], [.tip]]))
  (Q (.con (.bool false)) [[(.con (.int .i64 0)), (.con (.int .i64 0)), (.con (.int .i64 0)), (.con (.int .i64 5)), (.con (.slice none 0 0)), (.con (.string ⟨#[]⟩)), (.con (.slice none 0 0)), (.con (.slice none 0 0))], [.tip]]))
  (Q (.con (.bool false)) [[(.con (.int .i64 0)), (.con (.int .i64 0)), (.con (.int .i64 0)), (.con (.int .i64 5)), (.con (.slice none 0 0)), (.con (.string ⟨#[]⟩)), (.con (.slice none 0 0)), (.con (.slice none 0 0))], [.tip]]))
  (Q (.con (.bool false)) [[(.con (.int .i64 0)), (.con (.int .i64 0)), (.con (.int .i64 0)), (.con (.int .i64 5)), (.con (.slice none 0 0)), (.con (.string ⟨#[]⟩)), (.con (.slice none 0 0)), (.con (.slice none 0 0))], [.tip]]))))
theorem a11  (Q : PV → Heap → Prop) (h : p11  Q) : ACalls Tryz.prog 11 [] [] Q := by
  have hb : Option.some (bodyOf Tryz.f11) = Tryz.f11.body := by kernel_rfl
  exact acalls_eq (S := S) (L := loops7) mixed tok Tryz.func11 hb.symm (by kernel_rfl) h
end Go.Proofs.YtcmnjodjebcapaaGreat.Deep

namespace Go.Proofs.YtcmnjodjebcapaaGreat.Deep
open Go.RowKit
set_option linter.unusedVariables false
set_option linter.unusedSimpArgs false
def five : Ex := .mk 0 0 0 5 [] ⟨#[]⟩ [] [] []
def varX (s : ByteArray) : Ex := .mk 2 0 0 0 [] s [] [] []
def letE : Ex := .mk 6 0 0 0 [] ⟨#[120]⟩ [varX ⟨#[121]⟩, varX ⟨#[120]⟩] [] []
theorem letE_free : freeS letE = [⟨#[121]⟩] := by kernel_rfl
theorem letE_u : uE letE ≤ 1000000 := by decide
theorem five_small : smallEx five := by
  refine ⟨by decide, by decide, by decide, by decide, by decide, trivial, trivial, trivial⟩
theorem five_wf : wfEx five := by simp [five, wfEx, wfExs]
theorem letE_small : smallEx letE := by
  refine ⟨by decide, by decide, by decide, by decide, by decide, ?_, trivial, trivial⟩
  simp [varX, smallExs, smallEx, smallPts]
  decide
theorem letE_wf : wfEx letE := by simp [letE, varX, wfEx, wfExs]
theorem awake_p : PCalls Tryz.prog 11 [] (fun r => r = .con (.bool true)) := by
  refine a11 _ ?_
  unfold p11
  refine ⟨_, _, call_p (enters_of Tryz.func21 (by kernel_rfl) rfl) (nodes_p five five_small five_wf) rfl ?_⟩
  have hf := free_c letE letE_small letE_wf letE_u
  rw [letE_free] at hf
  refine ⟨_, call_p (enters_of Tryz.func23 (by kernel_rfl) rfl) hf rfl ?_⟩
  refine ⟨_, call_p (enters_of Tryz.func14 (by kernel_rfl) rfl) (fit_exF' five five_small five_wf) rfl ?_⟩
  have e1 : fitEx 64 five = true := by kernel_rfl
  have e2 : W (cntE five) = 1 := by kernel_rfl
  have e3 : W (cntQ five) = 0 := by kernel_rfl
  rw [e1, e2, e3]
  exact ⟨⟨#[121]⟩, ⟨Int.le_refl 0, rfl, by simp, rfl⟩⟩
end Go.Proofs.YtcmnjodjebcapaaGreat.Deep

namespace Go.Proofs.YtcmnjodjebcapaaGreat.Deep
open Go.RowKit
set_option linter.unusedVariables false
def p6 (l1 l2 : List (List PV)) (i3 i4 i5 : Int) (s6 : ByteArray) (l7 : List (List PV)) (i8 i9 i10 i11 i12 : Int) (l13 : List (List PV)) (s14 : ByteArray) (l15 l16 l17 l18 l19 : List (List PV)) (i20 i21 i22 : Int) (s23 : ByteArray) (l24 : List (List PV)) (i25 i26 i27 i28 i29 : Int) (l30 : List (List PV)) (s31 : ByteArray) (l32 l33 l34 l35 l36 : List (List PV)) (i37 i38 i39 : Int) (s40 : ByteArray) (l41 : List (List PV)) (i42 i43 i44 i45 i46 : Int) (l47 : List (List PV)) (s48 : ByteArray) (l49 l50 l51 : List (List PV)) (Q : PV → Heap → Prop) : Prop :=
∃ b52 : Bool, CallN Tryz.prog 7 [(.agg [l1, l2, i3, i4, i5, s6, l7, i8, i9, i10, i11, i12, l13, s14, l15, l16, l17])] [[l1, l2, i3, i4, i5, s6, l7, i8, i9, i10, i11, i12, l13, s14, l15, l16, l17], [l18, l19, i20, i21, i22, s23, l24, i25, i26, i27, i28, i29, l30, s31, l32, l33, l34], [l35, l36, i37, i38, i39, s40, l41, i42, i43, i44, i45, i46, l47, s48, l49, l50, l51]] b52
  (br ((!b52))
  (∃ b53 : Bool, CallN Tryz.prog 11 [] [[l1, l2, i3, i4, i5, s6, l7, i8, i9, i10, i11, i12, l13, s14, l15, l16, l17], [l18, l19, i20, i21, i22, s23, l24, i25, i26, i27, i28, i29, l30, s31, l32, l33, l34], [l35, l36, i37, i38, i39, s40, l41, i42, i43, i44, i45, i46, l47, s48, l49, l50, l51]] b53
  (Q b53 [[l1, l2, i3, i4, i5, s6, l7, i8, i9, i10, i11, i12, l13, s14, l15, l16, l17], [l18, l19, i20, i21, i22, s23, l24, i25, i26, i27, i28, i29, l30, s31, l32, l33, l34], [l35, l36, i37, i38, i39, s40, l41, i42, i43, i44, i45, i46, l47, s48, l49, l50, l51]]))
  (∃ b54 : Bool, CallN Tryz.prog 7 [(.agg [l18, l19, i20, i21, i22, s23, l24, i25, i26, i27, i28, i29, l30, s31, l32, l33, l34])] [[l1, l2, i3, i4, i5, s6, l7, i8, i9, i10, i11, i12, l13, s14, l15, l16, l17], [l18, l19, i20, i21, i22, s23, l24, i25, i26, i27, i28, i29, l30, s31, l32, l33, l34], [l35, l36, i37, i38, i39, s40, l41, i42, i43, i44, i45, i46, l47, s48, l49, l50, l51]] b54
  (br ((!b54))
  (∃ b55 : Bool, CallN Tryz.prog 11 [] [[l1, l2, i3, i4, i5, s6, l7, i8, i9, i10, i11, i12, l13, s14, l15, l16, l17], [l18, l19, i20, i21, i22, s23, l24, i25, i26, i27, i28, i29, l30, s31, l32, l33, l34], [l35, l36, i37, i38, i39, s40, l41, i42, i43, i44, i45, i46, l47, s48, l49, l50, l51]] b55
  (Q b55 [[l1, l2, i3, i4, i5, s6, l7, i8, i9, i10, i11, i12, l13, s14, l15, l16, l17], [l18, l19, i20, i21, i22, s23, l24, i25, i26, i27, i28, i29, l30, s31, l32, l33, l34], [l35, l36, i37, i38, i39, s40, l41, i42, i43, i44, i45, i46, l47, s48, l49, l50, l51]]))
  (∃ b56 : Bool, CallN Tryz.prog 7 [(.agg [l35, l36, i37, i38, i39, s40, l41, i42, i43, i44, i45, i46, l47, s48, l49, l50, l51])] [[l1, l2, i3, i4, i5, s6, l7, i8, i9, i10, i11, i12, l13, s14, l15, l16, l17], [l18, l19, i20, i21, i22, s23, l24, i25, i26, i27, i28, i29, l30, s31, l32, l33, l34], [l35, l36, i37, i38, i39, s40, l41, i42, i43, i44, i45, i46, l47, s48, l49, l50, l51]] b56
  (br ((!b56))
  (∃ b57 : Bool, CallN Tryz.prog 11 [] [[l1, l2, i3, i4, i5, s6, l7, i8, i9, i10, i11, i12, l13, s14, l15, l16, l17], [l18, l19, i20, i21, i22, s23, l24, i25, i26, i27, i28, i29, l30, s31, l32, l33, l34], [l35, l36, i37, i38, i39, s40, l41, i42, i43, i44, i45, i46, l47, s48, l49, l50, l51]] b57
  (Q b57 [[l1, l2, i3, i4, i5, s6, l7, i8, i9, i10, i11, i12, l13, s14, l15, l16, l17], [l18, l19, i20, i21, i22, s23, l24, i25, i26, i27, i28, i29, l30, s31, l32, l33, l34], [l35, l36, i37, i38, i39, s40, l41, i42, i43, i44, i45, i46, l47, s48, l49, l50, l51]]))
  (∃ l58 : List (List PV), ∃ l59 : List (List PV), ∃ i60 : Int, ∃ i61 : Int, ∃ i62 : Int, ∃ s63 : ByteArray, ∃ l64 : List (List PV), ∃ i65 : Int, ∃ i66 : Int, ∃ i67 : Int, ∃ i68 : Int, ∃ i69 : Int, ∃ l70 : List (List PV), ∃ s71 : ByteArray, ∃ l72 : List (List PV), ∃ l73 : List (List PV), ∃ l74 : List (List PV), CallN Tryz.prog 20 [(.agg [l1, l2, i3, i4, i5, s6, l7, i8, i9, i10, i11, i12, l13, s14, l15, l16, l17])] [[l1, l2, i3, i4, i5, s6, l7, i8, i9, i10, i11, i12, l13, s14, l15, l16, l17], [l18, l19, i20, i21, i22, s23, l24, i25, i26, i27, i28, i29, l30, s31, l32, l33, l34], [l35, l36, i37, i38, i39, s40, l41, i42, i43, i44, i45, i46, l47, s48, l49, l50, l51]] (.agg [l58, l59, i60, i61, i62, s63, l64, i65, i66, i67, i68, i69, l70, s71, l72, l73, l74])
  (∃ l75 : List (List PV), ∃ l76 : List (List PV), ∃ i77 : Int, ∃ i78 : Int, ∃ i79 : Int, ∃ s80 : ByteArray, ∃ l81 : List (List PV), ∃ i82 : Int, ∃ i83 : Int, ∃ i84 : Int, ∃ i85 : Int, ∃ i86 : Int, ∃ l87 : List (List PV), ∃ s88 : ByteArray, ∃ l89 : List (List PV), ∃ l90 : List (List PV), ∃ l91 : List (List PV), CallN Tryz.prog 20 [(.agg [l58, l59, i60, i61, i62, s63, l64, i65, i66, i67, i68, i69, l70, s71, l72, l73, l74])] [[l1, l2, i3, i4, i5, s6, l7, i8, i9, i10, i11, i12, l13, s14, l15, l16, l17], [l18, l19, i20, i21, i22, s23, l24, i25, i26, i27, i28, i29, l30, s31, l32, l33, l34], [l35, l36, i37, i38, i39, s40, l41, i42, i43, i44, i45, i46, l47, s48, l49, l50, l51], [l58, l59, i60, i61, i62, s63, l64, i65, i66, i67, i68, i69, l70, s71, l72, l73, l74]] (.agg [l75, l76, i77, i78, i79, s80, l81, i82, i83, i84, i85, i86, l87, s88, l89, l90, l91])
  (∃ b92 : Bool, CallN Tryz.prog 27 [(.agg [l1, l2, i3, i4, i5, s6, l7, i8, i9, i10, i11, i12, l13, s14, l15, l16, l17]), (.agg [l58, l59, i60, i61, i62, s63, l64, i65, i66, i67, i68, i69, l70, s71, l72, l73, l74])] [] b92
  (br ((!b92))
  (Q (.con (.bool false)) [[l1, l2, i3, i4, i5, s6, l7, i8, i9, i10, i11, i12, l13, s14, l15, l16, l17], [l18, l19, i20, i21, i22, s23, l24, i25, i26, i27, i28, i29, l30, s31, l32, l33, l34], [l35, l36, i37, i38, i39, s40, l41, i42, i43, i44, i45, i46, l47, s48, l49, l50, l51], [l58, l59, i60, i61, i62, s63, l64, i65, i66, i67, i68, i69, l70, s71, l72, l73, l74], [l75, l76, i77, i78, i79, s80, l81, i82, i83, i84, i85, i86, l87, s88, l89, l90, l91]])
  (∃ b93 : Bool, CallN Tryz.prog 27 [(.agg [l58, l59, i60, i61, i62, s63, l64, i65, i66, i67, i68, i69, l70, s71, l72, l73, l74]), (.agg [l1, l2, i3, i4, i5, s6, l7, i8, i9, i10, i11, i12, l13, s14, l15, l16, l17])] [] b93
  (br ((!b93))
  (Q (.con (.bool false)) [[l1, l2, i3, i4, i5, s6, l7, i8, i9, i10, i11, i12, l13, s14, l15, l16, l17], [l18, l19, i20, i21, i22, s23, l24, i25, i26, i27, i28, i29, l30, s31, l32, l33, l34], [l35, l36, i37, i38, i39, s40, l41, i42, i43, i44, i45, i46, l47, s48, l49, l50, l51], [l58, l59, i60, i61, i62, s63, l64, i65, i66, i67, i68, i69, l70, s71, l72, l73, l74], [l75, l76, i77, i78, i79, s80, l81, i82, i83, i84, i85, i86, l87, s88, l89, l90, l91]])
  (∃ b94 : Bool, CallN Tryz.prog 26 [(.agg [l58, l59, i60, i61, i62, s63, l64, i65, i66, i67, i68, i69, l70, s71, l72, l73, l74]), (.agg [l75, l76, i77, i78, i79, s80, l81, i82, i83, i84, i85, i86, l87, s88, l89, l90, l91])] [] b94
  (br ((!b94))
  (Q (.con (.bool false)) [[l1, l2, i3, i4, i5, s6, l7, i8, i9, i10, i11, i12, l13, s14, l15, l16, l17], [l18, l19, i20, i21, i22, s23, l24, i25, i26, i27, i28, i29, l30, s31, l32, l33, l34], [l35, l36, i37, i38, i39, s40, l41, i42, i43, i44, i45, i46, l47, s48, l49, l50, l51], [l58, l59, i60, i61, i62, s63, l64, i65, i66, i67, i68, i69, l70, s71, l72, l73, l74], [l75, l76, i77, i78, i79, s80, l81, i82, i83, i84, i85, i86, l87, s88, l89, l90, l91]])
  (∃ b95 : Bool, CallN Tryz.prog 25 [(.agg [l58, l59, i60, i61, i62, s63, l64, i65, i66, i67, i68, i69, l70, s71, l72, l73, l74])] [] b95
  (br (b95)
  (Q (.con (.bool false)) [[l1, l2, i3, i4, i5, s6, l7, i8, i9, i10, i11, i12, l13, s14, l15, l16, l17], [l18, l19, i20, i21, i22, s23, l24, i25, i26, i27, i28, i29, l30, s31, l32, l33, l34], [l35, l36, i37, i38, i39, s40, l41, i42, i43, i44, i45, i46, l47, s48, l49, l50, l51], [l58, l59, i60, i61, i62, s63, l64, i65, i66, i67, i68, i69, l70, s71, l72, l73, l74], [l75, l76, i77, i78, i79, s80, l81, i82, i83, i84, i85, i86, l87, s88, l89, l90, l91]])
  (∃ b96 : Bool, CallN Tryz.prog 27 [(.agg [l1, l2, i3, i4, i5, s6, l7, i8, i9, i10, i11, i12, l13, s14, l15, l16, l17]), (.agg [l18, l19, i20, i21, i22, s23, l24, i25, i26, i27, i28, i29, l30, s31, l32, l33, l34])] [] b96
  (∃ b97 : Bool, CallN Tryz.prog 27 [(.agg [l18, l19, i20, i21, i22, s23, l24, i25, i26, i27, i28, i29, l30, s31, l32, l33, l34]), (.agg [l1, l2, i3, i4, i5, s6, l7, i8, i9, i10, i11, i12, l13, s14, l15, l16, l17])] [] b97
  (br ((!(b96 == b97)))
  (Q (.con (.bool false)) [[l1, l2, i3, i4, i5, s6, l7, i8, i9, i10, i11, i12, l13, s14, l15, l16, l17], [l18, l19, i20, i21, i22, s23, l24, i25, i26, i27, i28, i29, l30, s31, l32, l33, l34], [l35, l36, i37, i38, i39, s40, l41, i42, i43, i44, i45, i46, l47, s48, l49, l50, l51], [l58, l59, i60, i61, i62, s63, l64, i65, i66, i67, i68, i69, l70, s71, l72, l73, l74], [l75, l76, i77, i78, i79, s80, l81, i82, i83, i84, i85, i86, l87, s88, l89, l90, l91]])
  (∃ b98 : Bool, CallN Tryz.prog 12 [(.agg [l1, l2, i3, i4, i5, s6, l7, i8, i9, i10, i11, i12, l13, s14, l15, l16, l17])] [] b98
  (∃ b99 : Bool, CallN Tryz.prog 12 [(.agg [l58, l59, i60, i61, i62, s63, l64, i65, i66, i67, i68, i69, l70, s71, l72, l73, l74])] [] b99
  (br ((!(b98 == b99)))
  (Q (.con (.bool false)) [[l1, l2, i3, i4, i5, s6, l7, i8, i9, i10, i11, i12, l13, s14, l15, l16, l17], [l18, l19, i20, i21, i22, s23, l24, i25, i26, i27, i28, i29, l30, s31, l32, l33, l34], [l35, l36, i37, i38, i39, s40, l41, i42, i43, i44, i45, i46, l47, s48, l49, l50, l51], [l58, l59, i60, i61, i62, s63, l64, i65, i66, i67, i68, i69, l70, s71, l72, l73, l74], [l75, l76, i77, i78, i79, s80, l81, i82, i83, i84, i85, i86, l87, s88, l89, l90, l91]])
  (∃ b100 : Bool, CallN Tryz.prog 27 [(.agg [l1, l2, i3, i4, i5, s6, l7, i8, i9, i10, i11, i12, l13, s14, l15, l16, l17]), (.agg [l18, l19, i20, i21, i22, s23, l24, i25, i26, i27, i28, i29, l30, s31, l32, l33, l34])] [[l1, l2, i3, i4, i5, s6, l7, i8, i9, i10, i11, i12, l13, s14, l15, l16, l17], [l18, l19, i20, i21, i22, s23, l24, i25, i26, i27, i28, i29, l30, s31, l32, l33, l34], [l35, l36, i37, i38, i39, s40, l41, i42, i43, i44, i45, i46, l47, s48, l49, l50, l51], [l58, l59, i60, i61, i62, s63, l64, i65, i66, i67, i68, i69, l70, s71, l72, l73, l74], [l75, l76, i77, i78, i79, s80, l81, i82, i83, i84, i85, i86, l87, s88, l89, l90, l91]] b100
  (br ((!b100))
  (∃ b101 : Bool, CallN Tryz.prog 11 [] [[l1, l2, i3, i4, i5, s6, l7, i8, i9, i10, i11, i12, l13, s14, l15, l16, l17], [l18, l19, i20, i21, i22, s23, l24, i25, i26, i27, i28, i29, l30, s31, l32, l33, l34], [l35, l36, i37, i38, i39, s40, l41, i42, i43, i44, i45, i46, l47, s48, l49, l50, l51], [l58, l59, i60, i61, i62, s63, l64, i65, i66, i67, i68, i69, l70, s71, l72, l73, l74], [l75, l76, i77, i78, i79, s80, l81, i82, i83, i84, i85, i86, l87, s88, l89, l90, l91]] b101
  (Q b101 [[l1, l2, i3, i4, i5, s6, l7, i8, i9, i10, i11, i12, l13, s14, l15, l16, l17], [l18, l19, i20, i21, i22, s23, l24, i25, i26, i27, i28, i29, l30, s31, l32, l33, l34], [l35, l36, i37, i38, i39, s40, l41, i42, i43, i44, i45, i46, l47, s48, l49, l50, l51], [l58, l59, i60, i61, i62, s63, l64, i65, i66, i67, i68, i69, l70, s71, l72, l73, l74], [l75, l76, i77, i78, i79, s80, l81, i82, i83, i84, i85, i86, l87, s88, l89, l90, l91]]))
  (∃ b102 : Bool, CallN Tryz.prog 27 [(.agg [l18, l19, i20, i21, i22, s23, l24, i25, i26, i27, i28, i29, l30, s31, l32, l33, l34]), (.agg [l35, l36, i37, i38, i39, s40, l41, i42, i43, i44, i45, i46, l47, s48, l49, l50, l51])] [[l1, l2, i3, i4, i5, s6, l7, i8, i9, i10, i11, i12, l13, s14, l15, l16, l17], [l18, l19, i20, i21, i22, s23, l24, i25, i26, i27, i28, i29, l30, s31, l32, l33, l34], [l35, l36, i37, i38, i39, s40, l41, i42, i43, i44, i45, i46, l47, s48, l49, l50, l51], [l58, l59, i60, i61, i62, s63, l64, i65, i66, i67, i68, i69, l70, s71, l72, l73, l74], [l75, l76, i77, i78, i79, s80, l81, i82, i83, i84, i85, i86, l87, s88, l89, l90, l91]] b102
  (br ((!b102))
  (∃ b103 : Bool, CallN Tryz.prog 11 [] [[l1, l2, i3, i4, i5, s6, l7, i8, i9, i10, i11, i12, l13, s14, l15, l16, l17], [l18, l19, i20, i21, i22, s23, l24, i25, i26, i27, i28, i29, l30, s31, l32, l33, l34], [l35, l36, i37, i38, i39, s40, l41, i42, i43, i44, i45, i46, l47, s48, l49, l50, l51], [l58, l59, i60, i61, i62, s63, l64, i65, i66, i67, i68, i69, l70, s71, l72, l73, l74], [l75, l76, i77, i78, i79, s80, l81, i82, i83, i84, i85, i86, l87, s88, l89, l90, l91]] b103
  (Q b103 [[l1, l2, i3, i4, i5, s6, l7, i8, i9, i10, i11, i12, l13, s14, l15, l16, l17], [l18, l19, i20, i21, i22, s23, l24, i25, i26, i27, i28, i29, l30, s31, l32, l33, l34], [l35, l36, i37, i38, i39, s40, l41, i42, i43, i44, i45, i46, l47, s48, l49, l50, l51], [l58, l59, i60, i61, i62, s63, l64, i65, i66, i67, i68, i69, l70, s71, l72, l73, l74], [l75, l76, i77, i78, i79, s80, l81, i82, i83, i84, i85, i86, l87, s88, l89, l90, l91]]))
  (∃ b104 : Bool, CallN Tryz.prog 27 [(.agg [l1, l2, i3, i4, i5, s6, l7, i8, i9, i10, i11, i12, l13, s14, l15, l16, l17]), (.agg [l35, l36, i37, i38, i39, s40, l41, i42, i43, i44, i45, i46, l47, s48, l49, l50, l51])] [[l1, l2, i3, i4, i5, s6, l7, i8, i9, i10, i11, i12, l13, s14, l15, l16, l17], [l18, l19, i20, i21, i22, s23, l24, i25, i26, i27, i28, i29, l30, s31, l32, l33, l34], [l35, l36, i37, i38, i39, s40, l41, i42, i43, i44, i45, i46, l47, s48, l49, l50, l51], [l58, l59, i60, i61, i62, s63, l64, i65, i66, i67, i68, i69, l70, s71, l72, l73, l74], [l75, l76, i77, i78, i79, s80, l81, i82, i83, i84, i85, i86, l87, s88, l89, l90, l91]] b104
  (br (b104)
  (∃ b105 : Bool, CallN Tryz.prog 11 [] [[l1, l2, i3, i4, i5, s6, l7, i8, i9, i10, i11, i12, l13, s14, l15, l16, l17], [l18, l19, i20, i21, i22, s23, l24, i25, i26, i27, i28, i29, l30, s31, l32, l33, l34], [l35, l36, i37, i38, i39, s40, l41, i42, i43, i44, i45, i46, l47, s48, l49, l50, l51], [l58, l59, i60, i61, i62, s63, l64, i65, i66, i67, i68, i69, l70, s71, l72, l73, l74], [l75, l76, i77, i78, i79, s80, l81, i82, i83, i84, i85, i86, l87, s88, l89, l90, l91]] b105
  (Q b105 [[l1, l2, i3, i4, i5, s6, l7, i8, i9, i10, i11, i12, l13, s14, l15, l16, l17], [l18, l19, i20, i21, i22, s23, l24, i25, i26, i27, i28, i29, l30, s31, l32, l33, l34], [l35, l36, i37, i38, i39, s40, l41, i42, i43, i44, i45, i46, l47, s48, l49, l50, l51], [l58, l59, i60, i61, i62, s63, l64, i65, i66, i67, i68, i69, l70, s71, l72, l73, l74], [l75, l76, i77, i78, i79, s80, l81, i82, i83, i84, i85, i86, l87, s88, l89, l90, l91]]))
  (Q (.con (.bool false)) [[l1, l2, i3, i4, i5, s6, l7, i8, i9, i10, i11, i12, l13, s14, l15, l16, l17], [l18, l19, i20, i21, i22, s23, l24, i25, i26, i27, i28, i29, l30, s31, l32, l33, l34], [l35, l36, i37, i38, i39, s40, l41, i42, i43, i44, i45, i46, l47, s48, l49, l50, l51], [l58, l59, i60, i61, i62, s63, l64, i65, i66, i67, i68, i69, l70, s71, l72, l73, l74], [l75, l76, i77, i78, i79, s80, l81, i82, i83, i84, i85, i86, l87, s88, l89, l90, l91]]))))))))))))))))))))))))))))
theorem a6 (l1 l2 : List (List PV)) (i3 i4 i5 : Int) (s6 : ByteArray) (l7 : List (List PV)) (i8 i9 i10 i11 i12 : Int) (l13 : List (List PV)) (s14 : ByteArray) (l15 l16 l17 l18 l19 : List (List PV)) (i20 i21 i22 : Int) (s23 : ByteArray) (l24 : List (List PV)) (i25 i26 i27 i28 i29 : Int) (l30 : List (List PV)) (s31 : ByteArray) (l32 l33 l34 l35 l36 : List (List PV)) (i37 i38 i39 : Int) (s40 : ByteArray) (l41 : List (List PV)) (i42 i43 i44 i45 i46 : Int) (l47 : List (List PV)) (s48 : ByteArray) (l49 l50 l51 : List (List PV)) (Q : PV → Heap → Prop) (h : p6 l1 l2 i3 i4 i5 s6 l7 i8 i9 i10 i11 i12 l13 s14 l15 l16 l17 l18 l19 i20 i21 i22 s23 l24 i25 i26 i27 i28 i29 l30 s31 l32 l33 l34 l35 l36 i37 i38 i39 s40 l41 i42 i43 i44 i45 i46 l47 s48 l49 l50 l51 Q) : ACalls Tryz.prog 6 [(.agg [l1, l2, i3, i4, i5, s6, l7, i8, i9, i10, i11, i12, l13, s14, l15, l16, l17]), (.agg [l18, l19, i20, i21, i22, s23, l24, i25, i26, i27, i28, i29, l30, s31, l32, l33, l34]), (.agg [l35, l36, i37, i38, i39, s40, l41, i42, i43, i44, i45, i46, l47, s48, l49, l50, l51])] [] Q := by
  have hb : Option.some (bodyOf Tryz.f6) = Tryz.f6.body := by kernel_rfl
  exact acalls_eq (S := S) (L := loops7) mixed tok Tryz.func6 hb.symm (by kernel_rfl) h
end Go.Proofs.YtcmnjodjebcapaaGreat.Deep

namespace Go.Proofs.YtcmnjodjebcapaaGreat.Deep
open Go.RowKit
set_option linter.unusedVariables false
set_option linter.unusedSimpArgs false
theorem cells_Prog (a : Pr) : ∃ x0 : List (List PV), ∃ x1 : List (List PV), ∃ x2 : Int, ∃ x3 : Int, ∃ x4 : Int, ∃ x5 : ByteArray, ∃ x6 : List (List PV), ∃ x7 : Int, ∃ x8 : Int, ∃ x9 : Int, ∃ x10 : Int, ∃ x11 : Int, ∃ x12 : List (List PV), ∃ x13 : ByteArray, ∃ x14 : List (List PV), ∃ x15 : List (List PV), ∃ x16 : List (List PV),
    prP a = [.sl x0, .sl x1, .con (.int .i64 x2), .con (.int .i64 x3), .con (.int .i64 x4), .con (.string x5), .sl x6, .con (.int .i64 x7), .con (.int .i64 x8), .con (.int .i64 x9), .con (.int .i64 x10), .con (.int .i64 x11), .sl x12, .con (.string x13), .sl x14, .sl x15, .sl x16] := by
  obtain ⟨a1, a2, a3, a4, ⟨k, n, ps⟩, a6, ⟨k2, li2, co2, m2, b2, n2, ks2, ps2, bs2⟩, a8⟩ := a
  exact ⟨_, _, _, _, _, _, _, _, _, _, _, _, _, _, _, _, _, rfl⟩
end Go.Proofs.YtcmnjodjebcapaaGreat.Deep

namespace Go.Proofs.YtcmnjodjebcapaaGreat.Deep
open Go.RowKit
set_option linter.unusedVariables false
set_option linter.unusedSimpArgs false
instance lawB : LawfulBEq ByteArray where
  eq_of_beq {a b} h := by
    cases a; cases b
    rename_i x y
    have h' : (x == y) = true := h
    rw [eq_of_beq h']
  rfl {a} := by
    cases a
    rename_i x
    show (x == x) = true
    exact beq_self_eq_true x
mutual
def freeR : Ex → List ByteArray → List ByteArray → List ByteArray
  | .mk k _ _ _ _ n ks ps bs, kn, out => arR bs ps kn (kdR ks k n 0 kn (if k = 2 ∧ n ∉ kn ∧ n ∉ out then out ++ [n] else out))
def kdR : List Ex → Int → ByteArray → Nat → List ByteArray → List ByteArray → List ByteArray
  | [], _, _, _, _, out => out
  | e :: es, k, n, i, kn, out => kdR es k n (i + 1) kn (freeR e (kn ++ giv k n i) out)
def arR : List Ex → List Pt → List ByteArray → List ByteArray → List ByteArray
  | b :: bs, p :: ps, kn, out => arR bs ps kn (freeR b (kn ++ varsP p) out)
  | [], _, _, out => out
  | _ :: _, [], _, out => out
end
def cn (l : List ByteArray) (s : ByteArray) : Int := (l.count s : Int)
theorem cn_cons (a : ByteArray) (l : List ByteArray) (s : ByteArray) : cn (a :: l) s = cn l s + if s = a then 1 else 0 := by
  unfold cn
  rw [List.count_cons]
  by_cases h : s = a
  · subst h; simp
  · have : ¬ a = s := fun e => h e.symm
    simp [h, this]
theorem cn_app (a b : List ByteArray) (s : ByteArray) : cn (a ++ b) s = cn a s + cn b s := by unfold cn; rw [List.count_append]; simp
theorem cn_nn (l : List ByteArray) (s : ByteArray) : 0 ≤ cn l s := by unfold cn; omega
theorem cn_le (l : List ByteArray) (s : ByteArray) : cn l s ≤ l.length := by unfold cn; have := List.count_le_length (a := s) (l := l); omega
theorem cn_pos (l : List ByteArray) (s : ByteArray) : 0 < cn l s ↔ s ∈ l := by
  unfold cn
  rw [← List.count_pos_iff (a := s) (l := l)]; omega
theorem wr_id {c : Int} (h1 : -9223372036854775808 ≤ c) (h2 : c ≤ 9223372036854775807) : wr c = c := wrap_id h1 h2
theorem incs_cnt (ns : List ByteArray) : ∀ x : Nat × DataW Unit, GoodD x.2 → (∀ s, 0 ≤ cnt x.2 s ∧ cnt x.2 s + ns.length ≤ 4611686018427387904) → ∀ s, cnt (ns.foldl incD x).2 s = cnt x.2 s + cn ns s := by
  induction ns with
  | nil => intro x g h s; simp [cn]
  | cons a ns ih =>
    intro x g h s
    have e : ∀ t, cnt (incD x a).2 t = if t = a then cnt x.2 a + 1 else cnt x.2 t := fun t => by
      unfold incD
      dsimp only
      rw [(g.put a _).2 t]
      have := h a
      simp only [List.length_cons] at this
      rw [wr_id (by omega) (by omega)]
    rw [List.foldl_cons, ih (incD x a) (g.put a _).1 (fun t => ?_) s, e, cn_cons]
    · split
      · subst s; omega
      · omega
    · have h1 := h t
      have h2 := h a
      simp only [List.length_cons] at h1 h2
      rw [e]
      split <;> omega
theorem decs_cnt (ns : List ByteArray) : ∀ x : Nat × DataW Unit, GoodD x.2 → (∀ s, cn ns s ≤ cnt x.2 s ∧ cnt x.2 s ≤ 4611686018427387904) → ∀ s, cnt (ns.foldl decD x).2 s = cnt x.2 s - cn ns s := by
  induction ns with
  | nil => intro x g h s; simp [cn]
  | cons a ns ih =>
    intro x g h s
    have ha := h a
    rw [cn_cons, if_pos rfl] at ha
    have h0 := cn_nn ns a
    have g0 : GoodD (dec0 x a) := (g.put a _).1
    have e0 : ∀ t, cnt (dec0 x a) t = if t = a then cnt x.2 a - 1 else cnt x.2 t := fun t => by
      unfold dec0
      rw [(g.put a _).2 t, wr_id (by omega) (by omega)]
    have e : ∀ t, cnt (decD x a).2 t = if t = a then cnt x.2 a - 1 else cnt x.2 t := fun t => by
      unfold decD
      dsimp only
      by_cases hz : cnt (dec0 x a) a = 0
      · rw [if_pos hz, (g0.del a).2 t]
        have := e0 a
        rw [if_pos rfl] at this
        split
        · omega
        · rename_i hne; rw [e0, if_neg hne]
      · rw [if_neg hz, e0]
    rw [List.foldl_cons, ih (decD x a) (decD_good g a) (fun t => ?_) s, e, cn_cons]
    · split
      · subst s; omega
      · omega
    · have h1 := h t
      rw [cn_cons] at h1
      rw [e]
      split
      · subst t; omega
      · rename_i hne; rw [if_neg hne] at h1; omega
structure Rel (st : LS) (kn : List ByteArray) : Prop where
  g1 : GoodD st.D1
  g2 : GoodD st.D2
  c1 : ∀ s, cnt st.D1 s = cn kn s
  c2 : ∀ s, cnt st.D2 s = if s ∈ st.l then 1 else 0
theorem Rel.enter {st : LS} {kn ns : List ByteArray} (h : Rel st kn) (hb : kn.length + ns.length ≤ 1099511627776) : Rel (enterS ns st) (kn ++ ns) := by
  refine ⟨(incs_ok ns _ h.g1).2, h.g2, fun s => ?_, h.c2⟩
  show cnt (ns.foldl incD (st.n1, st.D1)).2 s = _
  rw [incs_cnt ns _ h.g1 (fun t => ?_), cn_app]
  · dsimp only; rw [h.c1]
  · dsimp only
    rw [h.c1]
    have := cn_nn kn t
    have := cn_le kn t
    omega
theorem Rel.leave {st : LS} {kn ns : List ByteArray} (h : Rel st (kn ++ ns)) (hb : kn.length + ns.length ≤ 1099511627776) : Rel (leaveS ns st) kn := by
  refine ⟨(decs_ok ns _ h.g1).2, h.g2, fun s => ?_, h.c2⟩
  show cnt (ns.foldl decD (st.n1, st.D1)).2 s = _
  rw [decs_cnt ns _ h.g1 (fun t => ?_)]
  · dsimp only; rw [h.c1, cn_app]; omega
  · dsimp only
    rw [h.c1, cn_app]
    have := cn_nn kn t
    have := cn_le kn t
    have := cn_le ns t
    omega
theorem Rel.meet {st : LS} {kn : List ByteArray} (h : Rel st kn) (n : ByteArray) : Rel (meetS n st) kn ∧ (meetS n st).l = if n ∉ kn ∧ n ∉ st.l then st.l ++ [n] else st.l := by
  unfold meetS
  rw [h.c1, h.c2]
  by_cases h1 : n ∈ kn
  · rw [if_pos ((cn_pos kn n).2 h1), if_neg (fun q => q.1 h1)]
    exact ⟨h, rfl⟩
  rw [if_neg (fun q => h1 ((cn_pos kn n).1 q))]
  by_cases h2 : n ∈ st.l
  · rw [if_pos h2, if_pos (by decide), if_neg (fun q => q.2 h2)]
    exact ⟨h, rfl⟩
  rw [if_neg h2, if_neg (by decide), if_pos ⟨h1, h2⟩]
  refine ⟨⟨h.g1, (h.g2.put n _).1, h.c1, fun s => ?_⟩, rfl⟩
  dsimp only
  rw [(h.g2.put n _).2 s, h.c2]
  by_cases hs : s = n
  · subst hs
    rw [if_pos rfl, if_pos (by simp)]; rfl
  · rw [if_neg hs]
    by_cases hm : s ∈ st.l
    · rw [if_pos hm, if_pos (by simp [hm])]
    · rw [if_neg hm, if_neg (by simp [hm, hs])]
mutual
theorem ex_rel : ∀ (e : Ex) (st : LS) (kn : List ByteArray), Rel st kn → kn.length + uE e ≤ 1099511627776 → Rel (exS e st) kn ∧ (exS e st).l = freeR e kn st.l
  | .mk k li co m b n ks ps bs, st, kn, h, hb => by
    unfold uE at hb
    unfold exS freeR
    have h1 : Rel (if k = 2 then meetS n st else st) kn ∧ (if k = 2 then meetS n st else st).l = (if k = 2 ∧ n ∉ kn ∧ n ∉ st.l then st.l ++ [n] else st.l) := by
      by_cases hk : k = 2
      · rw [if_pos hk]
        obtain ⟨q1, q2⟩ := h.meet n
        refine ⟨q1, ?_⟩
        rw [q2]
        by_cases hc : n ∉ kn ∧ n ∉ st.l
        · rw [if_pos hc, if_pos ⟨hk, hc⟩]
        · rw [if_neg hc, if_neg (fun q => hc q.2)]
      · rw [if_neg hk, if_neg (fun q => hk q.1)]
        exact ⟨h, rfl⟩
    obtain ⟨r1, e1⟩ := h1
    obtain ⟨r2, e2⟩ := kd_rel ks k n 0 _ kn r1 (by omega)
    obtain ⟨r3, e3⟩ := ar_rel bs ps _ kn r2 (by omega)
    exact ⟨r3, by rw [e3, e2, e1]⟩
theorem kd_rel : ∀ (es : List Ex) (k : Int) (n : ByteArray) (i : Nat) (st : LS) (kn : List ByteArray), Rel st kn → kn.length + uEs es ≤ 1099511627776 → Rel (kdS es k n i st) kn ∧ (kdS es k n i st).l = kdR es k n i kn st.l
  | [], k, n, i, st, kn, h, _ => by unfold kdS kdR; exact ⟨h, rfl⟩
  | e :: es, k, n, i, st, kn, h, hb => by
    unfold uEs at hb
    have hg := giv_len k n i
    obtain ⟨r1, e1⟩ := ex_rel e _ _ (h.enter (ns := giv k n i) (by omega)) (by rw [List.length_append]; omega)
    obtain ⟨r2, e2⟩ := kd_rel es k n (i + 1) _ kn (r1.leave (by omega)) (by omega)
    unfold kdS kdR
    refine ⟨r2, ?_⟩
    rw [e2]
    show kdR es k n (i + 1) kn (exS e (enterS (giv k n i) st)).l = _
    rw [e1]; rfl
theorem ar_rel : ∀ (bs : List Ex) (ps : List Pt) (st : LS) (kn : List ByteArray), Rel st kn → kn.length + uAr bs ps ≤ 1099511627776 → Rel (arS bs ps st) kn ∧ (arS bs ps st).l = arR bs ps kn st.l
  | [], ps, st, kn, h, _ => by unfold arS arR; exact ⟨h, rfl⟩
  | _ :: _, [], st, kn, h, _ => by unfold arS arR; exact ⟨h, rfl⟩
  | b :: bs, p :: ps, st, kn, h, hb => by
    unfold uAr at hb
    have hg := varsP_len p
    obtain ⟨r1, e1⟩ := ex_rel b _ _ (h.enter (ns := varsP p) (by omega)) (by rw [List.length_append]; omega)
    obtain ⟨r2, e2⟩ := ar_rel bs ps _ kn (r1.leave (by omega)) (by omega)
    unfold arS arR
    refine ⟨r2, ?_⟩
    rw [e2]
    show arR bs ps kn (exS b (enterS (varsP p) st)).l = _
    rw [e1]; rfl
end
theorem free_eq (e : Ex) (h : uE e ≤ 1000000) : freeS e = freeR e [] [] := by
  have hr : Rel initS [] := ⟨GoodD.empty, GoodD.empty, fun s => rfl, fun s => by simp [initS, cnt_empty]⟩
  exact (ex_rel e initS [] hr (by simp only [List.length_nil]; omega)).2
mutual
theorem freeR_len : ∀ (e : Ex) (kn out : List ByteArray), (freeR e kn out).length ≤ out.length + uE e
  | .mk k li co m b n ks ps bs, kn, out => by
    unfold freeR uE
    have h1 := arR_len bs ps kn (kdR ks k n 0 kn (if k = 2 ∧ n ∉ kn ∧ n ∉ out then out ++ [n] else out))
    have h2 := kdR_len ks k n 0 kn (if k = 2 ∧ n ∉ kn ∧ n ∉ out then out ++ [n] else out)
    have h3 : (if k = 2 ∧ n ∉ kn ∧ n ∉ out then out ++ [n] else out).length ≤ out.length + 1 := by split <;> simp
    omega
theorem kdR_len : ∀ (es : List Ex) (k : Int) (n : ByteArray) (i : Nat) (kn out : List ByteArray), (kdR es k n i kn out).length ≤ out.length + uEs es
  | [], k, n, i, kn, out => by unfold kdR uEs; omega
  | e :: es, k, n, i, kn, out => by
    unfold kdR uEs
    have h1 := kdR_len es k n (i + 1) kn (freeR e (kn ++ giv k n i) out)
    have h2 := freeR_len e (kn ++ giv k n i) out
    omega
theorem arR_len : ∀ (bs : List Ex) (ps : List Pt) (kn out : List ByteArray), (arR bs ps kn out).length ≤ out.length + uAr bs ps
  | [], ps, kn, out => by unfold arR; omega
  | _ :: _, [], kn, out => by unfold arR; omega
  | b :: bs, p :: ps, kn, out => by
    unfold arR uAr
    have h1 := arR_len bs ps kn (freeR b (kn ++ varsP p) out)
    have h2 := freeR_len b (kn ++ varsP p) out
    omega
end
theorem kdR_snoc (k : Int) (n : ByteArray) (kn : List ByteArray) : ∀ (es : List Ex) (i : Nat) (out : List ByteArray) (j : Nat) (h : j < es.length), kdR (es.take (j + 1)) k n i kn out = freeR es[j] (kn ++ giv k n (i + j)) (kdR (es.take j) k n i kn out)
  | e :: es, i, out, 0, h => by simp [kdR]
  | e :: es, i, out, j + 1, h => by
    have := kdR_snoc k n kn es (i + 1) (freeR e (kn ++ giv k n i) out) j (by simpa using h)
    rw [show i + 1 + j = i + (j + 1) by omega] at this
    simpa [kdR] using this
theorem arR_snoc (kn : List ByteArray) : ∀ (bs : List Ex) (ps : List Pt) (out : List ByteArray) (j : Nat) (h : j < bs.length) (h2 : j < ps.length), arR (bs.take (j + 1)) (ps.take (j + 1)) kn out = freeR bs[j] (kn ++ varsP ps[j]) (arR (bs.take j) (ps.take j) kn out)
  | b :: bs, p :: ps, out, 0, _, _ => by simp [arR]
  | b :: bs, p :: ps, out, j + 1, h, h2 => by
    have := arR_snoc kn bs ps (freeR b (kn ++ varsP p) out) j (by simpa using h) (by simpa using h2)
    simpa [arR] using this
mutual
theorem uP_light : ∀ (t : Pt) (l : Int), 0 ≤ lightPt t l → (uP t : Int) ≤ l - lightPt t l
  | .mk k li co n m ks, l, h => by
    unfold lightPt at h ⊢
    have := uPs_light ks _ h
    have := (take20_le n.size).1
    unfold uP
    push_cast
    omega
theorem uPs_light : ∀ (ts : List Pt) (l : Int), 0 ≤ lightPts ts l → (uPs ts : Int) ≤ l - lightPts ts l
  | [], l, h => by unfold lightPts uPs; simp
  | t :: ts, l, h => by
    unfold lightPts at h ⊢
    split at h
    · omega
    · rename_i hl
      rw [if_neg hl]
      have h1 := uPs_light ts _ h
      have h0 : 0 ≤ lightPt t l := by
        rcases Int.lt_or_le (lightPt t l) 0 with q | q
        · rw [lightPts_neg ts _ q] at h; omega
        · exact q
      have h2 := uP_light t l h0
      unfold uPs
      push_cast
      omega
end
mutual
theorem uE_light : ∀ (t : Ex) (l : Int), 0 ≤ lightEx t l → (uE t : Int) + 2 ≤ 3 * (l - lightEx t l)
  | .mk k li co m b n ks ps bs, l, h => by
    unfold lightEx at h ⊢
    obtain ⟨L0, hL0⟩ : ∃ L0, l - 1 - take20 b.length - take20 n.size = L0 := ⟨_, rfl⟩
    rw [hL0] at h ⊢
    have h2 := uAr_light bs ps _ h
    have h0 : 0 ≤ lightExs ks L0 := by
      rcases Int.lt_or_le (lightExs ks L0) 0 with q | q
      · rw [lightArms_neg bs ps _ q] at h; omega
      · exact q
    have h1 := uEs_light ks L0 h0
    have := (take20_le n.size).1
    have := (take20_le b.length).1
    unfold uE
    push_cast
    omega
theorem uEs_light : ∀ (ts : List Ex) (l : Int), 0 ≤ lightExs ts l → (uEs ts : Int) ≤ 3 * (l - lightExs ts l)
  | [], l, h => by unfold lightExs uEs; simp
  | t :: ts, l, h => by
    unfold lightExs at h ⊢
    split at h
    · omega
    · rename_i hl
      rw [if_neg hl]
      have h1 := uEs_light ts _ h
      have h0 : 0 ≤ lightEx t l := by
        rcases Int.lt_or_le (lightEx t l) 0 with q | q
        · rw [lightExs_neg ts _ q] at h; omega
        · exact q
      have h2 := uE_light t l h0
      unfold uEs
      push_cast
      omega
theorem uAr_light : ∀ (bs : List Ex) (ps : List Pt) (l : Int), 0 ≤ lightArms bs ps l → (uAr bs ps : Int) ≤ 3 * (l - lightArms bs ps l)
  | [], ps, l, h => by unfold lightArms uAr; simp
  | b :: bs, [], l, h => by unfold lightArms uAr; simp
  | b :: bs, p :: ps, l, h => by
    unfold lightArms at h ⊢
    split at h
    · omega
    · rename_i hl
      rw [if_neg hl]
      have h1 := uAr_light bs ps _ h
      have h0 : 0 ≤ lightEx b (lightPt p l) := by
        rcases Int.lt_or_le (lightEx b (lightPt p l)) 0 with q | q
        · rw [lightArms_neg bs ps _ q] at h; omega
        · exact q
      have h2 := uE_light b _ h0
      have h3 := (lightEx_ok b (lightPt p l)).1
      have h4 := uP_light p l (by omega)
      have h5 := varsP_len p
      unfold uAr
      push_cast
      omega
end
theorem uE_few (e : Ex) (h : 0 ≤ lightEx e 3000) : uE e ≤ 1000000 := by
  have := uE_light e 3000 h
  omega
end Go.Proofs.YtcmnjodjebcapaaGreat.Deep

namespace Go.Proofs.YtcmnjodjebcapaaGreat.Deep
open Go.RowKit
set_option linter.unusedVariables false
def loops30 (id : Nat) : Option (List Nat × List (Nat × Sh)) := match Nat.beq id 2 with | true => some ([0, 1], [(5, .int .i64)]) | false => none
def p30 (l1 : List (List PV)) (s2 : ByteArray) (Q : PV → Heap → Prop) : Prop :=
∃ I3 : Nat → ((Int) × Unit) → Prop, (∃ n, I3 n (0, ())) ∧ ∀ (n4 : Nat) (v5 : (Int) × Unit), I3 n4 v5 →
  (br ((decide ((v5.1 : Int) < (List.length l1 : Int))))
  (∃ s6 : ByteArray, IdxN l1 v5.1 [s6]
  (br ((ByteArray.toList s6 == ByteArray.toList s2))
  (Q (.con (.bool true)) [])
  ((@Eq PV l1 l1 ∧ @Eq PV s2 s2 ∧ True) ∧ @Eq Heap [] [] ∧ ∃ k7, k7 < n4 ∧ I3 k7 ((IntKind.wrap .i64 (v5.1 + 1)), ()))))
  (Q (.con (.bool false)) []))
theorem a30 (l1 : List (List PV)) (s2 : ByteArray) (Q : PV → Heap → Prop) (h : p30 l1 s2 Q) : ACalls Tryz.prog 30 [l1, s2] [] Q := by
  have hb : Option.some (bodyOf Tryz.f30) = Tryz.f30.body := by kernel_rfl
  exact acalls_eq (S := S) (L := loops30) mixed tok Tryz.func30 hb.symm (by kernel_rfl) h
def loops31 (id : Nat) : Option (List Nat × List (Nat × Sh)) := match Nat.beq id 5 with | true => some ([1], [(3, .own 0 9 1), (4, .int .i64)]) | false => none
def p31 (i1 i2 i3 : Int) (s4 : ByteArray) (i5 : Int) (l6 : List (List PV)) (Q : PV → Heap → Prop) : Prop :=
br (((i1 : Int) == 1))
  (AppN [] [[s4]] 1 16 PV.one
  (∃ I7 : Nat → ((List (List PV)) × (Int) × Unit) → Prop, (∃ n, I7 n ([[s4]], 0, ())) ∧ ∀ (n8 : Nat) (v9 : (List (List PV)) × (Int) × Unit), I7 n8 v9 →
  (br ((decide ((v9.2.1 : Int) < (List.length l6 : Int))))
  (∃ i10 : Int, ∃ i11 : Int, ∃ i12 : Int, ∃ s13 : ByteArray, ∃ i14 : Int, ∃ l15 : List (List PV), IdxN l6 v9.2.1 [i10, i11, i12, s13, i14, l15]
  (∃ l16 : List (List PV), CallN Tryz.prog 31 [(.agg [i10, i11, i12, s13, i14, l15])] [[i1, i2, i3, s4, i5, l6], [.tip], [], [], [.tip]] l16
  (AppN v9.1 l16 1 16 PV.one
  ((@Eq PV (.ptr 0 0) (.ptr 0 0) ∧ True) ∧ @Eq Heap [[i1, i2, i3, s4, i5, l6], [.tip], [], []] [[i1, i2, i3, s4, i5, l6], [.tip], [], []] ∧ ∃ k17, k17 < n8 ∧ I7 k17 ((v9.1 ++ l16), (IntKind.wrap .i64 (v9.2.1 + 1)), ())))))
  (Q (.own 4 9 1 v9.1) [[i1, i2, i3, s4, i5, l6], [.tip], [], [], [.tip]]))))
  (∃ I18 : Nat → ((List (List PV)) × (Int) × Unit) → Prop, (∃ n, I18 n ([], 0, ())) ∧ ∀ (n19 : Nat) (v20 : (List (List PV)) × (Int) × Unit), I18 n19 v20 →
  (br ((decide ((v20.2.1 : Int) < (List.length l6 : Int))))
  (∃ i21 : Int, ∃ i22 : Int, ∃ i23 : Int, ∃ s24 : ByteArray, ∃ i25 : Int, ∃ l26 : List (List PV), IdxN l6 v20.2.1 [i21, i22, i23, s24, i25, l26]
  (∃ l27 : List (List PV), CallN Tryz.prog 31 [(.agg [i21, i22, i23, s24, i25, l26])] [[i1, i2, i3, s4, i5, l6], [.tip]] l27
  (AppN v20.1 l27 1 16 PV.one
  ((@Eq PV (.ptr 0 0) (.ptr 0 0) ∧ True) ∧ @Eq Heap [[i1, i2, i3, s4, i5, l6]] [[i1, i2, i3, s4, i5, l6]] ∧ ∃ k28, k28 < n19 ∧ I18 k28 ((v20.1 ++ l27), (IntKind.wrap .i64 (v20.2.1 + 1)), ())))))
  (Q (.own 1 9 1 v20.1) [[i1, i2, i3, s4, i5, l6], [.tip]])))
theorem a31 (i1 i2 i3 : Int) (s4 : ByteArray) (i5 : Int) (l6 : List (List PV)) (Q : PV → Heap → Prop) (h : p31 i1 i2 i3 s4 i5 l6 Q) : ACalls Tryz.prog 31 [(.agg [i1, i2, i3, s4, i5, l6])] [] Q := by
  have hb : Option.some (bodyOf Tryz.f31) = Tryz.f31.body := by kernel_rfl
  exact acalls_eq (S := S) (L := loops31) mixed tok Tryz.func31 hb.symm (by kernel_rfl) h
def p24 (i1 i2 i3 i4 : Int) (l5 : List (List PV)) (s6 : ByteArray) (l7 l8 : List (List PV)) (Q : PV → Heap → Prop) : Prop :=
∃ l9 : List (List PV), CallF Tryz.prog 62 [(.agg [i1, i2, i3, i4, l5, s6, l7, l8]), (.sl []), (.own 0 9 1 [])] [[.tip]] (.own 1 9 1 l9) [[], [.tip]]
  (Q (.own 2 9 1 l9) [[i1, i2, i3, i4, l5, s6, l7, l8], [], [.tip]])
theorem a24 (i1 i2 i3 i4 : Int) (l5 : List (List PV)) (s6 : ByteArray) (l7 l8 : List (List PV)) (Q : PV → Heap → Prop) (h : p24 i1 i2 i3 i4 l5 s6 l7 l8 Q) : ACalls Tryz.prog 24 [(.agg [i1, i2, i3, i4, l5, s6, l7, l8])] [] Q := by
  have hb : Option.some (bodyOf Tryz.f24) = Tryz.f24.body := by kernel_rfl
  exact acalls_eq (S := S) (L := loops7) mixed tok Tryz.func24 hb.symm (by kernel_rfl) h
def loops62 (id : Nat) : Option (List Nat × List (Nat × Sh)) := match Nat.beq id 13 with | true => some ([1, 3], [(2, .own 0 9 1), (9, .int .i64)]) | false => match Nat.beq id 4 with | true => some ([1, 3], [(2, .own 0 9 1), (7, .int .i64)]) | false => none
def p62 (i1 i2 i3 i4 : Int) (l5 : List (List PV)) (s6 : ByteArray) (l7 l8 l9 l10 : List (List PV)) (Q : PV → Heap → Prop) : Prop :=
br (((i1 : Int) == 2))
  (∃ b11 : Bool, CallN Tryz.prog 30 [l9, s6] [[.tip], [i1, i2, i3, i4, l5, s6, l7, l8]] b11
  (br ((!b11))
  (∃ b12 : Bool, CallN Tryz.prog 30 [l10, s6] [[.tip], [i1, i2, i3, i4, l5, s6, l7, l8]] b12
  (br ((!b12))
  (AppN l10 [[s6]] 1 16 PV.one
  (∃ I13 : Nat → ((List (List PV)) × (Int) × Unit) → Prop, (∃ n, I13 n ((l10 ++ ([[s6]] : List (List PV))), 0, ())) ∧ ∀ (n14 : Nat) (v15 : (List (List PV)) × (Int) × Unit), I13 n14 v15 →
  (br ((decide ((v15.2.1 : Int) < (List.length l7 : Int))))
  (br (((v15.2.1 : Int) == 1))
  (br (((i1 : Int) == 6))
  (AppN [] l9 1 16 PV.one
  (AppN l9 [[s6]] 1 16 PV.one
  (∃ i16 : Int, ∃ i17 : Int, ∃ i18 : Int, ∃ i19 : Int, ∃ l20 : List (List PV), ∃ s21 : ByteArray, ∃ l22 : List (List PV), ∃ l23 : List (List PV), IdxN l7 v15.2.1 [i16, i17, i18, i19, l20, s21, l22, l23]
  (∃ l24 : List (List PV), CallF Tryz.prog 62 [(.agg [i16, i17, i18, i19, l20, s21, l22, l23]), (.sl (l9 ++ ([[s6]] : List (List PV)))), (.own 0 9 1 v15.1)] [[.tip]] (.own 1 9 1 l24) [[], [.tip]]
  ((@Eq PV l9 l9 ∧ @Eq PV (.ptr 1 0) (.ptr 1 0) ∧ True) ∧ @Eq Heap [[], [i1, i2, i3, i4, l5, s6, l7, l8], [.tip], []] [[], [i1, i2, i3, i4, l5, s6, l7, l8], [.tip], []] ∧ ∃ k25, k25 < n14 ∧ I13 k25 (l24, (IntKind.wrap .i64 (v15.2.1 + 1)), ()))))))
  (br (((i1 : Int) == 10))
  (AppN [] l9 1 16 PV.one
  (AppN l9 [[s6]] 1 16 PV.one
  (∃ i26 : Int, ∃ i27 : Int, ∃ i28 : Int, ∃ i29 : Int, ∃ l30 : List (List PV), ∃ s31 : ByteArray, ∃ l32 : List (List PV), ∃ l33 : List (List PV), IdxN l7 v15.2.1 [i26, i27, i28, i29, l30, s31, l32, l33]
  (∃ l34 : List (List PV), CallF Tryz.prog 62 [(.agg [i26, i27, i28, i29, l30, s31, l32, l33]), (.sl (l9 ++ ([[s6]] : List (List PV)))), (.own 0 9 1 v15.1)] [[.tip]] (.own 1 9 1 l34) [[], [.tip]]
  ((@Eq PV l9 l9 ∧ @Eq PV (.ptr 1 0) (.ptr 1 0) ∧ True) ∧ @Eq Heap [[], [i1, i2, i3, i4, l5, s6, l7, l8], [.tip], []] [[], [i1, i2, i3, i4, l5, s6, l7, l8], [.tip], []] ∧ ∃ k35, k35 < n14 ∧ I13 k35 (l34, (IntKind.wrap .i64 (v15.2.1 + 1)), ()))))))
  (∃ i36 : Int, ∃ i37 : Int, ∃ i38 : Int, ∃ i39 : Int, ∃ l40 : List (List PV), ∃ s41 : ByteArray, ∃ l42 : List (List PV), ∃ l43 : List (List PV), IdxN l7 v15.2.1 [i36, i37, i38, i39, l40, s41, l42, l43]
  (∃ l44 : List (List PV), CallF Tryz.prog 62 [(.agg [i36, i37, i38, i39, l40, s41, l42, l43]), l9, (.own 0 9 1 v15.1)] [[.tip]] (.own 1 9 1 l44) [[], [.tip]]
  ((@Eq PV l9 l9 ∧ @Eq PV (.ptr 1 0) (.ptr 1 0) ∧ True) ∧ @Eq Heap [[], [i1, i2, i3, i4, l5, s6, l7, l8], [.tip], []] [[], [i1, i2, i3, i4, l5, s6, l7, l8], [.tip], []] ∧ ∃ k45, k45 < n14 ∧ I13 k45 (l44, (IntKind.wrap .i64 (v15.2.1 + 1)), ()))))))
  (∃ i46 : Int, ∃ i47 : Int, ∃ i48 : Int, ∃ i49 : Int, ∃ l50 : List (List PV), ∃ s51 : ByteArray, ∃ l52 : List (List PV), ∃ l53 : List (List PV), IdxN l7 v15.2.1 [i46, i47, i48, i49, l50, s51, l52, l53]
  (∃ l54 : List (List PV), CallF Tryz.prog 62 [(.agg [i46, i47, i48, i49, l50, s51, l52, l53]), l9, (.own 0 9 1 v15.1)] [[.tip]] (.own 1 9 1 l54) [[], [.tip]]
  ((@Eq PV l9 l9 ∧ @Eq PV (.ptr 1 0) (.ptr 1 0) ∧ True) ∧ @Eq Heap [[], [i1, i2, i3, i4, l5, s6, l7, l8], [.tip], []] [[], [i1, i2, i3, i4, l5, s6, l7, l8], [.tip], []] ∧ ∃ k55, k55 < n14 ∧ I13 k55 (l54, (IntKind.wrap .i64 (v15.2.1 + 1)), ())))))
  (∃ I56 : Nat → ((List (List PV)) × (Int) × Unit) → Prop, (∃ n, I56 n (v15.1, 0, ())) ∧ ∀ (n57 : Nat) (v58 : (List (List PV)) × (Int) × Unit), I56 n57 v58 →
  (br ((decide ((v58.2.1 : Int) < (List.length l8 : Int))))
  (AppN [] l9 1 16 PV.one
  (∃ i59 : Int, ∃ i60 : Int, ∃ i61 : Int, ∃ s62 : ByteArray, ∃ i63 : Int, ∃ l64 : List (List PV), ∃ i65 : Int, ∃ i66 : Int, ∃ i67 : Int, ∃ i68 : Int, ∃ l69 : List (List PV), ∃ s70 : ByteArray, ∃ l71 : List (List PV), ∃ l72 : List (List PV), IdxN l8 v58.2.1 [i59, i60, i61, s62, i63, l64, i65, i66, i67, i68, l69, s70, l71, l72]
  (∃ l73 : List (List PV), CallN Tryz.prog 31 [(.agg [i59, i60, i61, s62, i63, l64])] [[], [i1, i2, i3, i4, l5, s6, l7, l8], [.tip], [], [], [.tip], [], [.tip]] l73
  (AppN l9 l73 1 16 PV.one
  (∃ i74 : Int, ∃ i75 : Int, ∃ i76 : Int, ∃ s77 : ByteArray, ∃ i78 : Int, ∃ l79 : List (List PV), ∃ i80 : Int, ∃ i81 : Int, ∃ i82 : Int, ∃ i83 : Int, ∃ l84 : List (List PV), ∃ s85 : ByteArray, ∃ l86 : List (List PV), ∃ l87 : List (List PV), IdxN l8 v58.2.1 [i74, i75, i76, s77, i78, l79, i80, i81, i82, i83, l84, s85, l86, l87]
  (∃ l88 : List (List PV), CallF Tryz.prog 62 [(.agg [i80, i81, i82, i83, l84, s85, l86, l87]), (.sl (l9 ++ l73)), (.own 0 9 1 v58.1)] [[.tip]] (.own 1 9 1 l88) [[], [.tip]]
  ((@Eq PV l9 l9 ∧ @Eq PV (.ptr 1 0) (.ptr 1 0) ∧ True) ∧ @Eq Heap [[], [i1, i2, i3, i4, l5, s6, l7, l8], [.tip], [], []] [[], [i1, i2, i3, i4, l5, s6, l7, l8], [.tip], [], []] ∧ ∃ k89, k89 < n57 ∧ I56 k89 (l88, (IntKind.wrap .i64 (v58.2.1 + 1)), ()))))))))
  (Q (.own 1 9 1 v58.1) [[], [.tip]]))))))
  (∃ I90 : Nat → ((List (List PV)) × (Int) × Unit) → Prop, (∃ n, I90 n (l10, 0, ())) ∧ ∀ (n91 : Nat) (v92 : (List (List PV)) × (Int) × Unit), I90 n91 v92 →
  (br ((decide ((v92.2.1 : Int) < (List.length l7 : Int))))
  (br (((v92.2.1 : Int) == 1))
  (br (((i1 : Int) == 6))
  (AppN [] l9 1 16 PV.one
  (AppN l9 [[s6]] 1 16 PV.one
  (∃ i93 : Int, ∃ i94 : Int, ∃ i95 : Int, ∃ i96 : Int, ∃ l97 : List (List PV), ∃ s98 : ByteArray, ∃ l99 : List (List PV), ∃ l100 : List (List PV), IdxN l7 v92.2.1 [i93, i94, i95, i96, l97, s98, l99, l100]
  (∃ l101 : List (List PV), CallF Tryz.prog 62 [(.agg [i93, i94, i95, i96, l97, s98, l99, l100]), (.sl (l9 ++ ([[s6]] : List (List PV)))), (.own 0 9 1 v92.1)] [[.tip]] (.own 1 9 1 l101) [[], [.tip]]
  ((@Eq PV l9 l9 ∧ @Eq PV (.ptr 1 0) (.ptr 1 0) ∧ True) ∧ @Eq Heap [[], [i1, i2, i3, i4, l5, s6, l7, l8]] [[], [i1, i2, i3, i4, l5, s6, l7, l8]] ∧ ∃ k102, k102 < n91 ∧ I90 k102 (l101, (IntKind.wrap .i64 (v92.2.1 + 1)), ()))))))
  (br (((i1 : Int) == 10))
  (AppN [] l9 1 16 PV.one
  (AppN l9 [[s6]] 1 16 PV.one
  (∃ i103 : Int, ∃ i104 : Int, ∃ i105 : Int, ∃ i106 : Int, ∃ l107 : List (List PV), ∃ s108 : ByteArray, ∃ l109 : List (List PV), ∃ l110 : List (List PV), IdxN l7 v92.2.1 [i103, i104, i105, i106, l107, s108, l109, l110]
  (∃ l111 : List (List PV), CallF Tryz.prog 62 [(.agg [i103, i104, i105, i106, l107, s108, l109, l110]), (.sl (l9 ++ ([[s6]] : List (List PV)))), (.own 0 9 1 v92.1)] [[.tip]] (.own 1 9 1 l111) [[], [.tip]]
  ((@Eq PV l9 l9 ∧ @Eq PV (.ptr 1 0) (.ptr 1 0) ∧ True) ∧ @Eq Heap [[], [i1, i2, i3, i4, l5, s6, l7, l8]] [[], [i1, i2, i3, i4, l5, s6, l7, l8]] ∧ ∃ k112, k112 < n91 ∧ I90 k112 (l111, (IntKind.wrap .i64 (v92.2.1 + 1)), ()))))))
  (∃ i113 : Int, ∃ i114 : Int, ∃ i115 : Int, ∃ i116 : Int, ∃ l117 : List (List PV), ∃ s118 : ByteArray, ∃ l119 : List (List PV), ∃ l120 : List (List PV), IdxN l7 v92.2.1 [i113, i114, i115, i116, l117, s118, l119, l120]
  (∃ l121 : List (List PV), CallF Tryz.prog 62 [(.agg [i113, i114, i115, i116, l117, s118, l119, l120]), l9, (.own 0 9 1 v92.1)] [[.tip]] (.own 1 9 1 l121) [[], [.tip]]
  ((@Eq PV l9 l9 ∧ @Eq PV (.ptr 1 0) (.ptr 1 0) ∧ True) ∧ @Eq Heap [[], [i1, i2, i3, i4, l5, s6, l7, l8]] [[], [i1, i2, i3, i4, l5, s6, l7, l8]] ∧ ∃ k122, k122 < n91 ∧ I90 k122 (l121, (IntKind.wrap .i64 (v92.2.1 + 1)), ()))))))
  (∃ i123 : Int, ∃ i124 : Int, ∃ i125 : Int, ∃ i126 : Int, ∃ l127 : List (List PV), ∃ s128 : ByteArray, ∃ l129 : List (List PV), ∃ l130 : List (List PV), IdxN l7 v92.2.1 [i123, i124, i125, i126, l127, s128, l129, l130]
  (∃ l131 : List (List PV), CallF Tryz.prog 62 [(.agg [i123, i124, i125, i126, l127, s128, l129, l130]), l9, (.own 0 9 1 v92.1)] [[.tip]] (.own 1 9 1 l131) [[], [.tip]]
  ((@Eq PV l9 l9 ∧ @Eq PV (.ptr 1 0) (.ptr 1 0) ∧ True) ∧ @Eq Heap [[], [i1, i2, i3, i4, l5, s6, l7, l8]] [[], [i1, i2, i3, i4, l5, s6, l7, l8]] ∧ ∃ k132, k132 < n91 ∧ I90 k132 (l131, (IntKind.wrap .i64 (v92.2.1 + 1)), ())))))
  (∃ I133 : Nat → ((List (List PV)) × (Int) × Unit) → Prop, (∃ n, I133 n (v92.1, 0, ())) ∧ ∀ (n134 : Nat) (v135 : (List (List PV)) × (Int) × Unit), I133 n134 v135 →
  (br ((decide ((v135.2.1 : Int) < (List.length l8 : Int))))
  (AppN [] l9 1 16 PV.one
  (∃ i136 : Int, ∃ i137 : Int, ∃ i138 : Int, ∃ s139 : ByteArray, ∃ i140 : Int, ∃ l141 : List (List PV), ∃ i142 : Int, ∃ i143 : Int, ∃ i144 : Int, ∃ i145 : Int, ∃ l146 : List (List PV), ∃ s147 : ByteArray, ∃ l148 : List (List PV), ∃ l149 : List (List PV), IdxN l8 v135.2.1 [i136, i137, i138, s139, i140, l141, i142, i143, i144, i145, l146, s147, l148, l149]
  (∃ l150 : List (List PV), CallN Tryz.prog 31 [(.agg [i136, i137, i138, s139, i140, l141])] [[], [i1, i2, i3, i4, l5, s6, l7, l8], [], [.tip], [], [.tip]] l150
  (AppN l9 l150 1 16 PV.one
  (∃ i151 : Int, ∃ i152 : Int, ∃ i153 : Int, ∃ s154 : ByteArray, ∃ i155 : Int, ∃ l156 : List (List PV), ∃ i157 : Int, ∃ i158 : Int, ∃ i159 : Int, ∃ i160 : Int, ∃ l161 : List (List PV), ∃ s162 : ByteArray, ∃ l163 : List (List PV), ∃ l164 : List (List PV), IdxN l8 v135.2.1 [i151, i152, i153, s154, i155, l156, i157, i158, i159, i160, l161, s162, l163, l164]
  (∃ l165 : List (List PV), CallF Tryz.prog 62 [(.agg [i157, i158, i159, i160, l161, s162, l163, l164]), (.sl (l9 ++ l150)), (.own 0 9 1 v135.1)] [[.tip]] (.own 1 9 1 l165) [[], [.tip]]
  ((@Eq PV l9 l9 ∧ @Eq PV (.ptr 1 0) (.ptr 1 0) ∧ True) ∧ @Eq Heap [[], [i1, i2, i3, i4, l5, s6, l7, l8], []] [[], [i1, i2, i3, i4, l5, s6, l7, l8], []] ∧ ∃ k166, k166 < n134 ∧ I133 k166 (l165, (IntKind.wrap .i64 (v135.2.1 + 1)), ()))))))))
  (Q (.own 1 9 1 v135.1) [[], [.tip]])))))))
  (∃ I167 : Nat → ((List (List PV)) × (Int) × Unit) → Prop, (∃ n, I167 n (l10, 0, ())) ∧ ∀ (n168 : Nat) (v169 : (List (List PV)) × (Int) × Unit), I167 n168 v169 →
  (br ((decide ((v169.2.1 : Int) < (List.length l7 : Int))))
  (br (((v169.2.1 : Int) == 1))
  (br (((i1 : Int) == 6))
  (AppN [] l9 1 16 PV.one
  (AppN l9 [[s6]] 1 16 PV.one
  (∃ i170 : Int, ∃ i171 : Int, ∃ i172 : Int, ∃ i173 : Int, ∃ l174 : List (List PV), ∃ s175 : ByteArray, ∃ l176 : List (List PV), ∃ l177 : List (List PV), IdxN l7 v169.2.1 [i170, i171, i172, i173, l174, s175, l176, l177]
  (∃ l178 : List (List PV), CallF Tryz.prog 62 [(.agg [i170, i171, i172, i173, l174, s175, l176, l177]), (.sl (l9 ++ ([[s6]] : List (List PV)))), (.own 0 9 1 v169.1)] [[.tip]] (.own 1 9 1 l178) [[], [.tip]]
  ((@Eq PV l9 l9 ∧ @Eq PV (.ptr 1 0) (.ptr 1 0) ∧ True) ∧ @Eq Heap [[], [i1, i2, i3, i4, l5, s6, l7, l8]] [[], [i1, i2, i3, i4, l5, s6, l7, l8]] ∧ ∃ k179, k179 < n168 ∧ I167 k179 (l178, (IntKind.wrap .i64 (v169.2.1 + 1)), ()))))))
  (br (((i1 : Int) == 10))
  (AppN [] l9 1 16 PV.one
  (AppN l9 [[s6]] 1 16 PV.one
  (∃ i180 : Int, ∃ i181 : Int, ∃ i182 : Int, ∃ i183 : Int, ∃ l184 : List (List PV), ∃ s185 : ByteArray, ∃ l186 : List (List PV), ∃ l187 : List (List PV), IdxN l7 v169.2.1 [i180, i181, i182, i183, l184, s185, l186, l187]
  (∃ l188 : List (List PV), CallF Tryz.prog 62 [(.agg [i180, i181, i182, i183, l184, s185, l186, l187]), (.sl (l9 ++ ([[s6]] : List (List PV)))), (.own 0 9 1 v169.1)] [[.tip]] (.own 1 9 1 l188) [[], [.tip]]
  ((@Eq PV l9 l9 ∧ @Eq PV (.ptr 1 0) (.ptr 1 0) ∧ True) ∧ @Eq Heap [[], [i1, i2, i3, i4, l5, s6, l7, l8]] [[], [i1, i2, i3, i4, l5, s6, l7, l8]] ∧ ∃ k189, k189 < n168 ∧ I167 k189 (l188, (IntKind.wrap .i64 (v169.2.1 + 1)), ()))))))
  (∃ i190 : Int, ∃ i191 : Int, ∃ i192 : Int, ∃ i193 : Int, ∃ l194 : List (List PV), ∃ s195 : ByteArray, ∃ l196 : List (List PV), ∃ l197 : List (List PV), IdxN l7 v169.2.1 [i190, i191, i192, i193, l194, s195, l196, l197]
  (∃ l198 : List (List PV), CallF Tryz.prog 62 [(.agg [i190, i191, i192, i193, l194, s195, l196, l197]), l9, (.own 0 9 1 v169.1)] [[.tip]] (.own 1 9 1 l198) [[], [.tip]]
  ((@Eq PV l9 l9 ∧ @Eq PV (.ptr 1 0) (.ptr 1 0) ∧ True) ∧ @Eq Heap [[], [i1, i2, i3, i4, l5, s6, l7, l8]] [[], [i1, i2, i3, i4, l5, s6, l7, l8]] ∧ ∃ k199, k199 < n168 ∧ I167 k199 (l198, (IntKind.wrap .i64 (v169.2.1 + 1)), ()))))))
  (∃ i200 : Int, ∃ i201 : Int, ∃ i202 : Int, ∃ i203 : Int, ∃ l204 : List (List PV), ∃ s205 : ByteArray, ∃ l206 : List (List PV), ∃ l207 : List (List PV), IdxN l7 v169.2.1 [i200, i201, i202, i203, l204, s205, l206, l207]
  (∃ l208 : List (List PV), CallF Tryz.prog 62 [(.agg [i200, i201, i202, i203, l204, s205, l206, l207]), l9, (.own 0 9 1 v169.1)] [[.tip]] (.own 1 9 1 l208) [[], [.tip]]
  ((@Eq PV l9 l9 ∧ @Eq PV (.ptr 1 0) (.ptr 1 0) ∧ True) ∧ @Eq Heap [[], [i1, i2, i3, i4, l5, s6, l7, l8]] [[], [i1, i2, i3, i4, l5, s6, l7, l8]] ∧ ∃ k209, k209 < n168 ∧ I167 k209 (l208, (IntKind.wrap .i64 (v169.2.1 + 1)), ())))))
  (∃ I210 : Nat → ((List (List PV)) × (Int) × Unit) → Prop, (∃ n, I210 n (v169.1, 0, ())) ∧ ∀ (n211 : Nat) (v212 : (List (List PV)) × (Int) × Unit), I210 n211 v212 →
  (br ((decide ((v212.2.1 : Int) < (List.length l8 : Int))))
  (AppN [] l9 1 16 PV.one
  (∃ i213 : Int, ∃ i214 : Int, ∃ i215 : Int, ∃ s216 : ByteArray, ∃ i217 : Int, ∃ l218 : List (List PV), ∃ i219 : Int, ∃ i220 : Int, ∃ i221 : Int, ∃ i222 : Int, ∃ l223 : List (List PV), ∃ s224 : ByteArray, ∃ l225 : List (List PV), ∃ l226 : List (List PV), IdxN l8 v212.2.1 [i213, i214, i215, s216, i217, l218, i219, i220, i221, i222, l223, s224, l225, l226]
  (∃ l227 : List (List PV), CallN Tryz.prog 31 [(.agg [i213, i214, i215, s216, i217, l218])] [[], [i1, i2, i3, i4, l5, s6, l7, l8], [], [.tip], [], [.tip]] l227
  (AppN l9 l227 1 16 PV.one
  (∃ i228 : Int, ∃ i229 : Int, ∃ i230 : Int, ∃ s231 : ByteArray, ∃ i232 : Int, ∃ l233 : List (List PV), ∃ i234 : Int, ∃ i235 : Int, ∃ i236 : Int, ∃ i237 : Int, ∃ l238 : List (List PV), ∃ s239 : ByteArray, ∃ l240 : List (List PV), ∃ l241 : List (List PV), IdxN l8 v212.2.1 [i228, i229, i230, s231, i232, l233, i234, i235, i236, i237, l238, s239, l240, l241]
  (∃ l242 : List (List PV), CallF Tryz.prog 62 [(.agg [i234, i235, i236, i237, l238, s239, l240, l241]), (.sl (l9 ++ l227)), (.own 0 9 1 v212.1)] [[.tip]] (.own 1 9 1 l242) [[], [.tip]]
  ((@Eq PV l9 l9 ∧ @Eq PV (.ptr 1 0) (.ptr 1 0) ∧ True) ∧ @Eq Heap [[], [i1, i2, i3, i4, l5, s6, l7, l8], []] [[], [i1, i2, i3, i4, l5, s6, l7, l8], []] ∧ ∃ k243, k243 < n211 ∧ I210 k243 (l242, (IntKind.wrap .i64 (v212.2.1 + 1)), ()))))))))
  (Q (.own 1 9 1 v212.1) [[], [.tip]])))))))
  (∃ I244 : Nat → ((List (List PV)) × (Int) × Unit) → Prop, (∃ n, I244 n (l10, 0, ())) ∧ ∀ (n245 : Nat) (v246 : (List (List PV)) × (Int) × Unit), I244 n245 v246 →
  (br ((decide ((v246.2.1 : Int) < (List.length l7 : Int))))
  (br (((v246.2.1 : Int) == 1))
  (br (((i1 : Int) == 6))
  (AppN [] l9 1 16 PV.one
  (AppN l9 [[s6]] 1 16 PV.one
  (∃ i247 : Int, ∃ i248 : Int, ∃ i249 : Int, ∃ i250 : Int, ∃ l251 : List (List PV), ∃ s252 : ByteArray, ∃ l253 : List (List PV), ∃ l254 : List (List PV), IdxN l7 v246.2.1 [i247, i248, i249, i250, l251, s252, l253, l254]
  (∃ l255 : List (List PV), CallF Tryz.prog 62 [(.agg [i247, i248, i249, i250, l251, s252, l253, l254]), (.sl (l9 ++ ([[s6]] : List (List PV)))), (.own 0 9 1 v246.1)] [[.tip]] (.own 1 9 1 l255) [[], [.tip]]
  ((@Eq PV l9 l9 ∧ @Eq PV (.ptr 1 0) (.ptr 1 0) ∧ True) ∧ @Eq Heap [[], [i1, i2, i3, i4, l5, s6, l7, l8]] [[], [i1, i2, i3, i4, l5, s6, l7, l8]] ∧ ∃ k256, k256 < n245 ∧ I244 k256 (l255, (IntKind.wrap .i64 (v246.2.1 + 1)), ()))))))
  (br (((i1 : Int) == 10))
  (AppN [] l9 1 16 PV.one
  (AppN l9 [[s6]] 1 16 PV.one
  (∃ i257 : Int, ∃ i258 : Int, ∃ i259 : Int, ∃ i260 : Int, ∃ l261 : List (List PV), ∃ s262 : ByteArray, ∃ l263 : List (List PV), ∃ l264 : List (List PV), IdxN l7 v246.2.1 [i257, i258, i259, i260, l261, s262, l263, l264]
  (∃ l265 : List (List PV), CallF Tryz.prog 62 [(.agg [i257, i258, i259, i260, l261, s262, l263, l264]), (.sl (l9 ++ ([[s6]] : List (List PV)))), (.own 0 9 1 v246.1)] [[.tip]] (.own 1 9 1 l265) [[], [.tip]]
  ((@Eq PV l9 l9 ∧ @Eq PV (.ptr 1 0) (.ptr 1 0) ∧ True) ∧ @Eq Heap [[], [i1, i2, i3, i4, l5, s6, l7, l8]] [[], [i1, i2, i3, i4, l5, s6, l7, l8]] ∧ ∃ k266, k266 < n245 ∧ I244 k266 (l265, (IntKind.wrap .i64 (v246.2.1 + 1)), ()))))))
  (∃ i267 : Int, ∃ i268 : Int, ∃ i269 : Int, ∃ i270 : Int, ∃ l271 : List (List PV), ∃ s272 : ByteArray, ∃ l273 : List (List PV), ∃ l274 : List (List PV), IdxN l7 v246.2.1 [i267, i268, i269, i270, l271, s272, l273, l274]
  (∃ l275 : List (List PV), CallF Tryz.prog 62 [(.agg [i267, i268, i269, i270, l271, s272, l273, l274]), l9, (.own 0 9 1 v246.1)] [[.tip]] (.own 1 9 1 l275) [[], [.tip]]
  ((@Eq PV l9 l9 ∧ @Eq PV (.ptr 1 0) (.ptr 1 0) ∧ True) ∧ @Eq Heap [[], [i1, i2, i3, i4, l5, s6, l7, l8]] [[], [i1, i2, i3, i4, l5, s6, l7, l8]] ∧ ∃ k276, k276 < n245 ∧ I244 k276 (l275, (IntKind.wrap .i64 (v246.2.1 + 1)), ()))))))
  (∃ i277 : Int, ∃ i278 : Int, ∃ i279 : Int, ∃ i280 : Int, ∃ l281 : List (List PV), ∃ s282 : ByteArray, ∃ l283 : List (List PV), ∃ l284 : List (List PV), IdxN l7 v246.2.1 [i277, i278, i279, i280, l281, s282, l283, l284]
  (∃ l285 : List (List PV), CallF Tryz.prog 62 [(.agg [i277, i278, i279, i280, l281, s282, l283, l284]), l9, (.own 0 9 1 v246.1)] [[.tip]] (.own 1 9 1 l285) [[], [.tip]]
  ((@Eq PV l9 l9 ∧ @Eq PV (.ptr 1 0) (.ptr 1 0) ∧ True) ∧ @Eq Heap [[], [i1, i2, i3, i4, l5, s6, l7, l8]] [[], [i1, i2, i3, i4, l5, s6, l7, l8]] ∧ ∃ k286, k286 < n245 ∧ I244 k286 (l285, (IntKind.wrap .i64 (v246.2.1 + 1)), ())))))
  (∃ I287 : Nat → ((List (List PV)) × (Int) × Unit) → Prop, (∃ n, I287 n (v246.1, 0, ())) ∧ ∀ (n288 : Nat) (v289 : (List (List PV)) × (Int) × Unit), I287 n288 v289 →
  (br ((decide ((v289.2.1 : Int) < (List.length l8 : Int))))
  (AppN [] l9 1 16 PV.one
  (∃ i290 : Int, ∃ i291 : Int, ∃ i292 : Int, ∃ s293 : ByteArray, ∃ i294 : Int, ∃ l295 : List (List PV), ∃ i296 : Int, ∃ i297 : Int, ∃ i298 : Int, ∃ i299 : Int, ∃ l300 : List (List PV), ∃ s301 : ByteArray, ∃ l302 : List (List PV), ∃ l303 : List (List PV), IdxN l8 v289.2.1 [i290, i291, i292, s293, i294, l295, i296, i297, i298, i299, l300, s301, l302, l303]
  (∃ l304 : List (List PV), CallN Tryz.prog 31 [(.agg [i290, i291, i292, s293, i294, l295])] [[], [i1, i2, i3, i4, l5, s6, l7, l8], [], [.tip], [], [.tip]] l304
  (AppN l9 l304 1 16 PV.one
  (∃ i305 : Int, ∃ i306 : Int, ∃ i307 : Int, ∃ s308 : ByteArray, ∃ i309 : Int, ∃ l310 : List (List PV), ∃ i311 : Int, ∃ i312 : Int, ∃ i313 : Int, ∃ i314 : Int, ∃ l315 : List (List PV), ∃ s316 : ByteArray, ∃ l317 : List (List PV), ∃ l318 : List (List PV), IdxN l8 v289.2.1 [i305, i306, i307, s308, i309, l310, i311, i312, i313, i314, l315, s316, l317, l318]
  (∃ l319 : List (List PV), CallF Tryz.prog 62 [(.agg [i311, i312, i313, i314, l315, s316, l317, l318]), (.sl (l9 ++ l304)), (.own 0 9 1 v289.1)] [[.tip]] (.own 1 9 1 l319) [[], [.tip]]
  ((@Eq PV l9 l9 ∧ @Eq PV (.ptr 1 0) (.ptr 1 0) ∧ True) ∧ @Eq Heap [[], [i1, i2, i3, i4, l5, s6, l7, l8], []] [[], [i1, i2, i3, i4, l5, s6, l7, l8], []] ∧ ∃ k320, k320 < n288 ∧ I287 k320 (l319, (IntKind.wrap .i64 (v289.2.1 + 1)), ()))))))))
  (Q (.own 1 9 1 v289.1) [[], [.tip]])))))
theorem a62 (i1 i2 i3 i4 : Int) (l5 : List (List PV)) (s6 : ByteArray) (l7 l8 l9 l10 : List (List PV)) (Q : PV → Heap → Prop) (h : p62 i1 i2 i3 i4 l5 s6 l7 l8 l9 l10 Q) : ACalls Tryz.prog 62 [(.agg [i1, i2, i3, i4, l5, s6, l7, l8]), l9, (.own 0 9 1 l10)] [[.tip]] Q := by
  have hb : Option.some (bodyOf Tryz.f62) = Tryz.f62.body := by kernel_rfl
  exact acalls_canon (res := [.cell (.own 1 9 1)]) (post := [.dead, .tip]) (acalls_eq (S := S) (L := loops62) mixed tok Tryz.func62 hb.symm (by kernel_rfl) h)
end Go.Proofs.YtcmnjodjebcapaaGreat.Deep

namespace Go.Proofs.YtcmnjodjebcapaaGreat.Deep
open Go.RowKit
set_option linter.unusedVariables false
set_option linter.unusedSimpArgs false
theorem nmP_app2 (a b : List ByteArray) : nmP a ++ nmP b = nmP (a ++ b) := by simp [nmP]
theorem one_names (l : List ByteArray) : ∀ y ∈ nmP l, y.length = 1 ∧ ∀ p ∈ y, PV.one p = true := by
  intro y hy
  obtain ⟨s, _, rfl⟩ := List.mem_map.1 hy
  exact oneL_of rfl rfl _ (List.mem_singleton.2 rfl)
theorem rhas_p (l : List ByteArray) (s : ByteArray) (hl : l.length ≤ 1099511627776) : PCalls Tryz.prog 30 [.sl (nmP l), .con (.string s)] (fun r => r = .con (.bool (decide (s ∈ l)))) := by
  refine a30 _ _ _ ?_
  unfold p30
  rw [nmP_len]
  refine ⟨fun c v => ∃ j : Nat, j ≤ l.length ∧ c = l.length - j ∧ v.1 = (j : Int) ∧ s ∉ l.take j, ⟨_, 0, Nat.zero_le _, rfl, rfl, by simp⟩, ?_⟩
  rintro c ⟨i, u⟩ ⟨j, hj, rfl, hi, hn⟩
  dsimp only at hi hn ⊢
  subst hi
  refine br_i (fun hlt => ?_) (fun hge => ?_)
  · have hlt : j < l.length := by simpa using hlt
    refine ⟨_, ⟨by omega, by rw [Int.toNat_natCast]; exact nmP_get l j hlt, ?_⟩⟩
    rw [beq_str]
    refine br_i (fun h => ⟨?_, rfl⟩) (fun h => ?_)
    · have h : l[j] = s := by simpa using h
      have : s ∈ l := h ▸ List.getElem_mem hlt
      simp [this]
    · have h : ¬ l[j] = s := by simpa using h
      refine ⟨⟨rfl, rfl, trivial⟩, rfl, l.length - (j + 1), by omega, j + 1, by omega, rfl, by rw [wrap_id (by omega) (by omega)]; simp, ?_⟩
      rw [List.take_succ_eq_append_getElem hlt, List.mem_append, List.mem_singleton]
      exact fun q => q.elim hn (fun e => h e.symm)
  have hge : ¬ j < l.length := by simpa using hge
  obtain rfl : j = l.length := by omega
  rw [List.take_length] at hn
  exact ⟨by simp [hn], rfl⟩
theorem rvars_p (t : Pt) : smallPt t → uP t ≤ 1000000 → PCalls Tryz.prog 31 [.agg (ptP t)] (fun r => r = .sl (nmP (varsP t))) := by
  induction t using Pt.indM with
  | h k li co n m ks ih =>
  intro hs hu
  unfold smallPt at hs
  unfold uP at hu
  have hsz := hs.2.1
  refine pcalls_weak (a31 _ _ _ _ _ _ _ ?_)
  unfold p31 varsP
  rw [ptPs_len]
  refine br_i (fun h => ?_) (fun h => ?_)
  · have h : k = 1 := by simpa using h
    rw [if_pos h]
    refine ⟨by simp only [List.length_cons, List.length_nil]; omega, one_name n, ?_⟩
    refine ⟨fun c v => ∃ j : Nat, j ≤ ks.length ∧ c = ks.length - j ∧ v.1 = nmP ([n] ++ varsPs (ks.take j)) ∧ v.2.1 = (j : Int), ⟨_, 0, Nat.zero_le _, rfl, by simp [varsPs, nmP], rfl⟩, ?_⟩
    rintro c ⟨x, i, u⟩ ⟨j, hj, rfl, hx, hi⟩
    dsimp only at hi hx ⊢
    subst hi hx
    refine br_i (fun hlt => ?_) (fun hge => ?_)
    · have hlt : j < ks.length := by simpa using hlt
      have hu2 := uPs_take ks j hlt
      have hv := varsPs_len (ks.take j)
      have hv2 := varsP_len ks[j]
      have hc := ih ks[j] (List.getElem_mem hlt) (smallPts_mem hs.2.2 _ (List.getElem_mem hlt)) (by omega)
      have hidx : (ptPs ks)[j]? = some (ptP ks[j]) := ptPs_get ks j hlt
      have hsn := varsPs_take ks j hlt
      obtain ⟨x0, x1, x2, x3, x4, x5, ex⟩ := cells_Pat ks[j]
      rw [ex] at hidx hc
      refine ⟨_, _, _, _, _, _, ⟨by omega, by rw [Int.toNat_natCast]; exact hidx, ?_⟩⟩
      refine ⟨_, call_p (enters_of Tryz.func31 (by kernel_rfl) rfl) hc rfl ?_⟩
      refine ⟨by rw [nmP_len, nmP_len, List.length_append]; simp only [List.length_cons, List.length_nil]; omega, one_names _, ?_⟩
      exact ⟨⟨rfl, trivial⟩, rfl, ks.length - (j + 1), by omega, j + 1, by omega, rfl, by rw [hsn, nmP_app2, List.append_assoc], by rw [wrap_id (by omega) (by omega)]; simp⟩
    have hge : ¬ j < ks.length := by simpa using hge
    obtain rfl : j = ks.length := by omega
    rw [List.take_length]
    exact ⟨rfl, rfl⟩
  have h : ¬ k = 1 := by simpa using h
  rw [if_neg h]
  refine ⟨fun c v => ∃ j : Nat, j ≤ ks.length ∧ c = ks.length - j ∧ v.1 = nmP ([] ++ varsPs (ks.take j)) ∧ v.2.1 = (j : Int), ⟨_, 0, Nat.zero_le _, rfl, by simp [varsPs, nmP], rfl⟩, ?_⟩
  rintro c ⟨x, i, u⟩ ⟨j, hj, rfl, hx, hi⟩
  dsimp only at hi hx ⊢
  subst hi hx
  refine br_i (fun hlt => ?_) (fun hge => ?_)
  · have hlt : j < ks.length := by simpa using hlt
    have hu2 := uPs_take ks j hlt
    have hv := varsPs_len (ks.take j)
    have hv2 := varsP_len ks[j]
    have hc := ih ks[j] (List.getElem_mem hlt) (smallPts_mem hs.2.2 _ (List.getElem_mem hlt)) (by omega)
    have hidx : (ptPs ks)[j]? = some (ptP ks[j]) := ptPs_get ks j hlt
    have hsn := varsPs_take ks j hlt
    obtain ⟨x0, x1, x2, x3, x4, x5, ex⟩ := cells_Pat ks[j]
    rw [ex] at hidx hc
    refine ⟨_, _, _, _, _, _, ⟨by omega, by rw [Int.toNat_natCast]; exact hidx, ?_⟩⟩
    refine ⟨_, call_p (enters_of Tryz.func31 (by kernel_rfl) rfl) hc rfl ?_⟩
    refine ⟨by rw [nmP_len, nmP_len, List.length_append]; simp only [List.length_cons, List.length_nil]; omega, one_names _, ?_⟩
    exact ⟨⟨rfl, trivial⟩, rfl, ks.length - (j + 1), by omega, j + 1, by omega, rfl, by rw [hsn, nmP_app2, List.append_assoc], by rw [wrap_id (by omega) (by omega)]; simp⟩
  have hge : ¬ j < ks.length := by simpa using hge
  obtain rfl : j = ks.length := by omega
  rw [List.take_length]
  exact ⟨rfl, rfl⟩
theorem rfree_c (e : Ex) : smallEx e → wfEx e → uE e ≤ 1000000 → ∀ kn out : List ByteArray, kn.length + uE e ≤ 1099511627776 → out.length + uE e ≤ 1099511627776 → ACalls Tryz.prog 62 [.agg (exP e), .sl (nmP kn), .own 0 9 1 (nmP out)] [[.tip]] (fun r h => r = .own 1 9 1 (nmP (freeR e kn out)) ∧ h = [[], [.tip]]) := by
  induction e using Ex.indM with
  | h k li co m b n ks ps bs ihk ihb =>
  intro hs hw hub kn out hkn hout
  unfold smallEx at hs
  unfold wfEx at hw
  obtain ⟨hsb, hsn0, hsk, hsp, hsbs, hsks, hsps, hsbb⟩ := hs
  obtain ⟨hpl, hwk, hwb⟩ := hw
  unfold uE at hub hkn hout
  refine a62 _ _ _ _ _ _ _ _ _ _ _ ?_
  unfold p62 freeR
  rw [exPs_len, arPs_len bs ps hpl]
  obtain ⟨O, hO⟩ : ∃ O, (if k = 2 ∧ n ∉ kn ∧ n ∉ out then out ++ [n] else out) = O := ⟨_, rfl⟩
  have hOl : O.length ≤ out.length + 1 := by rw [← hO]; split <;> simp
  rw [hO]
  refine br_i (fun h => ?_) (fun h => ?_)
  · have h : k = 2 := by simpa using h
    refine ⟨_, call_p (enters_of Tryz.func30 (by kernel_rfl) rfl) (rhas_p kn n (by omega)) rfl ?_⟩
    refine br_i (fun h1 => ?_) (fun h1 => ?_)
    · have h1 : n ∉ kn := by simpa using h1
      refine ⟨_, call_p (enters_of Tryz.func30 (by kernel_rfl) rfl) (rhas_p out n (by omega)) rfl ?_⟩
      refine br_i (fun h2 => ?_) (fun h2 => ?_)
      · have h2 : n ∉ out := by simpa using h2
        obtain rfl : O = out ++ [n] := by rw [← hO, if_pos ⟨h, h1, h2⟩]
        refine ⟨by rw [nmP_len]; simp only [List.length_cons, List.length_nil]; omega, one_name n, ?_⟩
        refine ⟨fun c v => ∃ j : Nat, j ≤ ks.length ∧ c = ks.length - j ∧ v.1 = nmP (kdR (ks.take j) k n 0 kn (out ++ [n])) ∧ v.2.1 = (j : Int), ⟨_, 0, Nat.zero_le _, rfl, by rw [nmP_app]; simp [kdR], rfl⟩, ?_⟩
        rintro c ⟨x, i, u⟩ ⟨j, hj, rfl, hx, hi⟩
        dsimp only at hi hx ⊢
        subst hi hx
        refine br_i (fun hlt => ?_) (fun hge => ?_)
        · have hlt : j < ks.length := by simpa using hlt
          have hu := uEs_take ks j hlt
          have hlen := kdR_len (ks.take j) k n 0 kn (out ++ [n])
          have hsn := kdR_snoc k n kn ks 0 (out ++ [n]) j hlt
          rw [Nat.zero_add] at hsn
          have H : ∀ kn' : List ByteArray, kn'.length ≤ kn.length + 1 → _ := fun kn' hk => ihk ks[j] (List.getElem_mem hlt) (smallExs_mem hsks _ (List.getElem_mem hlt)) (wfExs_mem hwk _ (List.getElem_mem hlt)) (by omega) kn' (kdR (ks.take j) k n 0 kn (out ++ [n])) (by omega) (by omega)
          have hidx : (exPs ks)[j]? = some (exP ks[j]) := exPs_get ks j hlt
          obtain ⟨x0, x1, x2, x3, x4, x5, x6, x7, ex⟩ := cells_Expr ks[j]
          rw [ex] at hidx
          refine br_i (fun q1 => ?_) (fun q1 => ?_)
          · have q1 : j = 1 := by have : (j : Int) = 1 := by simpa using q1
                                  omega
            refine br_i (fun q2 => ?_) (fun q2 => ?_)
            · have q2 : k = 6 := by simpa using q2
              have hg : giv k n j = [n] := by unfold giv; rw [if_pos ⟨by omega, .inl q2⟩]
              rw [hg] at hsn
              have hc := H (kn ++ [n]) (by simp)
              rw [← hsn, ← nmP_app] at hc
              rw [ex] at hc
              refine ⟨by rw [nmP_len]; simp only [List.length_nil]; omega, one_names kn, ?_⟩
              refine ⟨by rw [nmP_len]; simp only [List.length_cons, List.length_nil]; omega, one_name n, ?_⟩
              refine ⟨_, _, _, _, _, _, _, _, ⟨by omega, by rw [Int.toNat_natCast]; exact hidx, ?_⟩⟩
              refine ⟨_, ⟨enters_of Tryz.func62 (by kernel_rfl) rfl, hc, ?_⟩⟩
              exact ⟨⟨rfl, rfl, trivial⟩, rfl, ks.length - (j + 1), by omega, j + 1, by omega, rfl, rfl, by rw [wrap_id (by omega) (by omega)]; simp⟩
            have q2 : ¬ k = 6 := by simpa using q2
            refine br_i (fun q3 => ?_) (fun q3 => ?_)
            · have q3 : k = 10 := by simpa using q3
              have hg : giv k n j = [n] := by unfold giv; rw [if_pos ⟨by omega, .inr q3⟩]
              rw [hg] at hsn
              have hc := H (kn ++ [n]) (by simp)
              rw [← hsn, ← nmP_app] at hc
              rw [ex] at hc
              refine ⟨by rw [nmP_len]; simp only [List.length_nil]; omega, one_names kn, ?_⟩
              refine ⟨by rw [nmP_len]; simp only [List.length_cons, List.length_nil]; omega, one_name n, ?_⟩
              refine ⟨_, _, _, _, _, _, _, _, ⟨by omega, by rw [Int.toNat_natCast]; exact hidx, ?_⟩⟩
              refine ⟨_, ⟨enters_of Tryz.func62 (by kernel_rfl) rfl, hc, ?_⟩⟩
              exact ⟨⟨rfl, rfl, trivial⟩, rfl, ks.length - (j + 1), by omega, j + 1, by omega, rfl, rfl, by rw [wrap_id (by omega) (by omega)]; simp⟩
            have q3 : ¬ k = 10 := by simpa using q3
            have hg : giv k n j = [] := by unfold giv; rw [if_neg (fun q => q.2.elim q2 q3)]
            rw [hg, List.append_nil] at hsn
            have hc := H kn (by omega)
            rw [← hsn] at hc
            rw [ex] at hc
            refine ⟨_, _, _, _, _, _, _, _, ⟨by omega, by rw [Int.toNat_natCast]; exact hidx, ?_⟩⟩
            refine ⟨_, ⟨enters_of Tryz.func62 (by kernel_rfl) rfl, hc, ?_⟩⟩
            exact ⟨⟨rfl, rfl, trivial⟩, rfl, ks.length - (j + 1), by omega, j + 1, by omega, rfl, rfl, by rw [wrap_id (by omega) (by omega)]; simp⟩
          have q1 : ¬ j = 1 := by have : ¬ (j : Int) = 1 := by simpa using q1
                                  omega
          have hg : giv k n j = [] := by unfold giv; rw [if_neg (fun q => q1 q.1)]
          rw [hg, List.append_nil] at hsn
          have hc := H kn (by omega)
          rw [← hsn] at hc
          rw [ex] at hc
          refine ⟨_, _, _, _, _, _, _, _, ⟨by omega, by rw [Int.toNat_natCast]; exact hidx, ?_⟩⟩
          refine ⟨_, ⟨enters_of Tryz.func62 (by kernel_rfl) rfl, hc, ?_⟩⟩
          exact ⟨⟨rfl, rfl, trivial⟩, rfl, ks.length - (j + 1), by omega, j + 1, by omega, rfl, rfl, by rw [wrap_id (by omega) (by omega)]; simp⟩
        have hge : ¬ j < ks.length := by simpa using hge
        obtain rfl : j = ks.length := by omega
        rw [List.take_length]
        refine ⟨fun c v => ∃ j : Nat, j ≤ bs.length ∧ c = bs.length - j ∧ v.1 = nmP (arR (bs.take j) (ps.take j) kn (kdR ks k n 0 kn (out ++ [n]))) ∧ v.2.1 = (j : Int), ⟨_, 0, Nat.zero_le _, rfl, by simp [arR], rfl⟩, ?_⟩
        rintro c2 ⟨x, i, u2⟩ ⟨j, hj2, rfl, hx, hi⟩
        dsimp only at hi hx ⊢
        subst hi hx
        refine br_i (fun hlt => ?_) (fun hge2 => ?_)
        · have hlt : j < bs.length := by simpa using hlt
          have hltp : j < ps.length := by omega
          have hu := uAr_take bs ps j hlt hltp
          have hlen := kdR_len ks k n 0 kn (out ++ [n])
          have hlen2 := arR_len (bs.take j) (ps.take j) kn (kdR ks k n 0 kn (out ++ [n]))
          have hvl := varsP_len ps[j]
          have hsn := arR_snoc kn bs ps (kdR ks k n 0 kn (out ++ [n])) j hlt hltp
          have hv := rvars_p ps[j] (smallPts_mem hsps _ (List.getElem_mem hltp)) (by omega)
          have hc := ihb bs[j] (List.getElem_mem hlt) (smallExs_mem hsbb _ (List.getElem_mem hlt)) (wfExs_mem hwb _ (List.getElem_mem hlt)) (by omega) (kn ++ varsP ps[j]) (arR (bs.take j) (ps.take j) kn (kdR ks k n 0 kn (out ++ [n]))) (by rw [List.length_append]; omega) (by omega)
          rw [← hsn, ← nmP_app2] at hc
          have hidx : (arPs bs ps)[j]? = some (ptP ps[j] ++ exP bs[j]) := arPs_get bs ps j hlt hltp
          obtain ⟨V, hV⟩ : ∃ V, varsP ps[j] = V := ⟨_, rfl⟩
          rw [hV] at hv hc hvl hu
          generalize ps[j] = P at hv hidx
          generalize bs[j] = B at hc hidx
          obtain ⟨pk, pl, pc, pn, pm, pks⟩ := P
          obtain ⟨ek, el, ec, em, eb, en, eks, eps, ebs⟩ := B
          refine ⟨by rw [nmP_len]; simp only [List.length_nil]; omega, one_names kn, ?_⟩
          refine ⟨_, _, _, _, _, _, _, _, _, _, _, _, _, _, ⟨by omega, by rw [Int.toNat_natCast]; exact hidx, ?_⟩⟩
          refine ⟨_, call_p (enters_of Tryz.func31 (by kernel_rfl) rfl) hv rfl ?_⟩
          refine ⟨by rw [nmP_len, nmP_len]; omega, one_names V, ?_⟩
          refine ⟨_, _, _, _, _, _, _, _, _, _, _, _, _, _, ⟨by omega, by rw [Int.toNat_natCast]; exact hidx, ?_⟩⟩
          refine ⟨_, ⟨enters_of Tryz.func62 (by kernel_rfl) rfl, hc, ?_⟩⟩
          exact ⟨⟨rfl, rfl, trivial⟩, rfl, bs.length - (j + 1), by omega, j + 1, by omega, rfl, rfl, by rw [wrap_id (by omega) (by omega)]; simp⟩
        have hge2 : ¬ j < bs.length := by simpa using hge2
        obtain rfl : j = bs.length := by omega
        rw [List.take_length, ← hpl, List.take_length]
        exact ⟨rfl, rfl⟩
      have h2 : n ∈ out := by simpa using h2
      obtain rfl : O = out := by rw [← hO, if_neg (fun q => q.2.2 h2)]
      refine ⟨fun c v => ∃ j : Nat, j ≤ ks.length ∧ c = ks.length - j ∧ v.1 = nmP (kdR (ks.take j) k n 0 kn O) ∧ v.2.1 = (j : Int), ⟨_, 0, Nat.zero_le _, rfl, by simp [kdR], rfl⟩, ?_⟩
      rintro c ⟨x, i, u⟩ ⟨j, hj, rfl, hx, hi⟩
      dsimp only at hi hx ⊢
      subst hi hx
      refine br_i (fun hlt => ?_) (fun hge => ?_)
      · have hlt : j < ks.length := by simpa using hlt
        have hu := uEs_take ks j hlt
        have hlen := kdR_len (ks.take j) k n 0 kn O
        have hsn := kdR_snoc k n kn ks 0 O j hlt
        rw [Nat.zero_add] at hsn
        have H : ∀ kn' : List ByteArray, kn'.length ≤ kn.length + 1 → _ := fun kn' hk => ihk ks[j] (List.getElem_mem hlt) (smallExs_mem hsks _ (List.getElem_mem hlt)) (wfExs_mem hwk _ (List.getElem_mem hlt)) (by omega) kn' (kdR (ks.take j) k n 0 kn O) (by omega) (by omega)
        have hidx : (exPs ks)[j]? = some (exP ks[j]) := exPs_get ks j hlt
        obtain ⟨x0, x1, x2, x3, x4, x5, x6, x7, ex⟩ := cells_Expr ks[j]
        rw [ex] at hidx
        refine br_i (fun q1 => ?_) (fun q1 => ?_)
        · have q1 : j = 1 := by have : (j : Int) = 1 := by simpa using q1
                                omega
          refine br_i (fun q2 => ?_) (fun q2 => ?_)
          · have q2 : k = 6 := by simpa using q2
            have hg : giv k n j = [n] := by unfold giv; rw [if_pos ⟨by omega, .inl q2⟩]
            rw [hg] at hsn
            have hc := H (kn ++ [n]) (by simp)
            rw [← hsn, ← nmP_app] at hc
            rw [ex] at hc
            refine ⟨by rw [nmP_len]; simp only [List.length_nil]; omega, one_names kn, ?_⟩
            refine ⟨by rw [nmP_len]; simp only [List.length_cons, List.length_nil]; omega, one_name n, ?_⟩
            refine ⟨_, _, _, _, _, _, _, _, ⟨by omega, by rw [Int.toNat_natCast]; exact hidx, ?_⟩⟩
            refine ⟨_, ⟨enters_of Tryz.func62 (by kernel_rfl) rfl, hc, ?_⟩⟩
            exact ⟨⟨rfl, rfl, trivial⟩, rfl, ks.length - (j + 1), by omega, j + 1, by omega, rfl, rfl, by rw [wrap_id (by omega) (by omega)]; simp⟩
          have q2 : ¬ k = 6 := by simpa using q2
          refine br_i (fun q3 => ?_) (fun q3 => ?_)
          · have q3 : k = 10 := by simpa using q3
            have hg : giv k n j = [n] := by unfold giv; rw [if_pos ⟨by omega, .inr q3⟩]
            rw [hg] at hsn
            have hc := H (kn ++ [n]) (by simp)
            rw [← hsn, ← nmP_app] at hc
            rw [ex] at hc
            refine ⟨by rw [nmP_len]; simp only [List.length_nil]; omega, one_names kn, ?_⟩
            refine ⟨by rw [nmP_len]; simp only [List.length_cons, List.length_nil]; omega, one_name n, ?_⟩
            refine ⟨_, _, _, _, _, _, _, _, ⟨by omega, by rw [Int.toNat_natCast]; exact hidx, ?_⟩⟩
            refine ⟨_, ⟨enters_of Tryz.func62 (by kernel_rfl) rfl, hc, ?_⟩⟩
            exact ⟨⟨rfl, rfl, trivial⟩, rfl, ks.length - (j + 1), by omega, j + 1, by omega, rfl, rfl, by rw [wrap_id (by omega) (by omega)]; simp⟩
          have q3 : ¬ k = 10 := by simpa using q3
          have hg : giv k n j = [] := by unfold giv; rw [if_neg (fun q => q.2.elim q2 q3)]
          rw [hg, List.append_nil] at hsn
          have hc := H kn (by omega)
          rw [← hsn] at hc
          rw [ex] at hc
          refine ⟨_, _, _, _, _, _, _, _, ⟨by omega, by rw [Int.toNat_natCast]; exact hidx, ?_⟩⟩
          refine ⟨_, ⟨enters_of Tryz.func62 (by kernel_rfl) rfl, hc, ?_⟩⟩
          exact ⟨⟨rfl, rfl, trivial⟩, rfl, ks.length - (j + 1), by omega, j + 1, by omega, rfl, rfl, by rw [wrap_id (by omega) (by omega)]; simp⟩
        have q1 : ¬ j = 1 := by have : ¬ (j : Int) = 1 := by simpa using q1
                                omega
        have hg : giv k n j = [] := by unfold giv; rw [if_neg (fun q => q1 q.1)]
        rw [hg, List.append_nil] at hsn
        have hc := H kn (by omega)
        rw [← hsn] at hc
        rw [ex] at hc
        refine ⟨_, _, _, _, _, _, _, _, ⟨by omega, by rw [Int.toNat_natCast]; exact hidx, ?_⟩⟩
        refine ⟨_, ⟨enters_of Tryz.func62 (by kernel_rfl) rfl, hc, ?_⟩⟩
        exact ⟨⟨rfl, rfl, trivial⟩, rfl, ks.length - (j + 1), by omega, j + 1, by omega, rfl, rfl, by rw [wrap_id (by omega) (by omega)]; simp⟩
      have hge : ¬ j < ks.length := by simpa using hge
      obtain rfl : j = ks.length := by omega
      rw [List.take_length]
      refine ⟨fun c v => ∃ j : Nat, j ≤ bs.length ∧ c = bs.length - j ∧ v.1 = nmP (arR (bs.take j) (ps.take j) kn (kdR ks k n 0 kn O)) ∧ v.2.1 = (j : Int), ⟨_, 0, Nat.zero_le _, rfl, by simp [arR], rfl⟩, ?_⟩
      rintro c2 ⟨x, i, u2⟩ ⟨j, hj2, rfl, hx, hi⟩
      dsimp only at hi hx ⊢
      subst hi hx
      refine br_i (fun hlt => ?_) (fun hge2 => ?_)
      · have hlt : j < bs.length := by simpa using hlt
        have hltp : j < ps.length := by omega
        have hu := uAr_take bs ps j hlt hltp
        have hlen := kdR_len ks k n 0 kn O
        have hlen2 := arR_len (bs.take j) (ps.take j) kn (kdR ks k n 0 kn O)
        have hvl := varsP_len ps[j]
        have hsn := arR_snoc kn bs ps (kdR ks k n 0 kn O) j hlt hltp
        have hv := rvars_p ps[j] (smallPts_mem hsps _ (List.getElem_mem hltp)) (by omega)
        have hc := ihb bs[j] (List.getElem_mem hlt) (smallExs_mem hsbb _ (List.getElem_mem hlt)) (wfExs_mem hwb _ (List.getElem_mem hlt)) (by omega) (kn ++ varsP ps[j]) (arR (bs.take j) (ps.take j) kn (kdR ks k n 0 kn O)) (by rw [List.length_append]; omega) (by omega)
        rw [← hsn, ← nmP_app2] at hc
        have hidx : (arPs bs ps)[j]? = some (ptP ps[j] ++ exP bs[j]) := arPs_get bs ps j hlt hltp
        obtain ⟨V, hV⟩ : ∃ V, varsP ps[j] = V := ⟨_, rfl⟩
        rw [hV] at hv hc hvl hu
        generalize ps[j] = P at hv hidx
        generalize bs[j] = B at hc hidx
        obtain ⟨pk, pl, pc, pn, pm, pks⟩ := P
        obtain ⟨ek, el, ec, em, eb, en, eks, eps, ebs⟩ := B
        refine ⟨by rw [nmP_len]; simp only [List.length_nil]; omega, one_names kn, ?_⟩
        refine ⟨_, _, _, _, _, _, _, _, _, _, _, _, _, _, ⟨by omega, by rw [Int.toNat_natCast]; exact hidx, ?_⟩⟩
        refine ⟨_, call_p (enters_of Tryz.func31 (by kernel_rfl) rfl) hv rfl ?_⟩
        refine ⟨by rw [nmP_len, nmP_len]; omega, one_names V, ?_⟩
        refine ⟨_, _, _, _, _, _, _, _, _, _, _, _, _, _, ⟨by omega, by rw [Int.toNat_natCast]; exact hidx, ?_⟩⟩
        refine ⟨_, ⟨enters_of Tryz.func62 (by kernel_rfl) rfl, hc, ?_⟩⟩
        exact ⟨⟨rfl, rfl, trivial⟩, rfl, bs.length - (j + 1), by omega, j + 1, by omega, rfl, rfl, by rw [wrap_id (by omega) (by omega)]; simp⟩
      have hge2 : ¬ j < bs.length := by simpa using hge2
      obtain rfl : j = bs.length := by omega
      rw [List.take_length, ← hpl, List.take_length]
      exact ⟨rfl, rfl⟩
    have h1 : n ∈ kn := by simpa using h1
    obtain rfl : O = out := by rw [← hO, if_neg (fun q => q.2.1 h1)]
    refine ⟨fun c v => ∃ j : Nat, j ≤ ks.length ∧ c = ks.length - j ∧ v.1 = nmP (kdR (ks.take j) k n 0 kn O) ∧ v.2.1 = (j : Int), ⟨_, 0, Nat.zero_le _, rfl, by simp [kdR], rfl⟩, ?_⟩
    rintro c ⟨x, i, u⟩ ⟨j, hj, rfl, hx, hi⟩
    dsimp only at hi hx ⊢
    subst hi hx
    refine br_i (fun hlt => ?_) (fun hge => ?_)
    · have hlt : j < ks.length := by simpa using hlt
      have hu := uEs_take ks j hlt
      have hlen := kdR_len (ks.take j) k n 0 kn O
      have hsn := kdR_snoc k n kn ks 0 O j hlt
      rw [Nat.zero_add] at hsn
      have H : ∀ kn' : List ByteArray, kn'.length ≤ kn.length + 1 → _ := fun kn' hk => ihk ks[j] (List.getElem_mem hlt) (smallExs_mem hsks _ (List.getElem_mem hlt)) (wfExs_mem hwk _ (List.getElem_mem hlt)) (by omega) kn' (kdR (ks.take j) k n 0 kn O) (by omega) (by omega)
      have hidx : (exPs ks)[j]? = some (exP ks[j]) := exPs_get ks j hlt
      obtain ⟨x0, x1, x2, x3, x4, x5, x6, x7, ex⟩ := cells_Expr ks[j]
      rw [ex] at hidx
      refine br_i (fun q1 => ?_) (fun q1 => ?_)
      · have q1 : j = 1 := by have : (j : Int) = 1 := by simpa using q1
                              omega
        refine br_i (fun q2 => ?_) (fun q2 => ?_)
        · have q2 : k = 6 := by simpa using q2
          have hg : giv k n j = [n] := by unfold giv; rw [if_pos ⟨by omega, .inl q2⟩]
          rw [hg] at hsn
          have hc := H (kn ++ [n]) (by simp)
          rw [← hsn, ← nmP_app] at hc
          rw [ex] at hc
          refine ⟨by rw [nmP_len]; simp only [List.length_nil]; omega, one_names kn, ?_⟩
          refine ⟨by rw [nmP_len]; simp only [List.length_cons, List.length_nil]; omega, one_name n, ?_⟩
          refine ⟨_, _, _, _, _, _, _, _, ⟨by omega, by rw [Int.toNat_natCast]; exact hidx, ?_⟩⟩
          refine ⟨_, ⟨enters_of Tryz.func62 (by kernel_rfl) rfl, hc, ?_⟩⟩
          exact ⟨⟨rfl, rfl, trivial⟩, rfl, ks.length - (j + 1), by omega, j + 1, by omega, rfl, rfl, by rw [wrap_id (by omega) (by omega)]; simp⟩
        have q2 : ¬ k = 6 := by simpa using q2
        refine br_i (fun q3 => ?_) (fun q3 => ?_)
        · have q3 : k = 10 := by simpa using q3
          have hg : giv k n j = [n] := by unfold giv; rw [if_pos ⟨by omega, .inr q3⟩]
          rw [hg] at hsn
          have hc := H (kn ++ [n]) (by simp)
          rw [← hsn, ← nmP_app] at hc
          rw [ex] at hc
          refine ⟨by rw [nmP_len]; simp only [List.length_nil]; omega, one_names kn, ?_⟩
          refine ⟨by rw [nmP_len]; simp only [List.length_cons, List.length_nil]; omega, one_name n, ?_⟩
          refine ⟨_, _, _, _, _, _, _, _, ⟨by omega, by rw [Int.toNat_natCast]; exact hidx, ?_⟩⟩
          refine ⟨_, ⟨enters_of Tryz.func62 (by kernel_rfl) rfl, hc, ?_⟩⟩
          exact ⟨⟨rfl, rfl, trivial⟩, rfl, ks.length - (j + 1), by omega, j + 1, by omega, rfl, rfl, by rw [wrap_id (by omega) (by omega)]; simp⟩
        have q3 : ¬ k = 10 := by simpa using q3
        have hg : giv k n j = [] := by unfold giv; rw [if_neg (fun q => q.2.elim q2 q3)]
        rw [hg, List.append_nil] at hsn
        have hc := H kn (by omega)
        rw [← hsn] at hc
        rw [ex] at hc
        refine ⟨_, _, _, _, _, _, _, _, ⟨by omega, by rw [Int.toNat_natCast]; exact hidx, ?_⟩⟩
        refine ⟨_, ⟨enters_of Tryz.func62 (by kernel_rfl) rfl, hc, ?_⟩⟩
        exact ⟨⟨rfl, rfl, trivial⟩, rfl, ks.length - (j + 1), by omega, j + 1, by omega, rfl, rfl, by rw [wrap_id (by omega) (by omega)]; simp⟩
      have q1 : ¬ j = 1 := by have : ¬ (j : Int) = 1 := by simpa using q1
                              omega
      have hg : giv k n j = [] := by unfold giv; rw [if_neg (fun q => q1 q.1)]
      rw [hg, List.append_nil] at hsn
      have hc := H kn (by omega)
      rw [← hsn] at hc
      rw [ex] at hc
      refine ⟨_, _, _, _, _, _, _, _, ⟨by omega, by rw [Int.toNat_natCast]; exact hidx, ?_⟩⟩
      refine ⟨_, ⟨enters_of Tryz.func62 (by kernel_rfl) rfl, hc, ?_⟩⟩
      exact ⟨⟨rfl, rfl, trivial⟩, rfl, ks.length - (j + 1), by omega, j + 1, by omega, rfl, rfl, by rw [wrap_id (by omega) (by omega)]; simp⟩
    have hge : ¬ j < ks.length := by simpa using hge
    obtain rfl : j = ks.length := by omega
    rw [List.take_length]
    refine ⟨fun c v => ∃ j : Nat, j ≤ bs.length ∧ c = bs.length - j ∧ v.1 = nmP (arR (bs.take j) (ps.take j) kn (kdR ks k n 0 kn O)) ∧ v.2.1 = (j : Int), ⟨_, 0, Nat.zero_le _, rfl, by simp [arR], rfl⟩, ?_⟩
    rintro c2 ⟨x, i, u2⟩ ⟨j, hj2, rfl, hx, hi⟩
    dsimp only at hi hx ⊢
    subst hi hx
    refine br_i (fun hlt => ?_) (fun hge2 => ?_)
    · have hlt : j < bs.length := by simpa using hlt
      have hltp : j < ps.length := by omega
      have hu := uAr_take bs ps j hlt hltp
      have hlen := kdR_len ks k n 0 kn O
      have hlen2 := arR_len (bs.take j) (ps.take j) kn (kdR ks k n 0 kn O)
      have hvl := varsP_len ps[j]
      have hsn := arR_snoc kn bs ps (kdR ks k n 0 kn O) j hlt hltp
      have hv := rvars_p ps[j] (smallPts_mem hsps _ (List.getElem_mem hltp)) (by omega)
      have hc := ihb bs[j] (List.getElem_mem hlt) (smallExs_mem hsbb _ (List.getElem_mem hlt)) (wfExs_mem hwb _ (List.getElem_mem hlt)) (by omega) (kn ++ varsP ps[j]) (arR (bs.take j) (ps.take j) kn (kdR ks k n 0 kn O)) (by rw [List.length_append]; omega) (by omega)
      rw [← hsn, ← nmP_app2] at hc
      have hidx : (arPs bs ps)[j]? = some (ptP ps[j] ++ exP bs[j]) := arPs_get bs ps j hlt hltp
      obtain ⟨V, hV⟩ : ∃ V, varsP ps[j] = V := ⟨_, rfl⟩
      rw [hV] at hv hc hvl hu
      generalize ps[j] = P at hv hidx
      generalize bs[j] = B at hc hidx
      obtain ⟨pk, pl, pc, pn, pm, pks⟩ := P
      obtain ⟨ek, el, ec, em, eb, en, eks, eps, ebs⟩ := B
      refine ⟨by rw [nmP_len]; simp only [List.length_nil]; omega, one_names kn, ?_⟩
      refine ⟨_, _, _, _, _, _, _, _, _, _, _, _, _, _, ⟨by omega, by rw [Int.toNat_natCast]; exact hidx, ?_⟩⟩
      refine ⟨_, call_p (enters_of Tryz.func31 (by kernel_rfl) rfl) hv rfl ?_⟩
      refine ⟨by rw [nmP_len, nmP_len]; omega, one_names V, ?_⟩
      refine ⟨_, _, _, _, _, _, _, _, _, _, _, _, _, _, ⟨by omega, by rw [Int.toNat_natCast]; exact hidx, ?_⟩⟩
      refine ⟨_, ⟨enters_of Tryz.func62 (by kernel_rfl) rfl, hc, ?_⟩⟩
      exact ⟨⟨rfl, rfl, trivial⟩, rfl, bs.length - (j + 1), by omega, j + 1, by omega, rfl, rfl, by rw [wrap_id (by omega) (by omega)]; simp⟩
    have hge2 : ¬ j < bs.length := by simpa using hge2
    obtain rfl : j = bs.length := by omega
    rw [List.take_length, ← hpl, List.take_length]
    exact ⟨rfl, rfl⟩
  have h : ¬ k = 2 := by simpa using h
  obtain rfl : O = out := by rw [← hO, if_neg (fun q => h q.1)]
  refine ⟨fun c v => ∃ j : Nat, j ≤ ks.length ∧ c = ks.length - j ∧ v.1 = nmP (kdR (ks.take j) k n 0 kn O) ∧ v.2.1 = (j : Int), ⟨_, 0, Nat.zero_le _, rfl, by simp [kdR], rfl⟩, ?_⟩
  rintro c ⟨x, i, u⟩ ⟨j, hj, rfl, hx, hi⟩
  dsimp only at hi hx ⊢
  subst hi hx
  refine br_i (fun hlt => ?_) (fun hge => ?_)
  · have hlt : j < ks.length := by simpa using hlt
    have hu := uEs_take ks j hlt
    have hlen := kdR_len (ks.take j) k n 0 kn O
    have hsn := kdR_snoc k n kn ks 0 O j hlt
    rw [Nat.zero_add] at hsn
    have H : ∀ kn' : List ByteArray, kn'.length ≤ kn.length + 1 → _ := fun kn' hk => ihk ks[j] (List.getElem_mem hlt) (smallExs_mem hsks _ (List.getElem_mem hlt)) (wfExs_mem hwk _ (List.getElem_mem hlt)) (by omega) kn' (kdR (ks.take j) k n 0 kn O) (by omega) (by omega)
    have hidx : (exPs ks)[j]? = some (exP ks[j]) := exPs_get ks j hlt
    obtain ⟨x0, x1, x2, x3, x4, x5, x6, x7, ex⟩ := cells_Expr ks[j]
    rw [ex] at hidx
    refine br_i (fun q1 => ?_) (fun q1 => ?_)
    · have q1 : j = 1 := by have : (j : Int) = 1 := by simpa using q1
                            omega
      refine br_i (fun q2 => ?_) (fun q2 => ?_)
      · have q2 : k = 6 := by simpa using q2
        have hg : giv k n j = [n] := by unfold giv; rw [if_pos ⟨by omega, .inl q2⟩]
        rw [hg] at hsn
        have hc := H (kn ++ [n]) (by simp)
        rw [← hsn, ← nmP_app] at hc
        rw [ex] at hc
        refine ⟨by rw [nmP_len]; simp only [List.length_nil]; omega, one_names kn, ?_⟩
        refine ⟨by rw [nmP_len]; simp only [List.length_cons, List.length_nil]; omega, one_name n, ?_⟩
        refine ⟨_, _, _, _, _, _, _, _, ⟨by omega, by rw [Int.toNat_natCast]; exact hidx, ?_⟩⟩
        refine ⟨_, ⟨enters_of Tryz.func62 (by kernel_rfl) rfl, hc, ?_⟩⟩
        exact ⟨⟨rfl, rfl, trivial⟩, rfl, ks.length - (j + 1), by omega, j + 1, by omega, rfl, rfl, by rw [wrap_id (by omega) (by omega)]; simp⟩
      have q2 : ¬ k = 6 := by simpa using q2
      refine br_i (fun q3 => ?_) (fun q3 => ?_)
      · have q3 : k = 10 := by simpa using q3
        have hg : giv k n j = [n] := by unfold giv; rw [if_pos ⟨by omega, .inr q3⟩]
        rw [hg] at hsn
        have hc := H (kn ++ [n]) (by simp)
        rw [← hsn, ← nmP_app] at hc
        rw [ex] at hc
        refine ⟨by rw [nmP_len]; simp only [List.length_nil]; omega, one_names kn, ?_⟩
        refine ⟨by rw [nmP_len]; simp only [List.length_cons, List.length_nil]; omega, one_name n, ?_⟩
        refine ⟨_, _, _, _, _, _, _, _, ⟨by omega, by rw [Int.toNat_natCast]; exact hidx, ?_⟩⟩
        refine ⟨_, ⟨enters_of Tryz.func62 (by kernel_rfl) rfl, hc, ?_⟩⟩
        exact ⟨⟨rfl, rfl, trivial⟩, rfl, ks.length - (j + 1), by omega, j + 1, by omega, rfl, rfl, by rw [wrap_id (by omega) (by omega)]; simp⟩
      have q3 : ¬ k = 10 := by simpa using q3
      have hg : giv k n j = [] := by unfold giv; rw [if_neg (fun q => q.2.elim q2 q3)]
      rw [hg, List.append_nil] at hsn
      have hc := H kn (by omega)
      rw [← hsn] at hc
      rw [ex] at hc
      refine ⟨_, _, _, _, _, _, _, _, ⟨by omega, by rw [Int.toNat_natCast]; exact hidx, ?_⟩⟩
      refine ⟨_, ⟨enters_of Tryz.func62 (by kernel_rfl) rfl, hc, ?_⟩⟩
      exact ⟨⟨rfl, rfl, trivial⟩, rfl, ks.length - (j + 1), by omega, j + 1, by omega, rfl, rfl, by rw [wrap_id (by omega) (by omega)]; simp⟩
    have q1 : ¬ j = 1 := by have : ¬ (j : Int) = 1 := by simpa using q1
                            omega
    have hg : giv k n j = [] := by unfold giv; rw [if_neg (fun q => q1 q.1)]
    rw [hg, List.append_nil] at hsn
    have hc := H kn (by omega)
    rw [← hsn] at hc
    rw [ex] at hc
    refine ⟨_, _, _, _, _, _, _, _, ⟨by omega, by rw [Int.toNat_natCast]; exact hidx, ?_⟩⟩
    refine ⟨_, ⟨enters_of Tryz.func62 (by kernel_rfl) rfl, hc, ?_⟩⟩
    exact ⟨⟨rfl, rfl, trivial⟩, rfl, ks.length - (j + 1), by omega, j + 1, by omega, rfl, rfl, by rw [wrap_id (by omega) (by omega)]; simp⟩
  have hge : ¬ j < ks.length := by simpa using hge
  obtain rfl : j = ks.length := by omega
  rw [List.take_length]
  refine ⟨fun c v => ∃ j : Nat, j ≤ bs.length ∧ c = bs.length - j ∧ v.1 = nmP (arR (bs.take j) (ps.take j) kn (kdR ks k n 0 kn O)) ∧ v.2.1 = (j : Int), ⟨_, 0, Nat.zero_le _, rfl, by simp [arR], rfl⟩, ?_⟩
  rintro c2 ⟨x, i, u2⟩ ⟨j, hj2, rfl, hx, hi⟩
  dsimp only at hi hx ⊢
  subst hi hx
  refine br_i (fun hlt => ?_) (fun hge2 => ?_)
  · have hlt : j < bs.length := by simpa using hlt
    have hltp : j < ps.length := by omega
    have hu := uAr_take bs ps j hlt hltp
    have hlen := kdR_len ks k n 0 kn O
    have hlen2 := arR_len (bs.take j) (ps.take j) kn (kdR ks k n 0 kn O)
    have hvl := varsP_len ps[j]
    have hsn := arR_snoc kn bs ps (kdR ks k n 0 kn O) j hlt hltp
    have hv := rvars_p ps[j] (smallPts_mem hsps _ (List.getElem_mem hltp)) (by omega)
    have hc := ihb bs[j] (List.getElem_mem hlt) (smallExs_mem hsbb _ (List.getElem_mem hlt)) (wfExs_mem hwb _ (List.getElem_mem hlt)) (by omega) (kn ++ varsP ps[j]) (arR (bs.take j) (ps.take j) kn (kdR ks k n 0 kn O)) (by rw [List.length_append]; omega) (by omega)
    rw [← hsn, ← nmP_app2] at hc
    have hidx : (arPs bs ps)[j]? = some (ptP ps[j] ++ exP bs[j]) := arPs_get bs ps j hlt hltp
    obtain ⟨V, hV⟩ : ∃ V, varsP ps[j] = V := ⟨_, rfl⟩
    rw [hV] at hv hc hvl hu
    generalize ps[j] = P at hv hidx
    generalize bs[j] = B at hc hidx
    obtain ⟨pk, pl, pc, pn, pm, pks⟩ := P
    obtain ⟨ek, el, ec, em, eb, en, eks, eps, ebs⟩ := B
    refine ⟨by rw [nmP_len]; simp only [List.length_nil]; omega, one_names kn, ?_⟩
    refine ⟨_, _, _, _, _, _, _, _, _, _, _, _, _, _, ⟨by omega, by rw [Int.toNat_natCast]; exact hidx, ?_⟩⟩
    refine ⟨_, call_p (enters_of Tryz.func31 (by kernel_rfl) rfl) hv rfl ?_⟩
    refine ⟨by rw [nmP_len, nmP_len]; omega, one_names V, ?_⟩
    refine ⟨_, _, _, _, _, _, _, _, _, _, _, _, _, _, ⟨by omega, by rw [Int.toNat_natCast]; exact hidx, ?_⟩⟩
    refine ⟨_, ⟨enters_of Tryz.func62 (by kernel_rfl) rfl, hc, ?_⟩⟩
    exact ⟨⟨rfl, rfl, trivial⟩, rfl, bs.length - (j + 1), by omega, j + 1, by omega, rfl, rfl, by rw [wrap_id (by omega) (by omega)]; simp⟩
  have hge2 : ¬ j < bs.length := by simpa using hge2
  obtain rfl : j = bs.length := by omega
  rw [List.take_length, ← hpl, List.take_length]
  exact ⟨rfl, rfl⟩
theorem rfree_p (e : Ex) (hs : smallEx e) (hw : wfEx e) (hu : uE e ≤ 1000000) : PCalls Tryz.prog 24 [.agg (exP e)] (fun r => r = .sl (nmP (freeR e [] []))) := by
  have hc := rfree_c e hs hw hu [] [] (by simp only [List.length_nil]; omega) (by simp only [List.length_nil]; omega)
  obtain ⟨k, li, co, m, b, n, ks, ps, bs⟩ := e
  refine pcalls_weak (a24 _ _ _ _ _ _ _ _ _ ?_)
  unfold p24
  exact ⟨_, ⟨enters_of Tryz.func62 (by kernel_rfl) rfl, hc, ⟨rfl, rfl⟩⟩⟩
end Go.Proofs.YtcmnjodjebcapaaGreat.Deep

namespace Go.Proofs.YtcmnjodjebcapaaGreat.Deep
open Go.RowKit
set_option linter.unusedVariables false
set_option linter.unusedSimpArgs false
theorem rpats_p (t : Pt) : smallPt t → PCalls Tryz.prog 60 [.agg (ptP t)] (fun r => r = .con (.int .i64 (W (cntP t)))) := by
  induction t using Pt.ind with
  | h k li co n m ps ih =>
  intro hs
  unfold smallPt at hs
  refine a60 _ _ _ _ _ _ _ ?_
  unfold p60
  rw [ptPs_len]
  refine ⟨fun c v => ∃ j : Nat, j ≤ ps.length ∧ c = ps.length - j ∧ v.2.1 = (j : Int) ∧ v.1 = W (1 + sumTo (fun j => cntP (ps.getD j Pt.zero)) j), ⟨_, 0, Nat.zero_le _, rfl, rfl, by simp [sumTo, W_one]⟩, ?_⟩
  rintro c ⟨p, i, u⟩ ⟨j, hj, rfl, hi, hp⟩
  dsimp only at hi hp ⊢
  subst hi hp
  refine br_i (fun hlt => ?_) (fun hge => ?_)
  · have hlt : j < ps.length := by simpa using hlt
    have hx := ptPs_get ps j hlt
    have hc := ih j hlt (smallPts_get ps hs.2.2 j hlt)
    obtain ⟨k', li', co', n', m', ps', hp⟩ := pt_mk ps[j]
    rw [hp] at hx hc
    refine ⟨_, _, _, _, _, _, ⟨by omega, by rw [Int.toNat_natCast]; exact hx, ?_⟩⟩
    refine ⟨_, call_p (enters_of Tryz.func60 (by kernel_rfl) rfl) hc rfl ⟨⟨by trivial, trivial⟩, by trivial, ps.length - (j + 1), by omega, j + 1, by omega, rfl, ?_, ?_⟩⟩
    · rw [wrap_id (by omega) (by omega)]; simp
    · rw [W_lr, sumTo, getD_at ps Pt.zero j hlt, hp, Int.add_assoc]
  · have hge : ¬ j < ps.length := by simpa using hge
    obtain rfl : j = ps.length := by omega
    exact ⟨by rw [cntP, cntPs_sum Pt.zero], rfl⟩
theorem rnodes_p (t : Ex) : smallEx t → wfEx t → PCalls Tryz.prog 22 [.agg (exP t)] (fun r => r = .tup [.con (.int .i64 (W (cntE t))), .con (.int .i64 (W (cntQ t)))]) := by
  induction t using Ex.ind with
  | h k li co m by_ n ks ps bs ihk ihb =>
  intro hs hw
  unfold smallEx at hs
  unfold wfEx at hw
  obtain ⟨hpb, hwk, hwb⟩ := hw
  refine a22 _ _ _ _ _ _ _ _ _ ?_
  unfold p22
  rw [exPs_len, arPs_len bs ps hpb]
  refine ⟨fun c v => ∃ j : Nat, j ≤ ks.length ∧ c = ks.length - j ∧ v.2.2.1 = (j : Int) ∧ v.1 = W (1 + sumTo (fun j => cntE (ks.getD j Ex.zero)) j) ∧ v.2.1 = W (sumTo (fun j => cntQ (ks.getD j Ex.zero)) j), ⟨_, 0, Nat.zero_le _, rfl, rfl, by simp [sumTo, W_one], by simp [sumTo, W_zero]⟩, ?_⟩
  rintro c ⟨p, q, i, u⟩ ⟨j, hj, rfl, hi, hp, hq⟩
  dsimp only at hi hp hq ⊢
  subst hi hp hq
  refine br_i (fun hlt => ?_) (fun hge => ?_)
  · have hlt : j < ks.length := by simpa using hlt
    have hx := exPs_get ks j hlt
    have hc := ihk j hlt (smallExs_get ks (by simp only [hs]) j hlt) (wfExs_at ks hwk j hlt)
    obtain ⟨k', li', co', m', b', n', ks', ps', bs', he⟩ := ex_mk ks[j]
    rw [he] at hx hc
    refine ⟨_, _, _, _, _, _, _, _, ⟨by omega, by rw [Int.toNat_natCast]; exact hx, ?_⟩⟩
    refine ⟨_, _, call_p (enters_of Tryz.func22 (by kernel_rfl) rfl) hc rfl ⟨⟨by trivial, trivial⟩, by trivial, ks.length - (j + 1), by omega, j + 1, by omega, rfl, ?_, ?_, ?_⟩⟩
    · rw [wrap_id (by omega) (by omega)]; simp
    · rw [W_lr, sumTo, getD_at ks Ex.zero j hlt, he, Int.add_assoc]
    · rw [W_lr, sumTo, getD_at ks Ex.zero j hlt, he]
  · have hge : ¬ j < ks.length := by simpa using hge
    obtain rfl : j = ks.length := by omega
    rw [← cntEs_sum, ← cntQs_sum]
    refine ⟨fun c v => ∃ j : Nat, j ≤ bs.length ∧ c = bs.length - j ∧ v.2.2.1 = (j : Int) ∧ v.1 = W (1 + cntEs ks + sumTo (fun j => cntE (bs.getD j Ex.zero)) j) ∧ v.2.1 = W (cntQs ks + sumTo (fun j => cntP (ps.getD j Pt.zero) + cntQ (bs.getD j Ex.zero)) j), ⟨_, 0, Nat.zero_le _, rfl, rfl, by simp [sumTo], by simp [sumTo]⟩, ?_⟩
    rintro c ⟨p, q, i, u⟩ ⟨j, hj, rfl, hi, hp, hq⟩
    dsimp only at hi hp hq ⊢
    subst hi hp hq
    refine br_i (fun hlt => ?_) (fun hge => ?_)
    · have hlt : j < bs.length := by simpa using hlt
      have hjp : j < ps.length := by omega
      have hx := arPs_get bs ps j hlt hjp
      have hc := ihb j hlt (smallExs_get bs (by simp only [hs]) j hlt) (wfExs_at bs hwb j hlt)
      have hr := rpats_p ps[j] (smallPts_get ps (by simp only [hs]) j hjp)
      obtain ⟨k', li', co', m', b', n', ks', ps', bs', he⟩ := ex_mk bs[j]
      obtain ⟨k2, li2, co2, n2, m2, ps2, hp2⟩ := pt_mk ps[j]
      rw [he] at hx hc
      rw [hp2] at hx hr
      refine ⟨_, _, _, _, _, _, _, _, _, _, _, _, _, _, ⟨by omega, by rw [Int.toNat_natCast]; exact hx, ?_⟩⟩
      refine ⟨_, _, call_p (enters_of Tryz.func22 (by kernel_rfl) rfl) hc rfl ?_⟩
      refine ⟨_, _, _, _, _, _, _, _, _, _, _, _, _, _, ⟨by omega, by rw [Int.toNat_natCast]; exact hx, ?_⟩⟩
      refine ⟨_, call_p (enters_of Tryz.func60 (by kernel_rfl) rfl) hr rfl ⟨⟨by trivial, trivial⟩, by trivial, bs.length - (j + 1), by omega, j + 1, by omega, rfl, ?_, ?_, ?_⟩⟩
      · rw [wrap_id (by omega) (by omega)]; simp
      · rw [W_lr, sumTo, getD_at bs Ex.zero j hlt, he, Int.add_assoc]
      · rw [W_lr, W_lr, sumTo, getD_at bs Ex.zero j hlt, he, getD_at ps Pt.zero j hjp, hp2]
        congr 1; omega
    · have hge : ¬ j < bs.length := by simpa using hge
      obtain rfl : j = bs.length := by omega
      refine ⟨?_, rfl⟩
      rw [sumTo_add, ← cntEs_sum, ← cntQs_sum, ← hpb, ← cntPs_sum, cntE, cntQ, Int.add_assoc]
end Go.Proofs.YtcmnjodjebcapaaGreat.Deep
