/-
  Texts of one proof, in their order. No condition.
-/
import Derived.Test.YtbhbgaihhilfmaaQpM9
import Derived.KernelRfl
import Derived.Test.YtbhbgaihhilfmaaQpPkd
namespace Go.Proofs.Ytbhbgaihhilfmaa.Deep
open Go.RowKit Poly
set_option linter.unusedVariables false
set_option linter.unusedSimpArgs false
theorem unk_p (k : Int) : PCalls Try.prog 35 [.con (.int .i64 k)] (fun r => r = .con (.bool (decide (0 ≤ k) && decide (k < 12)))) := by
  refine pcalls_weak (a35 _ _ ?_)
  unfold p35
  refine br_i (fun h => ?_) (fun h => ?_)
  · have h : 0 ≤ k := by simpa using h
    exact ⟨by rw [decide_eq_true h, Bool.true_and]; rfl, rfl⟩
  · have h : ¬ 0 ≤ k := by simpa using h
    exact ⟨by rw [decide_eq_false h, Bool.false_and]; rfl, rfl⟩
theorem nan_p (n : Int) : PCalls Try.prog 58 [.con (.int .u8 n)] (fun r => r = .con (.bool false)) := by
  refine pcalls_weak (a58 _ _ ?_)
  unfold p58
  exact ⟨by rw [bne_self_eq_false]; rfl, rfl⟩
def cmpF (a b : Nat) : Int := if a < b then -1 else if b < a then 1 else 0
theorem cmp_p (a b : Nat) : PCalls Try.prog 52 [u8P a, u8P b] (fun r => r = .con (.int .i64 (cmpF a b))) := by
  have enN : Enters Try.prog 58 := enters_of Try.func58 (by kernel_rfl) rfl
  refine pcalls_weak (a52 _ _ _ ?_)
  unfold p52
  refine ⟨_, call_p enN (nan_p _) rfl ⟨_, call_p enN (nan_p _) rfl ?_⟩⟩
  refine br_i (fun h => by cases h) (fun _ => ?_)
  refine br_i (fun h => by cases h) (fun _ => ?_)
  unfold cmpF
  refine br_i (fun h => ?_) (fun h => ?_)
  · have h : a < b := by simp at h; omega
    exact ⟨by rw [if_pos h]; rfl, rfl⟩
  have h : ¬ a < b := by simp at h; omega
  refine br_i (fun h2 => ?_) (fun h2 => ?_)
  · have h2 : b < a := by simp at h2; omega
    exact ⟨by rw [if_neg h, if_pos h2]; rfl, rfl⟩
  · have h2 : ¬ b < a := by simp at h2; omega
    exact ⟨by rw [if_neg h, if_neg h2]; rfl, rfl⟩
def ordF (a b : Ex) : Int := if a = b then 0 else if lt a b then -1 else 1
theorem ordF_neg {a b : Ex} : (ordF a b < 0) ↔ lt a b = true := by
  unfold ordF
  by_cases h : a = b
  · subst h
    rw [if_pos rfl]
    constructor
    · intro h; omega
    · intro h; exact absurd ((lt_iff _ _).1 h) (Lt.irrefl _)
  · rw [if_neg h]
    split <;> rename_i h2
    · exact ⟨fun _ => h2, fun _ => by decide⟩
    · exact ⟨fun h => absurd h (by decide), fun h => absurd h h2⟩
theorem ordF_pos {a b : Ex} : (ordF a b > 0) ↔ lt b a = true := by
  unfold ordF
  by_cases h : a = b
  · subst h
    rw [if_pos rfl]
    constructor
    · intro h; omega
    · intro h; exact absurd ((lt_iff _ _).1 h) (Lt.irrefl _)
  · rw [if_neg h]
    split <;> rename_i h2
    · exact ⟨fun h => absurd h (by decide), fun h3 => absurd ((lt_iff _ _).1 h3) ((lt_iff _ _).1 h2).asymm⟩
    · refine ⟨fun _ => ?_, fun _ => by decide⟩
      apply Classical.byContradiction
      intro h3
      exact h (Lt.tri (fun q => h2 ((lt_iff _ _).2 q)) (fun q => h3 ((lt_iff _ _).2 q)))
theorem ord_at {a b : Ex} {j : Nat} (hj : j < 12) (he : ∀ i, i < j → a.at i = b.at i) (hne : a.at j ≠ b.at j) : ordF a b = cmpF (a.at j) (b.at j) := by
  have hab : a ≠ b := fun e => hne (by rw [e])
  unfold ordF cmpF
  rw [if_neg hab]
  by_cases h : a.at j < b.at j
  · rw [if_pos h, if_pos ((lt_iff _ _).2 ⟨j, hj, he, h⟩)]
  · have h2 : b.at j < a.at j := by omega
    rw [if_neg h, if_pos h2, if_neg]
    intro hl
    exact ((lt_iff _ _).1 hl).asymm ⟨j, hj, fun i hi => (he i hi).symm, h2⟩
set_option maxHeartbeats 1000000 in
theorem ord_p (x y : Tm) : PCalls Try.prog 39 [.agg (tmP x), .agg (tmP y)] (fun r => r = .con (.int .i64 (ordF x.e y.e))) := by
  have enC : Enters Try.prog 52 := enters_of Try.func52 (by kernel_rfl) rfl
  refine pcalls_weak (a39 _ _ _ _ _ _ _ _ _ _ _ _ _ _ _ _ _ _ _ _ _ _ _ _ _ _ _ ?_)
  unfold p39
  refine ⟨_, _, _, _, _, _, _, _, _, _, _, _, ⟨rfl, _, _, _, _, _, _, _, _, _, _, _, _, ⟨rfl, ⟨by kernel_rfl, by kernel_rfl, ?_⟩⟩⟩⟩
  rw [eq12]
  refine br_i (fun he => ?_) (fun hne => ?_)
  · have he : x.e = y.e := of_decide_eq_true he
    exact ⟨by unfold ordF; rw [if_pos he]; rfl, rfl⟩
  have hne : ¬ x.e = y.e := of_decide_eq_false hne
  refine ⟨fun c v => ∃ j : Nat, j ≤ 12 ∧ c = 12 - j ∧ v.1 = (j : Int) ∧ ∀ i, i < j → x.e.at i = y.e.at i, ⟨_, 0, by omega, rfl, rfl, fun i hi => absurd hi (Nat.not_lt_zero _)⟩, ?_⟩
  rintro c ⟨i, u⟩ ⟨j, hj, rfl, hi, hL⟩
  dsimp only at hi ⊢
  subst hi
  have hlt : j < 12 := by
    apply Classical.byContradiction
    intro h
    exact hne (Ex.ext (fun i hi => hL i (by omega)))
  have rx := tm_row (t := x) (i := (j : Int)) (by omega) (by omega)
  have ry := tm_row (t := y) (i := (j : Int)) (by omega) (by omega)
  refine ⟨by omega, by omega, _, ⟨rx, ⟨by omega, by omega, _, ⟨ry, ?_⟩⟩⟩⟩
  rw [Int.toNat_natCast, nat_beq]
  refine br_i (fun he => ?_) (fun hn => ?_)
  · have he : x.e.at j = y.e.at j := of_decide_eq_true he
    refine ⟨⟨rfl, rfl, trivial⟩, rfl, 12 - (j + 1), by omega, j + 1, by omega, rfl, ?_, fun i hi => ?_⟩
    · rw [wrap_id (by omega) (by omega)]; simp
    · by_cases h : i < j
      · exact hL i h
      · rw [show i = j by omega]; exact he
  · have hn : ¬ x.e.at j = y.e.at j := of_decide_eq_false hn
    refine ⟨by omega, by omega, _, ⟨rx, ⟨by omega, by omega, _, ⟨ry, ?_⟩⟩⟩⟩
    rw [Int.toNat_natCast]
    refine ⟨_, call_p enC (cmp_p _ _) rfl ?_⟩
    exact ⟨by rw [ord_at hlt hL hn]; rfl, rfl⟩
theorem plus_p (x y : Tm) (h : -4611686018427387904 ≤ x.c + y.c ∧ x.c + y.c ≤ 4611686018427387904) : PCalls Try.prog 43 [.agg (tmP x), .agg (tmP y)] (fun r => r = .agg (tmP (both true x y))) := by
  refine pcalls_weak (a43 _ _ _ _ _ _ _ _ _ _ _ _ _ _ _ _ _ _ _ _ _ _ _ _ _ _ _ ?_)
  unfold p43
  refine ⟨_, _, _, _, _, _, _, _, _, _, _, _, ⟨rfl, _, ⟨rfl, _, ⟨rfl, ⟨Nat.le_refl 13, _, _, _, _, _, _, _, _, _, _, _, _, _, ⟨rfl, ?_⟩⟩⟩⟩⟩⟩
  rw [wrap_id (by omega) (by omega)]
  exact ⟨rfl, rfl⟩
theorem greater_p (x y : Tm) : PCalls Try.prog 47 [.agg (tmP x), .agg (tmP y)] (fun r => r = .agg (tmP (both false x y))) := by
  refine pcalls_weak (a47 _ _ _ _ _ _ _ _ _ _ _ _ _ _ _ _ _ _ _ _ _ _ _ _ _ _ _ ?_)
  unfold p47
  refine ⟨_, _, _, _, _, _, _, _, _, _, _, _, ⟨rfl, _, ⟨rfl, _, ⟨rfl, ⟨Nat.le_refl 13, _, _, _, _, _, _, _, _, _, _, _, _, _, ⟨rfl, ?_⟩⟩⟩⟩⟩⟩
  rw [maxI_max]
  exact ⟨rfl, rfl⟩
theorem product_p (a b : Int) (ha : 0 ≤ a ∧ a ≤ 1099511627777) (hb : 0 ≤ b) : PCalls Try.prog 49 [.con (.int .i64 a), .con (.int .i64 b)] (fun r => r = .con (.int .i64 (satI a b))) := by
  refine pcalls_weak (a49 _ _ _ ?_)
  unfold p49
  refine br_i (fun h => ?_) (fun h => ?_)
  · have h : 0 < b := by simpa using h
    refine ⟨by omega, ?_⟩
    have hq : Int.tdiv 1099511627776 b = 1099511627776 / b := Int.tdiv_eq_ediv_of_nonneg (by decide)
    have hq0 : 0 ≤ (1099511627776 : Int) / b := Int.ediv_nonneg (by decide) (by omega)
    have hq1 : (1099511627776 : Int) / b ≤ 1099511627776 := Int.ediv_le_self _ (by decide)
    rw [hq, wrap_id (by omega) (by omega)]
    refine br_i (fun h2 => ?_) (fun h2 => ?_)
    · have h2 : 1099511627776 / b < a := by simpa using h2
      have := (Int.ediv_lt_iff_lt_mul h).1 h2
      exact ⟨by rw [show satI a b = 1099511627777 by unfold satI; omega]; rfl, rfl⟩
    · have h2 : a ≤ 1099511627776 / b := by simpa using h2
      have := (Int.le_ediv_iff_mul_le h).1 h2
      have := Int.mul_nonneg ha.1 hb
      rw [wrap_id (by omega) (by omega)]
      exact ⟨by rw [show satI a b = a * b by unfold satI; omega]; rfl, rfl⟩
  · have h : ¬ 0 < b := by simpa using h
    obtain rfl : b = 0 := by omega
    exact ⟨by rw [show satI a 0 = 0 by unfold satI; simp; omega, Int.mul_zero]; rfl, rfl⟩
theorem number_p (k : Nat) (l : List Int) : PCalls Try.prog 50 [.con (.int .i64 (k : Int)), .sl (inP l)] (fun r => r = .con (.int .i64 (nat0 (l.getD k 0)))) := by
  refine pcalls_weak (a50 _ _ _ ?_)
  unfold p50
  rw [inP_len]
  refine br_i (fun h => ?_) (fun h => ?_)
  · have h : l.length ≤ k := by simp at h; omega
    exact ⟨by rw [List.getD_eq_getElem?_getD, List.getElem?_eq_none h]; rfl, rfl⟩
  · have h : k < l.length := by simp at h; omega
    refine ⟨_, ⟨by omega, by rw [Int.toNat_natCast]; exact inP_at h, ?_⟩⟩
    rw [maxI_max]
    exact ⟨rfl, rfl⟩
def addTo (a b : Ex) (q : Nat) : Ex := fun j => if j.1 < q then a j + b j else a j
theorem addTo_zero (a b : Ex) : addTo a b 0 = a := by funext j; simp [addTo]
theorem addTo_all (a b : Ex) : addTo a b 12 = addE a b := by funext j; simp [addTo, addE]
theorem addTo_at (a b : Ex) (q k : Nat) : (addTo a b q).at k = if k < q then a.at k + b.at k else a.at k := by
  unfold addTo Ex.at
  by_cases h : k < 12
  · simp [h]
  · simp [h]
theorem addTo_succ {a b : Ex} {q : Nat} (hq : q < 12) : setE (addTo a b q) q (a.at q + b.at q) = addTo a b (q + 1) := by
  refine Ex.ext (fun i hi => ?_)
  rw [setE_at, addTo_at, addTo_at]
  by_cases h : i = q
  · subst h; simp [hi]
  · by_cases h2 : i < q
    · rw [if_neg (by omega), if_pos h2, if_pos (by omega)]
    · rw [if_neg (by omega), if_neg h2, if_neg (by omega)]
theorem ex_set {e : Ex} {i : Int} (n : Nat) (h0 : 0 ≤ i) (h1 : i < 12) : splice (0 + i.toNat * 1) [u8P n] (exP e) = exP (setE e i.toNat n) := by
  obtain ⟨k, rfl⟩ : ∃ k : Nat, i = k := ⟨i.toNat, by omega⟩
  have hk : k < 12 := by omega
  rw [Int.toNat_natCast, Nat.mul_one, Nat.zero_add]
  match k, hk with
  | 0, _ => simp [exP, setE_at, splice]
  | 1, _ => simp [exP, setE_at, splice]
  | 2, _ => simp [exP, setE_at, splice]
  | 3, _ => simp [exP, setE_at, splice]
  | 4, _ => simp [exP, setE_at, splice]
  | 5, _ => simp [exP, setE_at, splice]
  | 6, _ => simp [exP, setE_at, splice]
  | 7, _ => simp [exP, setE_at, splice]
  | 8, _ => simp [exP, setE_at, splice]
  | 9, _ => simp [exP, setE_at, splice]
  | 10, _ => simp [exP, setE_at, splice]
  | 11, _ => simp [exP, setE_at, splice]
set_option maxHeartbeats 1000000 in
theorem together_p (a b : Ex) (h : ∀ k, k < 12 → a.at k + b.at k ≤ 255) : PCalls Try.prog 56 [.agg (exP a), .agg (exP b)] (fun r => r = .agg (exP (addE a b))) := by
  refine pcalls_weak (a56 _ _ _ _ _ _ _ _ _ _ _ _ _ _ _ _ _ _ _ _ _ _ _ _ _ ?_)
  unfold p56
  refine ⟨_, _, _, _, _, _, _, _, _, _, _, _, ⟨rfl, ?_⟩⟩
  refine ⟨fun c v => ∃ j : Nat, j ≤ 12 ∧ c = 12 - j ∧ v.1 = (j : Int) ∧ v.2.1 = exP (addTo a b j), ⟨_, 0, by omega, rfl, rfl, by rw [addTo_zero]; rfl⟩, ?_⟩
  rintro c ⟨i, l, u⟩ ⟨j, hj, rfl, hi, hL⟩
  dsimp only at hi hL ⊢
  subst hi hL
  refine br_i (fun hlt => ?_) (fun hge => ?_)
  rotate_left
  · obtain rfl : j = 12 := by simp at hge; omega
    rw [addTo_all]
    refine ⟨_, _, _, _, _, _, _, _, _, _, _, _, ⟨rfl, ⟨Nat.le_refl 12, _, _, _, _, _, _, _, _, _, _, _, _, ⟨rfl, ?_⟩⟩⟩⟩
    exact ⟨rfl, rfl⟩
  have hlt : j < 12 := by simp at hlt; omega
  have ra := ex_row (e := addTo a b j) (i := (j : Int)) (by omega) (by omega)
  have rb := ex_row (e := b) (i := (j : Int)) (by omega) (by omega)
  refine ⟨by omega, by omega, _, ⟨rb, ⟨by omega, by omega, _, ⟨ra, ⟨by omega, by omega, ⟨?_, ?_⟩⟩⟩⟩⟩⟩
  · show 0 + (j : Int).toNat * 1 + 1 ≤ 12
    omega
  have hs := h j hlt
  have e1 : (addTo a b j).at ((j : Int).toNat) = a.at j := by rw [Int.toNat_natCast, addTo_at, if_neg (by omega)]
  have e2 : IntKind.u8.wrap (((addTo a b j).at ((j : Int).toNat) : Int) + (b.at ((j : Int).toNat) : Int)) = ((a.at j + b.at j : Nat) : Int) := by
    rw [e1, Int.toNat_natCast, wrap8_id (by omega) (by omega)]; omega
  refine ⟨⟨rfl, rfl, rfl, trivial⟩, rfl, 12 - (j + 1), by omega, j + 1, by omega, rfl, ?_, ?_⟩
  · rw [wrap_id (by omega) (by omega)]; simp
  · show splice (0 + (j : Int).toNat * 1) [.con (.int .u8 (IntKind.u8.wrap (((addTo a b j).at ((j : Int).toNat) : Int) + (b.at ((j : Int).toNat) : Int))))] (exP (addTo a b j)) = _
    rw [e2, ← addTo_succ hlt]
    have := ex_set (e := addTo a b j) (i := (j : Int)) (a.at j + b.at j) (by omega) (by omega)
    rw [Int.toNat_natCast] at this ⊢
    exact this
end Go.Proofs.Ytbhbgaihhilfmaa.Deep

namespace Go.Proofs.Ytbhbgaihhilfmaa.Deep
open Go.RowKit Poly
set_option linter.unusedVariables false
set_option linter.unusedSimpArgs false
def maxTo (e : Ex) : Nat → Nat
  | 0 => 0
  | j + 1 => max (maxTo e j) (e.at j)
theorem maxTo_le (e : Ex) : ∀ j, maxTo e j ≤ 6 ↔ ∀ k, k < j → e.at k ≤ 6
  | 0 => by simp [maxTo]
  | j + 1 => by
    have := maxTo_le e j
    constructor
    · intro h k hk
      have h1 : maxTo e j ≤ 6 ∧ e.at j ≤ 6 := by unfold maxTo at h; omega
      by_cases hkj : k = j
      · subst hkj; exact h1.2
      · exact this.1 h1.1 k (by omega)
    · intro h
      have h1 := this.2 (fun k hk => h k (by omega))
      have h2 := h j (by omega)
      unfold maxTo; omega
theorem smax_p (x : Tm) : ACalls Try.prog 51 [.rw 0 0 12 5 1] [[.row (tmP x)]] (fun r h' => r = .con (.int .u8 (maxTo x.e 12)) ∧ h' = [[.row (tmP x)]]) := by
  refine a51 _ _ _ ?_
  unfold p51
  refine br_i (fun h => by simp at h) (fun _ => ?_)
  have r0 := tm_row (t := x) (i := 0) (by omega) (by omega)
  refine ⟨by omega, by decide, _, ⟨r0, ?_⟩⟩
  refine ⟨fun c v => ∃ j : Nat, 1 ≤ j ∧ j ≤ 12 ∧ c = 12 - j ∧ v.2.1 = (j : Int) ∧ v.1 = (maxTo x.e j : Int), ⟨_, 1, by omega, by omega, rfl, rfl, by show ((x.e.at 0 : Nat) : Int) = ((max 0 (x.e.at 0) : Nat) : Int); omega⟩, ?_⟩
  rintro c ⟨m, i, u⟩ ⟨j, h1, hj, rfl, hi, hm⟩
  dsimp only at hi hm ⊢
  subst hi hm
  refine br_i (fun hlt => ?_) (fun hge => ?_)
  rotate_left
  · obtain rfl : j = 12 := by simp at hge; omega
    exact ⟨rfl, rfl⟩
  have hlt : j < 12 := by simp at hlt; omega
  have rj := tm_row (t := x) (i := (j : Int)) (by omega) (by omega)
  refine ⟨by omega, by omega, _, ⟨rj, ?_⟩⟩
  refine ⟨⟨rfl, trivial⟩, rfl, 12 - (j + 1), by omega, j + 1, by omega, by omega, rfl, ?_, ?_⟩
  · rw [wrap_id (by omega) (by omega)]; simp
  · rw [maxI_max, Int.toNat_natCast]
    show max ((maxTo x.e j : Nat) : Int) ((x.e.at j : Nat) : Int) = ((max (maxTo x.e j) (x.e.at j) : Nat) : Int)
    omega
theorem can_p (t : Tm) : PCalls Try.prog 38 [.agg (tmP t)] (fun r => r = .con (.bool (tmOk t))) := by
  refine pcalls_weak (a38 _ _ _ _ _ _ _ _ _ _ _ _ _ _ ?_)
  unfold p38
  have hT : tmOk t = (decide (1 ≤ t.c) && decide (t.c ≤ 1099511627776) && decide (maxTo t.e 12 ≤ 6)) := by
    have : expOk t.e = decide (maxTo t.e 12 ≤ 6) := by rw [Bool.eq_iff_iff, expOk_iff, decide_eq_true_iff, maxTo_le]
    unfold tmOk
    rw [this]
  rw [hT]
  refine ⟨_, ⟨rfl, ?_⟩⟩
  refine br_i (fun h => ?_) (fun h => ?_)
  rotate_left
  · have h : ¬ 1 ≤ t.c := by simp at h; omega
    exact ⟨by rw [decide_eq_false h]; rfl, rfl⟩
  have h : 1 ≤ t.c := by simp at h; omega
  refine ⟨_, ⟨rfl, ?_⟩⟩
  refine br_i (fun h2 => ?_) (fun h2 => ?_)
  rotate_left
  · have h2 : ¬ t.c ≤ 1099511627776 := by simp at h2; omega
    exact ⟨by rw [decide_eq_false h2, Bool.and_false]; rfl, rfl⟩
  have h2 : t.c ≤ 1099511627776 := by simp at h2; omega
  refine ⟨by show 0 + 12 ≤ 13; omega, ?_⟩
  refine ⟨_, ⟨enters_of Try.func51 (by kernel_rfl) rfl, smax_p t, ?_⟩⟩
  have h3 : decide ((maxTo t.e 12 : Int) ≤ 6) = decide (maxTo t.e 12 ≤ 6) := by
    rw [Bool.eq_iff_iff, decide_eq_true_iff, decide_eq_true_iff]
    omega
  rw [decide_eq_true h, decide_eq_true h2, Bool.true_and, Bool.true_and, ← h3]
  exact ⟨rfl, rfl⟩
theorem fitL_cons (pr : Option Ex) (x : Tm) (r : List Tm) : fitL pr (x :: r) = (tmOk x && (match pr with | none => true | some e => lt e x.e) && fitL (some x.e) r) := by
  have h : fitL pr (x :: r) = ((decide (1 ≤ x.c) && decide (x.c ≤ 1099511627776)) && (match pr with | none => true | some e => lt e x.e) && expOk x.e && fitL (some x.e) r) := by cases pr <;> rfl
  rw [h]
  unfold tmOk
  generalize (decide (1 ≤ x.c) && decide (x.c ≤ 1099511627776)) = A
  generalize (match pr with | none => true | some e => lt e x.e) = B
  generalize expOk x.e = C
  cases A <;> cases B <;> cases C <;> rfl
set_option maxHeartbeats 1000000 in
theorem fit_p (p : List Tm) : PCalls Try.prog 19 [.sl (plP p)] (fun r => r = .con (.bool (fitF p))) := by
  have enC : Enters Try.prog 38 := enters_of Try.func38 (by kernel_rfl) rfl
  have enO : Enters Try.prog 39 := enters_of Try.func39 (by kernel_rfl) rfl
  refine pcalls_weak (a19 _ _ ?_)
  unfold p19
  rw [plP_len]
  refine br_i (fun h64 => ?_) (fun h64 => ?_)
  · have h64 : ¬ p.length ≤ 64 := by simp at h64; omega
    have : fitF p = false := by unfold fitF; rw [decide_eq_false h64]; rfl
    exact ⟨by rw [this]; rfl, rfl⟩
  have h64 : p.length ≤ 64 := by simp at h64; omega
  have hF : fitF p = fitL none p := by unfold fitF; rw [decide_eq_true h64]; rfl
  rw [hF]
  obtain ⟨R, hR⟩ : ∃ R, fitL none p = R := ⟨_, rfl⟩
  rw [hR]
  refine ⟨fun c v => ∃ j : Nat, j ≤ p.length ∧ c = p.length - j ∧ v.1 = (j : Int) ∧ fitL (prv p j) (p.drop j) = R, ⟨_, 0, Nat.zero_le _, rfl, rfl, hR⟩, ?_⟩
  rintro c ⟨i, u⟩ ⟨j, hj, rfl, hi, hL⟩
  dsimp only at hi hL ⊢
  subst hi
  refine br_i (fun hlt => ?_) (fun hge => ?_)
  rotate_left
  · have hge : ¬ j < p.length := by simpa using hge
    rw [List.drop_of_length_le (by omega), fitL] at hL
    exact ⟨by rw [← hL]; rfl, rfl⟩
  have hlt : j < p.length := by simpa using hlt
  have hxj : p[j]? = some p[j] := List.getElem?_eq_getElem hlt
  rw [List.drop_eq_getElem_cons hlt] at hL
  have hnx : prv p (j + 1) = some (p[j]).e := by simp [prv, hxj]
  have hx := plP_at hxj
  generalize p[j] = x at *
  have hw : IntKind.i64.wrap ((j : Int) + 1) = ((j + 1 : Nat) : Int) := by rw [wrap_id (by omega) (by omega)]; simp
  rw [fitL_cons] at hL
  refine ⟨_, _, _, _, _, _, _, _, _, _, _, _, _, ⟨by omega, by rw [Int.toNat_natCast]; exact hx, ⟨Nat.le_refl 13, _, _, _, _, _, _, _, _, _, _, _, _, _, ⟨rfl, ?_⟩⟩⟩⟩
  refine ⟨_, call_p enC (can_p x) rfl ?_⟩
  refine br_i (fun h => ?_) (fun h => ?_)
  · have h : tmOk x = false := by simpa using h
    rw [h, Bool.false_and, Bool.false_and] at hL
    exact ⟨by rw [← hL]; rfl, rfl⟩
  have h : tmOk x = true := by simpa using h
  rw [h, Bool.true_and] at hL
  refine br_i (fun h0 => ?_) (fun h0 => ?_)
  · obtain ⟨k, rfl⟩ : ∃ k, j = k + 1 := ⟨j - 1, by simp at h0; omega⟩
    obtain ⟨y, hy⟩ : ∃ y, p[k]? = some y := ⟨_, List.getElem?_eq_getElem (by omega)⟩
    have hyp := plP_at hy
    have hwk : IntKind.i64.wrap (((k + 1 : Nat) : Int) - 1) = (k : Int) := by rw [wrap_id (by omega) (by omega)]; omega
    rw [hwk]
    have hpk : prv p (k + 1) = some y.e := by simp [prv, hy]
    rw [hpk] at hL
    simp only at hL
    refine ⟨_, _, _, _, _, _, _, _, _, _, _, _, _, ⟨by omega, by rw [Int.toNat_natCast]; exact hyp, _, _, _, _, _, _, _, _, _, _, _, _, _, ⟨rfl, _, call_p enO (ord_p y x) rfl ?_⟩⟩⟩
    refine br_i (fun h3 => ?_) (fun h3 => ?_)
    · have h3 : lt y.e x.e = false := by
        have h3 : 0 ≤ ordF y.e x.e := by simpa using h3
        cases hq : lt y.e x.e with
        | false => rfl
        | true => have := ordF_neg.2 hq; omega
      rw [h3, Bool.false_and] at hL
      exact ⟨by rw [← hL]; rfl, rfl⟩
    have h3 : lt y.e x.e = true := by
      have h3 : ordF y.e x.e < 0 := by simpa using h3
      exact ordF_neg.1 h3
    rw [h3, Bool.true_and] at hL
    exact ⟨⟨rfl, rfl, rfl, trivial⟩, rfl, p.length - (k + 1 + 1), by omega, k + 1 + 1, by omega, rfl, hw, by rw [hnx]; exact hL⟩
  · obtain rfl : j = 0 := by simp at h0; omega
    have hL : fitL (some x.e) (p.drop 1) = R := by simpa [prv] using hL
    exact ⟨⟨rfl, rfl, rfl, trivial⟩, rfl, p.length - (0 + 1), by omega, 0 + 1, by omega, rfl, hw, by rw [hnx]; exact hL⟩
theorem fitting_p (p : List Tm) : PCalls Try.prog 34 [.sl (plP p)] (fun r => r = resP (fitO p)) := by
  refine pcalls_weak (a34 _ _ ?_)
  unfold p34 fitO
  refine ⟨_, call_p (enters_of Try.func19 (by kernel_rfl) rfl) (fit_p p) rfl ?_⟩
  refine br_i (fun h => ?_) (fun h => ?_)
  · have h : fitF p = false := by simpa using h
    rw [h]; exact ⟨rfl, rfl⟩
  · have h : fitF p = true := by simpa using h
    rw [h]; exact ⟨rfl, rfl⟩
theorem numF_fit {n : Int} (h : ¬ n < 1) : fitO [⟨n, zeroE⟩] = numF n := by
  unfold fitO numF
  by_cases hb : n > 1099511627776
  · rw [if_pos hb]
    have : fitF [⟨n, zeroE⟩] = false := by
      cases hq : fitF [⟨n, zeroE⟩] with
      | false => rfl
      | true => have := ((fitF_iff _).1 hq).ok ⟨n, zeroE⟩ (by simp); simp only at this; omega
    rw [this]; rfl
  · rw [if_neg hb, if_neg h, (fitF_iff _).2 (num_ok (by omega) (by omega))]; rfl
theorem num_p (n : Int) : PCalls Try.prog 11 [.con (.int .i64 n)] (fun r => r = resP (numF n)) := by
  refine pcalls_weak (a11 _ _ ?_)
  unfold p11
  refine br_i (fun h => ?_) (fun h => ?_)
  · have h : n < 1 := by simpa using h
    have : numF n = ([], 0) := by unfold numF; rw [if_neg (by omega), if_pos h]
    rw [this]; exact ⟨rfl, rfl⟩
  · have h : ¬ n < 1 := by simpa using h
    have hp := fitting_p [⟨n, zeroE⟩]
    rw [numF_fit h] at hp
    refine ⟨_, _, call_p (enters_of Try.func34 (by kernel_rfl) rfl) hp rfl ?_⟩
    exact ⟨rfl, rfl⟩
theorem var_p (k : Int) : PCalls Try.prog 13 [.con (.int .i64 k)] (fun r => r = resP (varF k)) := by
  refine pcalls_weak (a13 _ _ ?_)
  unfold p13 varF
  refine ⟨_, call_p (enters_of Try.func35 (by kernel_rfl) rfl) (unk_p k) rfl ?_⟩
  refine br_i (fun h => ?_) (fun h => ?_)
  · rw [if_pos (by simp at h; omega)]; exact ⟨rfl, rfl⟩
  have h : 0 ≤ k ∧ k < 12 := by simpa using h
  rw [if_neg (by omega)]
  have e := tm_set (t := ⟨1, zeroE⟩) (i := k) 1 h.1 h.2
  rw [oneE_set] at e
  refine ⟨Nat.le_refl 13, ⟨by omega, by omega, ⟨?_, ?_⟩⟩⟩
  · show 0 + k.toNat * 1 + 1 ≤ 13
    omega
  · show ∃ _ _ _ _ _ _ _ _ _ _ _ _ _, RowN (splice (0 + k.toNat * 1) [u8P 1] (tmP ⟨1, zeroE⟩)) 0 _ _
    rw [e]
    refine ⟨_, _, _, _, _, _, _, _, _, _, _, _, _, ⟨rfl, ?_⟩⟩
    exact ⟨rfl, rfl⟩
theorem flatP_len (p : List Tm) : (plP p).flatten.length = p.length * 13 := by
  induction p with
  | nil => rfl
  | cons t r ih =>
    show (tmP t ++ (plP r).flatten).length = _
    rw [List.length_append, ih, tm_len, List.length_cons]; omega
theorem flatP_one (p : List Tm) : ∀ q ∈ (plP p).flatten, PV.one q = true := fun q hq => by
  obtain ⟨y, hy, hq⟩ := List.mem_flatten.1 hq
  exact (one_tm p y hy).2 q hq
theorem row_at : ∀ (i : Nat) (p : List Tm) (h : i < p.length), ((plP p).flatten.drop (i * 13)).take 13 = tmP p[i]
  | 0, [], h => by simp at h
  | 0, t :: r, h => by
    show ((tmP t ++ (plP r).flatten).drop (0 * 13)).take 13 = tmP t
    rw [Nat.zero_mul, List.drop_zero, List.take_append_of_le_length (by rw [tm_len]; omega), List.take_of_length_le (by rw [tm_len]; omega)]
  | i + 1, [], h => by simp at h
  | i + 1, t :: r, h => by
    show ((tmP t ++ (plP r).flatten).drop ((i + 1) * 13)).take 13 = tmP (r[i]'(by simpa using h))
    rw [show (i + 1) * 13 = (tmP t).length + i * 13 by rw [tm_len]; omega, List.drop_append]
    simp only [Nat.add_sub_cancel_left, List.drop_of_length_le (show (tmP t).length ≤ (tmP t).length + i * 13 by omega), List.nil_append]
    exact row_at i r (by simpa using h)
theorem rows_flat (p : List Tm) : rowsOf 13 p.length (plP p).flatten = plP p := by
  refine List.ext_getElem? (fun i => ?_)
  by_cases h : i < p.length
  · have e := rowsOf_at (sz := 13) (n := p.length) (i := i) (l := (plP p).flatten) h
    have h1 : i < (rowsOf 13 p.length (plP p).flatten).length := by rw [rowsOf_length]; exact h
    rw [List.getD_eq_getElem?_getD, List.getElem?_eq_getElem h1, row_at i p h] at e
    rw [List.getElem?_eq_getElem h1, plP_at (List.getElem?_eq_getElem h)]
    exact congrArg some e
  · rw [List.getElem?_eq_none (by rw [rowsOf_length]; omega), List.getElem?_eq_none (by rw [plP_len]; omega)]
theorem seal_p {f : FuncId} {args : List PV} {p : List Tm} (c : ACalls Try.prog f args [] fun r h' => ∃ b n e, r = .rw b 0 n e 13 ∧ b < h'.length ∧ h'.getD b [] = [.row (plP p).flatten] ∧ n = p.length) : PCalls Try.prog f args (fun r => r = .sl (plP p)) := by
  have c2 : ACalls Try.prog f args [] fun r h' => ∃ b n l e, r = .rw b 0 n e 13 ∧ b < h'.length ∧ h'.getD b [] = [.row l] ∧ l.length = n * 13 ∧ l = (plP p).flatten :=
    c.mono fun r h' ⟨b, n, e, h1, h2, h3, h4⟩ => ⟨b, n, _, e, h1, h2, h3, by rw [flatP_len, h4], rfl⟩
  refine ACalls.mono (ACalls.seal (by decide) c2) fun r _ ⟨⟨n, l, h1, h2, h3⟩, hu⟩ => ⟨?_, hu⟩
  rw [h3, h2]
  rw [h2, flatP_len] at h1
  rw [show n = p.length by omega, rows_flat]
def zeroR (n : Nat) : List PV := (List.replicate n (tmP ⟨0, zeroE⟩)).flatten
theorem zeroR_len (n : Nat) : (zeroR n).length = n * 13 := by
  unfold zeroR
  induction n with
  | zero => rfl
  | succ n ih => rw [List.replicate_succ, List.flatten_cons, List.length_append, ih, tm_len]; omega
theorem grow_p (n : Nat) (hn : n ≤ 1000000) : ACalls Try.prog 54 [.con (.slice none 0 0), .con (.int .i64 (n : Int))] [] (fun r h' => r = .rw 0 0 0 59 13 ∧ h' = [[.row (zeroR n)]]) := by
  refine a54 _ _ ?_
  unfold p54
  have e0 : ((([] : List (List PV)).length : Nat) : Int) = 0 := rfl
  have e1 : IntKind.i64.wrap ((n : Int) - IntKind.i64.wrap (0 - ((([] : List (List PV)).length : Nat) : Int))) = (n : Int) := by
    rw [e0, wrap_id (n := 0 - 0) (by omega) (by omega), wrap_id (by omega) (by omega)]; omega
  rw [e1]
  refine br_i (fun h => by simp at h; omega) (fun _ => ?_)
  refine br_i (fun h => ?_) (fun h => ?_)
  · have h : 0 < (n : Int) := by simpa using h
    refine ⟨by omega, by omega, by omega, h, ⟨by rw [Int.toNat_natCast]; omega, by omega, ?_, ?_, ?_⟩⟩
    · rw [Int.toNat_natCast]; exact zeroR_len n
    · intro q hq
      obtain ⟨y, hy, hq⟩ := List.mem_flatten.1 hq
      rw [List.eq_of_mem_replicate hy] at hq
      simp only [List.mem_cons, List.not_mem_nil, or_false] at hq
      rcases hq with rfl | rfl | rfl | rfl | rfl | rfl | rfl | rfl | rfl | rfl | rfl | rfl | rfl <;> rfl
    · refine ⟨by omega, by rw [e0]; omega, by rw [e0]; omega, ?_⟩
      rw [Int.toNat_natCast]
      exact ⟨rfl, rfl⟩
  · have h : ¬ 0 < (n : Int) := by simpa using h
    obtain rfl : n = 0 := by omega
    exact ⟨rfl, rfl⟩
theorem take_app {n : Nat} {r cs : List PV} {o : List Tm} {x : Tm} (h : r.take (o.length * 13) = (plP o).flatten) (hn : n = o.length) (hc : cs = tmP x) : (r.take (n * 13) ++ [cs].flatten).take ((o ++ [x]).length * 13) = (plP (o ++ [x])).flatten := by
  subst hn hc
  rw [h]
  have e : (plP o).flatten ++ [tmP x].flatten = (plP (o ++ [x])).flatten := by
    rw [plP_app, List.flatten_append]; rfl
  rw [e, ← flatP_len, List.take_length]
theorem take_len {r : List PV} {o : List Tm} (h : r.take (o.length * 13) = (plP o).flatten) : o.length * 13 ≤ r.length := by
  have := congrArg List.length h
  rw [List.length_take, flatP_len] at this
  omega
theorem tm_one (x : Tm) : ∀ q ∈ [tmP x].flatten, PV.one q = true := fun q hq => flatP_one [x] q hq
set_option maxHeartbeats 2000000 in
theorem merges_p (a b : List Tm) (ha : a.length + b.length ≤ 1000) (hca : ∀ x ∈ a, 0 ≤ x.c ∧ x.c ≤ 2199023255552) (hcb : ∀ x ∈ b, 0 ≤ x.c ∧ x.c ≤ 2199023255552) : PCalls Try.prog 42 [.sl (plP a), .sl (plP b), .fn 39 [], .fn 43 []] (fun r => r = .sl (plP (mg true a b))) := by
  have enO : Enters Try.prog 39 := enters_of Try.func39 (by kernel_rfl) rfl
  have enB : Enters Try.prog 43 := enters_of Try.func43 (by kernel_rfl) rfl
  refine seal_p (a42s _ _ _ ?_)
  unfold p42s
  rw [plP_len, plP_len]
  have hg := grow_p (a.length + b.length) (by omega)
  have ew : IntKind.i64.wrap ((a.length : Int) + (b.length : Int)) = ((a.length + b.length : Nat) : Int) := by rw [wrap_id (by omega) (by omega)]; omega
  rw [ew]
  refine ⟨_, _, ⟨enters_of Try.func54 (by kernel_rfl) rfl, hg, ?_⟩⟩
  refine ⟨fun c v => ∃ a' b' o : List Tm, c = a'.length + b'.length ∧ v.1 = plP a' ∧ v.2.1 = plP b' ∧ v.2.2.1.1 = o.length ∧ v.2.2.1.2.take (o.length * 13) = (plP o).flatten ∧ o ++ mg true a' b' = mg true a b ∧ o.length + a'.length + b'.length ≤ 1000 ∧ (∀ x ∈ a', 0 ≤ x.c ∧ x.c ≤ 2199023255552) ∧ ∀ x ∈ b', 0 ≤ x.c ∧ x.c ≤ 2199023255552, ⟨_, a, b, [], rfl, rfl, rfl, rfl, rfl, rfl, by simpa using ha, hca, hcb⟩, ?_⟩
  rintro c ⟨l1, l2, ⟨n, r⟩, u⟩ ⟨a', b', o, rfl, h1, h2, hn, hr, hL, hlen, ca, cb⟩
  dsimp only at h1 h2 hn hr ⊢
  subst h1 h2 hn
  have fin : (a' = [] ∨ b' = []) → AppR o.length (plP a').length r.length (plP a').flatten 13 24 PV.one
      (AppR (o.length + (plP a').length) (plP b').length (r.take (o.length * 13) ++ (plP a').flatten).length (plP b').flatten 13 24 PV.one
      (∃ b1 n1 e1, (PV.rw 3 0 (o.length + (plP a').length + (plP b').length) 59 13) = .rw b1 0 n1 e1 13 ∧ b1 < ([[], [], [], [.row ((r.take (o.length * 13) ++ (plP a').flatten).take ((o.length + (plP a').length) * 13) ++ (plP b').flatten)]] : Heap).length ∧ ([[], [], [], [.row ((r.take (o.length * 13) ++ (plP a').flatten).take ((o.length + (plP a').length) * 13) ++ (plP b').flatten)]] : Heap).getD b1 [] = [.row (plP (mg true a b)).flatten] ∧ n1 = (mg true a b).length)) := fun he => by
    have hmg : mg true a' b' = a' ++ b' := by
      rcases he with rfl | rfl
      · rw [nil_mg]; rfl
      · rw [mg_nil, List.append_nil]
    rw [hmg] at hL
    have hrl := take_len hr
    rw [plP_len, plP_len, hr]
    have e2 : (plP o).flatten ++ (plP a').flatten = (plP (o ++ a')).flatten := by rw [plP_app, List.flatten_append]
    rw [e2]
    have e3 : ((plP (o ++ a')).flatten).take ((o.length + a'.length) * 13) = (plP (o ++ a')).flatten := by
      rw [show (o.length + a'.length) * 13 = (plP (o ++ a')).flatten.length by rw [flatP_len, List.length_append], List.take_length]
    rw [e3]
    have e4 : (plP (o ++ a')).flatten ++ (plP b').flatten = (plP (mg true a b)).flatten := by rw [← hL, plP_app o (a' ++ b'), plP_app a' b', plP_app o a']; simp [List.flatten_append]
    rw [e4]
    refine ⟨by omega, hrl, flatP_len _, flatP_one _, ⟨by omega, by rw [flatP_len, List.length_append]; exact Nat.le_refl _, flatP_len _, flatP_one _, ?_⟩⟩
    exact ⟨3, _, _, rfl, by show 3 < 4; omega, rfl, by rw [← hL]; simp; omega⟩
  refine br_i (fun hp1 => ?_) (fun hp1 => ?_)
  rotate_left
  · rw [plP_len] at hp1
    exact fin (.inl (List.eq_nil_of_length_eq_zero (by have := of_decide_eq_false hp1; omega)))
  refine br_i (fun hp2 => ?_) (fun hp2 => ?_)
  rotate_left
  · rw [plP_len] at hp2
    exact fin (.inr (List.eq_nil_of_length_eq_zero (by have := of_decide_eq_false hp2; omega)))
  clear fin
  rw [plP_len] at hp1 hp2
  cases a' with
  | nil => simp at hp1
  | cons x a' =>
  cases b' with
  | nil => simp at hp2
  | cons y b' =>
  simp only [List.length_cons] at hlen
  have hrl := take_len hr
  have cutL : ∀ (z : Tm) (q : List Tm) (X : Prop), X → CutN (plP (z :: q)) 13 1 1 X := fun z q X hX => ⟨rfl, by rw [plP_len]; simp, fun w hw => (one_tm _ w hw).1, hX⟩
  have app : ∀ (z : Tm) (X : Prop), X → AppRG True o.length [tmP z].length r.length [tmP z].flatten 13 24 PV.one X := fun z X hX => ⟨fun _ => ⟨by show (o.length + 1) * 24 ≤ _; omega, hrl, rfl, tm_one z⟩, hX⟩
  refine ⟨_, _, _, _, _, _, _, _, _, _, _, _, _, ⟨by decide, rfl, _, _, _, _, _, _, _, _, _, _, _, _, _, ⟨by decide, rfl, _, call_p enO (ord_p x y) rfl ?_⟩⟩⟩
  refine br_i (fun hl => ?_) (fun hl => ?_)
  · have hl : lt x.e y.e = true := ordF_neg.1 (by simpa using hl)
    rw [mg_cons, if_pos hl] at hL
    refine ⟨_, _, _, _, _, _, _, _, _, _, _, _, _, ⟨by decide, rfl, app x _ ⟨1, cutL x a' _ ?_⟩⟩⟩
    exact ⟨⟨rfl, rfl, trivial⟩, rfl, a'.length + (b'.length + 1), by simp <;> omega, a', y :: b', o ++ [x], by simp, rfl, rfl, by simp, take_app hr rfl rfl, by rw [List.append_assoc]; exact hL, by simp <;> omega, fun z hz => ca z (by simp [hz]), cb⟩
  have hl : ¬ lt x.e y.e = true := fun q => by
    have := ordF_neg.2 q
    simp at hl; omega
  refine br_i (fun hg => ?_) (fun hg => ?_)
  · have hg : lt y.e x.e = true := ordF_pos.1 (by simpa using hg)
    rw [mg_cons, if_neg hl, if_pos hg] at hL
    refine ⟨_, _, _, _, _, _, _, _, _, _, _, _, _, ⟨by decide, rfl, app y _ ⟨1, cutL y b' _ ?_⟩⟩⟩
    exact ⟨⟨rfl, rfl, trivial⟩, rfl, a'.length + 1 + b'.length, by simp <;> omega, x :: a', b', o ++ [y], by simp, rfl, rfl, by simp, take_app hr rfl rfl, by rw [List.append_assoc]; exact hL, by simp <;> omega, ca, fun z hz => cb z (by simp [hz])⟩
  have hg : ¬ lt y.e x.e = true := fun q => by
    have := ordF_pos.2 q
    simp at hg; omega
  rw [mg_cons, if_neg hl, if_neg hg] at hL
  refine ⟨_, _, _, _, _, _, _, _, _, _, _, _, _, ⟨by decide, rfl, _, _, _, _, _, _, _, _, _, _, _, _, _, ⟨by decide, rfl, _, _, _, _, _, _, _, _, _, _, _, _, _, call_p enB (plus_p x y (by have := ca x (by simp); have := cb y (by simp); omega)) rfl (app (both true x y) _ ⟨1, cutL x a' _ ⟨1, cutL y b' _ ?_⟩⟩)⟩⟩⟩
  exact ⟨⟨rfl, rfl, trivial⟩, rfl, a'.length + b'.length, by simp <;> omega, a', b', o ++ [both true x y], rfl, rfl, rfl, by simp, take_app hr rfl rfl, by rw [List.append_assoc]; exact hL, by simp <;> omega, fun z hz => ca z (by simp [hz]), fun z hz => cb z (by simp [hz])⟩
set_option maxHeartbeats 2000000 in
theorem mergeg_p (a b : List Tm) (ha : a.length + b.length ≤ 1000) : PCalls Try.prog 42 [.sl (plP a), .sl (plP b), .fn 39 [], .fn 47 []] (fun r => r = .sl (plP (mg false a b))) := by
  have enO : Enters Try.prog 39 := enters_of Try.func39 (by kernel_rfl) rfl
  have enB : Enters Try.prog 47 := enters_of Try.func47 (by kernel_rfl) rfl
  refine seal_p (a42g _ _ _ ?_)
  unfold p42g
  rw [plP_len, plP_len]
  have hg := grow_p (a.length + b.length) (by omega)
  have ew : IntKind.i64.wrap ((a.length : Int) + (b.length : Int)) = ((a.length + b.length : Nat) : Int) := by rw [wrap_id (by omega) (by omega)]; omega
  rw [ew]
  refine ⟨_, _, ⟨enters_of Try.func54 (by kernel_rfl) rfl, hg, ?_⟩⟩
  refine ⟨fun c v => ∃ a' b' o : List Tm, c = a'.length + b'.length ∧ v.1 = plP a' ∧ v.2.1 = plP b' ∧ v.2.2.1.1 = o.length ∧ v.2.2.1.2.take (o.length * 13) = (plP o).flatten ∧ o ++ mg false a' b' = mg false a b ∧ o.length + a'.length + b'.length ≤ 1000, ⟨_, a, b, [], rfl, rfl, rfl, rfl, rfl, rfl, by simpa using ha⟩, ?_⟩
  rintro c ⟨l1, l2, ⟨n, r⟩, u⟩ ⟨a', b', o, rfl, h1, h2, hn, hr, hL, hlen⟩
  dsimp only at h1 h2 hn hr ⊢
  subst h1 h2 hn
  have fin : (a' = [] ∨ b' = []) → AppR o.length (plP a').length r.length (plP a').flatten 13 24 PV.one
      (AppR (o.length + (plP a').length) (plP b').length (r.take (o.length * 13) ++ (plP a').flatten).length (plP b').flatten 13 24 PV.one
      (∃ b1 n1 e1, (PV.rw 3 0 (o.length + (plP a').length + (plP b').length) 59 13) = .rw b1 0 n1 e1 13 ∧ b1 < ([[], [], [], [.row ((r.take (o.length * 13) ++ (plP a').flatten).take ((o.length + (plP a').length) * 13) ++ (plP b').flatten)]] : Heap).length ∧ ([[], [], [], [.row ((r.take (o.length * 13) ++ (plP a').flatten).take ((o.length + (plP a').length) * 13) ++ (plP b').flatten)]] : Heap).getD b1 [] = [.row (plP (mg false a b)).flatten] ∧ n1 = (mg false a b).length)) := fun he => by
    have hmg : mg false a' b' = a' ++ b' := by
      rcases he with rfl | rfl
      · rw [nil_mg]; rfl
      · rw [mg_nil, List.append_nil]
    rw [hmg] at hL
    have hrl := take_len hr
    rw [plP_len, plP_len, hr]
    have e2 : (plP o).flatten ++ (plP a').flatten = (plP (o ++ a')).flatten := by rw [plP_app, List.flatten_append]
    rw [e2]
    have e3 : ((plP (o ++ a')).flatten).take ((o.length + a'.length) * 13) = (plP (o ++ a')).flatten := by
      rw [show (o.length + a'.length) * 13 = (plP (o ++ a')).flatten.length by rw [flatP_len, List.length_append], List.take_length]
    rw [e3]
    have e4 : (plP (o ++ a')).flatten ++ (plP b').flatten = (plP (mg false a b)).flatten := by rw [← hL, plP_app o (a' ++ b'), plP_app a' b', plP_app o a']; simp [List.flatten_append]
    rw [e4]
    refine ⟨by omega, hrl, flatP_len _, flatP_one _, ⟨by omega, by rw [flatP_len, List.length_append]; exact Nat.le_refl _, flatP_len _, flatP_one _, ?_⟩⟩
    exact ⟨3, _, _, rfl, by show 3 < 4; omega, rfl, by rw [← hL]; simp; omega⟩
  refine br_i (fun hp1 => ?_) (fun hp1 => ?_)
  rotate_left
  · rw [plP_len] at hp1
    exact fin (.inl (List.eq_nil_of_length_eq_zero (by have := of_decide_eq_false hp1; omega)))
  refine br_i (fun hp2 => ?_) (fun hp2 => ?_)
  rotate_left
  · rw [plP_len] at hp2
    exact fin (.inr (List.eq_nil_of_length_eq_zero (by have := of_decide_eq_false hp2; omega)))
  clear fin
  rw [plP_len] at hp1 hp2
  cases a' with
  | nil => simp at hp1
  | cons x a' =>
  cases b' with
  | nil => simp at hp2
  | cons y b' =>
  simp only [List.length_cons] at hlen
  have hrl := take_len hr
  have cutL : ∀ (z : Tm) (q : List Tm) (X : Prop), X → CutN (plP (z :: q)) 13 1 1 X := fun z q X hX => ⟨rfl, by rw [plP_len]; simp, fun w hw => (one_tm _ w hw).1, hX⟩
  have app : ∀ (z : Tm) (X : Prop), X → AppRG True o.length [tmP z].length r.length [tmP z].flatten 13 24 PV.one X := fun z X hX => ⟨fun _ => ⟨by show (o.length + 1) * 24 ≤ _; omega, hrl, rfl, tm_one z⟩, hX⟩
  refine ⟨_, _, _, _, _, _, _, _, _, _, _, _, _, ⟨by decide, rfl, _, _, _, _, _, _, _, _, _, _, _, _, _, ⟨by decide, rfl, _, call_p enO (ord_p x y) rfl ?_⟩⟩⟩
  refine br_i (fun hl => ?_) (fun hl => ?_)
  · have hl : lt x.e y.e = true := ordF_neg.1 (by simpa using hl)
    rw [mg_cons, if_pos hl] at hL
    refine ⟨_, _, _, _, _, _, _, _, _, _, _, _, _, ⟨by decide, rfl, app x _ ⟨1, cutL x a' _ ?_⟩⟩⟩
    exact ⟨⟨rfl, rfl, trivial⟩, rfl, a'.length + (b'.length + 1), by simp <;> omega, a', y :: b', o ++ [x], by simp, rfl, rfl, by simp, take_app hr rfl rfl, by rw [List.append_assoc]; exact hL, by simp <;> omega⟩
  have hl : ¬ lt x.e y.e = true := fun q => by
    have := ordF_neg.2 q
    simp at hl; omega
  refine br_i (fun hg => ?_) (fun hg => ?_)
  · have hg : lt y.e x.e = true := ordF_pos.1 (by simpa using hg)
    rw [mg_cons, if_neg hl, if_pos hg] at hL
    refine ⟨_, _, _, _, _, _, _, _, _, _, _, _, _, ⟨by decide, rfl, app y _ ⟨1, cutL y b' _ ?_⟩⟩⟩
    exact ⟨⟨rfl, rfl, trivial⟩, rfl, a'.length + 1 + b'.length, by simp <;> omega, x :: a', b', o ++ [y], by simp, rfl, rfl, by simp, take_app hr rfl rfl, by rw [List.append_assoc]; exact hL, by simp <;> omega⟩
  have hg : ¬ lt y.e x.e = true := fun q => by
    have := ordF_pos.2 q
    simp at hg; omega
  rw [mg_cons, if_neg hl, if_neg hg] at hL
  refine ⟨_, _, _, _, _, _, _, _, _, _, _, _, _, ⟨by decide, rfl, _, _, _, _, _, _, _, _, _, _, _, _, _, ⟨by decide, rfl, _, _, _, _, _, _, _, _, _, _, _, _, _, call_p enB (greater_p x y) rfl (app (both false x y) _ ⟨1, cutL x a' _ ⟨1, cutL y b' _ ?_⟩⟩)⟩⟩⟩
  exact ⟨⟨rfl, rfl, trivial⟩, rfl, a'.length + b'.length, by simp <;> omega, a', b', o ++ [both false x y], rfl, rfl, rfl, by simp, take_app hr rfl rfl, by rw [List.append_assoc]; exact hL, by simp <;> omega⟩
end Go.Proofs.Ytbhbgaihhilfmaa.Deep

namespace Go.Proofs.Ytbhbgaihhilfmaa.Deep
open Go.RowKit Poly
set_option linter.unusedVariables false
set_option linter.unusedSimpArgs false
theorem add_w (a b : List Tm) (hl : a.length + b.length ≤ 1000) (ha : Up a) (hb : Up b) (pa : Pos a) (pb : Pos b) (ca : ∀ x ∈ a, x.c ≤ 2199023255552) (cb : ∀ x ∈ b, x.c ≤ 2199023255552) : PCalls Try.prog 24 [.sl (plP a), .sl (plP b)] (fun r => r = resP (fitO (norm (a ++ b)))) := by
  refine pcalls_weak (a24 _ _ _ ?_)
  unfold p24
  rw [← mg_norm ha hb pa pb]
  refine ⟨_, call_p (enters_of Try.func42 (by kernel_rfl) rfl) (merges_p a b hl (fun x hx => by have := pa x hx; have := ca x hx; omega) (fun x hx => by have := pb x hx; have := cb x hx; omega)) rfl ?_⟩
  refine ⟨_, _, call_p (enters_of Try.func34 (by kernel_rfl) rfl) (fitting_p _) rfl ?_⟩
  exact ⟨rfl, rfl⟩
theorem add_p (a b : List Tm) (ha : FitP a) (hb : FitP b) : PCalls Try.prog 24 [.sl (plP a), .sl (plP b)] (fun r => r = resP (mergeF W64 true a b)) := by
  rw [add_eq wr_small ha hb]
  have h1 := ha.len
  have h2 := hb.len
  exact add_w a b (by omega) ha.up hb.up ha.pos hb.pos (fun x hx => by have := ha.low x hx; omega) (fun x hx => by have := hb.low x hx; omega)
theorem max_p (a b : List Tm) (ha : FitP a) (hb : FitP b) : PCalls Try.prog 28 [.sl (plP a), .sl (plP b)] (fun r => r = resP (mergeF W64 false a b)) := by
  rw [max_eq wr_small ha hb, ← mg_lay ha.up hb.up ha.pos hb.pos]
  have h1 := ha.len
  have h2 := hb.len
  refine pcalls_weak (a28 _ _ _ ?_)
  unfold p28
  refine ⟨_, call_p (enters_of Try.func42 (by kernel_rfl) rfl) (mergeg_p a b (by omega)) rfl ?_⟩
  refine ⟨_, _, call_p (enters_of Try.func34 (by kernel_rfl) rfl) (fitting_p _) rfl ?_⟩
  exact ⟨rfl, rfl⟩
theorem splice_mid : ∀ (ps A Z : List PV), ps.length ≤ Z.length → splice A.length ps (A ++ Z) = A ++ ps ++ Z.drop ps.length
  | [], A, Z, _ => by simp [splice]
  | p :: ps, A, [], h => by simp at h
  | p :: ps, A, z :: Z, h => by
    rw [splice]
    have e : (A ++ z :: Z).set A.length p = (A ++ [p]) ++ Z := by simp
    have := splice_mid ps (A ++ [p]) Z (by simpa using h)
    rw [List.length_append] at this
    rw [e]
    have e2 : A.length + [p].length = A.length + 1 := rfl
    rw [e2] at this
    rw [this]
    simp
theorem zeroR_succ (n : Nat) : zeroR (n + 1) = tmP ⟨0, zeroE⟩ ++ zeroR n := rfl
theorem rowF_take {t : Tm} {b : List Tm} {j : Nat} (h : j < b.length) : rowF t (b.take (j + 1)) = rowF t (b.take j) ++ [satT t b[j]] := by
  unfold rowF
  rw [List.take_add_one, List.getElem?_eq_getElem h, List.map_append]; rfl
set_option maxHeartbeats 2000000 in
theorem row_p (t : Tm) (b : List Tm) (h1 : 1 ≤ t.c) (h2 : t.c ≤ 1099511627776) (h6 : ∀ k, k < 12 → t.e.at k ≤ 6) (hb : FitP b) : PCalls Try.prog 45 [.agg (tmP t), .sl (plP b)] (fun r => r = .sl (plP (rowF t b))) := by
  have enT : Enters Try.prog 56 := enters_of Try.func56 (by kernel_rfl) rfl
  have enP : Enters Try.prog 49 := enters_of Try.func49 (by kernel_rfl) rfl
  have hbl := hb.len
  refine seal_p (a45 _ _ _ _ _ _ _ _ _ _ _ _ _ _ _ ?_)
  unfold p45
  rw [plP_len]
  refine ⟨by omega, rfl, by rw [Int.toNat_natCast]; omega, by omega, by omega, ?_⟩
  rw [Int.toNat_natCast]
  refine ⟨fun c v => ∃ j : Nat, j ≤ b.length ∧ c = b.length - j ∧ v.1 = (j : Int) ∧ v.2.1 = (plP (rowF t (b.take j))).flatten ++ zeroR (b.length - j), ⟨_, 0, Nat.zero_le _, rfl, rfl, rfl⟩, ?_⟩
  rintro c ⟨i, r, u⟩ ⟨j, hj, rfl, hi, hr⟩
  dsimp only at hi hr ⊢
  subst hi hr
  refine br_i (fun hlt => ?_) (fun hge => ?_)
  rotate_left
  · obtain rfl : j = b.length := by have := of_decide_eq_false hge; omega
    rw [List.take_length, Nat.sub_self]
    have e0 : zeroR 0 = [] := rfl
    rw [e0, List.append_nil]
    exact ⟨1, _, _, rfl, by show 1 < 2; omega, rfl, by simp [rowF]⟩
  have hlt : j < b.length := by have := of_decide_eq_true hlt; omega
  have hx := plP_at (List.getElem?_eq_getElem hlt)
  have hok := hb.ok b[j] (List.getElem_mem hlt)
  have htk := rowF_take (t := t) hlt
  generalize b[j] = x at *
  obtain ⟨x1, x2, x6⟩ := hok
  refine ⟨_, _, _, _, _, _, _, _, _, _, _, _, _, ⟨by omega, by rw [Int.toNat_natCast]; exact hx, ⟨Nat.le_refl 13, _, _, _, _, _, _, _, _, _, _, _, _, ⟨rfl, _, _, _, _, _, _, _, _, _, _, _, _, ⟨rfl, ?_⟩⟩⟩⟩⟩
  refine ⟨_, _, _, _, _, _, _, _, _, _, _, _, call_p enT (together_p t.e x.e (fun k hk => by have := h6 k hk; have := x6 k hk; omega)) rfl ?_⟩
  refine ⟨_, ⟨rfl, _, ⟨rfl, ?_⟩⟩⟩
  refine ⟨_, call_p enP (product_p t.c x.c ⟨by omega, by omega⟩ (by omega)) rfl ?_⟩
  have hA : (plP (rowF t (b.take j))).flatten.length = j * 13 := by
    rw [flatP_len]; unfold rowF; rw [List.length_map, List.length_take]; congr 1; omega
  have hZ : zeroR (b.length - j) = tmP ⟨0, zeroE⟩ ++ zeroR (b.length - (j + 1)) := by
    rw [show b.length - j = b.length - (j + 1) + 1 by omega, zeroR_succ]
  refine ⟨by omega, by omega, ⟨?_, ?_⟩⟩
  · rw [List.length_append, hA, hZ, List.length_append, tm_len]; omega
  refine ⟨⟨rfl, rfl, rfl, rfl, trivial⟩, rfl, b.length - (j + 1), by omega, j + 1, by omega, rfl, ?_, ?_⟩
  · rw [wrap_id (by omega) (by omega)]; simp
  · rw [Int.toNat_natCast, Nat.zero_add, htk, plP_app, List.flatten_append, hZ]
    have := splice_mid (tmP (satT t x)) (plP (rowF t (b.take j))).flatten (tmP ⟨0, zeroE⟩ ++ zeroR (b.length - (j + 1))) (by rw [List.length_append, tm_len, tm_len]; omega)
    rw [hA] at this
    have e : (tmP ⟨0, zeroE⟩ ++ zeroR (b.length - (j + 1))).drop (tmP (satT t x)).length = zeroR (b.length - (j + 1)) := by
      rw [tm_len, ← tm_len ⟨0, zeroE⟩, List.drop_left]
    rw [e] at this
    refine Eq.trans this ?_
    rw [List.append_assoc, List.append_assoc]; rfl
theorem fitO_or (p : List Tm) : (fitO p = (p, 0) ∧ FitP p) ∨ fitO p = ([], 17) := by
  unfold fitO
  by_cases h : fitF p = true
  · rw [if_pos h]; exact .inl ⟨rfl, (fitF_iff _).1 h⟩
  · rw [if_neg h]; exact .inr rfl
set_option maxHeartbeats 1000000 in
theorem mul_p (a b : List Tm) (ha : FitP a) (hb : FitP b) : PCalls Try.prog 26 [.sl (plP a), .sl (plP b)] (fun r => r = resP (mulF W64 a b)) := by
  have enR : Enters Try.prog 45 := enters_of Try.func45 (by kernel_rfl) rfl
  have enA : Enters Try.prog 24 := enters_of Try.func24 (by kernel_rfl) rfl
  have hal := ha.len
  have hbl := hb.len
  rw [← mulW_mulF wr_small ha hb]
  obtain ⟨M, hM⟩ : ∃ M, mulW b [] a = M := ⟨_, rfl⟩
  rw [hM]
  refine pcalls_weak (a26 _ _ _ ?_)
  unfold p26
  rw [plP_len]
  refine ⟨fun c v => ∃ (j : Nat) (o : List Tm), j ≤ a.length ∧ c = a.length - j ∧ v.2.1 = (j : Int) ∧ v.1 = plP o ∧ FitP o ∧ mulW b o (a.drop j) = M, ⟨_, 0, [], Nat.zero_le _, rfl, rfl, rfl, FitP.nil, hM⟩, ?_⟩
  rintro c ⟨l, i, u⟩ ⟨j, o, hj, rfl, hi, ho, hof, hL⟩
  dsimp only at hi ho hL ⊢
  subst hi ho
  refine br_i (fun hlt => ?_) (fun hge => ?_)
  rotate_left
  · have hge : ¬ j < a.length := by have := of_decide_eq_false hge; omega
    rw [List.drop_of_length_le (by omega), mulW] at hL
    exact ⟨by rw [← hL]; rfl, rfl⟩
  have hlt : j < a.length := by have := of_decide_eq_true hlt; omega
  have hx := plP_at (List.getElem?_eq_getElem hlt)
  have hok := ha.ok a[j] (List.getElem_mem hlt)
  rw [List.drop_eq_getElem_cons hlt, mulW] at hL
  generalize a[j] = x at *
  obtain ⟨x1, x2, x6⟩ := hok
  refine ⟨_, _, _, _, _, _, _, _, _, _, _, _, _, ⟨by omega, by rw [Int.toNat_natCast]; exact hx, ⟨Nat.le_refl 13, _, _, _, _, _, _, _, _, _, _, _, _, _, ⟨rfl, ?_⟩⟩⟩⟩
  refine ⟨_, call_p enR (row_p x b x1 x2 x6 hb) rfl ?_⟩
  have hol := hof.len
  have hadd := add_w o (rowF x b) (by unfold rowF; rw [List.length_map]; omega) hof.up (rowF_up hb.up) hof.pos (rowF_pos x1 hb.pos) (fun z hz => by have := hof.low z hz; omega) (fun z hz => by
    obtain ⟨y, hy, rfl⟩ := List.mem_map.1 hz
    show min (x.c * y.c) 1099511627777 ≤ _
    omega)
  refine ⟨_, _, call_p enA hadd rfl ?_⟩
  have hcs := fitO_or (norm (o ++ rowF x b))
  generalize fitO (norm (o ++ rowF x b)) = r at *
  refine br_i (fun h => ?_) (fun h => ?_)
  · have h : r.2 ≠ 0 := by simpa using h
    rw [if_neg h] at hL
    rcases hcs with ⟨e, _⟩ | e
    · rw [e] at h; exact absurd rfl h
    · rw [e, ← hL]; exact ⟨rfl, rfl⟩
  · have h : r.2 = 0 := by simpa using h
    rw [if_pos h] at hL
    rcases hcs with ⟨e, hf⟩ | e
    · refine ⟨⟨rfl, rfl, rfl, trivial⟩, rfl, a.length - (j + 1), by omega, j + 1, r.1, by omega, rfl, ?_, rfl, by rw [e]; exact hf, hL⟩
      rw [wrap_id (by omega) (by omega)]; simp
    · rw [e] at h; simp at h
end Go.Proofs.Ytbhbgaihhilfmaa.Deep

namespace Go.Proofs.Ytbhbgaihhilfmaa.Deep
open Go.RowKit Poly
set_option linter.unusedVariables false
set_option linter.unusedSimpArgs false
theorem wrapj {j : Nat} (h : j ≤ 1000000) : IntKind.i64.wrap ((j : Int) + 1) = ((j + 1 : Nat) : Int) := by rw [wrap_id (by omega) (by omega)]; simp
set_option maxHeartbeats 1000000 in
theorem termAt_p (t : Tm) (l : List Int) (h1 : 1 ≤ t.c) (h2 : t.c ≤ 1099511627776) (h6 : ∀ k, k < 12 → t.e.at k ≤ 6) : PCalls Try.prog 36 [.agg (tmP t), .sl (inP l)] (fun r => r = .con (.int .i64 (termN t l))) := by
  have enN : Enters Try.prog 50 := enters_of Try.func50 (by kernel_rfl) rfl
  have enP : Enters Try.prog 49 := enters_of Try.func49 (by kernel_rfl) rfl
  obtain ⟨M, hM⟩ : ∃ M, termN t l = M := ⟨_, rfl⟩
  rw [hM]
  refine pcalls_weak (a36 _ _ _ _ _ _ _ _ _ _ _ _ _ _ _ ?_)
  unfold p36
  refine ⟨_, ⟨rfl, _, _, _, _, _, _, _, _, _, _, _, _, ⟨rfl, ?_⟩⟩⟩
  refine ⟨fun c v => ∃ (k : Nat), k ≤ 12 ∧ c = 12 - k ∧ v.2.1 = (k : Int) ∧ 0 ≤ v.1 ∧ v.1 ≤ 1099511627777 ∧ sats v.1 (facsN t.e l k) = M, ⟨_, 0, by omega, rfl, rfl, by show 0 ≤ t.c; omega, by show t.c ≤ _; omega, hM⟩, ?_⟩
  rintro c ⟨n, i, u⟩ ⟨k, hk, rfl, hi, n0, n1, hL⟩
  dsimp only at hi n0 n1 hL ⊢
  subst hi
  refine br_i (fun hlt => ?_) (fun hge => ?_)
  rotate_left
  · obtain rfl : k = 12 := by have := of_decide_eq_false hge; omega
    have hL : n = M := hL
    exact ⟨by rw [← hL]; rfl, rfl⟩
  have hlt : k < 12 := by have := of_decide_eq_true hlt; omega
  have hk6 := h6 k hlt
  have re := ex_row (e := t.e) (i := (k : Int)) (by omega) (by omega)
  rw [facsN_at hlt] at hL
  refine ⟨by omega, by omega, _, ⟨re, ?_⟩⟩
  rw [Int.toNat_natCast]
  refine ⟨fun c v => ∃ (q : Nat), q ≤ t.e.at k ∧ c = t.e.at k - q ∧ v.2.1 = (q : Int) ∧ 0 ≤ v.1 ∧ v.1 ≤ 1099511627777 ∧ sats v.1 (List.replicate (t.e.at k - q) (nat0 (l.getD k 0)) ++ facsN t.e l (k + 1)) = M, ⟨_, 0, by omega, rfl, rfl, n0, n1, hL⟩, ?_⟩
  clear hL n0 n1
  rintro c ⟨n, i, u⟩ ⟨q, hq, rfl, hi, n0, n1, hL⟩
  dsimp only at hi n0 n1 hL ⊢
  subst hi
  refine br_i (fun hlt2 => ?_) (fun hge => ?_)
  rotate_left
  · obtain rfl : q = t.e.at k := by have := of_decide_eq_false hge; omega
    rw [Nat.sub_self, List.replicate_zero, List.nil_append] at hL
    exact ⟨⟨rfl, rfl, trivial⟩, rfl, 12 - (k + 1), by omega, k + 1, by omega, rfl, wrapj (by omega), n0, n1, hL⟩
  have hlt2 : q < t.e.at k := by have := of_decide_eq_true hlt2; omega
  obtain ⟨d, hd⟩ : ∃ d, t.e.at k - q = d + 1 := ⟨t.e.at k - q - 1, by omega⟩
  rw [hd, List.replicate_succ, List.cons_append] at hL
  have hx0 : 0 ≤ nat0 (l.getD k 0) := by unfold nat0; omega
  refine ⟨_, call_p enN (number_p k l) rfl ⟨_, call_p enP (product_p n (nat0 (l.getD k 0)) ⟨n0, n1⟩ hx0) rfl ?_⟩⟩
  have hs0 := Int.mul_nonneg n0 hx0
  refine ⟨⟨rfl, rfl, rfl, rfl, rfl, trivial⟩, rfl, t.e.at k - (q + 1), by omega, q + 1, by omega, rfl, ?_, ?_, ?_, ?_⟩
  · rw [wrap8_id (by omega) (by omega)]; simp
  · show 0 ≤ satI n (nat0 (l.getD k 0))
    unfold satI; omega
  · show satI n (nat0 (l.getD k 0)) ≤ _
    unfold satI; omega
  · rw [show t.e.at k - (q + 1) = d by omega]; exact hL
theorem at_p (p : List Tm) (l : List Int) (hp : FitP p) : PCalls Try.prog 15 [.sl (plP p), .sl (inP l)] (fun r => r = numP (atF p l)) := by
  have hpl := hp.len
  rw [atF_sum hp]
  refine pcalls_weak (a15 _ _ _ ?_)
  unfold p15
  refine ⟨_, call_p (enters_of Try.func19 (by kernel_rfl) rfl) (fit_p p) rfl ?_⟩
  rw [(fitF_iff p).2 hp]
  refine br_i (fun h => by cases h) (fun _ => ?_)
  rw [plP_len]
  refine ⟨fun c v => ∃ (j : Nat), j ≤ p.length ∧ c = p.length - j ∧ v.2.1 = (j : Int) ∧ 0 ≤ v.1 ∧ v.1 ≤ (j : Int) * 1099511627777 ∧ v.1 + sumN l (p.drop j) = sumN l p, ⟨_, 0, Nat.zero_le _, rfl, rfl, Int.le_refl 0, Int.le_refl 0, by simp⟩, ?_⟩
  rintro c ⟨s, i, u⟩ ⟨j, hj, rfl, hi, s0, s1, hL⟩
  dsimp only at hi s0 s1 hL ⊢
  subst hi
  refine br_i (fun hlt => ?_) (fun hge => ?_)
  rotate_left
  · have hge : ¬ j < p.length := by have := of_decide_eq_false hge; omega
    rw [List.drop_of_length_le (by omega), sumN, Int.add_zero] at hL
    rw [← hL]
    refine br_i (fun h => ?_) (fun h => ?_)
    · have h : ¬ s ≤ 1099511627776 := by have := of_decide_eq_true h; omega
      rw [if_neg h]; exact ⟨rfl, rfl⟩
    · have h : s ≤ 1099511627776 := by have := of_decide_eq_false h; omega
      rw [if_pos h]; exact ⟨rfl, rfl⟩
  have hlt : j < p.length := by have := of_decide_eq_true hlt; omega
  have hx := plP_at (List.getElem?_eq_getElem hlt)
  have hok := hp.ok p[j] (List.getElem_mem hlt)
  rw [List.drop_eq_getElem_cons hlt, sumN] at hL
  generalize p[j] = x at *
  obtain ⟨x1, x2, x6⟩ := hok
  have hin := termN_in (l := l) x1 x2
  refine ⟨_, _, _, _, _, _, _, _, _, _, _, _, _, ⟨by omega, by rw [Int.toNat_natCast]; exact hx, ⟨Nat.le_refl 13, _, _, _, _, _, _, _, _, _, _, _, _, _, ⟨rfl, ?_⟩⟩⟩⟩
  refine ⟨_, call_p (enters_of Try.func36 (by kernel_rfl) rfl) (termAt_p x l x1 x2 x6) rfl ?_⟩
  rw [wrap_id (n := s + termN x l) (by omega) (by omega)]
  refine ⟨⟨rfl, rfl, rfl, trivial⟩, rfl, p.length - (j + 1), by omega, j + 1, by omega, rfl, wrapj (by omega), ?_, ?_, ?_⟩
  · show 0 ≤ s + termN x l
    omega
  · show s + termN x l ≤ _
    rw [Int.natCast_add, Int.add_mul]; simp; omega
  · show s + termN x l + sumN l (p.drop (j + 1)) = sumN l p
    omega
theorem stands_p (k : Nat) (l : List (List Tm)) (hk : k < 12) : PCalls Try.prog 57 [.con (.int .i64 (k : Int)), .sl (plsP l)] (fun r => r = .sl (plP (xOf l k))) := by
  refine pcalls_weak (a57 _ _ _ ?_)
  unfold p57 xOf
  rw [plsP_len]
  refine br_i (fun h => ?_) (fun h => ?_)
  · have h : k < l.length := by have := of_decide_eq_true h; omega
    refine ⟨_, ⟨by omega, by rw [Int.toNat_natCast]; exact plsP_at (List.getElem?_eq_getElem h), ?_⟩⟩
    rw [List.getD_eq_getElem?_getD, List.getElem?_eq_getElem h]
    exact ⟨rfl, rfl⟩
  · have h : ¬ k < l.length := by have := of_decide_eq_false h; omega
    have hvar := var_p (k : Int)
    have hv : varF (k : Int) = ([⟨1, oneE k⟩], 0) := by unfold varF; rw [if_neg (by omega), Int.toNat_natCast]
    rw [hv] at hvar
    refine ⟨_, _, call_p (enters_of Try.func13 (by kernel_rfl) rfl) hvar rfl ?_⟩
    rw [List.getD_eq_getElem?_getD, List.getElem?_eq_none (by omega)]
    exact ⟨rfl, rfl⟩
set_option maxHeartbeats 1000000 in
theorem putTerm_p (t : Tm) (l : List (List Tm)) (h1 : 1 ≤ t.c) (h2 : t.c ≤ 1099511627776) (h6 : ∀ k, k < 12 → t.e.at k ≤ 6) (hl : ∀ x ∈ l, FitP x) : PCalls Try.prog 48 [.agg (tmP t), .sl (plsP l)] (fun r => r = resP (termR W64 l t)) := by
  have enS : Enters Try.prog 57 := enters_of Try.func57 (by kernel_rfl) rfl
  have enM : Enters Try.prog 26 := enters_of Try.func26 (by kernel_rfl) rfl
  obtain ⟨M, hM⟩ : ∃ M, termR W64 l t = M := ⟨_, rfl⟩
  rw [hM]
  refine pcalls_weak (a48 _ _ _ _ _ _ _ _ _ _ _ _ _ _ _ ?_)
  unfold p48
  have hnum := num_p t.c
  have hn : numF t.c = ([⟨t.c, zeroE⟩], 0) := by unfold numF; rw [if_neg (by omega), if_neg (by omega)]
  rw [hn] at hnum
  refine ⟨_, ⟨rfl, _, _, call_p (enters_of Try.func11 (by kernel_rfl) rfl) hnum rfl ?_⟩⟩
  refine ⟨_, _, _, _, _, _, _, _, _, _, _, _, ⟨rfl, ?_⟩⟩
  refine ⟨fun c v => ∃ (k : Nat) (r : Res), k ≤ 12 ∧ c = 12 - k ∧ v.2.2.1 = (k : Int) ∧ v.1 = plP r.1 ∧ v.2.1 = r.2 ∧ ResOk r ∧ termFrom W64 l t.e r k = M, ⟨_, 0, ([⟨t.c, zeroE⟩], 0), by omega, rfl, rfl, rfl, rfl, .inl ⟨rfl, num_ok h1 h2⟩, hM⟩, ?_⟩
  rintro c ⟨ls, er, i, u⟩ ⟨k, r, hk, rfl, hi, hls, her, hok, hL⟩
  dsimp only at hi hls her hL ⊢
  subst hi hls her
  refine br_i (fun hlt => ?_) (fun hge => ?_)
  rotate_left
  · obtain rfl : k = 12 := by have := of_decide_eq_false hge; omega
    have hL : r = M := hL
    exact ⟨by rw [← hL]; rfl, rfl⟩
  have hlt : k < 12 := by have := of_decide_eq_true hlt; omega
  have hk6 := h6 k hlt
  have re := ex_row (e := t.e) (i := (k : Int)) (by omega) (by omega)
  rw [termFrom_at hlt] at hL
  refine ⟨by omega, by omega, _, ⟨re, ?_⟩⟩
  rw [Int.toNat_natCast]
  refine ⟨fun c v => ∃ (q : Nat) (r2 : Res), q ≤ t.e.at k ∧ c = t.e.at k - q ∧ v.2.2.1 = (q : Int) ∧ v.1 = plP r2.1 ∧ v.2.1 = r2.2 ∧ ResOk r2 ∧ termFrom W64 l t.e (powR W64 r2 (xOf l k) (t.e.at k - q)) (k + 1) = M, ⟨_, 0, r, by omega, rfl, rfl, rfl, rfl, hok, hL⟩, ?_⟩
  clear hL hok
  rintro c ⟨ls, er, i, u⟩ ⟨q, r, hq, rfl, hi, hls, her, hok, hL⟩
  dsimp only at hi hls her hL ⊢
  subst hi hls her
  have w8 : q < t.e.at k → IntKind.u8.wrap ((q : Int) + 1) = ((q + 1 : Nat) : Int) := fun h => by rw [wrap8_id (by omega) (by omega)]; simp
  refine br_i (fun hlt2 => ?_) (fun hge => ?_)
  rotate_left
  · obtain rfl : q = t.e.at k := by have := of_decide_eq_false hge; omega
    rw [Nat.sub_self, powR] at hL
    exact ⟨⟨rfl, rfl, trivial⟩, rfl, 12 - (k + 1), by omega, k + 1, r, by omega, rfl, wrapj (by omega), rfl, rfl, hok, hL⟩
  have hlt2 : q < t.e.at k := by have := of_decide_eq_true hlt2; omega
  obtain ⟨d, hd⟩ : ∃ d, t.e.at k - q = d + 1 := ⟨t.e.at k - q - 1, by omega⟩
  rw [hd] at hL
  refine br_i (fun h0 => ?_) (fun h0 => ?_)
  · have h0 : r.2 = 0 := by simpa using h0
    rw [powR, if_pos h0] at hL
    refine ⟨_, call_p enS (stands_p k l hlt) rfl ⟨_, _, call_p enM (mul_p r.1 (xOf l k) hok.fit (xOf_fit hl k)) rfl ?_⟩⟩
    exact ⟨⟨rfl, rfl, rfl, rfl, rfl, trivial⟩, rfl, t.e.at k - (q + 1), by omega, q + 1, mulF W64 r.1 (xOf l k), by omega, rfl, w8 hlt2, rfl, rfl, mulF_ok, by rw [show t.e.at k - (q + 1) = d by omega]; exact hL⟩
  · have h0 : r.2 ≠ 0 := by simpa using h0
    rw [powR_err h0] at hL
    exact ⟨⟨rfl, rfl, rfl, rfl, rfl, trivial⟩, rfl, t.e.at k - (q + 1), by omega, q + 1, r, by omega, rfl, w8 hlt2, rfl, rfl, hok, by rw [powR_err h0]; exact hL⟩
theorem termFrom_ok {l : List (List Tm)} {e : Ex} : ∀ (ks : List Nat) {r : Res}, ResOk r → ResOk (ks.foldl (fun r k => powR W64 r (xOf l k) (e.at k)) r)
  | [], r, h => h
  | k :: ks, r, h => termFrom_ok ks (powR_ok h)
theorem termR_ok {t : Tm} {l : List (List Tm)} (h1 : 1 ≤ t.c) (h2 : t.c ≤ 1099511627776) : ResOk (termR W64 l t) := termFrom_ok _ (.inl ⟨rfl, num_ok h1 h2⟩)
set_option maxHeartbeats 1000000 in
theorem put_p (p : List Tm) (l : List (List Tm)) (hp : FitP p) (hl : ∀ x ∈ l, FitP x) : PCalls Try.prog 30 [.sl (plP p), .sl (plsP l)] (fun r => r = resP (putF W64 p l)) := by
  have enT : Enters Try.prog 48 := enters_of Try.func48 (by kernel_rfl) rfl
  have enA : Enters Try.prog 24 := enters_of Try.func24 (by kernel_rfl) rfl
  have hpl := hp.len
  obtain ⟨M, hM⟩ : ∃ M, putF W64 p l = M := ⟨_, rfl⟩
  rw [hM]
  refine pcalls_weak (a30 _ _ _ ?_)
  unfold p30
  refine ⟨_, call_p (enters_of Try.func19 (by kernel_rfl) rfl) (fit_p p) rfl ?_⟩
  rw [(fitF_iff p).2 hp]
  refine br_i (fun h => by cases h) (fun _ => ?_)
  rw [plP_len]
  refine ⟨fun c v => ∃ (j : Nat) (o : List Tm), j ≤ p.length ∧ c = p.length - j ∧ v.2.1 = (j : Int) ∧ v.1 = plP o ∧ FitP o ∧ putL W64 l o (p.drop j) = M, ⟨_, 0, [], Nat.zero_le _, rfl, rfl, rfl, FitP.nil, hM⟩, ?_⟩
  rintro c ⟨ls, i, u⟩ ⟨j, o, hj, rfl, hi, ho, hof, hL⟩
  dsimp only at hi ho hL ⊢
  subst hi ho
  refine br_i (fun hlt => ?_) (fun hge => ?_)
  rotate_left
  · have hge : ¬ j < p.length := by have := of_decide_eq_false hge; omega
    rw [List.drop_of_length_le (by omega), putL] at hL
    exact ⟨by rw [← hL]; rfl, rfl⟩
  have hlt : j < p.length := by have := of_decide_eq_true hlt; omega
  have hx := plP_at (List.getElem?_eq_getElem hlt)
  have hok := hp.ok p[j] (List.getElem_mem hlt)
  rw [List.drop_eq_getElem_cons hlt, putL] at hL
  generalize p[j] = x at *
  obtain ⟨x1, x2, x6⟩ := hok
  have hR := termR_ok (l := l) x1 x2
  refine ⟨_, _, _, _, _, _, _, _, _, _, _, _, _, ⟨by omega, by rw [Int.toNat_natCast]; exact hx, ⟨Nat.le_refl 13, _, _, _, _, _, _, _, _, _, _, _, _, _, ⟨rfl, ?_⟩⟩⟩⟩
  refine ⟨_, _, call_p enT (putTerm_p x l x1 x2 x6 hl) rfl ?_⟩
  generalize termR W64 l x = r at *
  refine br_i (fun h => ?_) (fun h => ?_)
  · have h : r.2 = 0 := by simpa using h
    rw [if_pos h] at hL
    refine ⟨_, _, call_p enA (add_p o r.1 hof hR.fit) rfl ?_⟩
    have hm : ResOk (mergeF W64 true o r.1) := mergeF_ok
    generalize mergeF W64 true o r.1 = m at *
    refine br_i (fun h2 => ?_) (fun h2 => ?_)
    · have h2 : m.2 ≠ 0 := by simpa using h2
      rw [if_pos h2] at hL
      exact ⟨by rw [← hL]; rfl, rfl⟩
    · have h2 : m.2 = 0 := by simpa using h2
      rw [if_neg (by simp [h2])] at hL
      exact ⟨⟨rfl, rfl, rfl, trivial⟩, rfl, p.length - (j + 1), by omega, j + 1, m.1, by omega, rfl, wrapj (by omega), rfl, hm.fit, hL⟩
  · have h : r.2 ≠ 0 := by simpa using h
    rw [if_neg h] at hL
    refine br_i (fun h2 => ?_) (fun h2 => absurd (by simpa using h2) h)
    exact ⟨by rw [← hL]; rfl, rfl⟩
theorem has1_p (t : Tm) (k : Int) (h0 : 0 ≤ k) (h1 : k < 12) : PCalls Try.prog 41 [.agg (tmP t), .ept [.con (.int .i64 k)] 0] (fun r => r = .con (.bool (decide (0 < t.e.at k.toNat)))) := by
  refine pcalls_weak (a41h _ _ _ _ _ _ _ _ _ _ _ _ _ _ _ ?_)
  unfold p41h
  refine ⟨h0, by omega, _, ⟨tm_row h0 h1, ?_⟩⟩
  have e : decide (((t.e.at k.toNat : Nat) : Int) > 0) = decide (0 < t.e.at k.toNat) := by
    rw [Bool.eq_iff_iff, decide_eq_true_iff, decide_eq_true_iff]; omega
  rw [← e]
  exact ⟨rfl, rfl⟩
def fstI (k : Nat) : List Tm → Int → Int
  | [], _ => -1
  | t :: r, j => if 0 < t.e.at k then j else fstI k r (j + 1)
theorem fstI_any (k : Nat) : ∀ (p : List Tm) (j : Int), 0 ≤ j → (decide (fstI k p j ≥ 0) = p.any fun t => decide (0 < t.e.at k))
  | [], j, h => rfl
  | t :: r, j, h => by
    rw [fstI, List.any_cons]
    by_cases hh : 0 < t.e.at k
    · rw [if_pos hh, decide_eq_true hh, Bool.true_or, decide_eq_true h]
    · rw [if_neg hh, decide_eq_false hh, Bool.false_or, fstI_any k r (j + 1) (by omega)]
theorem index_p (p : List Tm) (k : Int) (h0 : 0 ≤ k) (h1 : k < 12) (hl : p.length ≤ 100000) : PCalls Try.prog 53 [.sl (plP p), .fn 41 [.ept [.con (.int .i64 k)] 0]] (fun r => r = .con (.int .i64 (fstI k.toNat p 0))) := by
  obtain ⟨M, hM⟩ : ∃ M, fstI k.toNat p 0 = M := ⟨_, rfl⟩
  rw [hM]
  refine pcalls_weak (a53h _ _ _ ?_)
  unfold p53h
  rw [plP_len]
  refine ⟨fun c v => ∃ (j : Nat), j ≤ p.length ∧ c = p.length - j ∧ v.1 = (j : Int) ∧ fstI k.toNat (p.drop j) j = M, ⟨_, 0, Nat.zero_le _, rfl, rfl, hM⟩, ?_⟩
  rintro c ⟨i, u⟩ ⟨j, hj, rfl, hi, hL⟩
  dsimp only at hi hL ⊢
  subst hi
  refine br_i (fun hlt => ?_) (fun hge => ?_)
  rotate_left
  · have hge : ¬ j < p.length := by have := of_decide_eq_false hge; omega
    rw [List.drop_of_length_le (by omega), fstI] at hL
    exact ⟨by rw [← hL]; rfl, rfl⟩
  have hlt : j < p.length := by have := of_decide_eq_true hlt; omega
  have hx := plP_at (List.getElem?_eq_getElem hlt)
  rw [List.drop_eq_getElem_cons hlt, fstI] at hL
  generalize p[j] = x at *
  refine ⟨_, _, _, _, _, _, _, _, _, _, _, _, _, ⟨by omega, by rw [Int.toNat_natCast]; exact hx, _, call_p (enters_of Try.func41 (by kernel_rfl) rfl) (has1_p x k h0 h1) rfl ?_⟩⟩
  refine br_i (fun h => ?_) (fun h => ?_)
  · rw [if_pos (of_decide_eq_true h)] at hL
    exact ⟨by rw [← hL]; rfl, rfl⟩
  · rw [if_neg (of_decide_eq_false h)] at hL
    exact ⟨⟨rfl, rfl, rfl, trivial⟩, rfl, p.length - (j + 1), by omega, j + 1, by omega, rfl, wrapj (by omega), hL⟩
theorem has_p (p : List Tm) (k : Int) (hl : p.length ≤ 100000) : PCalls Try.prog 21 [.sl (plP p), .con (.int .i64 k)] (fun r => r = .con (.bool (hasF p k))) := by
  refine pcalls_weak (a21 _ _ _ ?_)
  unfold p21
  refine ⟨_, call_p (enters_of Try.func35 (by kernel_rfl) rfl) (unk_p k) rfl ?_⟩
  refine br_i (fun h => ?_) (fun h => ?_)
  · have h : 0 ≤ k ∧ k < 12 := by simpa using h
    have hh : hasF p k = decide (fstI k.toNat p 0 ≥ 0) := by
      rw [fstI_any _ _ _ (Int.le_refl 0)]
      unfold hasF
      congr 1
      funext t
      unfold hasT
      rw [decide_eq_true h.1, decide_eq_true h.2]; rfl
    have hc : PCalls Try.prog 40 [.sl (plP p), .fn 41 [.ept [.con (.int .i64 k)] 0]] (fun r => r = .con (.bool (hasF p k))) := by
      refine pcalls_weak (a40h _ _ _ ?_)
      unfold p40h
      refine ⟨_, call_p (enters_of Try.func53 (by kernel_rfl) rfl) (index_p p k h.1 h.2 hl) rfl ?_⟩
      rw [hh]
      exact ⟨rfl, rfl⟩
    refine ⟨_, call_p (enters_of Try.func40 (by kernel_rfl) rfl) hc rfl ?_⟩
    exact ⟨rfl, rfl⟩
  · have h : ¬ (0 ≤ k ∧ k < 12) := by simp at h; omega
    have : hasF p k = false := by
      unfold hasF
      rw [List.any_eq_false]
      intro t _
      unfold hasT
      simp
      intro a b
      omega
    rw [this]
    exact ⟨rfl, rfl⟩
set_option maxHeartbeats 1000000 in
theorem split_p (p : List Tm) (k : Int) (hp : p.length ≤ 1000) : PCalls Try.prog 17 [.sl (plP p), .con (.int .i64 k)] (fun r => r = splitP (splitL k p [] 0)) := by
  rw [split_rest, List.nil_append]
  refine pcalls_weak (a17 _ _ _ ?_)
  unfold p17
  refine ⟨_, _, call_p (enters_of Try.func13 (by kernel_rfl) rfl) (var_p k) rfl ?_⟩
  rw [plP_len]
  refine ⟨fun c v => ∃ (j : Nat) (o : List Tm), j ≤ p.length ∧ c = p.length - j ∧ v.2.2.1 = (j : Int) ∧ v.2.1 = plP o ∧ o.length ≤ j ∧ o ++ restL k (p.drop j) = restL k p ∧ lastC k (p.drop j) v.1 = lastC k p 0, ⟨_, 0, [], Nat.zero_le _, rfl, rfl, rfl, Nat.zero_le _, rfl, rfl⟩, ?_⟩
  rintro c ⟨n, ls, i, u⟩ ⟨j, o, hj, rfl, hi, ho, hol, hR, hC⟩
  dsimp only at hi ho hC ⊢
  subst hi ho
  refine br_i (fun hlt => ?_) (fun hge => ?_)
  rotate_left
  · have hge : ¬ j < p.length := by have := of_decide_eq_false hge; omega
    rw [List.drop_of_length_le (by omega)] at hR hC
    have hR : o = restL k p := by rw [← hR]; simp [restL]
    have hC : n = lastC k p 0 := hC
    refine ⟨_, call_p (enters_of Try.func21 (by kernel_rfl) rfl) (has_p o k (by omega)) rfl ?_⟩
    rw [← hR, ← hC]
    refine br_i (fun h => ?_) (fun h => ?_)
    · rw [h]; exact ⟨rfl, rfl⟩
    · rw [h]; exact ⟨rfl, rfl⟩
  have hlt : j < p.length := by have := of_decide_eq_true hlt; omega
  have hx := plP_at (List.getElem?_eq_getElem hlt)
  rw [List.drop_eq_getElem_cons hlt] at hR hC
  generalize p[j] = x at *
  rw [lastC] at hC
  have keep : isVarT k x = false → o ++ [x] ++ restL k (p.drop (j + 1)) = restL k p ∧ lastC k (p.drop (j + 1)) n = lastC k p 0 := fun hv => by
    rw [hv] at hC
    have e : restL k (x :: p.drop (j + 1)) = x :: restL k (p.drop (j + 1)) := by unfold restL; rw [List.filter_cons, hv]; rfl
    rw [e] at hR
    exact ⟨by rw [List.append_assoc]; exact hR, hC⟩
  refine ⟨_, _, _, _, _, _, _, _, _, _, _, _, _, ⟨by omega, by rw [Int.toNat_natCast]; exact hx, ⟨Nat.le_refl 13, ?_⟩⟩⟩
  by_cases hk : k < 0 ∨ k ≥ 12
  · have hv : varF k = ([], 20) := by unfold varF; rw [if_pos hk]
    have hnv : isVarT k x = false := by
      unfold isVarT
      rcases hk with h | h
      · rw [decide_eq_false (show ¬ 0 ≤ k by omega)]; rfl
      · rw [decide_eq_false (show ¬ k < 12 by omega)]; simp
    obtain ⟨k1, k2⟩ := keep hnv
    rw [hv]
    refine br_i (fun h => by cases h) (fun _ => ?_)
    refine ⟨_, _, _, _, _, _, _, _, _, _, _, _, _, ⟨rfl, ⟨by simp [plP_len]; omega, one_tm [x], ?_⟩⟩⟩
    exact ⟨⟨rfl, rfl, rfl, rfl, rfl, trivial⟩, rfl, p.length - (j + 1), by omega, j + 1, o ++ [x], by omega, rfl, wrapj (by omega), by rw [plP_app]; rfl, by simp; omega, k1, k2⟩
  · have hv : varF k = ([⟨1, oneE k.toNat⟩], 0) := by unfold varF; rw [if_neg hk]
    have hvt : isVarT k x = decide (x.e = oneE k.toNat) := by
      unfold isVarT
      rw [decide_eq_true (show 0 ≤ k by omega), decide_eq_true (show k < 12 by omega)]; rfl
    rw [hv]
    refine br_i (fun _ => ?_) (fun h => by cases h)
    refine ⟨_, _, _, _, _, _, _, _, _, _, _, _, ⟨rfl, _, _, _, _, _, _, _, _, _, _, _, _, _, ⟨by decide, rfl, ⟨by kernel_rfl, by kernel_rfl, ?_⟩⟩⟩⟩
    rw [eq12]
    refine br_i (fun he => ?_) (fun he => ?_)
    · have hvt : isVarT k x = true := by rw [hvt]; exact he
      rw [if_pos hvt] at hC
      have e : restL k (x :: p.drop (j + 1)) = restL k (p.drop (j + 1)) := by unfold restL; rw [List.filter_cons, hvt]; rfl
      rw [e] at hR
      refine ⟨_, ⟨rfl, ?_⟩⟩
      exact ⟨⟨rfl, rfl, rfl, rfl, rfl, trivial⟩, rfl, p.length - (j + 1), by omega, j + 1, o, by omega, rfl, wrapj (by omega), rfl, by omega, hR, hC⟩
    · obtain ⟨k1, k2⟩ := keep (by rw [hvt]; exact he)
      refine ⟨_, _, _, _, _, _, _, _, _, _, _, _, _, ⟨rfl, ⟨by simp [plP_len]; omega, one_tm [x], ?_⟩⟩⟩
      exact ⟨⟨rfl, rfl, rfl, rfl, rfl, trivial⟩, rfl, p.length - (j + 1), by omega, j + 1, o ++ [x], by omega, rfl, wrapj (by omega), by rw [plP_app]; rfl, by simp; omega, k1, k2⟩
theorem poly_is : PolyIs where
  num := num_p
  var := var_p
  fit := fun p _ => fit_p p
  at' := fun p l hp _ => at_p p l hp
  has := fun p k hp => has_p p k (by have := hp.len; omega)
  split := fun p k hp => split_p p k (by have := hp.len; omega)
  add := add_p
  mul := mul_p
  max := max_p
  put := fun p l hp hl _ => put_p p l hp hl
end Go.Proofs.Ytbhbgaihhilfmaa.Deep

namespace Go.Proofs.Ytbhbgaihhilfmaa.Deep
open Go.RowKit
set_option linter.unusedVariables false
def p10  (Q : PV → Heap → Prop) : Prop :=
∃ (l1 : LL) (i2 : Int), CallN Try.prog 13 [(.con (.int .i64 0))] [] (.tup [l1, i2])
  (∃ (l3 : LL) (i4 : Int), CallN Try.prog 11 [(.con (.int .i64 2))] [] (.tup [l3, i4])
  (∃ (l5 : LL) (i6 : Int), CallN Try.prog 11 [(.con (.int .i64 3))] [] (.tup [l5, i6])
  (∃ (l7 : LL) (i8 : Int), CallN Try.prog 24 [l1, l3] [] (.tup [l7, i8])
  (∃ (l9 : LL) (i10 : Int), CallN Try.prog 24 [l1, l5] [] (.tup [l9, i10])
  (∃ (l11 : LL) (i12 : Int), CallN Try.prog 26 [l7, l9] [] (.tup [l11, i12])
  (∃ (i13 i14 : Int), CallN Try.prog 15 [l11, (.sl [[(.con (.int .i64 4))]])] [[.tip]] (.tup [i13, i14])
  (br (((i12 : Int) == 0))
  (br ((((List.length l11 : Int) : Int) == 3))
  (∃ (i15 i16 i17 i18 i19 i20 i21 i22 i23 i24 i25 i26 i27 : Int), IdxN l11 0 [(.con (.int .u8 i15)), (.con (.int .u8 i16)), (.con (.int .u8 i17)), (.con (.int .u8 i18)), (.con (.int .u8 i19)), (.con (.int .u8 i20)), (.con (.int .u8 i21)), (.con (.int .u8 i22)), (.con (.int .u8 i23)), (.con (.int .u8 i24)), (.con (.int .u8 i25)), (.con (.int .u8 i26)), i27]
  (br (((i27 : Int) == 6))
  (br (((i14 : Int) == 0))
  (Q (.con (.bool ((i13 : Int) == 42))) [[.tip]])
  (Q (.con (.bool false)) [[.tip]]))
  (Q (.con (.bool false)) [[.tip]])))
  (Q (.con (.bool false)) [[.tip]]))
  (Q (.con (.bool false)) [[.tip]]))))))))
theorem a10  (Q : PV → Heap → Prop) (h : p10  Q) : ACalls Try.prog 10 [] [] Q := by
  have hb : Option.some (bodyOf Try.f10) = Try.f10.body := by kernel_rfl
  exact acalls_eq (S := S) (L := loops54) mixed tok Try.func10 hb.symm (by kernel_rfl) h
end Go.Proofs.Ytbhbgaihhilfmaa.Deep

namespace Go.Proofs.Ytbhbgaihhilfmaa.Deep
open Go.RowKit Poly
set_option linter.unusedVariables false
set_option linter.unusedSimpArgs false
def xK : List Tm := [⟨1, oneE 0⟩]
def aK (n : Int) : List Tm := [⟨n, zeroE⟩, ⟨1, oneE 0⟩]
def pK : List Tm := [⟨6, zeroE⟩, ⟨5, oneE 0⟩, ⟨1, addE (oneE 0) (oneE 0)⟩]
def keyT (t : Tm) : Int × List Nat := (t.c, (List.range 12).map t.e.at)
theorem keyT_inj {a b : Tm} (h : keyT a = keyT b) : a = b := by
  obtain ⟨c, e⟩ := a
  obtain ⟨d, f⟩ := b
  simp only [keyT, Prod.mk.injEq] at h
  obtain ⟨rfl, h⟩ := h
  rw [List.map_inj_left] at h
  rw [Ex.ext (fun i hi => h i (List.mem_range.2 hi))]
theorem keys_inj : ∀ {p q : List Tm}, p.map keyT = q.map keyT → p = q
  | [], [], _ => rfl
  | [], _ :: _, h => by simp at h
  | _ :: _, [], h => by simp at h
  | a :: p, b :: q, h => by
    rw [List.map_cons, List.map_cons, List.cons.injEq] at h
    rw [keyT_inj h.1, keys_inj h.2]
theorem res_eq {r q : Res} (h : r.1.map keyT = q.1.map keyT) (h2 : r.2 = q.2) : r = q := Prod.ext (keys_inj h) h2
theorem k_var : varF 0 = (xK, 0) := res_eq (by decide +kernel) (by decide +kernel)
theorem k_two : numF 2 = ([⟨2, zeroE⟩], 0) := res_eq (by decide +kernel) (by decide +kernel)
theorem k_three : numF 3 = ([⟨3, zeroE⟩], 0) := res_eq (by decide +kernel) (by decide +kernel)
theorem k_a : mergeF W64 true xK [⟨2, zeroE⟩] = (aK 2, 0) := res_eq (by decide +kernel) (by decide +kernel)
theorem k_b : mergeF W64 true xK [⟨3, zeroE⟩] = (aK 3, 0) := res_eq (by decide +kernel) (by decide +kernel)
theorem k_p : mulF W64 (aK 2) (aK 3) = (pK, 0) := res_eq (by decide +kernel) (by decide +kernel)
theorem k_at : atF pK [4] = (42, 0) := by decide +kernel
theorem k_fx : FitP xK := (fitF_iff _).1 (by decide +kernel)
theorem k_f2 : FitP [⟨2, zeroE⟩] := (fitF_iff _).1 (by decide +kernel)
theorem k_f3 : FitP [⟨3, zeroE⟩] := (fitF_iff _).1 (by decide +kernel)
theorem k_fa : FitP (aK 2) := (fitF_iff _).1 (by decide +kernel)
theorem k_fb : FitP (aK 3) := (fitF_iff _).1 (by decide +kernel)
theorem k_fp : FitP pK := (fitF_iff _).1 (by decide +kernel)
theorem awake_is (I : PolyIs) : AwakeIs := by
  have hx := I.var 0
  have h2 := I.num 2
  have h3 := I.num 3
  have ha := I.add xK _ k_fx k_f2
  have hb := I.add xK _ k_fx k_f3
  have hp := I.mul _ _ k_fa k_fb
  have ht := I.at' pK [4] k_fp (by decide)
  rw [k_var] at hx
  rw [k_two] at h2
  rw [k_three] at h3
  rw [k_a] at ha
  rw [k_b] at hb
  rw [k_p] at hp
  rw [k_at] at ht
  have enA : Enters Try.prog 24 := enters_of Try.func24 (by kernel_rfl) rfl
  have enN : Enters Try.prog 11 := enters_of Try.func11 (by kernel_rfl) rfl
  refine pcalls_weak (a10 _ ?_)
  unfold p10
  refine ⟨_, _, call_p (enters_of Try.func13 (by kernel_rfl) rfl) hx rfl ?_⟩
  refine ⟨_, _, call_p enN h2 rfl ?_⟩
  refine ⟨_, _, call_p enN h3 rfl ?_⟩
  refine ⟨_, _, call_p enA ha rfl ?_⟩
  refine ⟨_, _, call_p enA hb rfl ?_⟩
  refine ⟨_, _, call_p (enters_of Try.func26 (by kernel_rfl) rfl) hp rfl ?_⟩
  refine ⟨_, _, call_p (enters_of Try.func15 (by kernel_rfl) rfl) ht rfl ?_⟩
  refine br_i (fun _ => ?_) (fun h => absurd h (by simp))
  refine br_i (fun _ => ?_) (fun h => absurd h (by simp [plP, pK]))
  refine ⟨_, _, _, _, _, _, _, _, _, _, _, _, _, ⟨by decide, by exact (rfl : (plP pK)[0]? = some (tmP ⟨6, zeroE⟩)), ?_⟩⟩
  refine br_i (fun _ => ?_) (fun h => absurd h (by simp))
  refine br_i (fun _ => ?_) (fun h => absurd h (by simp))
  exact ⟨rfl, rfl⟩
end Go.Proofs.Ytbhbgaihhilfmaa.Deep
