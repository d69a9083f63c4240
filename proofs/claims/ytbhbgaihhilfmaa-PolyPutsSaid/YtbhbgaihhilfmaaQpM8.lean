/-
  Texts of one proof, in their order. No condition.
-/
import Derived.Test.YtbhbgaihhilfmaaQpM7
namespace Go.Proofs.Ytbhbgaihhilfmaa.Poly
set_option linter.unusedVariables false
set_option linter.unusedSimpArgs false
theorem mul_val {wr : Int → Int} (hw : Small wr) {a b : List Tm} (ha : FitP a) (hb : FitP b) (X : Nat → Int) (h : (mulF wr a b).2 = 0) : lin (G X) (mulF wr a b).1 = lin (G X) a * lin (G X) b := by
  rw [mul_eq hw ha hb] at h ⊢
  rw [fitO_zero h, lin_norm, lin_G_prod]
theorem add_val {wr : Int → Int} (hw : Small wr) {a b : List Tm} (ha : FitP a) (hb : FitP b) (F : Ex → Int) (h : (mergeF wr true a b).2 = 0) : lin F (mergeF wr true a b).1 = lin F a + lin F b := by
  rw [add_eq hw ha hb] at h ⊢
  rw [fitO_zero h, lin_norm, lin_app]
theorem FitP.sub {p q : List Tm} (h : FitP p) (s : q.Sublist p) : FitP q := ⟨Nat.le_trans s.length_le h.len, h.up.sublist s, fun t ht => h.ok t (s.subset ht)⟩
theorem powR_val {wr : Int → Int} (hw : Small wr) (X : Nat → Int) {x : List Tm} (hx : FitP x) : ∀ {n : Nat} {r : Res}, ResOk r → (powR wr r x n).2 = 0 → r.2 = 0 ∧ lin (G X) (powR wr r x n).1 = lin (G X) r.1 * pw (lin (G X) x) n
  | 0, r, hr, h => ⟨h, by simp [powR, pw]⟩
  | n + 1, r, hr, h => by
    unfold powR at h ⊢
    by_cases g : r.2 = 0
    · rw [if_pos g] at h ⊢
      obtain ⟨h1, h2⟩ := powR_val hw X hx mulF_ok h
      refine ⟨g, ?_⟩
      rw [h2, mul_val hw hr.fit hx X h1, pw, Int.mul_assoc]
    · rw [if_neg g] at h; exact absurd h g
def xVal (X : Nat → Int) (l : List (List Tm)) (k : Nat) : Int := lin (G X) (xOf l k)
theorem termL_val {wr : Int → Int} (hw : Small wr) (X : Nat → Int) {l : List (List Tm)} (hl : ∀ p ∈ l, FitP p) (e : Ex) : ∀ {ks : List Nat} {r : Res}, ResOk r → (ks.foldl (fun r k => powR wr r (xOf l k) (e.at k)) r).2 = 0 → r.2 = 0 ∧ lin (G X) (ks.foldl (fun r k => powR wr r (xOf l k) (e.at k)) r).1 = lin (G X) r.1 * GL (xVal X l) e ks
  | [], r, hr, h => ⟨h, by simp [GL]⟩
  | k :: ks, r, hr, h => by
    rw [List.foldl_cons] at h ⊢
    obtain ⟨h1, h2⟩ := termL_val hw X hl e (ks := ks) (powR_ok hr) h
    obtain ⟨h3, h4⟩ := powR_val hw X (xOf_fit hl k) hr h1
    refine ⟨h3, ?_⟩
    rw [h2, h4, GL, Int.mul_assoc]; rfl
theorem termR_val {wr : Int → Int} (hw : Small wr) (X : Nat → Int) {l : List (List Tm)} (hl : ∀ p ∈ l, FitP p) {t : Tm} (h0 : 1 ≤ t.c) (h1 : t.c ≤ 1099511627776) (h : (termR wr l t).2 = 0) : ResOk (termR wr l t) ∧ lin (G X) (termR wr l t).1 = t.c * G (xVal X l) t.e := by
  have ho : ResOk (([⟨t.c, zeroE⟩], 0) : Res) := .inl ⟨rfl, num_ok h0 h1⟩
  have hk : ∀ (ks : List Nat) (r : Res), ResOk r → ResOk (ks.foldl (fun r k => powR wr r (xOf l k) (t.e.at k)) r) := fun ks => by
    induction ks with
    | nil => exact fun r hr => hr
    | cons k ks ih => exact fun r hr => ih _ (powR_ok hr)
  unfold termR termFrom at *
  rw [List.drop_zero] at *
  refine ⟨hk _ _ ho, ?_⟩
  rw [(termL_val hw X hl t.e ho h).2]
  show (t.c * G X zeroE + 0) * _ = _
  rw [G_zero]; unfold G; rw [Int.mul_one, Int.add_zero]
theorem putL_val {wr : Int → Int} (hw : Small wr) (X : Nat → Int) {l : List (List Tm)} (hl : ∀ p ∈ l, FitP p) : ∀ {p o : List Tm}, FitP o → (∀ t ∈ p, 1 ≤ t.c ∧ t.c ≤ 1099511627776) → (putL wr l o p).2 = 0 → lin (G X) (putL wr l o p).1 = lin (G X) o + lin (G (xVal X l)) p
  | [], o, ho, _, _ => by simp [putL, lin]
  | t :: r, o, ho, hp, h => by
    have ht := hp t (by simp)
    unfold putL at h ⊢
    by_cases g : (termR wr l t).2 = 0
    · rw [if_pos g] at h ⊢
      obtain ⟨h1, h2⟩ := termR_val hw X hl ht.1 ht.2 g
      by_cases g2 : (mergeF wr true o (termR wr l t).1).2 ≠ 0
      · rw [if_pos g2] at h; exact absurd h g2
      · rw [if_neg g2] at h ⊢
        rw [putL_val hw X hl mergeF_ok.fit (fun x hx => hp x (by simp [hx])) h, add_val hw ho h1.fit (G X) (by simpa using g2), h2, lin, Int.add_assoc]
    · rw [if_neg g] at h; exact absurd h g
theorem put_val {wr : Int → Int} (hw : Small wr) (X : Nat → Int) {l : List (List Tm)} (hl : ∀ p ∈ l, FitP p) {p : List Tm} (hp : FitP p) (h : (putF wr p l).2 = 0) : lin (G X) (putF wr p l).1 = lin (G (xVal X l)) p := by
  unfold putF at *
  rw [putL_val hw X hl FitP.nil (fun t ht => ⟨(hp.ok t ht).1, (hp.ok t ht).2.1⟩) h]
  simp [lin]
theorem G_congr {X Y : Nat → Int} (h : ∀ k, k < 12 → X k = Y k) : G X = G Y := by
  funext e
  unfold G
  have : ∀ ks : List Nat, (∀ k ∈ ks, k < 12) → GL X e ks = GL Y e ks := fun ks => by
    induction ks with
    | nil => exact fun _ => rfl
    | cons k ks ih => exact fun g => by rw [GL, GL, h k (g k (by simp)), ih (fun j hj => g j (by simp [hj]))]
  exact this _ (fun k hk => List.mem_range.1 hk)
end Go.Proofs.Ytbhbgaihhilfmaa.Poly
