/-
  Texts of one proof, in their order. No condition.
-/
import Derived.Test.YtbhbgaihhilfmaaQsM7
namespace Go.Proofs.Ytbhbgaihhilfmaa.Poly
set_option linter.unusedVariables false
set_option linter.unusedSimpArgs false
theorem add_val {wr : Int → Int} (hw : Small wr) {a b : List Tm} (ha : FitP a) (hb : FitP b) (F : Ex → Int) (h : (mergeF wr true a b).2 = 0) : lin F (mergeF wr true a b).1 = lin F a + lin F b := by
  rw [add_eq hw ha hb] at h ⊢
  rw [fitO_zero h, lin_norm, lin_app]
theorem lin_put_le {F : Ex → Int} (hF : ∀ e, 0 ≤ F e) {t : Tm} (ht : 0 ≤ t.c) : ∀ {p : List Tm}, Pos p → lin F (put false t p) ≤ lin F p + t.c * F t.e
  | [], _ => by simp only [put, lin]; omega
  | x :: r, hp => by
    have hx := hp x (by simp)
    unfold put
    split
    · rw [lin]; omega
    · split
      · rename_i he
        rw [lin, lin]
        have h1 : max x.c t.c ≤ x.c + t.c := by omega
        have := Int.mul_le_mul_of_nonneg_right h1 (hF x.e)
        rw [Int.add_mul] at this
        simp only [Bool.false_eq_true, if_false]
        rw [he] at this ⊢
        omega
      · rw [lin, lin]; have := lin_put_le hF ht (p := r) (fun y hy => hp y (by simp [hy])); omega
theorem lin_lay_le {F : Ex → Int} (hF : ∀ e, 0 ≤ F e) : ∀ {q p : List Tm}, Pos q → Pos p → lin F (lay false q p) ≤ lin F p + lin F q
  | [], p, _, _ => by simp [lay, lin]
  | t :: r, p, hq, hp => by
    have ht := hq t (by simp)
    show lin F (lay false r (put false t p)) ≤ _
    have h1 := lin_put_le hF (t := t) (p := p) (by omega) hp
    have h2 := lin_lay_le hF (q := r) (p := put false t p) (fun y hy => hq y (by simp [hy])) (put_pos ht hp)
    rw [lin]; omega
theorem max_comm' {wr : Int → Int} (hw : Small wr) {a b : List Tm} (ha : FitP a) (hb : FitP b) : mergeF wr false a b = mergeF wr false b a := by
  rw [max_eq hw ha hb, max_eq hw hb ha, uniq (lay_up ha.up) (lay_up hb.up) (lay_pos hb.pos ha.pos) (lay_pos ha.pos hb.pos) (fun e => by rw [co_layMax hb.up hb.pos ha.up ha.pos, co_layMax ha.up ha.pos hb.up hb.pos]; omega)]
theorem fitO_fit {p : List Tm} (h : FitP p) : fitO p = (p, 0) := by unfold fitO; rw [if_pos ((fitF_iff p).2 h)]
theorem max_self {wr : Int → Int} (hw : Small wr) {a : List Tm} (ha : FitP a) : mergeF wr false a a = (a, 0) := by
  rw [max_eq hw ha ha, uniq (lay_up ha.up) ha.up (lay_pos ha.pos ha.pos) ha.pos (fun e => by rw [co_layMax ha.up ha.pos ha.up ha.pos]; omega), fitO_fit ha]
theorem max_le {wr : Int → Int} (hw : Small wr) {a b : List Tm} (ha : FitP a) (hb : FitP b) {F : Ex → Int} (hF : ∀ e, 0 ≤ F e) (h : (mergeF wr false a b).2 = 0) : lin F (mergeF wr false a b).1 ≤ lin F a + lin F b := by
  rw [max_eq hw ha hb] at h ⊢
  rw [fitO_zero h]; exact lin_lay_le hF hb.pos ha.pos
theorem lin_mono {X Y : Nat → Int} (h : ∀ k, 0 ≤ X k) (g : ∀ k, X k ≤ Y k) : ∀ {p : List Tm}, Pos p → lin (G X) p ≤ lin (G Y) p
  | [], _ => by simp [lin]
  | t :: r, hp => by
    have ht := hp t (by simp)
    rw [lin, lin]
    have h1 := Int.mul_le_mul_of_nonneg_left (G_mono h g t.e) (by omega : (0 : Int) ≤ t.c)
    have h2 := lin_mono h g (p := r) (fun y hy => hp y (by simp [hy]))
    omega
theorem FitP.sub {p q : List Tm} (h : FitP p) (s : q.Sublist p) : FitP q := ⟨Nat.le_trans s.length_le h.len, h.up.sublist s, fun t ht => h.ok t (s.subset ht)⟩
end Go.Proofs.Ytbhbgaihhilfmaa.Poly
