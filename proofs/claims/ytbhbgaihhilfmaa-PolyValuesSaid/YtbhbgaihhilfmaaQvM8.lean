/-
  Texts of one proof, in their order. No condition.
-/
import Derived.Test.YtbhbgaihhilfmaaQvM7
namespace Go.Proofs.Ytbhbgaihhilfmaa.Poly
set_option linter.unusedVariables false
set_option linter.unusedSimpArgs false
theorem mul_val {wr : Int → Int} (hw : Small wr) {a b : List Tm} (ha : FitP a) (hb : FitP b) (X : Nat → Int) (h : (mulF wr a b).2 = 0) : lin (G X) (mulF wr a b).1 = lin (G X) a * lin (G X) b := by
  rw [mul_eq hw ha hb] at h ⊢
  rw [fitO_zero h, lin_norm, lin_G_prod]
theorem add_val {wr : Int → Int} (hw : Small wr) {a b : List Tm} (ha : FitP a) (hb : FitP b) (F : Ex → Int) (h : (mergeF wr true a b).2 = 0) : lin F (mergeF wr true a b).1 = lin F a + lin F b := by
  rw [add_eq hw ha hb] at h ⊢
  rw [fitO_zero h, lin_norm, lin_app]
theorem lin_put_ge {F : Ex → Int} (hF : ∀ e, 0 ≤ F e) {t : Tm} (ht : 0 ≤ t.c) : ∀ {p : List Tm}, lin F p ≤ lin F (put false t p)
  | [] => by simp only [put, lin]; have := Int.mul_nonneg ht (hF t.e); omega
  | x :: r => by
    unfold put
    split
    · show _ ≤ t.c * F t.e + lin F (x :: r)
      have := Int.mul_nonneg ht (hF t.e); omega
    · split
      · rw [lin, lin]
        have h1 : x.c ≤ max x.c t.c := by omega
        have := Int.mul_le_mul_of_nonneg_right h1 (hF x.e)
        simp only [Bool.false_eq_true, if_false]
        omega
      · rw [lin, lin]; have := lin_put_ge hF ht (p := r); omega
theorem lin_lay_ge {F : Ex → Int} (hF : ∀ e, 0 ≤ F e) : ∀ {q p : List Tm}, Pos q → lin F p ≤ lin F (lay false q p)
  | [], p, _ => Int.le_refl _
  | t :: r, p, hq => by
    show _ ≤ lin F (lay false r (put false t p))
    have h1 := lin_put_ge hF (t := t) (p := p) (by have := hq t (by simp); omega)
    have h2 := lin_lay_ge hF (q := r) (p := put false t p) (fun y hy => hq y (by simp [hy]))
    omega
theorem max_comm' {wr : Int → Int} (hw : Small wr) {a b : List Tm} (ha : FitP a) (hb : FitP b) : mergeF wr false a b = mergeF wr false b a := by
  rw [max_eq hw ha hb, max_eq hw hb ha, uniq (lay_up ha.up) (lay_up hb.up) (lay_pos hb.pos ha.pos) (lay_pos ha.pos hb.pos) (fun e => by rw [co_layMax hb.up hb.pos ha.up ha.pos, co_layMax ha.up ha.pos hb.up hb.pos]; omega)]
theorem fitO_fit {p : List Tm} (h : FitP p) : fitO p = (p, 0) := by unfold fitO; rw [if_pos ((fitF_iff p).2 h)]
theorem max_ge {wr : Int → Int} (hw : Small wr) {a b : List Tm} (ha : FitP a) (hb : FitP b) {F : Ex → Int} (hF : ∀ e, 0 ≤ F e) (h : (mergeF wr false a b).2 = 0) : lin F a ≤ lin F (mergeF wr false a b).1 ∧ lin F b ≤ lin F (mergeF wr false a b).1 := by
  constructor
  · rw [max_eq hw ha hb] at h ⊢
    rw [fitO_zero h]; exact lin_lay_ge hF hb.pos
  · rw [max_comm' hw ha hb] at h ⊢
    rw [max_eq hw hb ha] at h ⊢
    rw [fitO_zero h]; exact lin_lay_ge hF ha.pos
theorem split_co {k : Int} : ∀ {p o : List Tm} {n : Int} {r : List Tm × Int}, splitL k p o n = some r → Up p → (n = 0 ∨ ∀ t ∈ p, isVarT k t = false) → ∀ e, co r.1 e + (if oneE k.toNat = e then r.2 else 0) = co o e + co p e + (if oneE k.toNat = e then n else 0)
  | [], o, n, r, h, _, _, e => by
    simp only [splitL, Option.some.injEq] at h; subst h
    show co o e + _ = co o e + co [] e + _
    have : co [] e = 0 := rfl
    rw [this]; split <;> omega
  | t :: p, o, n, r, h, hu, hn, e => by
    obtain ⟨u1, u2⟩ := List.pairwise_cons.1 hu
    unfold splitL at h
    split at h
    · rename_i hv
      have hn0 : n = 0 := by
        rcases hn with h0 | h0
        · exact h0
        · exact absurd hv (by rw [h0 t (by simp)]; simp)
      have he : t.e = oneE k.toNat := by
        unfold isVarT at hv
        rw [Bool.and_eq_true, decide_eq_true_iff] at hv
        exact hv.2
      have := split_co h u2 (.inr (fun x hx => by
        unfold isVarT
        have h3 := u1 x hx
        have : x.e ≠ oneE k.toNat := fun h4 => by rw [h4, he] at h3; exact Lt.irrefl _ h3
        rw [decide_eq_false this, Bool.and_false])) e
      rw [this, co_cons, he, hn0]
      split <;> omega
    · rename_i hv
      split at h
      · cases h
      · have := split_co h u2 (by
          rcases hn with h0 | h0
          · exact .inl h0
          · exact .inr (fun x hx => h0 x (by simp [hx]))) e
        rw [this]
        have : co (o ++ [t]) e = co o e + co [t] e := by unfold co; rw [lin_app]
        rw [this, co_cons, co_cons]
        have : co [] e = 0 := rfl
        rw [this]
        omega
theorem split_sub {k : Int} : ∀ {p o : List Tm} {n : Int} {r : List Tm × Int}, splitL k p o n = some r → ∃ q, r.1 = o ++ q ∧ q.Sublist p ∧ (∀ t ∈ q, hasT k t = false)
  | [], o, n, r, h => by
    simp only [splitL, Option.some.injEq] at h; subst h
    exact ⟨[], by simp, by simp, by simp⟩
  | t :: p, o, n, r, h => by
    unfold splitL at h
    split at h
    · obtain ⟨q, h1, h2, h3⟩ := split_sub h
      exact ⟨q, h1, h2.cons _, h3⟩
    · split at h
      · cases h
      · rename_i hh
        obtain ⟨q, h1, h2, h3⟩ := split_sub h
        refine ⟨t :: q, by rw [h1]; simp, h2.cons_cons _, fun x hx => ?_⟩
        rcases List.mem_cons.1 hx with rfl | hx
        · simpa using hh
        · exact h3 x hx
theorem split_num {k : Int} : ∀ {p o : List Tm} {n : Int} {r : List Tm × Int}, splitL k p o n = some r → r.2 = n ∨ ∃ t ∈ p, t.c = r.2
  | [], o, n, r, h => by simp only [splitL, Option.some.injEq] at h; subst h; exact .inl rfl
  | t :: p, o, n, r, h => by
    unfold splitL at h
    split at h
    · rcases split_num h with h1 | ⟨x, hx, h1⟩
      · exact .inr ⟨t, by simp, h1.symm⟩
      · exact .inr ⟨x, by simp [hx], h1⟩
    · split at h
      · cases h
      · rcases split_num h with h1 | ⟨x, hx, h1⟩
        · exact .inl h1
        · exact .inr ⟨x, by simp [hx], h1⟩
theorem FitP.sub {p q : List Tm} (h : FitP p) (s : q.Sublist p) : FitP q := ⟨Nat.le_trans s.length_le h.len, h.up.sublist s, fun t ht => h.ok t (s.subset ht)⟩
theorem split_fit {k : Int} {p : List Tm} {r : List Tm × Int} (hp : FitP p) (h : splitL k p [] 0 = some r) : FitP r.1 ∧ hasF r.1 k = false ∧ 0 ≤ r.2 ∧ r.2 ≤ 1099511627776 := by
  obtain ⟨q, h1, h2, h3⟩ := split_sub h
  rw [List.nil_append] at h1
  refine ⟨by rw [h1]; exact hp.sub h2, ?_, ?_⟩
  · rw [h1]; unfold hasF; rw [List.any_eq_false]; intro t ht; rw [h3 t ht]; simp
  · rcases split_num h with g | ⟨t, ht, g⟩
    · omega
    · have := hp.ok t ht; omega
theorem split_back {wr : Int → Int} (hw : Small wr) {k : Int} {p : List Tm} {r : List Tm × Int} (hp : FitP p) (hk : 0 ≤ k ∧ k < 12) (h : splitL k p [] 0 = some r) (one : List Tm) (ho : (r.2 < 1 ∧ one = []) ∨ (1 ≤ r.2 ∧ one = [⟨r.2, zeroE⟩])) : (mulF wr one [⟨1, oneE k.toNat⟩]).2 = 0 ∧ mergeF wr true (mulF wr one [⟨1, oneE k.toNat⟩]).1 r.1 = (p, 0) := by
  obtain ⟨fr, _, n0, n1⟩ := split_fit hp h
  have hc := split_co h hp.up (.inl rfl)
  have c0 : ∀ e, co [] e = 0 := fun _ => rfl
  rcases ho with ⟨h1, rfl⟩ | ⟨h1, rfl⟩
  · have e0 : r.2 = 0 := by omega
    have e1 : mulF wr [] [⟨1, oneE k.toNat⟩] = ([], 0) := rfl
    rw [e1]
    refine ⟨rfl, ?_⟩
    rw [add_eq hw FitP.nil fr, List.nil_append, norm_of fr.up fr.pos]
    have : r.1 = p := uniq fr.up hp.up fr.pos hp.pos (fun e => by have := hc e; rw [e0, c0] at this; split at this <;> omega)
    rw [this, fitO_fit hp]
  · have ea : addE zeroE (oneE k.toNat) = oneE k.toNat := by funext j; simp [addE, zeroE]
    have fz : FitP [⟨r.2, oneE k.toNat⟩] := by
      have := one_ok k.toNat
      refine ⟨by simp, by simp, fun t ht => ?_⟩
      rw [List.mem_singleton] at ht; subst ht
      exact ⟨h1, n1, (this.ok ⟨1, oneE k.toNat⟩ (by simp)).2.2⟩
    have e1 : mulF wr [⟨r.2, zeroE⟩] [⟨1, oneE k.toNat⟩] = ([⟨r.2, oneE k.toNat⟩], 0) := by
      rw [mul_eq hw (num_ok h1 n1) (one_ok _)]
      have : prodL [⟨r.2, zeroE⟩] [⟨1, oneE k.toNat⟩] = [⟨r.2, oneE k.toNat⟩] := by
        simp [prodL, pairs, mulT, ea]
      rw [this, norm_of fz.up fz.pos, fitO_fit fz]
    rw [e1]
    refine ⟨rfl, ?_⟩
    rw [add_eq hw fz fr]
    have : norm ([⟨r.2, oneE k.toNat⟩] ++ r.1) = p := by
      refine uniq (norm_up _) hp.up (norm_pos (pos_app fz.pos fr.pos)) hp.pos (fun e => ?_)
      rw [co_norm]
      have h2 := hc e
      have : co ([⟨r.2, oneE k.toNat⟩] ++ r.1) e = co [⟨r.2, oneE k.toNat⟩] e + co r.1 e := by unfold co; rw [lin_app]
      rw [this, co_cons, c0]
      rw [c0] at h2
      simp only at h2 ⊢
      split at h2 <;> simp_all <;> omega
    rw [this, fitO_fit hp]
end Go.Proofs.Ytbhbgaihhilfmaa.Poly
