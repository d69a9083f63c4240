/-
  Texts of one proof, in their order. No condition.
-/
import Derived.OrdersIn
import Derived.TacticsIn
import Derived.Test.YtboopmfjkepilaaGreatDoorTxR11
namespace Go.Proofs.YtboopmfjkepilaaGreatDoor.Run
open Go.RowKit
set_option linter.unusedVariables false
set_option linter.unusedSimpArgs false
theorem blt_lt {a b : Nat} (h : Nat.blt a b = true) : a < b := Nat.le_of_ble_eq_true h
def tmpsL : List Operand → List Nat
  | [] => []
  | .tmp t :: r => t :: tmpsL r
  | _ :: r => tmpsL r
def dstOf (ops : List Oper) (j : Nat) : Option Tmp := match ops[j]? with | some o => o.dst | none => none
def findDst (t : Nat) : List Oper → Nat → Option Nat
  | [], _ => none
  | o :: r, i => match o.dst with
    | some d => match Nat.beq t d with | true => some i | false => findDst t r (i + 1)
    | none => findDst t r (i + 1)
def belowB (j : Nat) : List Edge → Bool
  | [] => true
  | e :: r => (!(Region.binds .any e) || Nat.blt e.on j) && belowB j r
def waitsL (i : Nat) : List Edge → Bool
  | [] => false
  | e :: r => (Region.binds .any e && Nat.beq e.on i) || waitsL i r
def waitsH (hd : List Oper) (i j : Nat) : Bool := match hd[i]? with | some o => waitsL j o.after.toList | none => false
def slotsOk (hd : List Oper) (j : Nat) (af : List Edge) : List Nat → Bool
  | [] => true
  | t :: r => (match findDst t hd 0 with | some i => (Nat.blt i j && waitsL i af) || (Nat.blt j i && waitsH hd i j) | none => true) && slotsOk hd j af r
def readsO (hd : List Oper) (o : Oper) : List Nat := match o.guard with
  | none => tmpsL o.op.operands.toList
  | some (i, _) => match dstOf hd i with | some t => t :: tmpsL o.op.operands.toList | none => tmpsL o.op.operands.toList
def guardOk (hd : List Oper) (o : Oper) (j : Nat) : Bool := match o.guard with
  | none => true
  | some (i, _) => Nat.blt i j && (match dstOf hd i with | some _ => true | none => false)
def calmL (hd : List Oper) : List Oper → Nat → Bool
  | [], _ => true
  | o :: r, j => guardOk hd o j && belowB j o.after.toList && slotsOk hd j o.after.toList (readsO hd o) &&
      (match o.dst with | some d => (match findDst d r 0 with | none => true | some _ => false) | none => true) && calmL hd r (j + 1)
def onsL : List Edge → List Nat
  | [] => []
  | e :: r => match Region.binds .any e with | true => e.on :: onsL r | false => onsL r
def onsO (hd : List Oper) (k : Nat) : List Nat := match hd[k]? with | some o => onsL o.after.toList | none => []
def downTo (hd : List Oper) : Nat → Nat → List Nat → List Nat
  | 0, _, ms => ms
  | f + 1, k, ms => match ms.any (Nat.beq k) with | true => downTo hd f (k - 1) (onsO hd k ++ ms) | false => downTo hd f (k - 1) ms
def waitsO (hd : List Oper) (j i : Nat) : Bool := (downTo hd (j - i) j [j]).any (Nat.beq i)
def upTo : Nat → List Nat
  | 0 => []
  | n + 1 => upTo n ++ [n]
def chainB (hd : List Oper) (E : Nat → Bool) : Nat → Nat → Option Nat → Bool
  | 0, _, _ => true
  | f + 1, j, pr => match E j with
    | true => (match pr with | some i => waitsO hd j i | none => true) && chainB hd E f (j + 1) (some j)
    | false => chainB hd E f (j + 1) pr
def mayB (hd : List Oper) (E : Nat → Bool) (n j k : Nat) : Bool := (match k with | 0 => true | k + 1 => E k && !(waitsO hd k j)) && (upTo n).all fun e => !(E e && Nat.blt e j && waitsO hd j e) || Nat.blt e k
def curIx (E seen : Nat → Bool) : Nat → Nat
  | 0 => 0
  | k + 1 => if E k && seen k then k + 1 else curIx E seen k
section
theorem upTo_all {f : Nat → Bool} {n : Nat} (h : (upTo n).all f = true) : ∀ i, i < n → f i = true := by
  induction n with
  | zero => intro i hi; omega
  | succ n ih =>
    intro i hi
    simp only [upTo, List.all_append, List.all_cons, List.all_nil, Bool.and_true, Bool.and_eq_true] at h
    by_cases he : i = n
    · rw [he]; exact h.2
    · exact ih h.1 i (by omega)
theorem upTo_of {f : Nat → Bool} {n : Nat} (h : ∀ i, i < n → f i = true) : (upTo n).all f = true := by
  induction n with
  | zero => rfl
  | succ n ih =>
    simp only [upTo, List.all_append, List.all_cons, List.all_nil, Bool.and_true, Bool.and_eq_true]
    exact ⟨ih (fun i hi => h i (by omega)), h n (by omega)⟩
theorem findDst_spec (t : Nat) : ∀ (l : List Oper) (k : Nat), (∀ i, findDst t l k = some i → k ≤ i ∧ ∃ o : Oper, l[i - k]? = some o ∧ o.dst = some t ∧ i - k < l.length) ∧ (findDst t l k = none → ∀ (j : Nat) (o : Oper), l[j]? = some o → o.dst ≠ some t)
  | [], k => ⟨fun i h => by simp [findDst] at h, fun _ j o ho => by simp at ho⟩
  | o :: r, k => by
    obtain ⟨h1, h2⟩ := findDst_spec t r (k + 1)
    have step : ∀ i, findDst t r (k + 1) = some i → k ≤ i ∧ ∃ o' : Oper, (o :: r)[i - k]? = some o' ∧ o'.dst = some t ∧ i - k < (o :: r).length := fun i hi => by
      obtain ⟨q1, o', q2, q3, q4⟩ := h1 i hi
      refine ⟨by omega, o', ?_, q3, by simp; omega⟩
      rw [show i - k = (i - (k + 1)) + 1 by omega]
      simpa using q2
    have none_ : o.dst ≠ some t → findDst t r (k + 1) = none → ∀ (j : Nat) (o' : Oper), (o :: r)[j]? = some o' → o'.dst ≠ some t := fun hne hn j o' ho => by
      cases j with
      | zero => simp at ho; subst ho; exact hne
      | succ j => exact h2 hn j o' (by simpa using ho)
    unfold findDst
    split
    · rename_i d hd
      split
      · rename_i hb
        have := Nat.eq_of_beq_eq_true hb
        subst this
        refine ⟨fun i hi => ?_, fun hn => by cases hn⟩
        injection hi with hi
        subst hi
        exact ⟨Nat.le_refl _, o, by simp, hd, by simp⟩
      · rename_i hb
        refine ⟨step, none_ (fun he => ?_)⟩
        rw [hd] at he
        injection he with he
        subst he
        rw [Nat.beq_refl] at hb
        cases hb
    · rename_i hd
      exact ⟨step, none_ (fun he => by rw [hd] at he; cases he)⟩
theorem waitsL_spec {i : Nat} : ∀ {l : List Edge}, waitsL i l = true → ∃ e ∈ l, Region.binds .any e = true ∧ e.on = i
  | [], h => by simp [waitsL] at h
  | e :: r, h => by
    simp only [waitsL, Bool.or_eq_true, Bool.and_eq_true] at h
    rcases h with ⟨h1, h2⟩ | h
    · exact ⟨e, by simp, h1, Nat.eq_of_beq_eq_true h2⟩
    · obtain ⟨e', q1, q2⟩ := waitsL_spec h
      exact ⟨e', by simp [q1], q2⟩
theorem belowB_spec {j : Nat} : ∀ {l : List Edge}, belowB j l = true → ∀ e ∈ l, Region.binds .any e = true → e.on < j
  | [], _, e, he, _ => by cases he
  | x :: r, h, e, he, hb => by
    simp only [belowB, Bool.and_eq_true, Bool.or_eq_true, Bool.not_eq_true'] at h
    rcases List.mem_cons.1 he with rfl | he
    · rcases h.1 with q | q
      · rw [hb] at q; cases q
      · exact blt_lt q
    · exact belowB_spec h.2 e he hb
theorem waitsH_spec {hd : List Oper} {i j : Nat} (h : waitsH hd i j = true) : ∃ o, hd[i]? = some o ∧ ∃ e ∈ o.after, Region.binds .any e = true ∧ e.on = j := by
  unfold waitsH at h
  split at h
  · rename_i o ho
    obtain ⟨e, q1, q2⟩ := waitsL_spec h
    exact ⟨o, ho, e, by simpa using q1, q2⟩
  · cases h
def Ahead (hd : List Oper) (j i : Nat) (af : Array Edge) : Prop := (i < j ∧ ∃ e ∈ af, Region.binds .any e = true ∧ e.on = i) ∨ (j < i ∧ ∃ o, hd[i]? = some o ∧ ∃ e ∈ o.after, Region.binds .any e = true ∧ e.on = j)
theorem slotsOk_spec {hd : List Oper} {j : Nat} {af : List Edge} : ∀ {ts : List Nat}, slotsOk hd j af ts = true → ∀ t ∈ ts, ∀ i, findDst t hd 0 = some i → Ahead hd j i af.toArray
  | [], _, t, ht, _, _ => by cases ht
  | x :: r, h, t, ht, i, hi => by
    simp only [slotsOk, Bool.and_eq_true] at h
    rcases List.mem_cons.1 ht with rfl | ht
    · have h1 := h.1
      rw [hi] at h1
      simp only [Bool.or_eq_true, Bool.and_eq_true] at h1
      rcases h1 with ⟨q1, q2⟩ | ⟨q1, q2⟩
      · obtain ⟨e, r1, r2⟩ := waitsL_spec q2
        exact .inl ⟨blt_lt q1, e, by simpa using r1, r2⟩
      · exact .inr ⟨blt_lt q1, waitsH_spec q2⟩
    · exact slotsOk_spec h.2 t ht i hi
theorem calmL_spec {hd : List Oper} : ∀ {l : List Oper} {k : Nat}, calmL hd l k = true → ∀ (j : Nat) (o : Oper), l[j]? = some o → guardOk hd o (k + j) = true ∧ (∀ e ∈ o.after, Region.binds .any e = true → e.on < k + j) ∧ (∀ t ∈ readsO hd o, ∀ i, findDst t hd 0 = some i → Ahead hd (k + j) i o.after) ∧ ∀ d, o.dst = some d → ∀ (j' : Nat) (o' : Oper), j < j' → l[j']? = some o' → o'.dst ≠ some d
  | [], _, _, j, o, ho => by simp at ho
  | x :: r, k, h, j, o, ho => by
    simp only [calmL, Bool.and_eq_true] at h
    obtain ⟨⟨⟨⟨h1, h2⟩, h3⟩, h4⟩, h5⟩ := h
    cases j with
    | zero =>
      simp at ho
      subst ho
      refine ⟨h1, fun e he => belowB_spec h2 e (by simpa using he), fun t ht i hi => ?_, fun d hd j' o' hj' ho' => ?_⟩
      · have := slotsOk_spec h3 t ht i hi
        simpa using this
      · rw [hd] at h4
        simp only at h4
        split at h4
        · rename_i hn
          obtain ⟨j'', rfl⟩ : ∃ j'', j' = j'' + 1 := ⟨j' - 1, by omega⟩
          exact (findDst_spec d r 0).2 hn j'' o' (by simpa using ho')
        · cases h4
    | succ j =>
      obtain ⟨q1, q2, q3, q4⟩ := calmL_spec h5 j o (by simpa using ho)
      refine ⟨by rw [show k + (j + 1) = k + 1 + j by omega]; exact q1, fun e he hb => by have := q2 e he hb; omega, fun t ht i hi => ?_, fun d hd j' o' hj' ho' => ?_⟩
      · rw [show k + (j + 1) = k + 1 + j by omega]; exact q3 t ht i hi
      · obtain ⟨j'', rfl⟩ : ∃ j'', j' = j'' + 1 := ⟨j' - 1, by omega⟩
        exact q4 d hd j'' o' (by omega) (by simpa using ho')
theorem onsL_mem {x : Nat} : ∀ {l : List Edge}, x ∈ onsL l → ∃ e ∈ l, Region.binds .any e = true ∧ e.on = x
  | [], h => by simp [onsL] at h
  | e :: r, h => by
    unfold onsL at h
    cases hb : Region.binds .any e with
    | true =>
      rw [hb] at h
      rcases List.mem_cons.1 h with q | q
      · exact ⟨e, by simp, hb, q.symm⟩
      · obtain ⟨e', q1, q2⟩ := onsL_mem q
        exact ⟨e', by simp [q1], q2⟩
    | false =>
      rw [hb] at h
      obtain ⟨e', q1, q2⟩ := onsL_mem h
      exact ⟨e', by simp [q1], q2⟩
theorem downTo_seen {hd : List Oper} {seen : Nat → Bool} {j : Nat} (hj : ∀ o, hd[j]? = some o → ∀ e ∈ o.after, Region.binds .any e = true → seen e.on = true) (hc : ∀ k o, hd[k]? = some o → seen k = true → ∀ e ∈ o.after, Region.binds .any e = true → seen e.on = true) :
    ∀ (f k : Nat) (ms : List Nat), (∀ x ∈ ms, x = j ∨ seen x = true) → ∀ x ∈ downTo hd f k ms, x = j ∨ seen x = true
  | 0, _, ms, h => h
  | f + 1, k, ms, h => by
    unfold downTo
    cases hb : ms.any (Nat.beq k) with
    | false => exact downTo_seen hj hc f _ ms h
    | true =>
      refine downTo_seen hj hc f _ _ (fun x hx => ?_)
      rcases List.mem_append.1 hx with q | q
      · obtain ⟨y, hy1, hy2⟩ := List.any_eq_true.1 hb
        have hky := Nat.eq_of_beq_eq_true hy2
        subst hky
        unfold onsO at q
        split at q
        · rename_i o ho
          obtain ⟨e, q1, q2, q3⟩ := onsL_mem q
          have q1' : e ∈ o.after := by simpa using q1
          right
          rw [← q3]
          rcases h k hy1 with r | r
          · subst r; exact hj o ho e q1' q2
          · exact hc k o ho r e q1' q2
        · cases q
      · exact h x q
theorem waitsO_seen {hd : List Oper} {j i : Nat} (h : waitsO hd j i = true) (hne : i ≠ j) {seen : Nat → Bool} (hj : ∀ o, hd[j]? = some o → ∀ e ∈ o.after, Region.binds .any e = true → seen e.on = true) (hc : ∀ k o, hd[k]? = some o → seen k = true → ∀ e ∈ o.after, Region.binds .any e = true → seen e.on = true) : seen i = true := by
  unfold waitsO at h
  obtain ⟨x, hx1, hx2⟩ := List.any_eq_true.1 h
  have := Nat.eq_of_beq_eq_true hx2
  subst this
  rcases downTo_seen hj hc _ _ [j] (fun y hy => .inl (by simpa using hy)) i hx1 with q | q
  · exact absurd q hne
  · exact q
theorem curIx_succ (E seen : Nat → Bool) (k : Nat) : curIx E seen (k + 1) = if E k && seen k then k + 1 else curIx E seen k := rfl
theorem curIx_le (E seen : Nat → Bool) : ∀ k, curIx E seen k ≤ k
  | 0 => Nat.le_refl _
  | k + 1 => by unfold curIx; split; · exact Nat.le_refl _
                · exact Nat.le_trans (curIx_le E seen k) (Nat.le_succ k)
theorem curIx_last (E seen : Nat → Bool) : ∀ k i, i < k → E i = true → seen i = true → i < curIx E seen k
  | k + 1, i, hi, h1, h2 => by
    unfold curIx
    split
    · omega
    · rename_i hn
      by_cases hik : i = k
      · subst hik; rw [h1, h2] at hn; exact absurd rfl hn
      · exact curIx_last E seen k i (by omega) h1 h2
theorem curIx_mem (E seen : Nat → Bool) : ∀ k, curIx E seen k = 0 ∨ (E (curIx E seen k - 1) = true ∧ seen (curIx E seen k - 1) = true ∧ 0 < curIx E seen k)
  | 0 => .inl rfl
  | k + 1 => by
    unfold curIx
    split
    · rename_i h
      rw [Bool.and_eq_true] at h
      right; exact ⟨by simpa using h.1, by simpa using h.2, Nat.succ_pos k⟩
    · exact curIx_mem E seen k
theorem curIx_congr {E s1 s2 : Nat → Bool} : ∀ k, (∀ i, i < k → E i = true → s1 i = s2 i) → curIx E s1 k = curIx E s2 k
  | 0, _ => rfl
  | k + 1, h => by
    unfold curIx
    rw [curIx_congr k (fun i hi => h i (by omega))]
    cases hE : E k with
    | true => rw [h k (by omega) hE]
    | false => rfl
theorem next_ahead {E : Nat → Bool} {i j : Nat} (hi : i < j) (hE : E i = true) : ∃ x, i ≤ x ∧ x < j ∧ E x = true ∧ ∀ y, x < y → y < j → E y = false := by
  have key : ∀ d, ∀ x, j - x = d → i ≤ x → x < j → E x = true → ∃ x, i ≤ x ∧ x < j ∧ E x = true ∧ ∀ y, x < y → y < j → E y = false := by
    intro d
    induction d using Nat.strongRecOn with
    | _ d ihd =>
      intro x hd h1 h2 h3
      by_cases hx : ∃ y, x < y ∧ y < j ∧ E y = true
      · obtain ⟨y, y1, y2, y3⟩ := hx
        exact ihd (j - y) (by omega) y rfl (by omega) y2 y3
      · refine ⟨x, h1, h2, h3, fun y hy1 hy2 => ?_⟩
        cases hq : E y with
        | false => rfl
        | true => exact absurd ⟨y, hy1, hy2, hq⟩ hx
  exact key (j - i) i rfl (Nat.le_refl _) hi hE
theorem chainB_spec {hd : List Oper} {E : Nat → Bool} : ∀ {f k : Nat} {pr : Option Nat}, chainB hd E f k pr = true → ∀ j, k ≤ j → j < k + f → E j = true → ((∀ i, k ≤ i → i < j → E i = false) → ∀ x, pr = some x → waitsO hd j x = true) ∧ (∀ i, k ≤ i → i < j → E i = true → (∀ x, i < x → x < j → E x = false) → waitsO hd j i = true)
  | 0, k, pr, _, j, h1, h2, _ => by omega
  | f + 1, k, pr, h, j, h1, h2, hj => by
    unfold chainB at h
    split at h
    · rename_i hk
      rw [Bool.and_eq_true] at h
      by_cases hjk : j = k
      · subst hjk
        refine ⟨fun _ x hx => ?_, fun i hi1 hi2 => by omega⟩
        subst hx; exact h.1
      · obtain ⟨q1, q2⟩ := chainB_spec h.2 j (by omega) (by omega) hj
        refine ⟨fun hn => absurd (hn k (Nat.le_refl _) (by omega)) (by rw [hk]; simp), fun i hi1 hi2 hie hb => ?_⟩
        by_cases hik : i = k
        · subst hik; exact q1 (fun x hx1 hx2 => hb x (by omega) hx2) i rfl
        · exact q2 i (by omega) hi2 hie hb
    · rename_i hk
      have hjk : j ≠ k := fun e => by subst e; rw [hj] at hk; cases hk
      obtain ⟨q1, q2⟩ := chainB_spec h j (by omega) (by omega) hj
      refine ⟨fun hn x hx => q1 (fun i hi1 hi2 => hn i (by omega) hi2) x hx, fun i hi1 hi2 hie hb => ?_⟩
      by_cases hik : i = k
      · subst hik; rw [hie] at hk; cases hk
      · exact q2 i (by omega) hi2 hie hb
end
section
variable {P : Program} {w0 : Bs} {F : Fence} {nn : Nat}
def slotAt (hd : List Oper) (env : Nat → CV) (c : Nat → CV) (j : Nat) (t : Nat) : CV := match findDst t hd 0 with
  | some i => if i < j then c i else env t
  | none => env t
theorem curIx_at {E s : Nat → Bool} {j : Nat} (h1 : E j = true) (h2 : s j = true) : ∀ n, j < n → (∀ k, j < k → k < n → E k = true → s k = false) → curIx E s n = j + 1
  | n + 1, hj, h3 => by
    unfold curIx
    by_cases he : j = n
    · subst he; rw [h1, h2]; rfl
    · cases hE : E n with
      | false =>
        simp only [Bool.false_and, Bool.false_eq_true, if_false]
        exact curIx_at h1 h2 n (by omega) (fun k a b => h3 k a (by omega))
      | true =>
        rw [h3 n (by omega) (by omega) hE]
        simp only [Bool.and_false, Bool.false_eq_true, if_false]
        exact curIx_at h1 h2 n (by omega) (fun k a b => h3 k a (by omega))
def baseY (w0 : Bs) (ob : Obj) : Option Nat → Bs
  | none => w0
  | some r => ⟨w0.w, (r, ob) :: w0.x⟩
def zb (w0 : Bs) (CT : Nat → Array Value × TypeId) (Z : List (Nat × Nat)) : Bs := ⟨w0.w, Z.map (fun p => (p.2, Obj.cells (CT p.1).1 (CT p.1).2)) ++ w0.x⟩
def zok (w0 : Bs) (CT : Nat → Array Value × TypeId) : List (Nat × Nat) → Prop
  | [] => True
  | p :: Z => (zb w0 CT Z).off p.2 ∧ zok w0 CT Z
theorem SR.perm {w1 : World} {x x' : List (Nat × Obj)} {m : Mp} {h : Hp} {w : World} (s : SR ⟨w1, x⟩ m h w) (hx : ∀ y, y ∈ x' ↔ y ∈ x) : SR ⟨w1, x'⟩ m h w :=
  ⟨⟨s.bel.1, fun y hy => s.bel.2 y ((hx y).1 hy)⟩, fun b p hp => by
    obtain ⟨h1, h2, h3⟩ := s.dom b p hp
    exact ⟨h1, ⟨h2.1, fun y hy => h2.2 y ((hx y).1 hy)⟩, h3⟩, s.blk, s.grl, s.apart, s.order, s.lst⟩
def svY (al : Nat) (y : Option Nat) (seen : Array Bool) (i : Nat) : Bool := seen.getD i false && !(y.isSome && Nat.beq i al)
def cvY (al : Nat) (y : Option Nat) (c : Nat → CV) (i : Nat) : CV := if (y.isSome && Nat.beq i al) = true then .any else c i
theorem svY_ne {al : Nat} {y : Option Nat} {seen : Array Bool} {i : Nat} (h : i ≠ al) : svY al y seen i = seen.getD i false := by
  unfold svY
  have : Nat.beq i al = false := by cases hq : Nat.beq i al with | false => rfl | true => exact absurd (Nat.eq_of_beq_eq_true hq) h
  rw [this]; simp
theorem svY_none {al : Nat} {seen : Array Bool} {i : Nat} : svY al none seen i = seen.getD i false := by simp [svY]
theorem svY_le {al : Nat} {y : Option Nat} {seen : Array Bool} {i : Nat} (h : svY al y seen i = true) : seen.getD i false = true := by
  unfold svY at h; rw [Bool.and_eq_true] at h; exact h.1
theorem svY_al {al r : Nat} {seen : Array Bool} : svY al (some r) seen al = false := by simp [svY, Nat.beq_refl]
theorem cvY_ne {al : Nat} {y : Option Nat} {c : Nat → CV} {i : Nat} (h : i ≠ al) : cvY al y c i = c i := by
  unfold cvY
  have : Nat.beq i al = false := by cases hq : Nat.beq i al with | false => rfl | true => exact absurd (Nat.eq_of_beq_eq_true hq) h
  rw [this]; simp
theorem cvY_none {al : Nat} {c : Nat → CV} {i : Nat} : cvY al none c i = c i := by simp [cvY]
theorem cvY_al {al r : Nat} {c : Nat → CV} : cvY al (some r) c al = .any := by simp [cvY, Nat.beq_refl]
set_option maxHeartbeats 2000000 in
theorem any_wp {ops : Array Oper} {n : Nat} (hn : n = ops.size) {E : Nat → Bool} {al : Nat} (hcalm : calmL ops.toList ops.toList 0 = true) (hchain : chainB ops.toList (fun j => E j && !(Nat.beq j al)) n 0 none = true)
    (hal1 : ∀ j, j < n → E j = true → al < j → E al = true → waitsO ops.toList j al = true)
    (hal2 : al < n → E al = true → ∀ (j : Nat) (o : Oper), ops[j]? = some o → E j = false → ∀ e ∈ o.after, Region.binds .any e = true → e.on = al → ∀ x, x < al → E x = true → waitsO ops.toList j x = true)
    {env c : Nat → CV} {HH : Nat → Hp} (hquiet : ∀ k, k < n → E k = false → HH (k + 1) = HH k) {sz : Nat} {T : TypeId} {CA : Array Value} {csA : List CV} {mkA : Nat → Value} {mkC : Pa → CV}
    {m0 : Mp} {D : List Deferred} {Q : Exit → Act → World → Prop}
    (hal3 : al < n → E al = true → ∃ (o : Oper) (d : Tmp), ops[al]? = some o ∧ o.dst = some d ∧ d < sz ∧ c al = mkC (HH al).n ∧ HH (al + 1) = (HH al).new (.cells csA (HH al).n) ∧ (∀ m, AR m CA 0 csA) ∧ (∀ m r pa, m pa = some ⟨r, 0, CA.size⟩ → Rp m (mkA r) (mkC pa)) ∧
      ∀ (m : Mp) (a : Act) (w : World) (K : Act → World → Prop), a.tmps.size = sz → (∀ t ∈ readsO ops.toList o, Rp m (a.tmps.getD t undef) (slotAt ops.toList env c al t)) → K (a.put o.dst (mkA w.heap.size)) (w.alloc (.cells CA T)) → wpOpIn F nn P ops Q al K a w)
    {fl : Nat → Bool} {CT : Nat → Array Value × TypeId} {mkV : Nat → Nat → Value} (hflE : ∀ j, fl j = true → E j = false ∧ c j = .any)
    (hlone : ∀ (j : Nat) (o : Oper), ops[j]? = some o → fl j = true → ∃ d, o.dst = some d ∧ d < sz ∧ ∀ (m : Mp) (a : Act) (w : World) (K : Act → World → Prop), a.tmps.size = sz → (∀ t ∈ readsO ops.toList o, Rp m (a.tmps.getD t undef) (slotAt ops.toList env c j t)) → K (a.put o.dst (mkV j w.heap.size)) (w.alloc (.cells (CT j).1 (CT j).2)) → wpOpIn F nn P ops Q j K a w)
    (hfact : ∀ (w0 : Bs) (j : Nat) (o : Oper), ops[j]? = some o → fl j = false → ∀ (k : Nat), (E j = true → k = j) → (E j = false → k ≤ n ∧ mayB ops.toList E n j k = true) → ∀ (m : Mp) (a : Act) (w : World) (K : Act → World → Prop), SR w0 m (HH k) w → a.defers = D → a.tmps.size = sz → (∀ t ∈ readsO ops.toList o, Rp m (a.tmps.getD t undef) (slotAt ops.toList env c j t)) →
      (∀ m' v w', MLe m m' → SR w0 m' (HH (if E j then j + 1 else k)) w' → Rp m' v (c j) → K (a.put o.dst v) w') → wpOpIn F nn P ops Q j K a w)
    (hrd : ∀ (j : Nat) (o : Oper), ops[j]? = some o → ∀ t ∈ readsO ops.toList o, t < sz) (hend : ∀ (Z : List (Nat × Nat)) (m : Mp) (a : Act) (w : World), zok w0 CT Z → (Z.map (·.1)).Nodup → (∀ p ∈ Z, p.1 < n ∧ fl p.1 = true ∧ ∀ o d, ops[p.1]? = some o → o.dst = some d → a.tmps.getD d undef = mkV p.1 p.2) → (∀ i, i < n → fl i = true → ∃ r, (i, r) ∈ Z) → MLe m0 m → a.defers = D → a.tmps.size = sz → SR (zb w0 CT Z) m (HH n) w → (∀ t, t < sz → Rp m (a.tmps.getD t undef) (slotAt ops.toList env c n t)) → Q .normal a w) :
    ∀ (f : Nat) (seen : Array Bool) (L : List Nat) (y : Option Nat) (Z : List (Nat × Nat)) (a : Act) (w : World) (m : Mp), L.length = f → L.Nodup → (∀ i, i ∈ L ↔ i < n ∧ seen.getD i false = false) → seen.size = n → (∀ k o, ops[k]? = some o → seen.getD k false = true → ∀ e ∈ o.after, Region.binds .any e = true → seen.getD e.on false = true) →
      a.defers = D → a.tmps.size = sz → MLe m0 m →
      zok w0 CT Z → (Z.map (·.1)).Nodup → (∀ p ∈ Z, p.1 < n ∧ fl p.1 = true ∧ seen.getD p.1 false = true ∧ ∀ o d, ops[p.1]? = some o → o.dst = some d → a.tmps.getD d undef = mkV p.1 p.2) → (∀ i, i < n → fl i = true → seen.getD i false = true → ∃ r, (i, r) ∈ Z) →
      (∀ r, y = some r → al < n ∧ E al = true ∧ seen.getD al false = true ∧ (∃ x, x < al ∧ E x = true ∧ seen.getD x false = false) ∧ (zb w0 CT Z).off r ∧ ∀ o d, ops[al]? = some o → o.dst = some d → a.tmps.getD d undef = mkA r) →
      (y = none → seen.getD al false = true → E al = true → ∀ x, x < al → E x = true → seen.getD x false = true) →
      (∀ t, t < sz → Rp m (a.tmps.getD t undef) (match findDst t ops.toList 0 with | some i => if seen.getD i false = true then cvY al y c i else env t | none => env t)) →
      SR (baseY (zb w0 CT Z) (.cells CA T) y) m (HH (curIx E (svY al y seen) n)) w → wpAnyIn F nn P .any ops Q f seen a w := by
  have hsp := calmL_spec hcalm
  have hopl : ∀ j, ops.toList[j]? = ops[j]? := fun j => Array.getElem?_toList
  have hltn : ∀ {j : Nat} {o : Oper}, ops[j]? = some o → j < n := fun ho => by rw [hn]; exact (Array.getElem?_eq_some_iff.1 ho).1
  have hdist : ∀ (i i' : Nat) (o o' : Oper) (d : Tmp), ops[i]? = some o → ops[i']? = some o' → o.dst = some d → o'.dst = some d → i = i' := fun i i' o o' d h1 h2 h3 h4 => by
    rcases Nat.lt_trichotomy i i' with hlt | he | hlt
    · exact absurd h4 ((hsp i o (by rw [hopl]; exact h1)).2.2.2 d h3 i' o' hlt (by rw [hopl]; exact h2))
    · exact he
    · exact absurd h3 ((hsp i' o' (by rw [hopl]; exact h2)).2.2.2 d h4 i o hlt (by rw [hopl]; exact h1))
  have hbne : ∀ {i : Nat}, i ≠ al → Nat.beq i al = false := fun {i} h => by cases hq : Nat.beq i al with | false => rfl | true => exact absurd (Nat.eq_of_beq_eq_true hq) h
  have hnext : ∀ (seen : Nat → Bool), (∀ k o, ops[k]? = some o → seen k = true → ∀ e ∈ o.after, Region.binds .any e = true → seen e.on = true) → ∀ j, j < n → E j = true → j ≠ al → (∀ o, ops[j]? = some o → ∀ e ∈ o.after, Region.binds .any e = true → seen e.on = true) → ∀ i, i < j → E i = true → seen i = true := by
    intro seen inv j0 hj0 hje0 hja0 hjs0
    have main : ∀ j, j < n → E j = true → j ≠ al → (∀ o, ops[j]? = some o → ∀ e ∈ o.after, Region.binds .any e = true → seen e.on = true) → ∀ i, i < j → E i = true → i ≠ al → seen i = true := by
      intro j
      induction j using Nat.strongRecOn with
      | _ j ih =>
        intro hj hje hja hjs i hi hie hia
        obtain ⟨x, x1, x2, x3, x4⟩ := next_ahead (E := fun j => E j && !(Nat.beq j al)) hi (by simp only [hie, hbne hia]; rfl)
        have hw := (chainB_spec hchain j (Nat.zero_le _) (by omega) (by simp only [hje, hbne hja]; rfl)).2 x (Nat.zero_le _) x2 x3 x4
        simp only [Bool.and_eq_true, Bool.not_eq_true'] at x3
        have hxa : x ≠ al := fun e => by subst e; rw [Nat.beq_refl] at x3; cases x3.2
        have hxs : seen x = true := waitsO_seen hw (by omega) (fun o ho e he1 he2 => hjs o (by rw [← hopl]; exact ho) e he1 he2) (fun k o ho => inv k o (by rw [← hopl]; exact ho))
        by_cases hix : i = x
        · rw [hix]; exact hxs
        · exact ih x x2 (by omega) x3.1 hxa (fun o ho => inv x o ho hxs) i (by omega) hie hia
    intro i hi hie
    by_cases hia : i = al
    · subst hia
      exact waitsO_seen (hal1 j0 hj0 hje0 hi hie) (by omega) (fun o ho e he1 he2 => hjs0 o (by rw [← hopl]; exact ho) e he1 he2) (fun k o ho => inv k o (by rw [← hopl]; exact ho))
    · exact main j0 hj0 hje0 hja0 hjs0 i hi hie hia
  intro f
  induction f with
  | zero =>
    intro seen L y Z a w m hL hnd hmem hsz inv hd hasz hle zok1 znd hz1 hz2 hy hy0 hrep hs
    have hall : ∀ i, i < n → seen.getD i false = true := fun i hi => by
      have : L = [] := List.length_eq_zero_iff.1 hL
      subst this
      cases hq : seen.getD i false with
      | true => rfl
      | false => exact absurd ((hmem i).2 ⟨hi, hq⟩) (by simp)
    cases y with
    | some r =>
      obtain ⟨h1, _, _, ⟨x, x1, _, x3⟩, _⟩ := hy r rfl
      rw [hall x (by omega)] at x3; cases x3
    | none =>
    have hcur : HH (curIx E (svY al none seen) n) = HH n := by
      have key : ∀ k, k ≤ n → HH (curIx E (svY al none seen) k) = HH k := by
        intro k
        induction k with
        | zero => intro _; rfl
        | succ k ihk =>
          intro hk
          unfold curIx
          rw [svY_none, hall k (by omega)]
          cases hE : E k with
          | true => simp
          | false =>
            simp only [Bool.false_and, Bool.false_eq_true, if_false]
            rw [ihk (by omega)]
            exact (hquiet k (by omega) hE).symm
      exact key n (Nat.le_refl _)
    rw [hcur] at hs
    refine ⟨?_, hend Z m a w zok1 znd (fun p hp => by obtain ⟨z1, z2, _, z4⟩ := hz1 p hp; exact ⟨z1, z2, z4⟩) (fun i hi hf => hz2 i hi hf (hall i hi)) hle hd hasz hs (fun t ht => ?_)⟩
    · unfold Region.ready
      rw [List.filter_eq_nil_iff]
      intro i hi
      have hi' : i < n := by rw [hn]; simpa using hi
      have := hall i hi'
      have h2 : seen.getD i true = true := by
        rw [Array.getD_eq_getD_getElem?] at this ⊢
        cases hq : seen[i]? with
        | none => rfl
        | some b => rw [hq] at this; simpa using this
      simp [h2]
    · have := hrep t ht
      unfold slotAt
      cases hq : findDst t ops.toList 0 with
      | none => rw [hq] at this; exact this
      | some i =>
        rw [hq] at this
        obtain ⟨_, o, q1, q2, q3⟩ := (findDst_spec t ops.toList 0).1 i hq
        have hin : i < n := by rw [hn]; simpa using q3
        simp only at this ⊢
        rw [if_pos (hall i hin), cvY_none] at this
        rw [if_pos hin]; exact this
  | succ f ih =>
    intro seen L y Z a w m hL hnd hmem hsz inv hd hasz hle zok1 znd hz1 hz2 hy hy0 hrep hs
    have hgd : ∀ i, i < n → seen.getD i true = seen.getD i false := fun i hi => by
      rw [Array.getD_eq_getD_getElem?, Array.getD_eq_getD_getElem?, Array.getElem?_eq_getElem (by omega)]; rfl
    have hready : ∀ i, i ∈ Region.ready .any ops seen ↔ i < n ∧ seen.getD i false = false ∧ ∃ o, ops[i]? = some o ∧ ∀ e ∈ o.after, Region.binds .any e = true → seen.getD e.on false = true := fun i => by
      unfold Region.ready
      rw [List.mem_filter]
      constructor
      · rintro ⟨h1, h2⟩
        have hi : i < n := by rw [hn]; simpa using h1
        rw [Bool.and_eq_true] at h2
        obtain ⟨h2, h3⟩ := h2
        rw [hgd i hi] at h2
        have hio : ops[i]? = some (ops[i]'(by omega)) := Array.getElem?_eq_getElem _
        rw [hio] at h3
        refine ⟨hi, by simpa using h2, _, hio, fun e he hb => ?_⟩
        simp only [Option.map_some, Option.getD_some] at h3
        have := Array.all_eq_true_iff_forall_mem.1 h3 e he
        simpa [hb] using this
      · rintro ⟨hi, h2, o, ho, h3⟩
        refine ⟨by simp; omega, ?_⟩
        rw [hgd i hi, h2, ho]
        simp only [Bool.not_false, Bool.true_and, Option.map_some, Option.getD_some]
        refine Array.all_eq_true_iff_forall_mem.2 (fun e he => ?_)
        cases hb : Region.binds .any e with
        | false => simp
        | true => simp [h3 e he hb]
    have hun : ∃ i, i < n ∧ seen.getD i false = false := by
      cases L with
      | nil => simp at hL
      | cons i L => exact ⟨i, (hmem i).1 (by simp)⟩
    have hleast : ∃ i, i ∈ Region.ready .any ops seen := by
      have key : ∀ k, (∃ i, i ≤ k ∧ i < n ∧ seen.getD i false = false) → ∃ i, i < n ∧ seen.getD i false = false ∧ ∀ j, j < i → seen.getD j false = true := by
        intro k
        induction k with
        | zero =>
          rintro ⟨i, h1, h2, h3⟩
          obtain rfl : i = 0 := by omega
          exact ⟨0, h2, h3, fun j hj => absurd hj (Nat.not_lt_zero _)⟩
        | succ k ihk =>
          rintro ⟨i, h1, h2, h3⟩
          by_cases hx : ∃ i, i ≤ k ∧ i < n ∧ seen.getD i false = false
          · exact ihk hx
          · have hik : i = k + 1 := by
              apply Classical.byContradiction
              intro hne
              exact hx ⟨i, by omega, h2, h3⟩
            refine ⟨i, h2, h3, fun j hj => ?_⟩
            cases hq : seen.getD j false with
            | true => rfl
            | false => exact absurd ⟨j, by omega, by omega, hq⟩ hx
      obtain ⟨i0, h1, h2⟩ := hun
      obtain ⟨i, q1, q2, q3⟩ := key i0 ⟨i0, Nat.le_refl _, h1, h2⟩
      have hio : ops[i]? = some (ops[i]'(by omega)) := Array.getElem?_eq_getElem _
      refine ⟨i, (hready i).2 ⟨q1, q2, _, hio, fun e he hb => q3 _ ?_⟩⟩
      have := (hsp i _ (by rw [hopl]; exact hio)).2.1 e he hb
      omega
    refine ⟨fun h0 => ?_, fun i hi => ?_⟩
    · obtain ⟨i, h1⟩ := hleast
      rw [h0] at h1; cases h1
    obtain ⟨hin, hius, o, hio, hafter⟩ := (hready i).1 hi
    have hoi : ops.toList[i]? = some o := by rw [hopl]; exact hio
    obtain ⟨s1, s2, s3, s4⟩ := hsp i o hoi
    simp only [Nat.zero_add] at s2 s3
    have hafter' : ∀ o' : Oper, ops[i]? = some o' → ∀ e ∈ o'.after, Region.binds .any e = true → seen.getD e.on false = true := fun o' ho' => by
      rw [hio] at ho'; injection ho' with ho'; subst ho'; exact hafter
    -- who has come, or may come, does not wait for the block without a name
    have hnotal : ∀ r, y = some r → ∀ (k : Nat) (o' : Oper), ops[k]? = some o' → (∀ e ∈ o'.after, Region.binds .any e = true → seen.getD e.on false = true) → ∀ e ∈ o'.after, Region.binds .any e = true → e.on ≠ al := by
      intro r hyr k o' ho' hks e he hb hea
      obtain ⟨h1, h2, h3, ⟨x, x1, x2, x3⟩, _⟩ := hy r hyr
      have hek : e.on < k := by have := (hsp k o' (by rw [hopl]; exact ho')).2.1 e he hb; omega
      have hks' : ∀ o'', ops[k]? = some o'' → ∀ e ∈ o''.after, Region.binds .any e = true → seen.getD e.on false = true := fun o'' ho'' => by
        rw [ho'] at ho''; injection ho'' with ho''; subst ho''; exact hks
      cases hE : E k with
      | true =>
        have := hnext (fun x => seen.getD x false) inv k (hltn ho') hE (by omega) hks' x (by omega) x2
        rw [x3] at this; cases this
      | false =>
        have hw := hal2 h1 h2 k o' ho' hE e he hb hea x x1 x2
        have := waitsO_seen (seen := fun x => seen.getD x false) hw (by omega) (fun o'' ho'' e he1 he2 => hks' o'' (by rw [← hopl]; exact ho'') e he1 he2) (fun k' o'' ho'' => inv k' o'' (by rw [← hopl]; exact ho''))
        rw [x3] at this; cases this
    have lift : ∀ (k : Nat) (o' : Oper), ops[k]? = some o' → (∀ e ∈ o'.after, Region.binds .any e = true → seen.getD e.on false = true) → ∀ e ∈ o'.after, Region.binds .any e = true → svY al y seen e.on = true := fun k o' ho' hks e he hb => by
      cases hyy : y with
      | none => rw [svY_none]; exact hks e he hb
      | some r => rw [svY_ne (hnotal r hyy k o' ho' hks e he hb)]; exact hks e he hb
    have inv' : ∀ (k : Nat) (o' : Oper), ops[k]? = some o' → svY al y seen k = true → ∀ e ∈ o'.after, Region.binds .any e = true → svY al y seen e.on = true := fun k o' ho' hk => lift k o' ho' (inv k o' ho' (svY_le hk))
    have hslots : ∀ t ∈ readsO ops.toList o, Rp m (a.tmps.getD t undef) (slotAt ops.toList env c i t) := fun t ht => by
      have htz := hrd i o hio t ht
      have hr := hrep t htz
      unfold slotAt
      cases hq : findDst t ops.toList 0 with
      | none => rw [hq] at hr; exact hr
      | some k =>
        rw [hq] at hr
        rcases s3 t ht k hq with ⟨r1, e, r2, r3, r4⟩ | ⟨r1, o', q1, e, r2, r3, r4⟩
        · have hk := hafter e r2 r3
          rw [r4] at hk
          simp only at hr ⊢
          rw [if_pos hk] at hr
          rw [if_pos r1]
          cases hyy : y with
          | none => rw [hyy, cvY_none] at hr; exact hr
          | some r =>
            have := hnotal r hyy i o hio hafter e r2 r3
            rw [cvY_ne (by rw [← r4]; exact this)] at hr; exact hr
        · have hk : ¬ seen.getD k false = true := fun hk => by
            have := inv k o' (by rw [← hopl]; exact q1) hk e r2 r3
            rw [r4, hius] at this; cases this
          simp only at hr ⊢
          rw [if_neg hk] at hr
          rw [if_neg (by omega)]; exact hr
    have hiL : i ∈ L := (hmem i).2 ⟨hin, hius⟩
    have hset : ∀ j, (seen.setIfInBounds i true).getD j false = if j = i then true else seen.getD j false := fun j => by
      by_cases hji : j = i
      · subst hji; rw [if_pos rfl]; simp [Array.getD_eq_getD_getElem?, Array.getElem?_setIfInBounds, hsz, hin]
      · rw [if_neg hji]; simp [Array.getD_eq_getD_getElem?, Array.getElem?_setIfInBounds, Ne.symm hji]
    have hset3 : ∀ {j}, seen.getD j false = true → (seen.setIfInBounds i true).getD j false = true := fun {j} h => by
      rw [hset]
      split
      · rfl
      · exact h
    have hputd : ∀ (v : Value) (d : Nat), d < sz → o.dst = some d → (a.put o.dst v).tmps.getD d undef = v := fun v d hdz hdt => by
      rw [hdt]; simp [Act.put, Array.getD_eq_getD_getElem?, Array.getElem?_setIfInBounds, hasz, hdz]
    have hputn : ∀ (v : Value) (t : Nat), o.dst ≠ some t → (a.put o.dst v).tmps.getD t undef = a.tmps.getD t undef := fun v t hdt => by
      cases hdd : o.dst with
      | none => rfl
      | some d =>
        have : d ≠ t := fun he => hdt (by rw [hdd, he])
        simp [Act.put, Array.getD_eq_getD_getElem?, Array.getElem?_setIfInBounds, this]
    -- behind it
    have hzslot : ∀ (v : Value) (p : Nat × Nat), p ∈ Z → p.1 < n ∧ fl p.1 = true ∧ (seen.setIfInBounds i true).getD p.1 false = true ∧ ∀ o' d, ops[p.1]? = some o' → o'.dst = some d → (a.put o.dst v).tmps.getD d undef = mkV p.1 p.2 := fun v p hp => by
      obtain ⟨z1, z2, z3, z4⟩ := hz1 p hp
      refine ⟨z1, z2, hset3 z3, fun o' d h1 h2 => ?_⟩
      rw [hputn v d (fun h3 => by
        have := hdist p.1 i o' o d h1 hio h2 h3
        rw [this, hius] at z3; cases z3)]
      exact z4 o' d h1 h2
    have next : ∀ (Z' : List (Nat × Nat)) (y' : Option Nat) (v : Value) (w' : World) (m' : Mp), MLe m m' →
        zok w0 CT Z' → (Z'.map (·.1)).Nodup → (∀ p ∈ Z', p.1 < n ∧ fl p.1 = true ∧ (seen.setIfInBounds i true).getD p.1 false = true ∧ ∀ o' d, ops[p.1]? = some o' → o'.dst = some d → (a.put o.dst v).tmps.getD d undef = mkV p.1 p.2) → (∀ j, j < n → fl j = true → (seen.setIfInBounds i true).getD j false = true → ∃ r, (j, r) ∈ Z') →
        (∀ r, y' = some r → al < n ∧ E al = true ∧ (seen.setIfInBounds i true).getD al false = true ∧ (∃ x, x < al ∧ E x = true ∧ (seen.setIfInBounds i true).getD x false = false) ∧ (zb w0 CT Z').off r ∧ ∀ o' d, ops[al]? = some o' → o'.dst = some d → (a.put o.dst v).tmps.getD d undef = mkA r) →
        (y' = none → (seen.setIfInBounds i true).getD al false = true → E al = true → ∀ x, x < al → E x = true → (seen.setIfInBounds i true).getD x false = true) →
        SR (baseY (zb w0 CT Z') (.cells CA T) y') m' (HH (curIx E (svY al y' (seen.setIfInBounds i true)) n)) w' → Rp m' v (cvY al y' c i) →
        (∀ t k, t < sz → o.dst ≠ some t → findDst t ops.toList 0 = some k → seen.getD k false = true → Rp m' (a.tmps.getD t undef) (cvY al y' c k)) → wpAnyIn F nn P .any ops Q f (seen.setIfInBounds i true) (a.put o.dst v) w' := by
      intro Z' y' v w' m' hm' zok' znd' hz1' hz2' hy' hy0' hs' hrp holds
      refine ih (seen.setIfInBounds i true) (L.erase i) y' Z' _ w' m' (by rw [List.length_erase_of_mem hiL]; omega) (hnd.erase i) (fun j => ?_) (by simpa using hsz) (fun k o' ho' hk e he hb => ?_) ?_ ?_ (hle.trans hm') zok' znd' hz1' hz2' hy' hy0' (fun t ht => ?_) hs'
      · rw [hnd.mem_erase_iff, hmem j, hset j]
        constructor
        · rintro ⟨q1, q2, q3⟩
          rw [if_neg q1]; exact ⟨q2, q3⟩
        · rintro ⟨q1, q2⟩
          by_cases hji : j = i
          · rw [if_pos hji] at q2; cases q2
          · rw [if_neg hji] at q2; exact ⟨hji, q1, q2⟩
      · rw [hset]
        split
        · rfl
        · rw [hset] at hk
          by_cases hki : k = i
          · subst hki
            rw [hio] at ho'; injection ho' with ho'; subst ho'
            exact hafter e he hb
          · rw [if_neg hki] at hk; exact inv k o' ho' hk e he hb
      · cases o.dst <;> exact hd
      · cases hdd : o.dst with
        | none => exact hasz
        | some d => simp [Act.put, hasz]
      · by_cases hdt : o.dst = some t
        · rw [hputd v t ht hdt]
          cases hq : findDst t ops.toList 0 with
          | none => exact absurd hdt ((findDst_spec t _ 0).2 hq i o hoi)
          | some k =>
            obtain ⟨_, o', q1, q2, _⟩ := (findDst_spec t _ 0).1 k hq
            have := hdist k i o' o t (by rw [← hopl]; simpa using q1) hio q2 hdt
            subst this
            simp only
            rw [hset, if_pos rfl, if_pos rfl]
            exact hrp
        · rw [hputn v t hdt]
          have hr := (hrep t ht).mono hm'
          cases hq : findDst t ops.toList 0 with
          | none => rw [hq] at hr; exact hr
          | some k =>
            rw [hq] at hr
            obtain ⟨_, o', q1, q2, _⟩ := (findDst_spec t _ 0).1 k hq
            have hki : k ≠ i := fun he => by
              subst he
              rw [Nat.sub_zero, hoi] at q1
              injection q1 with q1
              rw [← q1] at q2
              exact hdt q2
            simp only at hr ⊢
            rw [hset, if_neg hki]
            by_cases hks : seen.getD k false = true
            · rw [if_pos hks]; exact holds t k ht hdt hq hks
            · rw [if_neg hks] at hr ⊢; exact hr
    have hz2k : fl i = false → ∀ j, j < n → fl j = true → (seen.setIfInBounds i true).getD j false = true → ∃ r, (j, r) ∈ Z := fun hfi j hj hfj hsj => by
      rw [hset] at hsj
      by_cases hji : j = i
      · subst hji; rw [hfi] at hfj; cases hfj
      · rw [if_neg hji] at hsj; exact hz2 j hj hfj hsj
    have holdsSame : ∀ m', MLe m m' → ∀ t k, t < sz → o.dst ≠ some t → findDst t ops.toList 0 = some k → seen.getD k false = true → Rp m' (a.tmps.getD t undef) (cvY al y c k) := fun m' hm' t k ht _ hq hks => by
      have hr := (hrep t ht).mono hm'
      rw [hq] at hr
      simp only at hr
      rw [if_pos hks] at hr; exact hr
    have hsvset : ∀ y' j, j ≠ i → svY al y' (seen.setIfInBounds i true) j = svY al y' seen j := fun y' j hj => by
      unfold svY; rw [hset, if_neg hj]
    have hdal : ∀ o' d, ops[al]? = some o' → o'.dst = some d → i ≠ al → o.dst ≠ some d := fun o' d h1 h2 h3 h4 => h3 (hdist i al o o' d hio h1 h4 h2)
    cases hE : E i with
    | true =>
      have hfi : fl i = false := by
        cases hq : fl i with
        | false => rfl
        | true => have := (hflE i hq).1; rw [hE] at this; cases this
      have hz2i := hz2k hfi
      -- in its turn
      have turn : (∀ k, k < i → E k = true → svY al y seen k = true) → (∀ k, i < k → k < n → E k = true → svY al y seen k = false) → (i = al → y = none) → wpOpIn F nn P ops Q i (wpAnyIn F nn P .any ops Q f (seen.setIfInBounds i true)) a w := by
        intro hahead hbehind hial
        have hcur : HH (curIx E (svY al y seen) n) = HH i := by
          have hsi : svY al y seen i = false := by
            cases hq : svY al y seen i with
            | false => rfl
            | true => have := svY_le hq; rw [hius] at this; cases this
          have k1 : ∀ k, k ≤ i → HH (curIx E (svY al y seen) k) = HH k := by
            intro k
            induction k with
            | zero => intro _; rfl
            | succ k ihk =>
              intro hk
              unfold curIx
              cases hEk : E k with
              | true => rw [hahead k (by omega) hEk]; simp
              | false =>
                simp only [Bool.false_and, Bool.false_eq_true, if_false]
                rw [ihk (by omega)]
                exact (hquiet k (by omega) hEk).symm
          have k2 : ∀ d, i + d ≤ n → curIx E (svY al y seen) (i + d) = curIx E (svY al y seen) i := by
            intro d
            induction d with
            | zero => intro _; rfl
            | succ d ihd =>
              intro hd2
              rw [show i + (d + 1) = (i + d) + 1 by omega, curIx_succ]
              cases hEk : E (i + d) with
              | false => simp only [Bool.false_and, Bool.false_eq_true, if_false]; exact ihd (by omega)
              | true =>
                have : svY al y seen (i + d) = false := by
                  cases d with
                  | zero => exact hsi
                  | succ d => exact hbehind _ (by omega) (by omega) hEk
                simp only [this, Bool.and_false, Bool.false_eq_true, if_false]
                exact ihd (by omega)
          have := k2 (n - i) (by omega)
          rw [show i + (n - i) = n by omega] at this
          rw [this]; exact k1 i (Nat.le_refl _)
        have hsi' : (i = al → y = none) → svY al y (seen.setIfInBounds i true) i = true := fun h => by
          by_cases hia : i = al
          · rw [h hia, svY_none, hset, if_pos rfl]
          · rw [svY_ne hia, hset, if_pos rfl]
        have hcur' : curIx E (svY al y (seen.setIfInBounds i true)) n = i + 1 := curIx_at hE (hsi' hial) n hin (fun k h1 h2 h3 => by rw [hsvset y k (by omega)]; exact hbehind k h1 h2 h3)
        rw [hcur] at hs
        refine hfact _ i o hio hfi i (fun _ => rfl) (fun h => by rw [hE] at h; cases h) m a w _ hs hd hasz hslots (fun m' v w' hm' hs' hr => ?_)
        rw [hE, if_pos rfl] at hs'
        cases hyy : y with
        | none =>
          subst hyy
          refine next Z none v w' m' hm' zok1 znd (hzslot v) hz2i (fun r hr => by cases hr) (fun _ h1 h2 x hx hxe => ?_) (by rw [hcur']; exact hs') (by rw [cvY_none]; exact hr) (holdsSame m' hm')
          rw [hset] at h1 ⊢
          by_cases hxi : x = i
          · rw [if_pos hxi]
          · rw [if_neg hxi]
            by_cases hia : al = i
            · have := hahead x (by omega) hxe
              rw [svY_none] at this; exact this
            · rw [if_neg hia] at h1; exact hy0 rfl h1 h2 x hx hxe
        | some r =>
          have hia : i ≠ al := fun e => by have := hial e; rw [hyy] at this; cases this
          obtain ⟨y1, y2, y3, y4, y5, y6⟩ := hy r hyy
          by_cases hx : ∃ x, x < al ∧ E x = true ∧ (seen.setIfInBounds i true).getD x false = false
          · subst hyy
            refine next Z (some r) v w' m' hm' zok1 znd (hzslot v) hz2i (fun r' hr' => ?_) (fun h => by cases h) (by rw [hcur']; exact hs') (by rw [cvY_ne hia]; exact hr) (holdsSame m' hm')
            injection hr' with hr'; subst hr'
            refine ⟨y1, y2, hset3 y3, hx, y5, fun o' d h1 h2 => ?_⟩
            rw [hputn v d (hdal o' d h1 h2 hia)]; exact y6 o' d h1 h2
          · -- the block has its name now
            have hx' : ∀ x, x < al → E x = true → (seen.setIfInBounds i true).getD x false = true := fun x h1 h2 => by
              cases hq : (seen.setIfInBounds i true).getD x false with
              | true => rfl
              | false => exact absurd ⟨x, h1, h2, hq⟩ hx
            obtain ⟨x0, x1, x2, x3⟩ := y4
            have hx0 : x0 = i := by
              have := hx' x0 x1 x2
              rw [hset] at this
              by_cases e : x0 = i
              · exact e
              · rw [if_neg e, x3] at this; cases this
            subst hx0
            have hHH : HH (x0 + 1) = HH al := by
              have key : ∀ d, x0 + 1 + d ≤ al → HH (x0 + 1 + d) = HH (x0 + 1) := by
                intro d
                induction d with
                | zero => intro _; rfl
                | succ d ihd =>
                  intro hd2
                  have hEf : E (x0 + 1 + d) = false := by
                    cases hq : E (x0 + 1 + d) with
                    | false => rfl
                    | true =>
                      have h1 := hx' _ (by omega) hq
                      rw [hset, if_neg (by omega)] at h1
                      have h2 := hbehind (x0 + 1 + d) (by omega) (by omega) hq
                      rw [svY_ne (by omega), h1] at h2; cases h2
                  rw [show x0 + 1 + (d + 1) = (x0 + 1 + d) + 1 by omega, hquiet _ (by omega) hEf]
                  exact ihd (by omega)
              have := key (al - (x0 + 1)) (by omega)
              rw [show x0 + 1 + (al - (x0 + 1)) = al by omega] at this
              exact this.symm
            obtain ⟨oa, da, a1, a4, a5, a7, a8, a9, a10, _⟩ := hal3 y1 y2
            rw [hyy] at hs'
            rw [hHH] at hs'
            have hsn : SR (zb w0 CT Z) (mset m' (HH al).n ⟨r, 0, CA.size⟩) (HH (al + 1)) w' := by
              rw [a8]
              exact SR.name (x := (zb w0 CT Z).x) (w1 := w0.w) hs' y5 (a9 m')
            have hmm := mset_le hs' ⟨r, 0, CA.size⟩
            have hmn : mset m' (HH al).n ⟨r, 0, CA.size⟩ (HH al).n = some ⟨r, 0, CA.size⟩ := by simp [mset]
            have hcu : curIx E (svY al none (seen.setIfInBounds x0 true)) n = al + 1 := by
              refine curIx_at y2 (by rw [svY_none, hset, if_neg (by omega)]; exact y3) n y1 (fun k h1 h2 h3 => ?_)
              rw [svY_none, hset, if_neg (by omega)]
              have := hbehind k (by omega) h2 h3
              rw [svY_ne (by omega)] at this; exact this
            refine next Z none v w' _ (hm'.trans hmm) zok1 znd (hzslot v) hz2i (fun r hr => by cases hr) (fun _ _ _ => hx') (by rw [hcu]; exact hsn) (by rw [cvY_none]; exact hr.mono hmm) (fun t k ht hdt hq hks => ?_)
            rw [cvY_none]
            by_cases hka : k = al
            · subst hka
              obtain ⟨_, o', q1, q2, _⟩ := (findDst_spec t _ 0).1 k hq
              rw [y6 o' t (by rw [← hopl]; simpa using q1) q2, a7]
              exact a10 _ r _ hmn
            · have hr := (hrep t ht).mono (hm'.trans hmm)
              rw [hq] at hr
              simp only at hr
              rw [if_pos hks, cvY_ne hka] at hr; exact hr
      by_cases hia : i = al
      · have hyn : y = none := by
          cases hyy : y with
          | none => rfl
          | some r =>
            have := (hy r hyy).2.2.1
            rw [← hia, hius] at this; cases this
        have hbehind : ∀ k, i < k → k < n → E k = true → seen.getD k false = false := fun k h1 h2 h3 => by
          cases hq : seen.getD k false with
          | false => rfl
          | true =>
            have := hnext (fun x => seen.getD x false) inv k h2 h3 (by omega) (fun o'' ho'' => inv k o'' ho'' hq) i h1 hE
            rw [hius] at this; cases this
        by_cases hx : ∃ x, x < al ∧ E x = true ∧ seen.getD x false = false
        · -- ahead of its turn
          obtain ⟨oa, da, a1, a4, a5, a7, a8, a9, a10, a11⟩ := hal3 (by omega) (by rw [← hia]; exact hE)
          have hoo : oa = o := by rw [← hia, hio] at a1; injection a1 with a1; exact a1.symm
          subst hoo
          subst hyn
          rw [hia]
          refine a11 m a w _ hasz (by rw [← hia]; exact hslots) ?_
          rw [← hia]
          refine next Z (some w.heap.size) _ _ m (MLe.refl m) zok1 znd (hzslot _) hz2i (fun r hr => ?_) (fun h => by cases h) ?_ (by rw [hia, cvY_al]; exact .any _) (fun t k ht hdt hq hks => ?_)
          · injection hr with hr; subst hr
            obtain ⟨x, x1, x2, x3⟩ := hx
            refine ⟨by omega, by rw [← hia]; exact hE, by rw [hset, if_pos hia.symm], ⟨x, x1, x2, by rw [hset, if_neg (by omega)]; exact x3⟩, hs.bel.offAt (Nat.le_refl _), fun o' d h1 h2 => ?_⟩
            rw [a1] at h1; injection h1 with h1; subst h1
            rw [a4] at h2; injection h2 with h2; subst h2
            exact hputd _ _ a5 a4
          · have hcc : curIx E (svY al (some w.heap.size) (seen.setIfInBounds i true)) n = curIx E (svY al none seen) n := by
              refine curIx_congr n (fun k hk hke => ?_)
              by_cases hki : k = al
              · subst hki; rw [svY_al, svY_none, ← hia, hius]
              · rw [hsvset _ k (by omega), svY_ne hki, svY_none]
            rw [hcc]
            exact SR.hide hs _
          · have := holdsSame m (MLe.refl m) t k ht hdt hq hks
            by_cases hka : k = al
            · subst hka; rw [cvY_al]; exact .any _
            · rw [cvY_ne hka]; rwa [cvY_ne hka] at this
        · refine turn (fun k hk hke => ?_) (fun k h1 h2 h3 => ?_) (fun _ => hyn)
          · rw [hyn, svY_none]
            cases hq : seen.getD k false with
            | true => rfl
            | false => exact absurd ⟨k, by omega, hke, hq⟩ hx
          · rw [hyn, svY_none]; exact hbehind k h1 h2 h3
      · have hall : ∀ k, k < i → E k = true → seen.getD k false = true := hnext (fun x => seen.getD x false) inv i hin hE hia hafter'
        refine turn (fun k hk hke => ?_) (fun k h1 h2 h3 => ?_) (fun e => absurd e hia)
        · by_cases hka : k = al
          · cases hyy : y with
            | none => rw [svY_none]; exact hall k hk hke
            | some r =>
              obtain ⟨_, _, _, ⟨x, x1, x2, x3⟩, _⟩ := hy r hyy
              rw [hall x (by omega) x2] at x3; cases x3
          · rw [svY_ne hka]; exact hall k hk hke
        · by_cases hka : k = al
          · cases hyy : y with
            | some r => rw [hka, svY_al]
            | none =>
              rw [svY_none]
              cases hq : seen.getD k false with
              | false => rfl
              | true =>
                have := hy0 hyy (by rw [← hka]; exact hq) (by rw [← hka]; exact h3) i (by omega) hE
                rw [hius] at this; cases this
          · rw [svY_ne hka]
            cases hq : seen.getD k false with
            | false => rfl
            | true =>
              have := hnext (fun x => seen.getD x false) inv k h2 h3 hka (fun o'' ho'' => inv k o'' ho'' hq) i h1 hE
              rw [hius] at this; cases this
    | false =>
      have hyi : ∀ r, y = some r → i ≠ al := fun r hr e => by
        have := (hy r hr).2.1
        rw [← e, hE] at this; cases this
      have hcur' : curIx E (svY al y (seen.setIfInBounds i true)) n = curIx E (svY al y seen) n := by
        refine curIx_congr n (fun k hk hke => ?_)
        exact hsvset y k (fun he => by subst he; rw [hE] at hke; cases hke)
      have hlifti : ∀ e ∈ o.after, Region.binds .any e = true → svY al y seen e.on = true := lift i o hio hafter
      have hyk : ∀ (Z' : List (Nat × Nat)) (v : Value), (∀ r, y = some r → (zb w0 CT Z').off r) → ∀ r, y = some r → al < n ∧ E al = true ∧ (seen.setIfInBounds i true).getD al false = true ∧ (∃ x, x < al ∧ E x = true ∧ (seen.setIfInBounds i true).getD x false = false) ∧ (zb w0 CT Z').off r ∧ ∀ o' d, ops[al]? = some o' → o'.dst = some d → (a.put o.dst v).tmps.getD d undef = mkA r := fun Z' v hoff r hyr => by
        obtain ⟨y1, y2, y3, ⟨x, x1, x2, x3⟩, y5, y6⟩ := hy r hyr
        refine ⟨y1, y2, by rw [hset, if_neg (Ne.symm (hyi r hyr))]; exact y3, ⟨x, x1, x2, ?_⟩, hoff r hyr, fun o' d h1 h2 => ?_⟩
        · rw [hset, if_neg (fun e => by subst e; rw [hE] at x2; cases x2)]; exact x3
        · rw [hputn _ d (hdal o' d h1 h2 (hyi r hyr))]; exact y6 o' d h1 h2
      have hy0k : y = none → (seen.setIfInBounds i true).getD al false = true → E al = true → ∀ x, x < al → E x = true → (seen.setIfInBounds i true).getD x false = true := fun hyn h1 h2 x hx hxe => by
        rw [hset] at h1 ⊢
        by_cases hxi : x = i
        · rw [if_pos hxi]
        · rw [if_neg hxi]
          by_cases hia : al = i
          · rw [hia, hE] at h2; cases h2
          · rw [if_neg hia] at h1; exact hy0 hyn h1 h2 x hx hxe
      cases hfi : fl i with
      | true =>
        -- a block that has no name till the end
        obtain ⟨d, hd1, hd2, hrun⟩ := hlone i o hio hfi
        refine hrun m a w _ hasz hslots ?_
        have hoffn := hs.bel.offAt (Nat.le_refl _)
        have hoffz : (zb w0 CT Z).off w.heap.size := by
          cases hyy : y with
          | none => rw [hyy] at hoffn; exact hoffn
          | some ry => rw [hyy] at hoffn; exact ⟨hoffn.1, fun q hq => hoffn.2 q (by show q ∈ (ry, _) :: _; exact List.mem_cons_of_mem _ hq)⟩
        refine next ((i, w.heap.size) :: Z) y _ _ m (MLe.refl m) ⟨hoffz, zok1⟩ ?_ (fun p hp => ?_) (fun j hj hfj hsj => ?_) (hyk _ _ (fun ry hyr => ?_)) hy0k ?_ ?_ (holdsSame m (MLe.refl m))
        · rw [List.map_cons, List.nodup_cons]
          refine ⟨fun h => ?_, znd⟩
          obtain ⟨p, hp, he⟩ := List.mem_map.1 h
          have := (hz1 p hp).2.2.1
          rw [he, hius] at this; cases this
        · rcases List.mem_cons.1 hp with rfl | hp
          · refine ⟨hin, hfi, by rw [hset, if_pos rfl], fun o' d' h1 h2 => ?_⟩
            rw [hio] at h1; injection h1 with h1; subst h1
            rw [hd1] at h2; injection h2 with h2; subst h2
            exact hputd _ _ hd2 hd1
          · exact hzslot _ p hp
        · by_cases hji : j = i
          · subst hji; exact ⟨w.heap.size, by simp⟩
          · rw [hset, if_neg hji] at hsj
            obtain ⟨r, hr⟩ := hz2 j hj hfj hsj
            exact ⟨r, by simp [hr]⟩
        · obtain ⟨_, _, _, _, y5, _⟩ := hy ry hyr
          rw [hyr] at hs
          have hlt : ry < w.heap.size := some_lt (hs.bel.2 (ry, .cells CA T) (by show (ry, _) ∈ (ry, _) :: _; simp))
          refine ⟨y5.1, fun q hq => ?_⟩
          rcases List.mem_cons.1 (show q ∈ (w.heap.size, Obj.cells (CT i).1 (CT i).2) :: (zb w0 CT Z).x from hq) with rfl | hq
          · show ry ≠ w.heap.size
            omega
          · exact y5.2 q hq
        · rw [hcur']
          have h1 := SR.hide hs (.cells (CT i).1 (CT i).2)
          cases hyy : y with
          | none => rw [hyy] at h1; exact h1
          | some ry =>
            rw [hyy] at h1
            refine SR.perm (w1 := w0.w) (x' := (ry, .cells CA T) :: (w.heap.size, .cells (CT i).1 (CT i).2) :: (zb w0 CT Z).x) (x := (w.heap.size, .cells (CT i).1 (CT i).2) :: (ry, .cells CA T) :: (zb w0 CT Z).x) h1 (fun q => ?_)
            simp only [List.mem_cons]
            exact or_left_comm
        · have : cvY al y c i = .any := by
            unfold cvY
            split
            · rfl
            · exact (hflE i hfi).2
          rw [this]; exact .any _
      | false =>
      refine hfact _ i o hio hfi (curIx E (svY al y seen) n) (fun h => by rw [hE] at h; cases h) (fun _ => ⟨curIx_le _ _ n, ?_⟩) m a w _ hs hd hasz hslots (fun m' v w' hm' hs' hr => ?_)
      · unfold mayB
        rw [Bool.and_eq_true]
        constructor
        · rcases curIx_mem E (svY al y seen) n with q | ⟨q1, q2, q3⟩
          · rw [q]
          · obtain ⟨k, hk⟩ : ∃ k, curIx E (svY al y seen) n = k + 1 := ⟨curIx E (svY al y seen) n - 1, by omega⟩
            rw [hk] at q1 q2 ⊢
            simp only [Nat.add_sub_cancel] at q1 q2
            simp only [q1, Bool.true_and, Bool.not_eq_true']
            cases hw : waitsO ops.toList k i with
            | false => rfl
            | true =>
              have hki : i ≠ k := fun he => by subst he; rw [hE] at q1; cases q1
              have := waitsO_seen (seen := fun x => seen.getD x false) hw hki (fun o' ho' e he1 he2 => inv k o' (by rw [← hopl]; exact ho') (svY_le q2) e he1 he2) (fun k' o' ho' => inv k' o' (by rw [← hopl]; exact ho'))
              rw [hius] at this; cases this
        · refine upTo_of (fun e he => ?_)
          cases hq : (E e && Nat.blt e i && waitsO ops.toList i e) with
          | false => rfl
          | true =>
            simp only [Bool.and_eq_true] at hq
            obtain ⟨⟨q1, q2⟩, q3⟩ := hq
            have q2 := blt_lt q2
            have := waitsO_seen (seen := svY al y seen) q3 (by omega) (fun o' ho' e he1 he2 => by
              rw [hopl, hio] at ho'; injection ho' with ho'; subst ho'; exact hlifti e he1 he2) (fun k' o' ho' => inv' k' o' (by rw [← hopl]; exact ho'))
            have := curIx_last E (svY al y seen) n e he q1 this
            simp only [Bool.not_true, Bool.false_or]
            exact Nat.ble_eq_true_of_le this
      · rw [hE, if_neg (by simp)] at hs'
        refine next Z y v w' m' hm' zok1 znd (hzslot v) (hz2k hfi) (hyk Z v (fun r hyr => (hy r hyr).2.2.2.2.1)) hy0k (by rw [hcur']; exact hs') ?_ (holdsSame m' hm')
        · by_cases hia : i = al
          · cases hyy : y with
            | none => rw [cvY_none]; exact hr
            | some r => exact absurd hia (hyi r hyy)
          · rw [cvY_ne hia]; exact hr
end
end Go.Proofs.YtboopmfjkepilaaGreatDoor.Run
