/-
  Texts of one proof, in their order. No condition.
-/
import Derived.Test.YtdffmciedieikaaTkR15
namespace Go.Proofs.Ytdffmciedieikaa.Run
open Go.RowKit
set_option linter.unusedVariables false
set_option linter.unusedSimpArgs false
theorem bytes_ext {a b : ByteArray} (h : a.data.toList = b.data.toList) : a = b := ByteArray.ext (Array.toList_inj.1 h)
theorem same_spec : ∀ n : Nat, (∀ u v, sameV n u v = true → u = v) ∧ (∀ l l', sameVs n l l' = true → l = l') ∧ (∀ a b, sameC n a b = true → a = b) ∧ (∀ l l', sameCs n l l' = true → l = l')
  | 0 => ⟨fun u v h => by simp [sameV] at h, fun u v h => by simp [sameVs] at h, fun u v h => by simp [sameC] at h, fun u v h => by simp [sameCs] at h⟩
  | n + 1 => by
    obtain ⟨i1, i2, i3, i4⟩ := same_spec n
    refine ⟨fun u v h => ?_, fun l l' h => ?_, fun a b h => ?_, fun l l' h => ?_⟩
    · unfold sameV at h
      split at h
      · rw [eq_of_beq h]
      · simp only [Bool.and_eq_true, decide_eq_true_eq] at h
        rw [h.1, h.2]
      · rw [bytes_ext (eq_of_beq h)]
      · rfl
      · rfl
      · rfl
      · rfl
      · rfl
      · rw [Array.toList_inj.1 (i2 _ _ h)]
      · rw [Array.toList_inj.1 (i2 _ _ h)]
      · cases h
    · unfold sameVs at h
      split at h
      · rfl
      · rw [Bool.and_eq_true] at h
        rw [i1 _ _ h.1, i2 _ _ h.2]
      · cases h
    · unfold sameC at h
      split at h
      · rw [i1 _ _ h]
      · simp only [Bool.and_eq_true, decide_eq_true_eq] at h
        rw [h.1, Nat.eq_of_beq_eq_true h.2]
      · simp only [Bool.and_eq_true, decide_eq_true_eq] at h
        obtain ⟨⟨⟨⟨⟨h1, h2⟩, h3⟩, h4⟩, h5⟩, h6⟩ := h
        rw [h1, Nat.eq_of_beq_eq_true h2, Nat.eq_of_beq_eq_true h3, Nat.eq_of_beq_eq_true h4, Nat.eq_of_beq_eq_true h5, eq_of_beq h6]
      · rw [of_decide_eq_true h]
      · rw [of_decide_eq_true h]
      · simp only [Bool.and_eq_true, decide_eq_true_eq] at h
        rw [h.1.1, i4 _ _ h.1.2, i4 _ _ h.2]
      · simp only [Bool.and_eq_true] at h
        rw [Nat.eq_of_beq_eq_true h.1, i3 _ _ h.2]
      · rw [i4 _ _ h]
      · rw [i4 _ _ h]
      · cases h
    · unfold sameCs at h
      split at h
      · rfl
      · rw [Bool.and_eq_true] at h
        rw [i3 _ _ h.1, i4 _ _ h.2]
      · cases h
theorem onlyT_get (f : Fr) : ∀ (ts : List Nat) (t : Nat), (onlyT f ts).get (Pa.of t) = if t ∈ ts then some (f.get t) else none
  | [], t => by simp [onlyT, Tr.get_lf]
  | x :: r, t => by
    unfold onlyT
    by_cases he : x = t
    · subst he; rw [Tr.get_set_eq]; simp
    · rw [Tr.get_set_ne _ _ _ _ (fun e => he (Pa.of_inj e)), onlyT_get f r t]
      simp [Ne.symm he]
theorem only_get (f : Fr) (ts : List Nat) (t : Nat) : (f.only ts).get t = if t ∈ ts then f.get t else .any := by
  show (match (onlyT f ts).get (Pa.of t) with | some c => c | none => CV.any) = _
  rw [onlyT_get]
  by_cases ht : t ∈ ts <;> simp [ht]
theorem put_n (f : Fr) (d : Option Tmp) (c : CV) : (f.put d c).n = f.n := by
  cases d with
  | none => rfl
  | some d => simp only [Fr.put]; split <;> rfl
theorem put_get (f : Fr) (d : Option Tmp) (c : CV) (t : Nat) (ht : t < f.n) : (f.put d c).get t = if d = some t then c else f.get t := by
  cases d with
  | none => simp [Fr.put]
  | some d =>
    simp only [Fr.put]
    cases hb : Nat.blt d f.n with
    | false =>
      have hd : ¬ d = t := fun he => by
        subst he
        have : Nat.blt d f.n = true := Nat.ble_eq_true_of_le ht
        rw [hb] at this; cases this
      simp [hd]
    | true =>
      simp only [Fr.get]
      by_cases he : d = t
      · subst he; rw [Tr.get_set_eq]; simp
      · rw [Tr.get_set_ne _ _ _ _ (fun e => he (Pa.of_inj e))]; simp [he]
theorem put_out (f : Fr) (d : Option Tmp) (c : CV) (t : Nat) (ht : f.n ≤ t) : (f.put d c).get t = f.get t := by
  cases d with
  | none => rfl
  | some d =>
    simp only [Fr.put]
    cases hb : Nat.blt d f.n with
    | false => rfl
    | true =>
      have hd := blt_lt hb
      simp only [Fr.get]
      rw [Tr.get_set_ne _ _ _ _ (fun e => by have := Pa.of_inj e; omega)]
theorem mem_upTo : ∀ {n i : Nat}, i ∈ upTo n ↔ i < n
  | 0, i => by simp [upTo]
  | n + 1, i => by simp [upTo, mem_upTo]; omega
section
variable {P : Program} {w0 : Bs} {ih : Tk → Option Rs}
theorem slot_step {ops : List Oper} (hcalm : calmL ops ops 0 = true) {env C : Nat → CV} {k : Nat} {o : Oper} (ho : ops[k]? = some o) (t : Nat) : slotAt ops env C (k + 1) t = if o.dst = some t then C k else slotAt ops env C k t := by
  have hsp := calmL_spec hcalm
  unfold slotAt
  cases hq : findDst t ops 0 with
  | none =>
    have := (findDst_spec t ops 0).2 hq k o ho
    simp [this]
  | some i =>
    obtain ⟨_, o', q1, q2, _⟩ := (findDst_spec t ops 0).1 i hq
    simp only [Nat.sub_zero] at q1
    by_cases hd : o.dst = some t
    · have hik : i = k := by
        rcases Nat.lt_trichotomy i k with hlt | he | hlt
        · exact absurd hd ((hsp i o' q1).2.2.2 t q2 k o hlt ho)
        · exact he
        · exact absurd q2 ((hsp k o ho).2.2.2 t hd i o' hlt q1)
      subst hik
      simp [hd]
    · have hik : i ≠ k := fun he => by subst he; rw [ho] at q1; injection q1 with q1; subst q1; exact hd q2
      simp only [hd, if_false]
      by_cases hlt : i < k
      · rw [if_pos (by omega), if_pos hlt]
      · rw [if_neg (by omega), if_neg hlt]
theorem refR_spec {ops : List Oper} (hcalm : calmL ops ops 0 = true) {env C : Nat → CV} {dh : Hp} {df : Fr} : ∀ (rest : List Oper) (k : Nat) (f : Fr) (h : Hp) (l : List (CV × Hp × Fr)) (f2 : Fr) (h2 : Hp), (∀ j, ops[k + j]? = rest[j]?) → refR P ih ops rest f h = some (l, f2, h2) → (∀ j, j < rest.length → C (k + j) = (l.map (·.1)).getD j .any) → (∀ t, t < f.n → f.get t = slotAt ops env C k t) →
    l.length = rest.length ∧ (f2.n = f.n ∧ ∀ t, f.n ≤ t → f2.get t = f.get t) ∧ h2 = (h :: l.map (·.2.1)).getD rest.length dh ∧ (∀ t, t < f.n → f2.get t = slotAt ops env C (k + rest.length) t) ∧ ∀ (j : Nat) (o : Oper), rest[j]? = some o → ((l.map (·.2.2)).getD j df).n = f.n ∧ (∀ t, t < f.n → ((l.map (·.2.2)).getD j df).get t = slotAt ops env C (k + j) t) ∧ stepR P ih ops (((l.map (·.2.2)).getD j df).only (readsO ops o)) ((h :: l.map (·.2.1)).getD j dh) o = some (C (k + j), (h :: l.map (·.2.1)).getD (j + 1) dh)
  | [], k, f, h, l, f2, h2, hop, hc, hC, hf => by
    simp only [refR, Option.some.injEq, Prod.mk.injEq] at hc
    obtain ⟨rfl, rfl, rfl⟩ := hc
    exact ⟨rfl, ⟨rfl, fun _ _ => rfl⟩, rfl, hf, fun j o ho => by simp at ho⟩
  | o :: rest, k, f, h, l, f2, h2, hop, hc, hC, hf => by
    unfold refR at hc
    split at hc
    case h_2 => cases hc
    rename_i c h1 hst
    split at hc
    case h_2 => cases hc
    rename_i l' f2' h2' hrec
    simp only [Option.some.injEq, Prod.mk.injEq] at hc
    obtain ⟨rfl, rfl, rfl⟩ := hc
    have ho : ops[k]? = some o := by have := hop 0; simpa using this
    have hCk : C k = c := by have := hC 0 (by simp); simpa using this
    obtain ⟨q1, q2, q3, q4, q5⟩ := refR_spec hcalm (env := env) (C := C) (dh := dh) (df := df) rest (k + 1) (f.put o.dst c) h1 l' f2' h2' (fun j => by have := hop (j + 1); rw [show k + 1 + j = k + (j + 1) by omega]; simpa using this) hrec
      (fun j hj => by have := hC (j + 1) (by simpa using hj); rw [show k + 1 + j = k + (j + 1) by omega, this]; simp)
      (fun t ht => by
        rw [put_n] at ht
        rw [put_get _ _ _ _ ht, slot_step hcalm ho, hCk, hf t ht])
    rw [put_n] at q2 q4 q5
    refine ⟨by simp [q1], ⟨q2.1, fun t ht => by rw [q2.2 t ht, put_out _ _ _ _ ht]⟩, by simpa using q3, fun t ht => ?_, fun j o' ho' => ?_⟩
    · rw [q4 t ht]; congr 1; simp; omega
    · cases j with
      | zero =>
        simp at ho'; subst ho'
        exact ⟨rfl, hf, by simpa [hCk] using hst⟩
      | succ j =>
        obtain ⟨g1, g2, g3⟩ := q5 j o' (by simpa using ho')
        refine ⟨by simpa using g1, fun t ht => by have := g2 t ht; rw [show k + (j + 1) = k + 1 + j by omega]; simpa using this, ?_⟩
        rw [show k + (j + 1) = k + 1 + j by omega]
        simpa using g3
theorem curIx_none {E s : Nat → Bool} (hs : ∀ i, s i = false) : ∀ k, curIx E s k = 0
  | 0 => rfl
  | k + 1 => by unfold curIx; rw [hs k]; simp [curIx_none hs k]
theorem readsB_spec {ops : List Oper} {sz : Nat} : ∀ {l : List Oper}, readsB ops sz l = true → ∀ (j : Nat) (o : Oper), l[j]? = some o → ∀ t ∈ readsO ops o, t < sz
  | [], _, j, o, ho, _, _ => by simp at ho
  | x :: r, h, j, o, ho, t, ht => by
    simp only [readsB, Bool.and_eq_true] at h
    cases j with
    | zero =>
      simp at ho; subst ho
      exact blt_lt (List.all_eq_true.1 h.1 t ht)
    | succ j => exact readsB_spec h.2 j o (by simpa using ho) t ht
theorem floatOk_spec {ops : List Oper} {h : Hp} {l : List (CV × Hp × Fr)} {df : Fr} : ∀ {r : List (Nat × Nat)}, floatOk P ih ops h l r = true → ∀ x ∈ r, ∀ o, ops[x.1]? = some o → ∃ h', stepR P ih ops (((l.map (·.2.2)).getD x.1 df).only (readsO ops o)) ((h :: l.map (·.2.1)).getD x.2 h) o = some ((l.map (·.1)).getD x.1 .any, h')
  | [], _, x, hx, _, _ => by cases hx
  | (j, k) :: r, hok, x, hx, o, ho => by
    simp only [floatOk, Bool.and_eq_true] at hok
    obtain ⟨h1, h2⟩ := hok
    rcases List.mem_cons.1 hx with rfl | hx
    · simp only at ho
      rw [ho] at h1
      cases hl : l[j]? with
      | none => rw [hl] at h1; cases h1
      | some y =>
        obtain ⟨c, hh, g⟩ := y
        rw [hl] at h1
        simp only at h1
        split at h1
        · rename_i c' h' hst
          have := (same_spec 1000).2.2.1 _ _ h1
          subst this
          refine ⟨h', ?_⟩
          simp only
          rw [show (l.map (·.2.2)).getD j df = g by simp [List.getD_eq_getElem?_getD, hl], hst]
          simp [List.getD_eq_getElem?_getD, hl]
        · cases h1
    · exact floatOk_spec h2 x hx o ho
theorem chainB_congr {hd : List Oper} {E E' : Nat → Bool} : ∀ (f k : Nat) (pr : Option Nat), (∀ j, j < k + f → E j = E' j) → chainB hd E f k pr = chainB hd E' f k pr
  | 0, _, _, _ => rfl
  | f + 1, k, pr, h => by
    unfold chainB
    rw [h k (by omega), chainB_congr f (k + 1) (some k) (fun j hj => h j (by omega)), chainB_congr f (k + 1) pr (fun j hj => h j (by omega))]
theorem stepR_alloc {ops : List Oper} {f : Fr} {h h' : Hp} {o : Oper} {t : TypeId} (ho : o.op = .alloc t) (hg : o.guard = none) {c : CV} (hc : stepR P ih ops f h o = some (c, h')) : ∃ z, zeroT P t = some z ∧ c = .ptr h.n 0 ∧ h' = h.new (.cells (z.cells.toList.map .lit) h.n) := by
  unfold stepR at hc
  rw [hg] at hc
  simp only at hc
  unfold opR at hc
  rw [ho] at hc
  simp only [effB] at hc
  unfold opE at hc
  rw [ho] at hc
  simp only at hc
  split at hc
  case h_2 => cases hc
  rename_i z hz
  simp only [Option.some.injEq, Prod.mk.injEq] at hc
  exact ⟨z, hz, hc.1.symm, hc.2.symm⟩
theorem waitsL_of {i : Nat} : ∀ {l : List Edge} {e : Edge}, e ∈ l → Region.binds .any e = true → e.on = i → waitsL i l = true
  | x :: r, e, he, h1, h2 => by
    simp only [waitsL, Bool.or_eq_true, Bool.and_eq_true]
    rcases List.mem_cons.1 he with rfl | he
    · exact .inl ⟨h1, by rw [h2]; exact Nat.beq_refl _⟩
    · exact .inr (waitsL_of he h1 h2)
theorem alOf_spec {ops : Array Oper} {n sz al : Nat} (hn : n = ops.size) (hc : alOf P ops.toList n sz = some al) :
    chainB ops.toList (fun j => effJ P ops.toList j && !(Nat.beq j al)) n 0 none = true ∧ (∀ j, j < n → effJ P ops.toList j = true → al < j → effJ P ops.toList al = true → waitsO ops.toList j al = true) ∧
    (al < n → effJ P ops.toList al = true → ∀ j o, ops[j]? = some o → effJ P ops.toList j = false → ∀ e ∈ o.after, Region.binds .any e = true → e.on = al → ∀ x, x < al → effJ P ops.toList x = true → waitsO ops.toList j x = true) ∧
    (al < n → ∃ (o : Oper) (d t : Nat), ops[al]? = some o ∧ o.op = .alloc t ∧ o.guard = none ∧ o.dst = some d ∧ d < sz) := by
  unfold alOf at hc
  split at hc
  · rename_i hch
    injection hc with hc; subst hc
    refine ⟨?_, fun j h1 _ h2 => by omega, fun h => by omega, fun h => by omega⟩
    rw [← hch]
    refine chainB_congr _ _ _ (fun j hj => ?_)
    have : Nat.beq j n = false := by cases hq : Nat.beq j n with | false => rfl | true => have := Nat.eq_of_beq_eq_true hq; omega
    rw [this]; simp
  · split at hc
    case h_2 => cases hc
    rename_i hch
    injection hc with hc
    rw [hc] at hch
    simp only [Bool.and_eq_true] at hch
    obtain ⟨⟨⟨h1, h2⟩, h3⟩, h4⟩ := hch
    refine ⟨h1, fun j hj hje hlt _ => ?_, fun hlt hae j o ho hje e he hb hon x hx hxe => ?_, fun hlt => ?_⟩
    · have := upTo_all h2 j hj
      rw [hje, show Nat.blt al j = true from Nat.ble_eq_true_of_le hlt] at this
      simpa using this
    · have hjn : j < n := by rw [hn]; exact (Array.getElem?_eq_some_iff.1 ho).1
      have h3' := upTo_all h3 j hjn
      have hw : waitsH ops.toList j al = true := by
        unfold waitsH
        rw [Array.getElem?_toList, ho]
        exact waitsL_of (by simpa using he) hb hon
      rw [hje, hw] at h3'
      simp only [Bool.not_true, Bool.or_self, Bool.false_or] at h3'
      have := upTo_all h3' x hx
      rw [hxe] at this
      simpa using this
    · unfold al3B at h4
      rw [Array.getElem?_toList] at h4
      split at h4
      · rename_i o ho
        split at h4
        · rename_i t d q1 q2 q3
          exact ⟨o, d, t, ho, q1, q2, q3, blt_lt h4⟩
        · cases h4
      · cases h4
theorem anyR_wp (I : Snd P ih) (hm : P.follows .mixedOrders = true) {r : Option Nat} {nn id : Nat} {ops : Array Oper} {Q : Exit → Act → World → Prop} {m : Mp} {h : Hp} {w : World} {a : Act} {f : Fr} (s : SR w0 m h w) (hf : FT m a.tmps f) {f' : Fr} {h' : Hp} (hc : anyR P ih ops.toList ops.toList.length f h = some (f', h')) (hk : ∀ m' a' w', MLe m m' → SR w0 m' h' w' → FT m' a'.tmps f' → a'.defers = a.defers → Q .normal a' w') : (Code.region id ops true).wpIn (Fc r) nn P Q a w := by
  unfold anyR at hc
  split at hc
  case h_1 => cases hc
  rename_i hstat
  rw [Bool.and_eq_true] at hstat
  obtain ⟨hstat, hreads⟩ := hstat
  unfold staticB at hstat
  rw [Bool.and_eq_true] at hstat
  obtain ⟨hcalm, hsome⟩ := hstat
  obtain ⟨al, hal⟩ := Option.isSome_iff_exists.1 hsome
  obtain ⟨hchain, hal1, hal2, hal3⟩ := alOf_spec (by simp) hal
  split at hc
  case h_1 => cases hc
  rename_i l f2 h2 href
  split at hc
  case h_2 => cases hc
  rename_i hfloat
  simp only [Option.some.injEq, Prod.mk.injEq] at hc
  obtain ⟨rfl, rfl⟩ := hc
  have hnl : ops.toList.length = ops.size := by simp
  have hopl : ∀ j, ops.toList[j]? = ops[j]? := fun j => Array.getElem?_toList
  have hrd := readsB_spec hreads
  obtain ⟨q1, ⟨q2, q2o⟩, q3, q4, q5⟩ := refR_spec hcalm (env := f.get) (C := fun j => (l.map (·.1)).getD j .any) (dh := h) (df := f) ops.toList 0 f h l f2 h2 (fun j => by rw [Nat.zero_add]) href (fun j hj => by rw [Nat.zero_add]) (fun t ht => by
    unfold slotAt
    split
    · rw [if_neg (by omega)]
    · rfl)
  simp only [Nat.zero_add] at q4 q5
  have hquiet : ∀ k, k < ops.toList.length → effJ P ops.toList k = false → (h :: l.map (·.2.1)).getD (k + 1) h = (h :: l.map (·.2.1)).getD k h := fun k hk he => by
    have ho : ops.toList[k]? = some (ops.toList[k]'hk) := List.getElem?_eq_getElem hk
    obtain ⟨g1, g2, g3⟩ := q5 k _ ho
    unfold effJ at he
    rw [ho] at he
    exact stepR_quiet he g3
  have hrep0 : ∀ i, (Array.replicate ops.size false).getD i false = false := fun i => by
    rw [Array.getD_eq_getD_getElem?, Array.getElem?_replicate]
    split <;> rfl
  refine wpIn_region_any hm ?_
  obtain ⟨T, z, halz⟩ : ∃ (T : TypeId) (z : Value), al < ops.toList.length → effJ P ops.toList al = true → ∃ (o : Oper) (d : Tmp), ops[al]? = some o ∧ o.op = .alloc T ∧ o.guard = none ∧ o.dst = some d ∧ d < f.n ∧ zeroT P T = some z ∧ (l.map (·.1)).getD al .any = .ptr ((h :: l.map (·.2.1)).getD al h).n 0 ∧ (h :: l.map (·.2.1)).getD (al + 1) h = ((h :: l.map (·.2.1)).getD al h).new (.cells (z.cells.toList.map .lit) ((h :: l.map (·.2.1)).getD al h).n) := by
    by_cases hlt : al < ops.toList.length
    · obtain ⟨o, d, t, a1, a2, a3, a4, a5⟩ := hal3 hlt
      obtain ⟨g1, g2, g3⟩ := q5 al o (by rw [hopl]; exact a1)
      obtain ⟨z, b1, b2, b3⟩ := stepR_alloc a2 a3 g3
      exact ⟨t, z, fun _ _ => ⟨o, d, a1, a2, a3, a4, a5, b1, b2, b3⟩⟩
    · exact ⟨(0 : Nat), undef, fun h => absurd h hlt⟩
  refine any_wp (w0 := w0) (n := ops.toList.length) (al := al) hnl hcalm hchain hal1 hal2 (env := f.get) (c := fun j => (l.map (·.1)).getD j .any) (HH := fun k => (h :: l.map (·.2.1)).getD k h) hquiet (sz := f.n) (T := T) (z := z) halz (m0 := m) (D := a.defers) ?_ ?_ ?_ ops.size (Array.replicate ops.size false) (List.range ops.size) none a _ m ?_ ?_ ?_ ?_ ?_ rfl hf.size (MLe.refl m) (fun r h => by cases h) (fun _ hs => by rw [hrep0] at hs; cases hs) ?_ ?_
  · -- an operation
    intro w0' j o ho k hE1 hE2 m' a' w' K s' hd' hsz hslots hK
    have hol : ops.toList[j]? = some o := by rw [hopl]; exact ho
    have hjn : j < ops.toList.length := (List.getElem?_eq_some_iff.1 hol).1
    obtain ⟨g1, g2, g3⟩ := q5 j o hol
    unfold wpOpIn
    rw [ho]
    simp only
    have frm : ∀ g : Fr, g.n = f.n → (∀ t, t ∈ readsO ops.toList o → g.get t = slotAt ops.toList f.get (fun j => (l.map (·.1)).getD j .any) j t) → FT m' a'.tmps (g.only (readsO ops.toList o)) := fun g g1 g2 => by
      refine ⟨by rw [hsz]; exact g1.symm, fun t => ?_⟩
      rw [only_get]
      by_cases ht : t ∈ readsO ops.toList o
      · rw [if_pos ht, g2 t ht]; exact hslots t ht
      · rw [if_neg ht]; exact .any _
    cases hE : effJ P ops.toList j with
    | true =>
      obtain rfl := hE1 hE
      refine stepR_wp I s' (frm _ g1 (fun t ht => g2 t (hrd _ o hol t ht))) g3 (fun m'' v w'' hm'' s'' hr => hK m'' v w'' hm'' ?_ hr)
      rw [hE, if_pos rfl]; exact s''
    | false =>
      obtain ⟨hkn, hmay⟩ := hE2 hE
      have hK' : ∀ (m'' : Mp) (v : Value) (w'' : World), MLe m' m'' → SR w0' m'' ((h :: l.map (·.2.1)).getD k h) w'' → Rp m'' v ((l.map (·.1)).getD j .any) → K (a'.put o.dst v) w'' := fun m'' v w'' hm'' s'' hr => hK m'' v w'' hm'' (by rw [hE]; simpa using s'') hr
      have heff : effB P o.op = false := by unfold effJ at hE; rw [hol] at hE; exact hE
      by_cases hcur : k = curIx (effJ P ops.toList) (fun _ => true) j
      · have hHk : (h :: l.map (·.2.1)).getD k h = (h :: l.map (·.2.1)).getD j h := by
          rw [hcur]
          have key : ∀ i, i ≤ ops.toList.length → (h :: l.map (·.2.1)).getD (curIx (effJ P ops.toList) (fun _ => true) i) h = (h :: l.map (·.2.1)).getD i h := by
            intro i
            induction i with
            | zero => intro _; rfl
            | succ i ihi =>
              intro hi
              unfold curIx
              cases hEi : effJ P ops.toList i with
              | true => simp
              | false =>
                simp only [Bool.false_and, Bool.false_eq_true, if_false]
                rw [ihi (by omega)]
                exact (hquiet i (by omega) hEi).symm
          exact key j (by omega)
        have hq := stepR_quiet heff g3
        rw [← hHk] at g3
        rw [hHk] at hK'
        refine stepR_wp I s' (frm _ g1 (fun t ht => g2 t (hrd _ o hol t ht))) g3 (fun m'' v w'' hm'' s'' hr => hK' m'' v w'' hm'' ?_ hr)
        rw [hq] at s''; exact s''
      · have hmem : (j, k) ∈ floats P ops.toList ops.toList.length := by
          unfold floats
          rw [List.mem_flatMap]
          refine ⟨j, mem_upTo.2 hjn, ?_⟩
          unfold floatsOf
          rw [hE]
          simp only
          rw [List.mem_map]
          refine ⟨k, ?_, rfl⟩
          rw [List.mem_filter]
          refine ⟨mem_upTo.2 (by omega), ?_⟩
          rw [hmay]
          cases hq : Nat.beq k (curIx (effJ P ops.toList) (fun _ => true) j) with
          | true => exact absurd (Nat.eq_of_beq_eq_true hq) hcur
          | false => rfl
        obtain ⟨hx, hst⟩ := floatOk_spec (df := f) hfloat (j, k) hmem o hol
        simp only at hst
        have hq := stepR_quiet heff hst
        subst hq
        exact stepR_wp I s' (frm _ g1 (fun t ht => g2 t (hrd _ o hol t ht))) hst (fun m'' v w'' hm'' s'' hr => hK' m'' v w'' hm'' s'' hr)
  · intro j o ho t ht
    exact hrd j o (by rw [hopl]; exact ho) t ht
  · intro m' a' w' hm' hd' hsz' s' hrep
    rw [← q3] at s'
    refine hk m' a' w' hm' s' ⟨by rw [hsz', q2], fun t => ?_⟩ hd'
    by_cases ht : t < f.n
    · rw [q4 t ht]; exact hrep t ht
    · have hz := hf.rep t
      rw [q2o t (by omega)]
      have e1 : ∀ A : Array Value, A.size = f.n → A.getD t undef = undef := fun A hA => by
        rw [Array.getD_eq_getD_getElem?, Array.getElem?_eq_none (by omega)]; rfl
      rw [e1 _ hf.size] at hz
      rw [e1 _ hsz']
      exact hz.mono hm'
  · simp
  · exact List.nodup_range
  · intro i
    rw [hrep0]; simp
  · simp
  · intro k o _ hsk
    rw [hrep0] at hsk; cases hsk
  · intro t ht
    split
    · rw [hrep0, if_neg (by simp)]; exact hf.rep t
    · exact hf.rep t
  · rw [curIx_none (fun i => by rw [svY_none]; exact hrep0 i)]
    exact s.drew
end
end Go.Proofs.Ytdffmciedieikaa.Run
