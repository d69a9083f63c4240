/-
  Texts of one proof, in their order. No condition.
-/
import Derived.Test.YtboopmfjkepilaaGreatDoorTxR15
namespace Go.Proofs.YtboopmfjkepilaaGreatDoor.Run
open Go.RowKit
set_option linter.unusedVariables false
set_option linter.unusedSimpArgs false
theorem bytes_ext {a b : ByteArray} (h : a.data.toList = b.data.toList) : a = b := ByteArray.ext (Array.toList_inj.1 h)
theorem same_spec : ∀ n : Nat, (∀ u v, sameV n u v = true → u = v) ∧ (∀ l l', sameVs n l l' = true → l = l') ∧ (∀ a b, sameC n a b = true → a = b) ∧ (∀ l l', sameCs n l l' = true → l = l')
  | 0 => ⟨fun u v h => by simp [sameV] at h, fun u v h => by simp [sameVs] at h, fun u v h => by simp [sameC] at h, fun u v h => by simp [sameCs] at h⟩
  | n + 1 => by
    obtain ⟨i1, i2, i3, i4⟩ := same_spec n
    refine ⟨fun u v h => ?_, fun l l' h => ?_, fun a b h => ?_, fun l l' h => ?_⟩
    · unfold sameV at h
      split at h
      · rw [eq_of_beq h]
      · simp only [Bool.and_eq_true, decide_eq_true_eq] at h
        rw [h.1, h.2]
      · rw [bytes_ext (eq_of_beq h)]
      · rfl
      · rfl
      · rfl
      · rfl
      · rfl
      · rw [Array.toList_inj.1 (i2 _ _ h)]
      · rw [Array.toList_inj.1 (i2 _ _ h)]
      · cases h
    · unfold sameVs at h
      split at h
      · rfl
      · rw [Bool.and_eq_true] at h
        rw [i1 _ _ h.1, i2 _ _ h.2]
      · cases h
    · unfold sameC at h
      split at h
      · rw [i1 _ _ h]
      · simp only [Bool.and_eq_true, decide_eq_true_eq] at h
        rw [h.1, Nat.eq_of_beq_eq_true h.2]
      · simp only [Bool.and_eq_true, decide_eq_true_eq] at h
        obtain ⟨⟨⟨⟨⟨h1, h2⟩, h3⟩, h4⟩, h5⟩, h6⟩ := h
        rw [h1, Nat.eq_of_beq_eq_true h2, Nat.eq_of_beq_eq_true h3, Nat.eq_of_beq_eq_true h4, Nat.eq_of_beq_eq_true h5, eq_of_beq h6]
      · rw [of_decide_eq_true h]
      · rw [of_decide_eq_true h]
      · simp only [Bool.and_eq_true, decide_eq_true_eq] at h
        rw [h.1.1, i4 _ _ h.1.2, i4 _ _ h.2]
      · simp only [Bool.and_eq_true] at h
        rw [Nat.eq_of_beq_eq_true h.1, i3 _ _ h.2]
      · rw [i4 _ _ h]
      · rw [i4 _ _ h]
      · rw [of_decide_eq_true h]
      · cases h
    · unfold sameCs at h
      split at h
      · rfl
      · rw [Bool.and_eq_true] at h
        rw [i3 _ _ h.1, i4 _ _ h.2]
      · cases h
theorem onlyT_get (f : Fr) : ∀ (ts : List Nat) (t : Nat), (onlyT f ts).get (Pa.of t) = if t ∈ ts then some (f.get t) else none
  | [], t => by simp [onlyT, Tr.get_lf]
  | x :: r, t => by
    unfold onlyT
    by_cases he : x = t
    · subst he; rw [Tr.get_set_eq]; simp
    · rw [Tr.get_set_ne _ _ _ _ (fun e => he (Pa.of_inj e)), onlyT_get f r t]
      simp [Ne.symm he]
theorem only_get (f : Fr) (ts : List Nat) (t : Nat) : (f.only ts).get t = if t ∈ ts then f.get t else .any := by
  show (match (onlyT f ts).get (Pa.of t) with | some c => c | none => CV.any) = _
  rw [onlyT_get]
  by_cases ht : t ∈ ts <;> simp [ht]
theorem put_n (f : Fr) (d : Option Tmp) (c : CV) : (f.put d c).n = f.n := by
  cases d with
  | none => rfl
  | some d => simp only [Fr.put]; split <;> rfl
theorem put_get (f : Fr) (d : Option Tmp) (c : CV) (t : Nat) (ht : t < f.n) : (f.put d c).get t = if d = some t then c else f.get t := by
  cases d with
  | none => simp [Fr.put]
  | some d =>
    simp only [Fr.put]
    cases hb : Nat.blt d f.n with
    | false =>
      have hd : ¬ d = t := fun he => by
        subst he
        have : Nat.blt d f.n = true := Nat.ble_eq_true_of_le ht
        rw [hb] at this; cases this
      simp [hd]
    | true =>
      simp only [Fr.get]
      by_cases he : d = t
      · subst he; rw [Tr.get_set_eq]; simp
      · rw [Tr.get_set_ne _ _ _ _ (fun e => he (Pa.of_inj e))]; simp [he]
theorem put_out (f : Fr) (d : Option Tmp) (c : CV) (t : Nat) (ht : f.n ≤ t) : (f.put d c).get t = f.get t := by
  cases d with
  | none => rfl
  | some d =>
    simp only [Fr.put]
    cases hb : Nat.blt d f.n with
    | false => rfl
    | true =>
      have hd := blt_lt hb
      simp only [Fr.get]
      rw [Tr.get_set_ne _ _ _ _ (fun e => by have := Pa.of_inj e; omega)]
theorem mem_upTo : ∀ {n i : Nat}, i ∈ upTo n ↔ i < n
  | 0, i => by simp [upTo]
  | n + 1, i => by simp [upTo, mem_upTo]; omega
section
variable {P : Program} {w0 : Bs} {ih : Tk → Option Rs}
theorem slot_step {ops : List Oper} (hcalm : calmL ops ops 0 = true) {env C : Nat → CV} {k : Nat} {o : Oper} (ho : ops[k]? = some o) (t : Nat) : slotAt ops env C (k + 1) t = if o.dst = some t then C k else slotAt ops env C k t := by
  have hsp := calmL_spec hcalm
  unfold slotAt
  cases hq : findDst t ops 0 with
  | none =>
    have := (findDst_spec t ops 0).2 hq k o ho
    simp [this]
  | some i =>
    obtain ⟨_, o', q1, q2, _⟩ := (findDst_spec t ops 0).1 i hq
    simp only [Nat.sub_zero] at q1
    by_cases hd : o.dst = some t
    · have hik : i = k := by
        rcases Nat.lt_trichotomy i k with hlt | he | hlt
        · exact absurd hd ((hsp i o' q1).2.2.2 t q2 k o hlt ho)
        · exact he
        · exact absurd q2 ((hsp k o ho).2.2.2 t hd i o' hlt q1)
      subst hik
      simp [hd]
    · have hik : i ≠ k := fun he => by subst he; rw [ho] at q1; injection q1 with q1; subst q1; exact hd q2
      simp only [hd, if_false]
      by_cases hlt : i < k
      · rw [if_pos (by omega), if_pos hlt]
      · rw [if_neg (by omega), if_neg hlt]
theorem refR_spec {on : Bool} {ops : List Oper} (hcalm : calmL ops ops 0 = true) {env C : Nat → CV} {dh : Hp} {df : Fr} : ∀ (rest : List Oper) (k : Nat) (f : Fr) (h : Hp) (l : List (CV × Hp × Fr)) (f2 : Fr) (h2 : Hp), (∀ j, ops[k + j]? = rest[j]?) → refR P ih on ops rest f h = some (l, f2, h2) → (∀ j, j < rest.length → C (k + j) = (l.map (·.1)).getD j .any) → (∀ t, t < f.n → f.get t = slotAt ops env C k t) →
    l.length = rest.length ∧ (f2.n = f.n ∧ ∀ t, f.n ≤ t → f2.get t = f.get t) ∧ h2 = (h :: l.map (·.2.1)).getD rest.length dh ∧ (∀ t, t < f.n → f2.get t = slotAt ops env C (k + rest.length) t) ∧ ∀ (j : Nat) (o : Oper), rest[j]? = some o → ((l.map (·.2.2)).getD j df).n = f.n ∧ (∀ t, t < f.n → ((l.map (·.2.2)).getD j df).get t = slotAt ops env C (k + j) t) ∧ stepL P ih on ops (((l.map (·.2.2)).getD j df).only (readsO ops o)) ((h :: l.map (·.2.1)).getD j dh) o = some (C (k + j), (h :: l.map (·.2.1)).getD (j + 1) dh)
  | [], k, f, h, l, f2, h2, hop, hc, hC, hf => by
    simp only [refR, Option.some.injEq, Prod.mk.injEq] at hc
    obtain ⟨rfl, rfl, rfl⟩ := hc
    exact ⟨rfl, ⟨rfl, fun _ _ => rfl⟩, rfl, hf, fun j o ho => by simp at ho⟩
  | o :: rest, k, f, h, l, f2, h2, hop, hc, hC, hf => by
    unfold refR at hc
    split at hc
    case h_2 => cases hc
    rename_i c h1 hst
    split at hc
    case h_2 => cases hc
    rename_i l' f2' h2' hrec
    simp only [Option.some.injEq, Prod.mk.injEq] at hc
    obtain ⟨rfl, rfl, rfl⟩ := hc
    have ho : ops[k]? = some o := by have := hop 0; simpa using this
    have hCk : C k = c := by have := hC 0 (by simp); simpa using this
    obtain ⟨q1, q2, q3, q4, q5⟩ := refR_spec hcalm (env := env) (C := C) (dh := dh) (df := df) rest (k + 1) (f.put o.dst c) h1 l' f2' h2' (fun j => by have := hop (j + 1); rw [show k + 1 + j = k + (j + 1) by omega]; simpa using this) hrec
      (fun j hj => by have := hC (j + 1) (by simpa using hj); rw [show k + 1 + j = k + (j + 1) by omega, this]; simp)
      (fun t ht => by
        rw [put_n] at ht
        rw [put_get _ _ _ _ ht, slot_step hcalm ho, hCk, hf t ht])
    rw [put_n] at q2 q4 q5
    refine ⟨by simp [q1], ⟨q2.1, fun t ht => by rw [q2.2 t ht, put_out _ _ _ _ ht]⟩, by simpa using q3, fun t ht => ?_, fun j o' ho' => ?_⟩
    · rw [q4 t ht]; congr 1; simp; omega
    · cases j with
      | zero =>
        simp at ho'; subst ho'
        exact ⟨rfl, hf, by simpa [hCk] using hst⟩
      | succ j =>
        obtain ⟨g1, g2, g3⟩ := q5 j o' (by simpa using ho')
        refine ⟨by simpa using g1, fun t ht => by have := g2 t ht; rw [show k + (j + 1) = k + 1 + j by omega]; simpa using this, ?_⟩
        rw [show k + (j + 1) = k + 1 + j by omega]
        simpa using g3
theorem curIx_none {E s : Nat → Bool} (hs : ∀ i, s i = false) : ∀ k, curIx E s k = 0
  | 0 => rfl
  | k + 1 => by unfold curIx; rw [hs k]; simp [curIx_none hs k]
theorem readsB_spec {ops : List Oper} {sz : Nat} : ∀ {l : List Oper}, readsB ops sz l = true → ∀ (j : Nat) (o : Oper), l[j]? = some o → ∀ t ∈ readsO ops o, t < sz
  | [], _, j, o, ho, _, _ => by simp at ho
  | x :: r, h, j, o, ho, t, ht => by
    simp only [readsB, Bool.and_eq_true] at h
    cases j with
    | zero =>
      simp at ho; subst ho
      exact blt_lt (List.all_eq_true.1 h.1 t ht)
    | succ j => exact readsB_spec h.2 j o (by simpa using ho) t ht
theorem writesB_spec {sz : Nat} : ∀ {l : List Oper}, writesB sz l = true → ∀ (j : Nat) (o : Oper), l[j]? = some o → ∀ d, o.dst = some d → d < sz
  | [], _, j, o, ho, _, _ => by simp at ho
  | x :: r, h, j, o, ho, d, hd => by
    simp only [writesB, Bool.and_eq_true] at h
    cases j with
    | zero =>
      simp at ho; subst ho
      have h1 := h.1
      rw [hd] at h1
      exact blt_lt h1
    | succ j => exact writesB_spec h.2 j o (by simpa using ho) d hd
theorem floatOk_spec {on : Bool} {ops : List Oper} {h : Hp} {l : List (CV × Hp × Fr)} {df : Fr} : ∀ {r : List (Nat × Nat)}, floatOk P ih on ops h l r = true → ∀ x ∈ r, ∀ o, ops[x.1]? = some o → ∃ h', stepL P ih on ops (((l.map (·.2.2)).getD x.1 df).only (readsO ops o)) ((h :: l.map (·.2.1)).getD x.2 h) o = some ((l.map (·.1)).getD x.1 .any, h')
  | [], _, x, hx, _, _ => by cases hx
  | (j, k) :: r, hok, x, hx, o, ho => by
    simp only [floatOk, Bool.and_eq_true] at hok
    obtain ⟨h1, h2⟩ := hok
    rcases List.mem_cons.1 hx with rfl | hx
    · simp only at ho
      rw [ho] at h1
      cases hl : l[j]? with
      | none => rw [hl] at h1; cases h1
      | some y =>
        obtain ⟨c, hh, g⟩ := y
        rw [hl] at h1
        simp only at h1
        split at h1
        · rename_i c' h' hst
          have := (same_spec 1000).2.2.1 _ _ h1
          subst this
          refine ⟨h', ?_⟩
          simp only
          rw [show (l.map (·.2.2)).getD j df = g by simp [List.getD_eq_getElem?_getD, hl], hst]
          simp [List.getD_eq_getElem?_getD, hl]
        · cases h1
    · exact floatOk_spec h2 x hx o ho
theorem chainB_congr {hd : List Oper} {E E' : Nat → Bool} : ∀ (f k : Nat) (pr : Option Nat), (∀ j, j < k + f → E j = E' j) → chainB hd E f k pr = chainB hd E' f k pr
  | 0, _, _, _ => rfl
  | f + 1, k, pr, h => by
    unfold chainB
    rw [h k (by omega), chainB_congr f (k + 1) (some k) (fun j hj => h j (by omega)), chainB_congr f (k + 1) pr (fun j hj => h j (by omega))]
theorem waitsL_of {i : Nat} : ∀ {l : List Edge} {e : Edge}, e ∈ l → Region.binds .any e = true → e.on = i → waitsL i l = true
  | x :: r, e, he, h1, h2 => by
    simp only [waitsL, Bool.or_eq_true, Bool.and_eq_true]
    rcases List.mem_cons.1 he with rfl | he
    · exact .inl ⟨h1, by rw [h2]; exact Nat.beq_refl _⟩
    · exact .inr (waitsL_of he h1 h2)
theorem stepL_of {on : Bool} {ops : List Oper} {f : Fr} {h : Hp} {o : Oper} (hl : (on && loneOp ops o) = false) : stepL P ih on ops f h o = stepR P ih ops f h o := by unfold stepL; rw [hl]
theorem stepL_lone {on : Bool} {ops : List Oper} {f : Fr} {h : Hp} {o : Oper} (hl : (on && loneOp ops o) = true) : stepL P ih on ops f h o = some (.any, h) := by unfold stepL; rw [hl]
theorem loneAt_of {on : Bool} {ops : List Oper} {j : Nat} {o : Oper} (ho : ops[j]? = some o) : loneAt on ops j = (on && loneOp ops o) := by unfold loneAt; rw [ho]
structure LoneAs (P : Program) (g : Fr) (o : Oper) (X : Array Value × TypeId × (Nat → Value) × (Pa → CV) × List CV) : Prop where
  op : ∀ h, opE P (evO g) h o = some (X.2.2.2.1 h.n, h.new (.cells X.2.2.2.2 h.n))
  ar : ∀ m, AR m X.1 0 X.2.2.2.2
  rp : ∀ m r pa, m pa = some ⟨r, 0, X.1.size⟩ → Rp m (X.2.2.1 r) (X.2.2.2.1 pa)
  run : ∀ m (a : Act) w, FT m a.tmps g → (execOp a.eval o).run P w = .ok (.value (X.2.2.1 w.heap.size)) (w.alloc (.cells X.1 X.2.1))
theorem lone_as {g : Fr} {h0 h0' : Hp} {o : Oper} {c0 : CV} (hl : blockOp o = true) (hc : opE P (evO g) h0 o = some (c0, h0')) : ∃ X, LoneAs P g o X := by
  unfold blockOp at hl
  split at hl
  · rename_i t d9 ho _ _
    unfold opE at hc
    rw [ho] at hc
    simp only at hc
    split at hc
    case h_2 => cases hc
    rename_i z hz
    refine ⟨(z.cells, t, (fun r => .pointer (some ⟨r, 0, none⟩)), (fun pa => .ptr pa 0), z.cells.toList.map .lit), ⟨fun h => ?_, fun m => AR.of (LR.map_lit _), fun m r pa hm => ?_, fun m a w hf => ?_⟩⟩
    · unfold opE; rw [ho]; simp only [hz]
    · have := Rp.ptr (m := m) pa 0 _ hm
      simpa using this
    · simp [execOp, ho, Instr.alloc, zeroT_run hz, newVar, newRow]
  · rename_i t l c1 d9 ho _ _
    unfold opE at hc
    rw [ho] at hc
    simp only at hc
    split at hc
    case h_2 => cases hc
    rename_i e hu
    split at hc
    case h_2 => cases hc
    rename_i n z bt hn hz hbt
    split at hc
    case h_2 => cases hc
    rename_i ln cn hl hcn
    split at hc
    case h_2 => cases hc
    rename_i hck
    have hck0 := hck
    simp only [Bool.and_eq_true] at hck
    obtain ⟨⟨⟨c1', c2⟩, c3⟩, c4⟩ := hck
    have c1' := Nat.le_of_ble_eq_true c1'
    have c2 := Nat.le_of_ble_eq_true c2
    have c3 := Nat.le_of_ble_eq_true c3
    have c4 := Nat.eq_of_beq_eq_true c4
    refine ⟨(madeCells z.cells (cn * n), e, (fun r => .slice (some ⟨r, 0, none⟩) ln cn), (fun pa => .sl pa 0 ln n cn true), zerosC z.cells.toList (cn * n)), ⟨fun h => ?_, fun m => AR.of (zerosC_lr z.cells (cn * n) (fun hp => ?_)), fun m r pa hm => ?_, fun m a w hf => ?_⟩⟩
    · unfold opE; rw [ho]; simp only [hu, hn, hz, hbt, hl, hcn, hck0]
    · rcases Nat.eq_zero_or_pos n with rfl | h0
      · simp at hp
      · omega
    · have := Rp.sl (m := m) pa 0 ln n cn true cn 0 _ hm c1' (Nat.le_refl _) (fun _ => rfl) (by show 0 + 0 + cn * n ≤ (madeCells z.cells (cn * n)).size; rw [size_madeCells]; omega) (.inl rfl)
      exact this
    · obtain ⟨kl, hkl⟩ := natC_run (hf.ev l) hl
      obtain ⟨kc, hkc⟩ := natC_run (hf.ev c1) hcn
      obtain ⟨i, hi, his⟩ := info_of hn
      have hiz := zero_of hi hz
      have hib := bytes_of hi hbt
      have hb' : ((i.bytes : Nat) : Int) * (cn : Int) ≤ 281474976710656 := by
        have h : ((i.bytes * cn : Nat) : Int) ≤ 281474976710656 := by rw [hib]; omega
        rwa [Int.natCast_mul] at h
      have hrun := run_make (P := P) w t e i z hu hi hiz kl kc (ln : Int) (cn : Int) (by omega) (by omega) hb' (by omega)
      simp only [Int.toNat_natCast] at hrun
      rw [his] at hrun
      simp [execOp, ho, hkl, hkc, hrun]
  · cases hl
theorem loneOp_block {ops : List Oper} {o : Oper} (hl : loneOp ops o = true) : blockOp o = true := by
  unfold loneOp at hl
  rw [Bool.and_eq_true] at hl
  exact hl.1
theorem lone_shape {o : Oper} (hl : blockOp o = true) : o.guard = none ∧ ∃ d, o.dst = some d ∧ ((∃ t, o.op = .alloc t) ∨ ∃ t l c, o.op = .makeSlice t l c) := by
  unfold blockOp at hl
  split at hl
  · rename_i t ho hg hd
    exact ⟨hg, _, hd, .inl ⟨_, ho⟩⟩
  · rename_i t l c1 ho hg hd
    exact ⟨hg, _, hd, .inr ⟨_, _, _, ho⟩⟩
  · cases hl
theorem lone_wp {X : Array Value × TypeId × (Nat → Value) × (Pa → CV) × List CV} {g : Fr} {o : Oper} (hA : LoneAs P g o X) (hb : blockOp o = true) {F : Fence} {nn : Nat} {ops : Array Oper} {Q : Exit → Act → World → Prop} {j : Nat} (ho : ops[j]? = some o) {m : Mp} {a : Act} {w : World} (hf : FT m a.tmps g) {K : Act → World → Prop} (hK : K (a.put o.dst (X.2.2.1 w.heap.size)) (w.alloc (.cells X.1 X.2.1))) : wpOpIn F nn P ops Q j K a w := by
  obtain ⟨hgd, d, hd, hsh⟩ := lone_shape hb
  have hrun := hA.run m a w hf
  unfold wpOpIn
  rw [ho]
  have hwant : Region.wanted o (yielded ops a.tmps) = true := by simp [Region.wanted, hgd]
  simp only [hwant, if_true]
  rcases hsh with ⟨t, hop⟩ | ⟨t, l1, c1, hop⟩
  · refine ⟨fun g hg => by simp [Oper.about, hop] at hg, ?_⟩
    rw [Oper.semAt_eq _ _ _ (fun d hd => by rw [hop] at hd; cases hd), hrun]
    exact hK
  · refine ⟨fun g hg => by simp [Oper.about, hop] at hg, ?_⟩
    rw [Oper.semAt_eq _ _ _ (fun d hd => by rw [hop] at hd; cases hd), hrun]
    exact hK
theorem block_opE {ops : List Oper} {f : Fr} {h h' : Hp} {o : Oper} {c : CV} (hb : blockOp o = true) (hc : stepR P ih ops f h o = some (c, h')) : opE P (evO f) h o = some (c, h') := by
  obtain ⟨hgd, d, hd, hsh⟩ := lone_shape hb
  unfold stepR at hc
  rw [hgd] at hc
  simp only at hc
  unfold opR at hc
  rcases hsh with ⟨t, hop⟩ | ⟨t, l1, c1, hop⟩
  · rw [hop] at hc; simpa only [effB] using hc
  · rw [hop] at hc; simpa only [effB] using hc
theorem nameL_ops {on : Bool} {ops : List Oper} {df : Fr} : ∀ {rest : List Oper} {l : List (CV × Hp × Fr)} {f : Fr} {h : Hp} {f' : Fr} {h' : Hp}, nameL P on ops rest l f h = some (f', h') → ∀ (j : Nat) (o : Oper), rest[j]? = some o → (on && loneOp ops o) = true → ∃ h0 c0 h0', opE P (evO (((l.map (·.2.2)).getD j df).only (readsO ops o))) h0 o = some (c0, h0')
  | [], _, _, _, _, _, _, j, o, ho, _ => by simp at ho
  | x :: r, [], _, _, _, _, hn, j, o, ho, _ => by simp [nameL] at hn
  | x :: r, y :: l, f, h, f', h', hn, j, o, ho, hl => by
    unfold nameL at hn
    split at hn
    · rename_i hx
      cases j with
      | zero => simp at ho; subst ho; rw [hx] at hl; cases hl
      | succ j => exact nameL_ops (l := l) hn j o (by simpa using ho) hl
    · split at hn
      case h_2 => cases hn
      rename_i c h1 hop
      cases j with
      | zero => simp at ho; subst ho; exact ⟨_, _, _, hop⟩
      | succ j => exact nameL_ops (l := l) hn j o (by simpa using ho) hl
theorem zok_off {CT : Nat → Array Value × TypeId} : ∀ {Z : List (Nat × Nat)}, zok w0 CT Z → ∀ p ∈ Z, w0.off p.2
  | [], _, p, hp => by cases hp
  | q :: Z, h, p, hp => by
    rcases List.mem_cons.1 hp with rfl | hp
    · exact ⟨h.1.1, fun y hy => h.1.2 y (by show y ∈ _ ++ w0.x; simp [hy])⟩
    · exact zok_off h.2 p hp
theorem zok_ne {CT : Nat → Array Value × TypeId} : ∀ {Z : List (Nat × Nat)}, zok w0 CT Z → ∀ p ∈ Z, ∀ q ∈ Z, p.1 ≠ q.1 → p.2 ≠ q.2
  | [], _, p, hp, _, _, _ => by cases hp
  | x :: Z, h, p, hp, q, hq, hne => by
    have key : ∀ y ∈ Z, x.2 ≠ y.2 := fun y hy => h.1.2 (y.2, _) (by show _ ∈ _ ++ w0.x; exact List.mem_append.2 (.inl (List.mem_map.2 ⟨y, hy, rfl⟩)))
    rcases List.mem_cons.1 hp with e1 | hp'
    · rcases List.mem_cons.1 hq with e2 | hq'
      · exact absurd (by rw [e1, e2]) hne
      · rw [e1]; exact key q hq'
    · rcases List.mem_cons.1 hq with e2 | hq'
      · rw [e2]; exact fun e => key p hp' e.symm
      · exact zok_ne h.2 p hp' q hq' hne
theorem zuniq : ∀ {Z : List (Nat × Nat)}, (Z.map (·.1)).Nodup → ∀ p ∈ Z, ∀ q ∈ Z, p.1 = q.1 → p = q
  | [], _, p, hp, _, _, _ => by cases hp
  | x :: Z, h, p, hp, q, hq, he => by
    rw [List.map_cons, List.nodup_cons] at h
    rcases List.mem_cons.1 hp with e1 | hp'
    · rcases List.mem_cons.1 hq with e2 | hq'
      · rw [e1, e2]
      · exact absurd (List.mem_map.2 ⟨q, hq', by rw [← he, e1]⟩) h.1
    · rcases List.mem_cons.1 hq with e2 | hq'
      · exact absurd (List.mem_map.2 ⟨p, hp', by rw [he, e2]⟩) h.1
      · exact zuniq h.2 p hp' q hq' he
def zfrom (k : Nat) (Z : List (Nat × Nat)) : List (Nat × Nat) := Z.filter fun p => Nat.ble k p.1
theorem zfrom_mem {k : Nat} {Z : List (Nat × Nat)} {p : Nat × Nat} : p ∈ zfrom k Z ↔ p ∈ Z ∧ k ≤ p.1 := by
  unfold zfrom
  rw [List.mem_filter]
  exact ⟨fun h => ⟨h.1, Nat.le_of_ble_eq_true h.2⟩, fun h => ⟨h.1, Nat.ble_eq_true_of_le h.2⟩⟩
theorem nameL_sr {on : Bool} {ops : List Oper} {df : Fr} {L : List (CV × Hp × Fr)} {F : Nat → Array Value × TypeId × (Nat → Value) × (Pa → CV) × List CV}
    (hF : ∀ j o, ops[j]? = some o → (on && loneOp ops o) = true → LoneAs P (((L.map (·.2.2)).getD j df).only (readsO ops o)) o (F j)) {Z : List (Nat × Nat)} (hz : zok w0 (fun j => ((F j).1, (F j).2.1)) Z) (hnd : (Z.map (·.1)).Nodup)
    (hall : ∀ j o, ops[j]? = some o → (on && loneOp ops o) = true → ∃ r, (j, r) ∈ Z) (hlt : ∀ p ∈ Z, ∃ o, ops[p.1]? = some o ∧ (on && loneOp ops o) = true) {tmps : Array Value} (hslot : ∀ p ∈ Z, ∀ o d, ops[p.1]? = some o → o.dst = some d → tmps.getD d undef = (F p.1).2.2.1 p.2) {w : World} :
    ∀ (rest : List Oper) (k : Nat) (l : List (CV × Hp × Fr)) (m : Mp) (f : Fr) (h : Hp) (f' : Fr) (h' : Hp), (∀ j, ops[k + j]? = rest[j]?) → (∀ j, (L.map (·.2.2)).getD (k + j) df = (l.map (·.2.2)).getD j df) → nameL P on ops rest l f h = some (f', h') → SR (zb w0 (fun j => ((F j).1, (F j).2.1)) (zfrom k Z)) m h w → FT m tmps f → ∃ m', MLe m m' ∧ SR w0 m' h' w ∧ FT m' tmps f'
  | [], k, l, m, f, h, f', h', hop, hL, hn, s, hf => by
    simp only [nameL, Option.some.injEq, Prod.mk.injEq] at hn
    obtain ⟨rfl, rfl⟩ := hn
    have hz0 : zfrom k Z = [] := by
      apply List.eq_nil_iff_forall_not_mem.2
      intro p hp
      obtain ⟨hp, hk⟩ := zfrom_mem.1 hp
      obtain ⟨o, ho, _⟩ := hlt p hp
      have := hop (p.1 - k)
      rw [show k + (p.1 - k) = p.1 by omega, ho] at this
      simp at this
    rw [hz0] at s
    exact ⟨m, MLe.refl m, s, hf⟩
  | o :: rest, k, [], m, f, h, f', h', hop, hL, hn, s, hf => by simp [nameL] at hn
  | o :: rest, k, x :: l, m, f, h, f', h', hop, hL, hn, s, hf => by
    have hko : ops[k]? = some o := by have := hop 0; simpa using this
    have hop' : ∀ j, ops[k + 1 + j]? = rest[j]? := fun j => by
      have := hop (j + 1)
      rw [show k + 1 + j = k + (j + 1) by omega]; simpa using this
    have hL' : ∀ j, (L.map (·.2.2)).getD (k + 1 + j) df = (l.map (·.2.2)).getD j df := fun j => by
      have := hL (j + 1)
      rw [show k + 1 + j = k + (j + 1) by omega]; simpa using this
    unfold nameL at hn
    cases hlo : (on && loneOp ops o) with
    | false =>
      rw [hlo] at hn
      simp only at hn
      refine nameL_sr hF hz hnd hall hlt hslot rest (k + 1) l m f h f' h' hop' hL' hn ?_ hf
      refine SR.perm (x := (zb w0 (fun j => ((F j).1, (F j).2.1)) (zfrom k Z)).x) s (fun y => ?_)
      have e : ∀ p, p ∈ zfrom (k + 1) Z ↔ p ∈ zfrom k Z := fun p => by
        rw [zfrom_mem, zfrom_mem]
        constructor
        · rintro ⟨h1, h2⟩; exact ⟨h1, by omega⟩
        · rintro ⟨h1, h2⟩
          refine ⟨h1, ?_⟩
          have hne : p.1 ≠ k := fun e => by
            obtain ⟨o', ho', hl'⟩ := hlt p h1
            rw [e, hko] at ho'
            injection ho' with ho'
            subst ho'
            rw [hlo] at hl'; cases hl'
          omega
      show y ∈ _ ++ w0.x ↔ y ∈ _ ++ w0.x
      simp only [List.mem_append, List.mem_map, e]
    | true =>
      rw [hlo] at hn
      simp only at hn
      have hA := hF k o hko hlo
      have hg : (L.map (·.2.2)).getD k df = x.2.2 := by have := hL 0; simpa using this
      rw [hg] at hA
      rw [hA.op h] at hn
      simp only at hn
      obtain ⟨r, hr⟩ := hall k o hko hlo
      obtain ⟨hgd, d, hd, hsh⟩ := lone_shape (loneOp_block (by rw [Bool.and_eq_true] at hlo; exact hlo.2))
      have hoff0 := zok_off hz (k, r) hr
      have s2 : SR ⟨w0.w, (r, .cells (F k).1 (F k).2.1) :: (zb w0 (fun j => ((F j).1, (F j).2.1)) (zfrom (k + 1) Z)).x⟩ m h w := by
        refine SR.perm (x := (zb w0 (fun j => ((F j).1, (F j).2.1)) (zfrom k Z)).x) s (fun y => ?_)
        show y ∈ _ :: (_ ++ w0.x) ↔ y ∈ _ ++ w0.x
        simp only [List.mem_cons, List.mem_append, List.mem_map]
        constructor
        · rintro (rfl | ⟨p, hp, rfl⟩ | hy)
          · exact .inl ⟨(k, r), zfrom_mem.2 ⟨hr, Nat.le_refl _⟩, rfl⟩
          · have := zfrom_mem.1 hp
            exact .inl ⟨p, zfrom_mem.2 ⟨this.1, by omega⟩, rfl⟩
          · exact .inr hy
        · rintro (⟨p, hp, rfl⟩ | hy)
          · obtain ⟨h1, h2⟩ := zfrom_mem.1 hp
            by_cases e : p.1 = k
            · have := zuniq hnd p h1 (k, r) hr e
              subst this
              exact .inl rfl
            · exact .inr (.inl ⟨p, zfrom_mem.2 ⟨h1, by omega⟩, rfl⟩)
          · exact .inr (.inr hy)
      have hoff : Bs.off ⟨w0.w, (zb w0 (fun j => ((F j).1, (F j).2.1)) (zfrom (k + 1) Z)).x⟩ r := by
        refine ⟨hoff0.1, fun y hy => ?_⟩
        rcases List.mem_append.1 (show y ∈ (zfrom (k + 1) Z).map _ ++ w0.x from hy) with hy | hy
        · obtain ⟨p, hp, rfl⟩ := List.mem_map.1 hy
          obtain ⟨h1, h2⟩ := zfrom_mem.1 hp
          exact zok_ne hz (k, r) hr p h1 (by simp only; omega)
        · exact hoff0.2 y hy
      have s3 := SR.name (x := (zb w0 (fun j => ((F j).1, (F j).2.1)) (zfrom (k + 1) Z)).x) (w1 := w0.w) s2 hoff (hA.ar m)
      have hmm := mset_le s2 ⟨r, 0, (F k).1.size⟩
      have hmn : mset m h.n ⟨r, 0, (F k).1.size⟩ h.n = some ⟨r, 0, (F k).1.size⟩ := by simp [mset]
      have hf3 : FT (mset m h.n ⟨r, 0, (F k).1.size⟩) tmps (f.put o.dst ((F k).2.2.2.1 h.n)) := by
        refine ⟨by rw [put_n]; exact hf.size, fun t => ?_⟩
        by_cases ht : t < f.n
        · rw [put_get _ _ _ _ ht]
          by_cases hdt : o.dst = some t
          · rw [if_pos hdt, hslot (k, r) hr o t hko hdt]
            exact hA.rp _ r _ hmn
          · rw [if_neg hdt]; exact (hf.rep t).mono hmm
        · rw [put_out _ _ _ _ (by omega)]; exact (hf.rep t).mono hmm
      obtain ⟨m', k1, k2, k3⟩ := nameL_sr hF hz hnd hall hlt hslot rest (k + 1) l _ _ _ f' h' hop' hL' hn s3 hf3
      exact ⟨m', hmm.trans k1, k2, k3⟩
theorem alFind_spec {on : Bool} {ops : List Oper} {n sz al : Nat} : ∀ {l : List Nat}, alFind P on ops n sz l = some al → alTry P on ops n sz al = true
  | [], h => by cases h
  | i :: r, h => by
    unfold alFind at h
    split at h
    · rename_i ht; injection h with h; subst h; exact ht
    · exact alFind_spec h
theorem alOf_spec {on : Bool} {ops : Array Oper} {n sz al : Nat} (hn : n = ops.size) (hc : alOf P on ops.toList n sz = some al) :
    chainB ops.toList (fun j => effK P on ops.toList j && !(Nat.beq j al)) n 0 none = true ∧ (∀ j, j < n → effK P on ops.toList j = true → al < j → effK P on ops.toList al = true → waitsO ops.toList j al = true) ∧
    (al < n → effK P on ops.toList al = true → ∀ j o, ops[j]? = some o → effK P on ops.toList j = false → ∀ e ∈ o.after, Region.binds .any e = true → e.on = al → ∀ x, x < al → effK P on ops.toList x = true → waitsO ops.toList j x = true) ∧
    (al < n → ∃ (o : Oper) (d : Nat), ops[al]? = some o ∧ blockOp o = true ∧ o.dst = some d ∧ d < sz) := by
  unfold alOf at hc
  split at hc
  · rename_i hch
    injection hc with hc; subst hc
    refine ⟨?_, fun j h1 _ h2 => by omega, fun h => by omega, fun h => by omega⟩
    rw [← hch]
    refine chainB_congr _ _ _ (fun j hj => ?_)
    have : Nat.beq j n = false := by cases hq : Nat.beq j n with | false => rfl | true => have := Nat.eq_of_beq_eq_true hq; omega
    rw [this]; simp
  · have hch := alFind_spec hc
    unfold alTry at hch
    simp only [Bool.and_eq_true] at hch
    obtain ⟨⟨⟨h4, h1⟩, h2⟩, h3⟩ := hch
    refine ⟨h1, fun j hj hje hlt _ => ?_, fun hlt hae j o ho hje e he hb hon x hx hxe => ?_, fun hlt => ?_⟩
    · have := upTo_all h2 j hj
      rw [hje, show Nat.blt al j = true from Nat.ble_eq_true_of_le hlt] at this
      simpa using this
    · have hjn : j < n := by rw [hn]; exact (Array.getElem?_eq_some_iff.1 ho).1
      have h3' := upTo_all h3 j hjn
      have hw : waitsH ops.toList j al = true := by
        unfold waitsH
        rw [Array.getElem?_toList, ho]
        exact waitsL_of (by simpa using he) hb hon
      rw [hje, hw] at h3'
      simp only [Bool.not_true, Bool.or_self, Bool.false_or] at h3'
      have := upTo_all h3' x hx
      rw [hxe] at this
      simpa using this
    · unfold al3B at h4
      rw [Array.getElem?_toList] at h4
      split at h4
      · rename_i o ho
        rw [Bool.and_eq_true] at h4
        obtain ⟨h5, h6⟩ := h4
        split at h6
        · rename_i d q3
          exact ⟨o, d, ho, h5, q3, blt_lt h6⟩
        · cases h6
      · cases h4
theorem anyR1_wp {on : Bool} (I : Snd P ih) {r : Option Nat} {nn : Nat} {ops : Array Oper} {Q : Exit → Act → World → Prop} {m : Mp} {h : Hp} {w : World} {a : Act} {f : Fr} (s : SR w0 m h w) (hf : FT m a.tmps f) {f' : Fr} {h' : Hp} (hc : anyR1 P ih on ops.toList ops.toList.length f h = some (f', h')) (hk : ∀ m' a' w', MLe m m' → SR w0 m' h' w' → FT m' a'.tmps f' → a'.defers = a.defers → Q .normal a' w') : wpAnyIn (Fc r) nn P .any ops Q ops.size (Array.replicate ops.size false) a w := by
  unfold anyR1 at hc
  split at hc
  case h_1 => cases hc
  rename_i hstat
  rw [Bool.and_eq_true] at hstat
  obtain ⟨hstat, hwr⟩ := hstat
  rw [Bool.and_eq_true] at hstat
  obtain ⟨hstat, hreads⟩ := hstat
  unfold staticB at hstat
  rw [Bool.and_eq_true] at hstat
  obtain ⟨hcalm, hsome⟩ := hstat
  obtain ⟨al, hal⟩ := Option.isSome_iff_exists.1 hsome
  obtain ⟨hchain, hal1, hal2, hal3⟩ := alOf_spec (by simp) hal
  split at hc
  case h_1 => cases hc
  rename_i l f2 h2 href
  split at hc
  case h_2 => cases hc
  rename_i hfloat
  have hnl : ops.toList.length = ops.size := by simp
  have hopl : ∀ j, ops.toList[j]? = ops[j]? := fun j => Array.getElem?_toList
  have hrd := readsB_spec hreads
  obtain ⟨q1, ⟨q2, q2o⟩, q3, q4, q5⟩ := refR_spec hcalm (env := f.get) (C := fun j => (l.map (·.1)).getD j .any) (dh := h) (df := f) ops.toList 0 f h l f2 h2 (fun j => by rw [Nat.zero_add]) href (fun j hj => by rw [Nat.zero_add]) (fun t ht => by
    unfold slotAt
    split
    · rw [if_neg (by omega)]
    · rfl)
  simp only [Nat.zero_add] at q4 q5
  have hquiet : ∀ k, k < ops.toList.length → effK P on ops.toList k = false → (h :: l.map (·.2.1)).getD (k + 1) h = (h :: l.map (·.2.1)).getD k h := fun k hk he => by
    have ho : ops.toList[k]? = some (ops.toList[k]'hk) := List.getElem?_eq_getElem hk
    obtain ⟨g1, g2, g3⟩ := q5 k _ ho
    unfold effK effJ at he
    rw [ho, loneAt_of ho] at he
    cases hlo : (on && loneOp ops.toList (ops.toList[k]'hk)) with
    | true => rw [stepL_lone hlo] at g3; simp only [Option.some.injEq, Prod.mk.injEq] at g3; exact g3.2.symm
    | false =>
      rw [stepL_of hlo] at g3
      rw [hlo] at he
      exact stepR_quiet (by simpa using he) g3
  have hrep0 : ∀ i, (Array.replicate ops.size false).getD i false = false := fun i => by
    rw [Array.getD_eq_getD_getElem?, Array.getElem?_replicate]
    split <;> rfl
  have frm0 : ∀ (j : Nat) (o : Oper), ops[j]? = some o → ∀ (m' : Mp) (a' : Act), a'.tmps.size = f.n → (∀ t ∈ readsO ops.toList o, Rp m' (a'.tmps.getD t undef) (slotAt ops.toList f.get (fun j => (l.map (·.1)).getD j .any) j t)) → FT m' a'.tmps (((l.map (·.2.2)).getD j f).only (readsO ops.toList o)) := fun j o ho m' a' hsz hslots => by
    have hol : ops.toList[j]? = some o := by rw [hopl]; exact ho
    obtain ⟨g1, g2, g3⟩ := q5 j o hol
    refine ⟨by rw [hsz]; exact g1.symm, fun t => ?_⟩
    rw [only_get]
    by_cases ht : t ∈ readsO ops.toList o
    · rw [if_pos ht, g2 t (hrd _ o hol t ht)]; exact hslots t ht
    · rw [if_neg ht]; exact .any _
  obtain ⟨XA, halz⟩ : ∃ XA : Array Value × TypeId × (Nat → Value) × (Pa → CV) × List CV, al < ops.toList.length → effK P on ops.toList al = true → ∃ (o : Oper) (d : Tmp), ops[al]? = some o ∧ o.dst = some d ∧ d < f.n ∧ (l.map (·.1)).getD al .any = XA.2.2.2.1 ((h :: l.map (·.2.1)).getD al h).n ∧ (h :: l.map (·.2.1)).getD (al + 1) h = ((h :: l.map (·.2.1)).getD al h).new (.cells XA.2.2.2.2 ((h :: l.map (·.2.1)).getD al h).n) ∧ (∀ m, AR m XA.1 0 XA.2.2.2.2) ∧ (∀ m r pa, m pa = some ⟨r, 0, XA.1.size⟩ → Rp m (XA.2.2.1 r) (XA.2.2.2.1 pa)) ∧
      ∀ (m' : Mp) (a' : Act) (w' : World) (K : Act → World → Prop), a'.tmps.size = f.n → (∀ t ∈ readsO ops.toList o, Rp m' (a'.tmps.getD t undef) (slotAt ops.toList f.get (fun j => (l.map (·.1)).getD j .any) al t)) → K (a'.put o.dst (XA.2.2.1 w'.heap.size)) (w'.alloc (.cells XA.1 XA.2.1)) → wpOpIn (Fc r) nn P ops Q al K a' w' := by
    by_cases hlt : al < ops.toList.length
    · obtain ⟨o, d, a1, a2, a4, a5⟩ := hal3 hlt
      obtain ⟨g1, g2, g3⟩ := q5 al o (by rw [hopl]; exact a1)
      cases hEa : effK P on ops.toList al with
      | false => exact ⟨(#[], (0 : Nat), fun _ => undef, fun _ => .any, []), fun _ h => by cases h⟩
      | true =>
      have hnl2 : (on && loneOp ops.toList o) = false := by
        unfold effK at hEa
        rw [loneAt_of (by rw [hopl]; exact a1)] at hEa
        cases hq : (on && loneOp ops.toList o) with
        | false => rfl
        | true => rw [hq] at hEa; simp at hEa
      rw [stepL_of hnl2] at g3
      have hop := block_opE a2 g3
      obtain ⟨X, hX⟩ := lone_as a2 hop
      have he := (hX.op ((h :: l.map (·.2.1)).getD al h)).symm.trans hop
      simp only [Option.some.injEq, Prod.mk.injEq] at he
      exact ⟨X, fun _ _ => ⟨o, d, a1, a4, a5, he.1.symm, he.2.symm, hX.ar, hX.rp, fun m' a' w' K hsz hslots hK => lone_wp hX a2 a1 (frm0 al o a1 m' a' hsz hslots) hK⟩⟩
    · exact ⟨(#[], (0 : Nat), fun _ => undef, fun _ => .any, []), fun h => absurd h hlt⟩
  have hFx : ∀ j : Nat, ∃ X, ∀ o, ops.toList[j]? = some o → (on && loneOp ops.toList o) = true → LoneAs P (((l.map (·.2.2)).getD j f).only (readsO ops.toList o)) o X := fun j => by
    cases ho : ops.toList[j]? with
    | none => exact ⟨(#[], (0 : Nat), fun _ => undef, fun _ => .any, []), fun o h => by cases h⟩
    | some o =>
      cases hlo : (on && loneOp ops.toList o) with
      | false => exact ⟨(#[], (0 : Nat), fun _ => undef, fun _ => .any, []), fun o' h h2 => by injection h with h; subst h; rw [hlo] at h2; cases h2⟩
      | true =>
        obtain ⟨h0, c0, h0', hop⟩ := nameL_ops (df := f) hc j o ho hlo
        obtain ⟨X, hX⟩ := lone_as (loneOp_block (by rw [Bool.and_eq_true] at hlo; exact hlo.2)) hop
        exact ⟨X, fun o' h _ => by injection h with h; subst h; exact hX⟩
  obtain ⟨F, hF⟩ := Classical.axiomOfChoice hFx
  refine any_wp (w0 := w0) (n := ops.toList.length) (al := al) hnl hcalm hchain hal1 hal2 (env := f.get) (c := fun j => (l.map (·.1)).getD j .any) (HH := fun k => (h :: l.map (·.2.1)).getD k h) hquiet (sz := f.n) (T := XA.2.1) (CA := XA.1) (csA := XA.2.2.2.2) (mkA := XA.2.2.1) (mkC := XA.2.2.2.1) (m0 := m) (D := a.defers) halz (fl := loneAt on ops.toList) (CT := fun j => ((F j).1, (F j).2.1)) (mkV := fun j => (F j).2.2.1) ?_ ?_ ?_ ?_ ?_ ops.size (Array.replicate ops.size false) (List.range ops.size) none [] a _ m ?_ ?_ ?_ ?_ ?_ rfl hf.size (MLe.refl m) trivial (by simp) (fun p hp => by cases hp) (fun i _ _ h => by rw [hrep0] at h; cases h) (fun r h => by cases h) (fun _ hs => by rw [hrep0] at hs; cases hs) ?_ ?_
  · intro j hj
    refine ⟨by unfold effK; rw [hj]; simp, ?_⟩
    unfold loneAt at hj
    split at hj
    · rename_i o ho
      obtain ⟨g1, g2, g3⟩ := q5 j o ho
      rw [stepL_lone hj] at g3
      simp only [Option.some.injEq, Prod.mk.injEq] at g3
      exact g3.1.symm
    · cases hj
  · -- a block that nobody asks for
    intro j o ho hj
    have hol : ops.toList[j]? = some o := by rw [hopl]; exact ho
    rw [loneAt_of hol] at hj
    have hA := hF j o hol hj
    obtain ⟨hgd, d, hd, hsh⟩ := lone_shape (loneOp_block (by rw [Bool.and_eq_true] at hj; exact hj.2))
    obtain ⟨g1, g2, g3⟩ := q5 j o hol
    have hdsz : d < f.n := by
      exact writesB_spec hwr j o hol d hd
    exact ⟨d, hd, hdsz, fun m' a' w' K hsz hslots hK => lone_wp hA (loneOp_block (by rw [Bool.and_eq_true] at hj; exact hj.2)) ho (frm0 j o ho m' a' hsz hslots) hK⟩
  · -- an operation
    intro w0' j o ho hnlo k hE1 hE2 m' a' w' K s' hd' hsz hslots hK
    have hol : ops.toList[j]? = some o := by rw [hopl]; exact ho
    have hjn : j < ops.toList.length := (List.getElem?_eq_some_iff.1 hol).1
    obtain ⟨g1, g2, g3⟩ := q5 j o hol
    rw [loneAt_of hol] at hnlo
    rw [stepL_of hnlo] at g3
    unfold wpOpIn
    rw [ho]
    simp only
    have frm : ∀ g : Fr, g.n = f.n → (∀ t, t ∈ readsO ops.toList o → g.get t = slotAt ops.toList f.get (fun j => (l.map (·.1)).getD j .any) j t) → FT m' a'.tmps (g.only (readsO ops.toList o)) := fun g g1 g2 => by
      refine ⟨by rw [hsz]; exact g1.symm, fun t => ?_⟩
      rw [only_get]
      by_cases ht : t ∈ readsO ops.toList o
      · rw [if_pos ht, g2 t ht]; exact hslots t ht
      · rw [if_neg ht]; exact .any _
    cases hE : effK P on ops.toList j with
    | true =>
      obtain rfl := hE1 hE
      refine stepR_wp I s' (frm _ g1 (fun t ht => g2 t (hrd _ o hol t ht))) g3 (fun m'' v w'' hm'' s'' hr => hK m'' v w'' hm'' ?_ hr)
      rw [hE, if_pos rfl]; exact s''
    | false =>
      obtain ⟨hkn, hmay⟩ := hE2 hE
      have hK' : ∀ (m'' : Mp) (v : Value) (w'' : World), MLe m' m'' → SR w0' m'' ((h :: l.map (·.2.1)).getD k h) w'' → Rp m'' v ((l.map (·.1)).getD j .any) → K (a'.put o.dst v) w'' := fun m'' v w'' hm'' s'' hr => hK m'' v w'' hm'' (by rw [hE]; simpa using s'') hr
      have heff : effB P o.op = false := by unfold effK effJ at hE; rw [hol, loneAt_of hol, hnlo] at hE; simpa using hE
      by_cases hcur : k = curIx (effK P on ops.toList) (fun _ => true) j
      · have hHk : (h :: l.map (·.2.1)).getD k h = (h :: l.map (·.2.1)).getD j h := by
          rw [hcur]
          have key : ∀ i, i ≤ ops.toList.length → (h :: l.map (·.2.1)).getD (curIx (effK P on ops.toList) (fun _ => true) i) h = (h :: l.map (·.2.1)).getD i h := by
            intro i
            induction i with
            | zero => intro _; rfl
            | succ i ihi =>
              intro hi
              unfold curIx
              cases hEi : effK P on ops.toList i with
              | true => simp
              | false =>
                simp only [Bool.false_and, Bool.false_eq_true, if_false]
                rw [ihi (by omega)]
                exact (hquiet i (by omega) hEi).symm
          exact key j (by omega)
        have hq := stepR_quiet heff g3
        rw [← hHk] at g3
        rw [hHk] at hK'
        refine stepR_wp I s' (frm _ g1 (fun t ht => g2 t (hrd _ o hol t ht))) g3 (fun m'' v w'' hm'' s'' hr => hK' m'' v w'' hm'' ?_ hr)
        rw [hq] at s''; exact s''
      · have hmem : (j, k) ∈ floats P on ops.toList ops.toList.length := by
          unfold floats
          rw [List.mem_flatMap]
          refine ⟨j, mem_upTo.2 hjn, ?_⟩
          unfold floatsOf
          rw [hE, loneAt_of hol, hnlo]
          simp only [Bool.or_false]
          rw [List.mem_map]
          refine ⟨k, ?_, rfl⟩
          rw [List.mem_filter]
          refine ⟨mem_upTo.2 (by omega), ?_⟩
          rw [hmay]
          cases hq : Nat.beq k (curIx (effK P on ops.toList) (fun _ => true) j) with
          | true => exact absurd (Nat.eq_of_beq_eq_true hq) hcur
          | false => rfl
        obtain ⟨hx, hst⟩ := floatOk_spec (df := f) hfloat (j, k) hmem o hol
        simp only at hst
        rw [stepL_of hnlo] at hst
        have hq := stepR_quiet heff hst
        subst hq
        exact stepR_wp I s' (frm _ g1 (fun t ht => g2 t (hrd _ o hol t ht))) hst (fun m'' v w'' hm'' s'' hr => hK' m'' v w'' hm'' s'' hr)
  · intro j o ho t ht
    exact hrd j o (by rw [hopl]; exact ho) t ht
  · intro Z m' a' w' hzk hzn hz1 hz2 hm' hd' hsz' s' hrep
    rw [← q3] at s'
    have hft2 : FT m' a'.tmps f2 := by
      refine ⟨by rw [hsz', q2], fun t => ?_⟩
      by_cases ht : t < f.n
      · rw [q4 t ht]; exact hrep t ht
      · have hz := hf.rep t
        rw [q2o t (by omega)]
        have e1 : ∀ A : Array Value, A.size = f.n → A.getD t undef = undef := fun A hA => by
          rw [Array.getD_eq_getD_getElem?, Array.getElem?_eq_none (by omega)]; rfl
        rw [e1 _ hf.size] at hz
        rw [e1 _ hsz']
        exact hz.mono hm'
    have hz0 : zfrom 0 Z = Z := by
      unfold zfrom
      rw [List.filter_eq_self]
      intro p _
      exact Nat.ble_eq_true_of_le (Nat.zero_le _)
    obtain ⟨m'', k1, k2, k3⟩ := nameL_sr (on := on) (ops := ops.toList) (df := f) (L := l) (F := F) (fun j o ho hlo => hF j o ho hlo) hzk hzn (fun j o ho hlo => hz2 j (List.getElem?_eq_some_iff.1 ho).1 (by rw [loneAt_of ho]; exact hlo)) (fun p hp => by
      obtain ⟨z1, z2, _⟩ := hz1 p hp
      have ho : ops.toList[p.1]? = some (ops.toList[p.1]'z1) := List.getElem?_eq_getElem z1
      rw [loneAt_of ho] at z2
      exact ⟨_, ho, z2⟩) (fun p hp o d ho hdo => (hz1 p hp).2.2 o d (by rw [← hopl]; exact ho) hdo) ops.toList 0 l m' f2 h2 f' h' (fun j => by rw [Nat.zero_add]) (fun j => by rw [Nat.zero_add]) hc (by rw [hz0]; exact s') hft2
    exact hk m'' a' w' (hm'.trans k1) k2 k3 hd'
  · simp
  · exact List.nodup_range
  · intro i
    rw [hrep0]; simp
  · simp
  · intro k o _ hsk
    rw [hrep0] at hsk; cases hsk
  · intro t ht
    split
    · rw [hrep0, if_neg (by simp)]; exact hf.rep t
    · exact hf.rep t
  · rw [curIx_none (fun i => by rw [svY_none]; exact hrep0 i)]
    exact s
theorem belowE_spec {k : Nat} : ∀ {l : List Edge}, belowB k l = true → ∀ e ∈ l, Region.binds .any e = true → e.on < k
  | [], _, e, he, _ => by cases he
  | y :: q, hh, e, he, hb => by
    simp only [belowB, Bool.and_eq_true, Bool.or_eq_true, Bool.not_eq_true'] at hh
    rcases List.mem_cons.1 he with rfl | he
    · rcases hh.1 with q | q
      · rw [hb] at q; cases q
      · exact blt_lt q
    · exact belowE_spec hh.2 e he hb
theorem backB_spec : ∀ {l : List Oper} {k : Nat}, backB l k = true → ∀ (j : Nat) (o : Oper), l[j]? = some o → (∀ i b, o.guard = some (i, b) → i < k + j) ∧ ∀ e ∈ o.after, Region.binds .any e = true → e.on < k + j
  | [], _, _, j, o, ho => by simp at ho
  | x :: r, k, h, j, o, ho => by
    simp only [backB, Bool.and_eq_true] at h
    obtain ⟨⟨h1, h2⟩, h3⟩ := h
    cases j with
    | zero =>
      simp at ho; subst ho
      refine ⟨fun i b hg => ?_, fun e he hb => ?_⟩
      · rw [hg] at h1; exact blt_lt h1
      · exact belowE_spec h2 e (by simpa using he) hb
    | succ j =>
      obtain ⟨g1, g2⟩ := backB_spec h3 j o (by simpa using ho)
      exact ⟨fun i b hg => by have := g1 i b hg; omega, fun e he hb => by have := g2 e he hb; omega⟩
theorem waitsL_ex {i : Nat} : ∀ {l : List Edge}, waitsL i l = true → ∃ e ∈ l, Region.binds .any e = true ∧ e.on = i
  | x :: r, h => by
    simp only [waitsL, Bool.or_eq_true, Bool.and_eq_true] at h
    rcases h with ⟨h1, h2⟩ | h
    · exact ⟨x, by simp, h1, Nat.eq_of_beq_eq_true h2⟩
    · obtain ⟨e, h1, h2⟩ := waitsL_ex h
      exact ⟨e, by simp [h1], h2⟩
theorem upon_both {F : Fence} {nn : Nat} {o : Oper} {a : Act} {K K' : Act → World → Prop} {Q Q' : Exit → Act → World → Prop} (hk : ∀ a w, K a w → K' a w) (hq : ∀ x a w, x ≠ .normal → Q x a w → Q' x a w) : ∀ {r : Result Next}, o.uponIn F nn P a K Q r → o.uponIn F nn P a K' Q' r := by
  have lo : LetsOut Q → LetsOut Q' := fun ⟨a, w, h⟩ => ⟨a, w, hq _ _ _ (by simp) h⟩
  intro r h
  unfold Oper.uponIn at h ⊢
  split at h
  · exact hk _ _ h
  · exact hk _ _ h
  · exact hk _ _ h
  · exact ⟨h.1, h.2.mono (fun e w' he => by
      cases e with
      | returned v => exact hk _ _ he
      | panicked c => exact hq _ _ _ (by simp) he
      | outgrown => exact lo he)⟩
  · exact ⟨h.1, h.2.mono (fun v w' he => hk _ _ he)⟩
  · exact ⟨h.1, h.2.mono (fun e w' he => by
      cases e with
      | returned v => exact hk _ _ he
      | panicked c => exact hq _ _ _ (by simp) he
      | outgrown => exact lo he)⟩
  · exact hq _ _ _ (by simp) h
  · exact h.elim
theorem opIn_both {F : Fence} {nn : Nat} {ops ops' : Array Oper} {i : Nat} (hi : ops[i]? = ops'[i]?) (hg : ∀ o, ops[i]? = some o → ∀ j b, o.guard = some (j, b) → ops[j]? = ops'[j]?) {a : Act} {w : World} {K K' : Act → World → Prop} {Q Q' : Exit → Act → World → Prop} (hk : ∀ a w, K a w → K' a w) (hq : ∀ x a w, x ≠ .normal → Q x a w → Q' x a w)
    (h : wpOpIn F nn P ops Q i K a w) : wpOpIn F nn P ops' Q' i K' a w := by
  unfold wpOpIn at h ⊢
  rw [← hi]
  cases ho : ops[i]? with
  | none => rw [ho] at h; exact hk _ _ h
  | some o =>
    rw [ho] at h
    simp only at h ⊢
    have hw : Region.wanted o (yielded ops a.tmps) = Region.wanted o (yielded ops' a.tmps) := by
      unfold Region.wanted
      cases hgo : o.guard with
      | none => rfl
      | some jb =>
        obtain ⟨j, b⟩ := jb
        simp only
        have := hg o ho j b hgo
        unfold yielded
        rw [this]
    rw [← hw]
    split
    · rename_i hc
      rw [if_pos hc] at h
      exact ⟨h.1, upon_both hk hq h.2⟩
    · rename_i hc
      rw [if_neg hc] at h
      exact ⟨h.1, hk _ _ h.2⟩
theorem last_any {F : Fence} {nn : Nat} {ops : Array Oper} {n : Nat} {o : Oper} (hn : ops.size = n + 1) (ho : ops[n]? = some o) (hlast : lastB o n = true) (hback : backB ops.pop.toList 0 = true) {Q : Exit → Act → World → Prop} :
    ∀ (f : Nat) (seen : Array Bool) (L : List Nat) (a : Act) (w : World), L.length = f → L.Nodup → (∀ i, i ∈ L ↔ i < n ∧ seen.getD i false = false) → seen.size = n →
      wpAnyIn F nn P .any ops.pop (fun x => match x with | .normal => fun a w => wpOpIn F nn P ops Q n (Q .normal) a w | x => Q x) f seen a w → wpAnyIn F nn P .any ops Q (f + 1) (seen.push false) a w := by
  have hpop : ∀ i, i < n → ops.pop[i]? = ops[i]? := fun i hi => by rw [Array.getElem?_pop]; simp [hn]; omega
  have hps : ops.pop.size = n := by rw [Array.size_pop, hn]; rfl
  unfold lastB at hlast
  rw [Bool.and_eq_true] at hlast
  obtain ⟨hlg, hlw⟩ := hlast
  rw [Bool.and_eq_true] at hlg
  obtain ⟨hlg, hlb⟩ := hlg
  have hbk : ∀ i o', ops[i]? = some o' → i < n → (∀ j b, o'.guard = some (j, b) → j < i) ∧ ∀ e ∈ o'.after, Region.binds .any e = true → e.on < i := fun i o' h hi => by
    have := backB_spec hback i o' (by rw [Array.getElem?_toList, hpop i hi]; exact h)
    simpa using this
  have sT : ∀ (seen : Array Bool), seen.size = n → ∀ i, i < n → (seen.push false).getD i true = seen.getD i false := fun seen hs i hi => by
    rw [Array.getD_eq_getD_getElem?, Array.getD_eq_getD_getElem?, Array.getElem?_push, if_neg (by omega), Array.getElem?_eq_getElem (by omega)]; rfl
  have sF : ∀ (seen : Array Bool), seen.size = n → ∀ i, (seen.push false).getD i false = seen.getD i false := fun seen hs i => by
    rw [Array.getD_eq_getD_getElem?, Array.getD_eq_getD_getElem?, Array.getElem?_push]
    split
    · rename_i h; rw [Array.getElem?_eq_none (by omega)]; rfl
    · rfl
  have rd : ∀ (seen : Array Bool), seen.size = n → ∀ i, i < n → (i ∈ Region.ready .any ops (seen.push false) ↔ i ∈ Region.ready .any ops.pop seen) := fun seen hs i hi => by
    unfold Region.ready
    rw [List.mem_filter, List.mem_filter, sT seen hs i hi, hpop i hi]
    have e1 : seen.getD i true = seen.getD i false := by rw [Array.getD_eq_getD_getElem?, Array.getD_eq_getD_getElem?, Array.getElem?_eq_getElem (by omega)]; rfl
    rw [e1]
    simp only [sF seen hs, List.mem_range, hn, hps]
    constructor
    · rintro ⟨_, h⟩; exact ⟨hi, h⟩
    · rintro ⟨_, h⟩; exact ⟨by omega, h⟩
  have rn : ∀ (seen : Array Bool), seen.size = n → (n ∈ Region.ready .any ops (seen.push false) ↔ ∀ i, i < n → seen.getD i false = true) := fun seen hs => by
    unfold Region.ready
    rw [List.mem_filter, ho]
    have e1 : (seen.push false).getD n true = false := by rw [Array.getD_eq_getD_getElem?, Array.getElem?_push, if_pos hs.symm]; rfl
    rw [e1]
    simp only [Bool.not_false, Bool.true_and, Option.map_some, Option.getD_some, List.mem_range, hn, sF seen hs]
    constructor
    · rintro ⟨_, h⟩ i hi
      obtain ⟨e, he, hb, hon⟩ := waitsL_ex (upTo_all hlw i hi)
      have := Array.all_eq_true_iff_forall_mem.1 h e (by simpa using he)
      rw [hb, hon] at this
      simpa using this
    · intro h
      refine ⟨by omega, Array.all_eq_true_iff_forall_mem.2 (fun e he => ?_)⟩
      cases hb : Region.binds .any e with
      | false => rfl
      | true =>
        simp only [Bool.not_true, Bool.false_or]
        exact h _ (belowE_spec hlb e (by simpa using he) hb)
  intro f
  induction f with
  | zero =>
    intro seen L a w hL hnd hmem hsz hw
    have hall : ∀ i, i < n → seen.getD i false = true := fun i hi => by
      have : L = [] := List.length_eq_zero_iff.1 hL
      subst this
      cases hq : seen.getD i false with
      | true => rfl
      | false => exact absurd ((hmem i).2 ⟨hi, hq⟩) (by simp)
    obtain ⟨_, hw⟩ := hw
    refine ⟨fun h0 => absurd ((rn seen hsz).2 hall) (by rw [h0]; simp), fun i hi => ?_⟩
    have hin : i = n := by
      have h1 := hi
      unfold Region.ready at h1
      rw [List.mem_filter, Bool.and_eq_true] at h1
      obtain ⟨h1, h2, _⟩ := h1
      have h1 : i < n + 1 := by simpa [hn] using h1
      apply Classical.byContradiction
      intro hne
      rw [sT seen hsz i (by omega), hall i (by omega)] at h2
      cases h2
    subst hin
    refine opIn_both rfl (fun _ _ _ _ _ => rfl) (fun a w hq => ⟨?_, hq⟩) (fun _ _ _ _ h => h) hw
    unfold Region.ready
    rw [List.filter_eq_nil_iff]
    intro j hj
    have hj : j < i + 1 := by simpa [hn] using hj
    have : ((seen.push false).setIfInBounds i true).getD j true = true := by
      rw [Array.getD_eq_getD_getElem?, Array.getElem?_setIfInBounds]
      by_cases hji : i = j
      · subst hji; simp [hsz]
      · rw [if_neg hji, ← Array.getD_eq_getD_getElem?, sT seen hsz j (by omega), hall j (by omega)]
    simp [this]
  | succ f ih =>
    intro seen L a w hL hnd hmem hsz hw
    obtain ⟨_, hw⟩ := hw
    obtain ⟨i0, hi0, hu0⟩ : ∃ i, i < n ∧ seen.getD i false = false := by
      cases L with
      | nil => simp at hL
      | cons i L => exact ⟨i, (hmem i).1 (by simp)⟩
    have hleast : ∃ i, i < n ∧ i ∈ Region.ready .any ops.pop seen := by
      have key : ∀ k, (∃ i, i ≤ k ∧ i < n ∧ seen.getD i false = false) → ∃ i, i < n ∧ seen.getD i false = false ∧ ∀ j, j < i → seen.getD j false = true := by
        intro k
        induction k with
        | zero =>
          rintro ⟨i, h1, h2, h3⟩
          obtain rfl : i = 0 := by omega
          exact ⟨0, h2, h3, fun j hj => absurd hj (Nat.not_lt_zero _)⟩
        | succ k ihk =>
          rintro ⟨i, h1, h2, h3⟩
          by_cases hx : ∃ i, i ≤ k ∧ i < n ∧ seen.getD i false = false
          · exact ihk hx
          · have hik : i = k + 1 := by
              apply Classical.byContradiction
              intro hne
              exact hx ⟨i, by omega, h2, h3⟩
            refine ⟨i, h2, h3, fun j hj => ?_⟩
            cases hq : seen.getD j false with
            | true => rfl
            | false => exact absurd ⟨j, by omega, by omega, hq⟩ hx
      obtain ⟨i, q1, q2, q3⟩ := key i0 ⟨i0, Nat.le_refl _, hi0, hu0⟩
      refine ⟨i, q1, ?_⟩
      have hio : ops[i]? = some (ops[i]'(by omega)) := Array.getElem?_eq_getElem _
      unfold Region.ready
      rw [List.mem_filter, hpop i q1, hio]
      have e1 : seen.getD i true = seen.getD i false := by rw [Array.getD_eq_getD_getElem?, Array.getD_eq_getD_getElem?, Array.getElem?_eq_getElem (by omega)]; rfl
      rw [e1, q2]
      simp only [Bool.not_false, Bool.true_and, Option.map_some, Option.getD_some, List.mem_range, hps]
      refine ⟨q1, Array.all_eq_true_iff_forall_mem.2 (fun e he => ?_)⟩
      cases hb : Region.binds .any e with
      | false => rfl
      | true => simp only [Bool.not_true, Bool.false_or]; exact q3 _ ((hbk i _ hio q1).2 e he hb)
    refine ⟨fun h0 => ?_, fun i hi => ?_⟩
    · obtain ⟨i, h1, h2⟩ := hleast
      have := (rd seen hsz i h1).2 h2
      rw [h0] at this; cases this
    have hin : i < n := by
      have h1 := hi
      unfold Region.ready at h1
      rw [List.mem_filter] at h1
      have h1 : i < n + 1 := by simpa [hn] using h1.1
      apply Classical.byContradiction
      intro hne
      obtain rfl : i = n := by omega
      have := (rn seen hsz).1 hi i0 hi0
      rw [hu0] at this; cases this
    have hir := (rd seen hsz i hin).1 hi
    have hius : seen.getD i false = false := by
      have h1 := hir
      unfold Region.ready at h1
      rw [List.mem_filter, Bool.and_eq_true] at h1
      have h2 := h1.2.1
      have e1 : seen.getD i true = seen.getD i false := by rw [Array.getD_eq_getD_getElem?, Array.getD_eq_getD_getElem?, Array.getElem?_eq_getElem (by omega)]; rfl
      rw [e1] at h2
      simpa using h2
    have hiL : i ∈ L := (hmem i).2 ⟨hin, hius⟩
    refine opIn_both (hpop i hin) (fun o' ho' j b hg => hpop j (by have := (hbk i o' (by rw [← hpop i hin]; exact ho') hin).1 j b hg; omega)) (fun a w hq => ?_) (fun x a w hx hq => by cases x <;> first | exact absurd rfl hx | exact hq) (hw i hir)
    have e : (seen.push false).setIfInBounds i true = (seen.setIfInBounds i true).push false := by
      apply Array.ext_getElem?
      intro j
      simp only [Array.getElem?_setIfInBounds, Array.getElem?_push, Array.size_setIfInBounds, Array.size_push]
      by_cases hij : i = j
      · subst hij
        rw [if_pos rfl, if_pos (by omega), if_neg (by omega), if_pos rfl, if_pos (by omega)]
      · rw [if_neg hij, if_neg hij]
    rw [e]
    have hset : ∀ j, (seen.setIfInBounds i true).getD j false = if j = i then true else seen.getD j false := fun j => by
      by_cases hji : j = i
      · subst hji; rw [if_pos rfl]; simp [Array.getD_eq_getD_getElem?, Array.getElem?_setIfInBounds, hsz, hin]
      · rw [if_neg hji]; simp [Array.getD_eq_getD_getElem?, Array.getElem?_setIfInBounds, Ne.symm hji]
    refine ih (seen.setIfInBounds i true) (L.erase i) a w (by rw [List.length_erase_of_mem hiL]; omega) (hnd.erase i) (fun j => ?_) (by simpa using hsz) hq
    rw [hnd.mem_erase_iff, hmem j, hset j]
    constructor
    · rintro ⟨q1, q2, q3⟩
      rw [if_neg q1]; exact ⟨q2, q3⟩
    · rintro ⟨q1, q2⟩
      by_cases hji : j = i
      · rw [if_pos hji] at q2; cases q2
      · rw [if_neg hji] at q2; exact ⟨hji, q1, q2⟩
theorem anyRk_wp (I : Snd P ih) {r : Option Nat} {nn : Nat} : ∀ (k : Nat) {ops : Array Oper} {Q : Exit → Act → World → Prop} {m : Mp} {h : Hp} {w : World} {a : Act} {f : Fr}, SR w0 m h w → FT m a.tmps f → ∀ {f' : Fr} {h' : Hp}, anyRk P ih k ops.toList f h = some (f', h') → (∀ m' a' w', MLe m m' → SR w0 m' h' w' → FT m' a'.tmps f' → a'.defers = a.defers → Q .normal a' w') → wpAnyIn (Fc r) nn P .any ops Q ops.size (Array.replicate ops.size false) a w
  | 0, ops, Q, m, h, w, a, f, s, hf, f', h', hc, hk => by cases hc
  | k + 1, ops, Q, m, h, w, a, f, s, hf, f', h', hc, hk => by
    unfold anyRk at hc
    split at hc
    · exact anyR1_wp I s hf hc hk
    split at hc
    · exact anyR1_wp I s hf hc hk
    split at hc
    case h_1 => cases hc
    rename_i o ho
    split at hc
    case h_1 => cases hc
    rename_i hck
    rw [Bool.and_eq_true] at hck
    split at hc
    case h_1 => cases hc
    rename_i f1 h1 hrec
    split at hc
    case h_2 => cases hc
    rename_i c h2 hst
    simp only [Option.some.injEq, Prod.mk.injEq] at hc
    obtain ⟨rfl, rfl⟩ := hc
    have hne : ops.toList ≠ [] := fun e => by rw [e] at ho; cases ho
    have hpos : 0 < ops.size := by
      rw [← Array.length_toList]; exact List.length_pos_iff.2 hne
    obtain ⟨n, hn⟩ : ∃ n, ops.size = n + 1 := ⟨ops.size - 1, by omega⟩
    have hlen : ops.toList.length - 1 = n := by rw [Array.length_toList, hn]; rfl
    rw [hlen] at hck
    have hon : ops[n]? = some o := by
      rw [List.getLast?_eq_getElem?, hlen, Array.getElem?_toList] at ho
      exact ho
    have hpl : ops.pop.toList = ops.toList.dropLast := Array.toList_pop
    have hrs : Array.replicate ops.size false = (Array.replicate n false).push false := by rw [hn, Array.replicate_succ]
    have hps : ops.pop.size = n := by rw [Array.size_pop, hn]; rfl
    have hr0 : ∀ i, (Array.replicate n false).getD i false = false := fun i => by
      rw [Array.getD_eq_getD_getElem?, Array.getElem?_replicate]
      split <;> rfl
    rw [hrs, hn]
    refine last_any hn hon hck.1 (by rw [hpl]; exact hck.2) n (Array.replicate n false) (List.range n) a w (by simp) List.nodup_range (fun i => by rw [hr0]; simp) (by simp) ?_
    have := anyRk_wp I (r := r) (nn := nn) k (ops := ops.pop) (Q := fun x => match x with | .normal => fun a w => wpOpIn (Fc r) nn P ops Q n (Q .normal) a w | x => Q x) s hf (by rw [hpl]; exact hrec) (fun m' a' w' hm' s' hf' hd' => ?_)
    · rwa [hps] at this
    · show wpOpIn (Fc r) nn P ops Q n (Q .normal) a' w'
      unfold wpOpIn
      rw [hon]
      exact stepR_wp I s' hf' hst (fun m2 v w2 hm2 s2 hr => hk m2 _ w2 (hm'.trans hm2) s2 (FT.put (hf'.mono hm2) _ hr) (by rw [put_defers, hd']))
theorem anyR_wp (I : Snd P ih) (hm : P.follows .mixedOrders = true) {r : Option Nat} {nn id : Nat} {ops : Array Oper} {Q : Exit → Act → World → Prop} {m : Mp} {h : Hp} {w : World} {a : Act} {f : Fr} (s : SR w0 m h w) (hf : FT m a.tmps f) {f' : Fr} {h' : Hp} (hc : anyR P ih ops.toList f h = some (f', h')) (hk : ∀ m' a' w', MLe m m' → SR w0 m' h' w' → FT m' a'.tmps f' → a'.defers = a.defers → Q .normal a' w') : (Code.region id ops true).wpIn (Fc r) nn P Q a w := by
  refine wpIn_region_any hm ?_
  exact anyRk_wp I 8 s.drew hf hc hk
end
end Go.Proofs.YtboopmfjkepilaaGreatDoor.Run
