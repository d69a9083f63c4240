/-
  Texts of one proof, in their order. No condition.
-/
import Derived.Laws.IdiomStrings
import Derived.Laws.Small
import Derived.Laws.AppendOwn
import Derived.Lib.AppendZeros
import Derived.Test.YtboopmfjkepilaaGreatDoorTxPka
namespace Go.Proofs.YtboopmfjkepilaaGreatDoor.Deep
open Go.RowKit
set_option linter.unusedVariables false
set_option linter.unusedSimpArgs false
variable {P : Program} {T : TypeId → Option TI} {G : Nat → Nat} {m : Nat → Pl} {w : World}
theorem Rep.con_eq {n : Nat} {v u : Value} (h : Rep G m w n v (.con u)) : v = u := by cases h; rfl
theorem field_run {s f : Nat} {ti fi : TI} {o ft k : Nat} (hs : infoP P s = ti) (hf : ti.flds[f]? = some (o, ft)) (hi : infoP P ft = fi) (hu : (P.underlying ft).isSome = true) (hz : fi.size = k + 1) (g x : Nat) :
    (Instr.fieldAt s (.pointer (some ⟨g, x, none⟩)) f).run P w = .ok (.pointer (some ⟨g, x + o, none⟩)) w := by
  subst hs
  unfold infoP at hf
  simp only at hf
  split at hf
  · rename_i fs hfs
    rw [List.getElem?_map] at hf
    cases hq : fs.toList[f]? with
    | none => rw [hq] at hf; simp at hf
    | some fd =>
      rw [hq] at hf
      simp only [Option.map_some, Option.some.injEq, Prod.mk.injEq] at hf
      obtain ⟨rfl, rfl⟩ := hf
      have hsz := sizeOf_run (w := w) hi hu
      have hq' : fs[f]? = some fd := by simpa using hq
      have hne : fi.size ≠ 0 := by omega
      simp [Instr.fieldAt, run_underlying hfs, hq', Instr.sureAddr, fieldPlace, hsz, hne, Addr.add_mid]
  · simp at hf
theorem fieldV_run {s f : Nat} {ti fi : TI} {o ft : Nat} (hs : infoP P s = ti) (hf : ti.flds[f]? = some (o, ft)) (hi : infoP P ft = fi) (hu : (P.underlying ft).isSome = true) {n : Nat} {vs : List Value} {cs : List PV} (hl : vs.length = cs.length) (hr : ∀ i, i < cs.length → Rep G m w n (vs.getD i undef) (cs.getD i .any)) {r : PV} (h : loadA fi (cs.drop o) = some r) :
    ∃ v, Rep G m w n v r ∧ ∀ w', (Instr.field s (.agg vs.toArray) f).run P w' = .ok v w' := by
  subst hs
  unfold infoP at hf
  simp only at hf
  split at hf
  · rename_i fs hfs
    rw [List.getElem?_map] at hf
    cases hq : fs.toList[f]? with
    | none => rw [hq] at hf; simp at hf
    | some fd =>
      rw [hq] at hf
      simp only [Option.map_some, Option.some.injEq, Prod.mk.injEq] at hf
      obtain ⟨rfl, rfl⟩ := hf
      obtain ⟨v, h2, h1⟩ := part_run (w := w) hi hu hl hr h
      have hq' : fs[f]? = some fd := by simpa using hq
      exact ⟨v, h2, fun w' => by simp [Instr.field, run_underlying hfs, hq', asAgg, h1]⟩
  · simp at hf
def spliceV : Nat → List Value → List Value → List Value
  | _, [], cs => cs
  | o, p :: ps, cs => spliceV (o + 1) ps (cs.set o p)
theorem slice_und {t : TypeId} {ti : TI} (hi : infoP P t = ti) (hs : ti.isSl = true) : P.underlying t = some (.slice ti.elem) := by
  subst hi
  unfold infoP at hs ⊢
  simp only at hs ⊢
  split at hs
  · rename_i e he; rw [he]
  · simp at hs
theorem str_und {t : TypeId} {ti : TI} (hi : infoP P t = ti) (hs : ti.isStr = true) : P.underlying t = some .string := by
  subst hi
  unfold infoP at hs
  simp only at hs
  split at hs
  · rename_i he; exact he
  · simp at hs
theorem bool_und {t : TypeId} {ti : TI} (hi : infoP P t = ti) (hs : ti.isBool = true) : P.underlying t = some .bool := by
  subst hi
  unfold infoP at hs
  simp only at hs
  split at hs
  · rename_i he; exact he
  · simp at hs
theorem arr_und {t : TypeId} {ti : TI} (hi : infoP P t = ti) {n : Nat} {e : TypeId} (hs : ti.arr = some (n, e)) : P.underlying t = some (.array n e) := by
  subst hi
  unfold infoP at hs
  simp only at hs
  split at hs
  · rename_i a b he; simp only [Option.some.injEq, Prod.mk.injEq] at hs; obtain ⟨rfl, rfl⟩ := hs; exact he
  · cases hs
theorem index_run {t : TypeId} {ti ei : TI} (hi : infoP P t = ti) (hs : ti.isSl = true) (he : infoP P ti.elem = ei) (hu : (P.underlying ti.elem).isSome = true) {n : Nat} {v : Value} {xs : List (List PV)} (hr : Rep G m w n v (.sl xs)) (k : IntKind) (i : Int) (h0 : 0 ≤ i) {cs : List PV} (hx : xs[i.toNat]? = some cs) (hl : cs.length = ei.size) :
    ∃ u, Rep G m w n u (.ept cs 0) ∧ ∀ w', (Instr.indexAt t v (.int k i)).run P w' = .ok u w' := by
  cases hr with
  | sl _ a c sz _ F hc hm hz ha hr =>
    have hlt : i.toNat < xs.length := (List.getElem?_eq_some_iff.1 hx).1
    obtain ⟨g, o, rfl, hG, hcell⟩ := ha (by omega)
    have hcs : xs.getD i.toNat [] = cs := by rw [List.getD_eq_getElem?_getD, hx]; rfl
    have hsz : sz = ei.size := by rw [← hz _ hlt, hcs, hl]
    have hlt' : i < xs.length := by omega
    have hmul : i.toNat * sz + sz ≤ xs.length * sz := by rw [← Nat.succ_mul]; exact Nat.mul_le_mul_right _ hlt
    refine ⟨.pointer (some ⟨g, o + i.toNat * sz + 0, none⟩), .ept _ g (o + i.toNat * sz) 0 cs (F i.toNat) (by omega) (fun j hj => hcell _ hlt j (by omega)) (fun j hj => ?_), fun w' => ?_⟩
    rotate_left
    · have hsl := slice_und hi hs
      have hsize := sizeOf_run (w := w') he hu
      simp [Instr.indexAt, asIntOf, run_underlying hsl, h0, hlt', hsize, Addr.add_mid, ← hsz]
    · have := hr _ hlt j (by omega)
      rwa [hcs] at this
theorem arr_cells {cs ps : List PV} {k : Nat} (h : (cs.drop k).take ps.length = ps) (h0 : 0 < ps.length) : k + ps.length ≤ cs.length ∧ ∀ j, j < ps.length → ps.getD j .any = cs.getD (k + j) .any := by
  have hl := congrArg List.length h
  simp only [List.length_take, List.length_drop] at hl
  refine ⟨by omega, fun j hj => ?_⟩
  have : ((cs.drop k).take ps.length).getD j .any = ps.getD j .any := by rw [h]
  rw [← this]
  simp [List.getD_eq_getElem?_getD, List.getElem?_take, hj]
theorem loadA_take {ti : TI} {l ps : List PV} {r : PV} (h : l.take ps.length = ps) (hr : loadA ti ps = some r) : loadA ti l = some r := by
  unfold loadA at hr ⊢
  have hl := congrArg List.length h
  rw [List.length_take] at hl
  split
  · rename_i ha
    rw [ha] at hr
    simp only at hr
    split at hr
    · rename_i hle
      have hle := Nat.le_of_ble_eq_true hle
      rw [show Nat.ble ti.size l.length = true from Nat.ble_eq_true_of_le (by omega)]
      simp only
      rw [← hr, ← h, List.take_take, Nat.min_eq_left hle]
    · cases hr
  · rename_i ha
    rw [ha] at hr
    simp only at hr
    cases ps with
    | nil => simp at hr
    | cons c ps =>
      cases l with
      | nil => simp at h
      | cons d l =>
        simp only [List.length_cons, List.take_succ_cons, List.cons.injEq] at h
        simp only at hr ⊢
        rw [h.1]; exact hr
theorem exF_out {K : PV → Prop} : ∀ (x : Sh), exF x K → ∃ p, K p
  | .fn f, h => ⟨_, h⟩
  | .int k, ⟨v, h⟩ => ⟨_, h⟩
  | .bool, ⟨v, h⟩ => ⟨_, h⟩
  | .str, ⟨v, h⟩ => ⟨_, h⟩
  | .list, ⟨v, h⟩ => ⟨_, h⟩
  | .own b e sz, ⟨v, h⟩ => ⟨_, h⟩
  | .ptr b off, h => ⟨_, h⟩
  | .mp b, h => ⟨_, h⟩
  | .mpc k e, ⟨n, D, h⟩ => ⟨_, h⟩
  | .ifc, ⟨t, q, h⟩ => ⟨_, h⟩
  | .rw b off e sz, ⟨n, h⟩ => ⟨_, h⟩
  | .row, ⟨cs, h⟩ => ⟨_, h⟩
  | .gro b e sz, ⟨n, h⟩ => ⟨_, h⟩
  | .nilp, h => ⟨_, h⟩
theorem exC_out {K : List PV → Prop} : ∀ (shs : List Sh) (acc : List PV), exC shs acc K → ∃ cs : List PV, cs.length = acc.length + shs.length ∧ K cs
  | [], acc, h => ⟨acc, by simp, h⟩
  | x :: r, acc, h => by
    obtain ⟨p, h⟩ := exF_out x h
    obtain ⟨cs, h1, h2⟩ := exC_out r _ h
    exact ⟨cs, by simp at h1 ⊢; omega, h2⟩
theorem arrAt_out {n sz : Nat} {shs : List Sh} {i : Int} {cs : List PV} {off : Nat} {J : List PV → Prop} (h : arrAt n sz shs i cs off J) : 0 ≤ i ∧ i.toNat < n ∧ 0 < sz ∧ ∃ ps : List PV, ps.length = sz ∧ (cs.drop (off + i.toNat * sz)).take ps.length = ps ∧ J ps := by
  unfold arrAt at h
  split at h
  case h_2 => exact h.elim
  rename_i hb
  rw [Bool.and_eq_true] at hb
  obtain ⟨h0, h1, h⟩ := h
  obtain ⟨ps, hl, hx, hk⟩ := exC_out _ _ h
  exact ⟨h0, h1, blt_lt hb.2, ps, by have := Nat.eq_of_beq_eq_true hb.1; simp at hl; omega, hx, hk⟩
theorem exR_out {K : List PV → Prop} : ∀ (shs : List RSh) (acc : List PV), exR shs acc K → ∃ cs : List PV, K cs
  | [], acc, h => ⟨acc, h⟩
  | .cell x :: r, acc, h => by
    obtain ⟨p, h⟩ := exF_out x h
    exact exR_out r _ h
  | .agg l :: r, acc, h => by
    obtain ⟨cs, _, h2⟩ := exC_out l [] h
    exact exR_out r _ h2
theorem orR_out {K : List PV → Prop} : ∀ (rs : List (List RSh)), orR rs K → ∃ cs : List PV, K cs
  | [], h => h.elim
  | [r], h => exR_out r [] h
  | r :: q :: rs, h => by
    rcases h with h | h
    · exact exR_out r [] h
    · exact orR_out (q :: rs) h
theorem splice_fold (vs : List Value) : ∀ (k o : Nat) (cs : Array Value), (vs.zipIdx k).foldl (fun (cs : Array Value) x => cs.setIfInBounds (o + x.2) x.1) cs = (spliceV (o + k) vs cs.toList).toArray := by
  induction vs with
  | nil => intro k o cs; simp [spliceV]
  | cons v vs ih =>
    intro k o cs
    rw [List.zipIdx_cons, List.foldl_cons, ih]
    simp only [spliceV]
    rw [Array.toList_setIfInBounds, Nat.add_assoc]
theorem spliceV_rep {n : Nat} : ∀ (vs : List Value) (ps : List PV) (o : Nat) (us : List Value) (cs : List PV), vs.length = ps.length → us.length = cs.length → (∀ i, i < ps.length → Rep G m w n (vs.getD i undef) (ps.getD i .any)) → (∀ i, i < cs.length → Rep G m w n (us.getD i undef) (cs.getD i .any)) →
    (spliceV o vs us).length = (spliceA o ps cs).length ∧ ∀ i, i < (spliceA o ps cs).length → Rep G m w n ((spliceV o vs us).getD i undef) ((spliceA o ps cs).getD i .any)
  | [], [], o, us, cs, _, hl, _, hr => ⟨hl, hr⟩
  | v :: vs, p :: ps, o, us, cs, hl, hl2, hr, hr2 => by
    refine spliceV_rep vs ps (o + 1) (us.set o v) (cs.set o p) (by simpa using hl) (by simpa using hl2) (fun i hi => by simpa using hr (i + 1) (by simpa using hi)) (fun i hi => ?_)
    simp only [List.length_set] at hi
    by_cases he : o = i
    · subst he
      rw [getD_set_eq _ _ _ hi, getD_set_eq _ _ _ (by omega)]
      exact hr 0 (by simp)
    · rw [getD_set_ne _ _ _ he, getD_set_ne _ _ _ he]; exact hr2 i hi
  | [], _ :: _, _, _, _, h, _, _, _ => by simp at h
  | _ :: _, [], _, _, _, h, _, _, _ => by simp at h
theorem cmp_run (op : BinOp) (k : IntKind) (a b : Int) (xt : TypeId) (x y : Operand) {r : Value} (h : cmpA op k a b = some r) :
    (do eqGuard op xt x y (.int k a) (.int k b); binOp op xt (.int k a) (.int k b) : Sem Value).run P w = .ok r w := by
  cases op <;> simp only [cmpA, Option.some.injEq] at h <;> first | contradiction | (subst h; simp [eqGuard, binOp, Op.intArith, Op.intCmp]; done) | (subst h; simp [eqGuard, binOp, Op.intBits, bitsI]; done) | skip
  all_goals
    split at h
    · injection h with h; subst h
      rename_i n
      have hn : ¬ ((n : Int) + 1 = 0) := by omega
      simp [eqGuard, binOp, Op.intArith, Op.intDiv, hn]
    · cases h
theorem bin_run (op : BinOp) {xt : TypeId} {ti : TI} (hi : infoP P xt = ti) (hs : (P.underlying xt).isSome = true) (x y : Operand) {u v r : Value} (h : binA op ti.isBool u v = some r) :
    (do eqGuard op xt x y u v; binOp op xt u v : Sem Value).run P w = .ok r w := by
  unfold binA at h
  split at h
  · rename_i k a k' b
    by_cases hk : k = k'
    · subst hk; simp only [decide_true] at h; exact cmp_run op k a b xt x y h
    · simp [hk] at h
  · split at h <;> first | contradiction | (injection h with h; subst h; simp [eqGuard, binOp, Op.stringOp])
  · split at h
    · rename_i hb
      have hbu := bool_und hi hb
      split at h <;> first | contradiction | (injection h with h; subst h; simp [eqGuard, binOp, run_equal_bool _ _ _ _ hbu])
    · cases h
  · cases h
theorem cat_run (xt : TypeId) (x y : Operand) (s t : ByteArray) (h : s.size + t.size ≤ 9223372036854775807) :
    (do eqGuard .add xt x y (.string s) (.string t); binOp .add xt (.string s) (.string t) : Sem Value).run P w = .ok (.string (s ++ t)) w := by
  simp [eqGuard, binOp, Op.stringOp]
  omega
theorem un_run (op : UnOp) {u r : Value} (h : unA op u = some r) : (Op.unary op u).run P w = .ok r w := by
  unfold unA at h
  split at h
  · split at h
    · injection h with h; subst h; simp [Op.unary, Op.intArith]
    · cases h
  · split at h
    · injection h with h; subst h; simp [Op.unary]
    · cases h
  · cases h
theorem len_run_sl {t : TypeId} {ti : TI} (hi : infoP P t = ti) (hs : ti.isSl = true) (ts : Array TypeId) (rest : List TypeId) (hts : ts.toList = t :: rest) (ty : TypeId) (a : Option Addr) (n c : Nat) : (Builtin.len_ ts ty #[.slice a n c]).run P w = .ok (.int .i64 n) w := by
  have h0 : ts[0]? = some t := by rw [← Array.getElem?_toList, hts]; rfl
  simp [Builtin.len_, h0, run_underlying (slice_und hi hs), goInt]
theorem len_run_str {t : TypeId} {ti : TI} (hi : infoP P t = ti) (hs : ti.isStr = true) (ts : Array TypeId) (rest : List TypeId) (hts : ts.toList = t :: rest) (ty : TypeId) (s : ByteArray) : (Builtin.len_ ts ty #[.string s]).run P w = .ok (.int .i64 s.size) w := by
  have h0 : ts[0]? = some t := by rw [← Array.getElem?_toList, hts]; rfl
  simp [Builtin.len_, h0, run_underlying (str_und hi hs), goInt]
theorem rep_listmap {n : Nat} {ρ : Operand → Value} {ev : Operand → PV} (hev : ∀ x, Rep G m w n (ρ x) (ev x)) (xs : List Operand) : ∀ i, i < (xs.map ev).length → Rep G m w n ((xs.map ρ).getD i undef) ((xs.map ev).getD i .any) := fun i hi => by
  have hi' : i < xs.length := by simpa using hi
  rw [List.getD_eq_getElem?_getD, List.getD_eq_getElem?_getD, List.getElem?_map, List.getElem?_map, List.getElem?_eq_getElem hi']
  exact hev _
theorem cells_rep {n : Nat} {v : Value} {p : PV} (hr : Rep G m w n v p) {cs : List PV} (hc : cellsOf p = some cs) : v.cells.toList.length = cs.length ∧ ∀ j, j < cs.length → Rep G m w n (v.cells.toList.getD j undef) (cs.getD j .any) := by
  cases hr with
  | any => simp [cellsOf] at hc
  | con _ u =>
    have h1 : cs = [.con v] ∧ v.cells = #[v] := by
      cases v <;> simp [cellsOf] at hc <;> exact ⟨hc.symm, rfl⟩
    obtain ⟨rfl, h2⟩ := h1
    rw [h2]
    refine ⟨rfl, fun j hj => ?_⟩
    obtain rfl : j = 0 := by simpa using hj
    exact .con _ _
  | agg _ vs cs' hl hr =>
    simp only [cellsOf, Option.some.injEq] at hc
    subst hc
    exact ⟨by simpa [Value.cells] using hl, fun j hj => by simpa [Value.cells] using hr j hj⟩
  | tup => simp [cellsOf] at hc
  | sl _ a c sz xs F h1 h2 h3 h4 h5 =>
    simp only [cellsOf, Option.some.injEq] at hc
    subst hc
    refine ⟨rfl, fun j hj => ?_⟩
    obtain rfl : j = 0 := by simpa using hj
    exact .sl _ a c sz xs F h1 h2 h3 h4 h5
  | ptr _ b off hb =>
    simp only [cellsOf, Option.some.injEq] at hc
    subst hc
    refine ⟨rfl, fun j hj => ?_⟩
    obtain rfl : j = 0 := by simpa using hj
    exact .ptr _ b off hb
  | ept _ g o off cs' F h1 h2 h3 =>
    simp only [cellsOf, Option.some.injEq] at hc
    subst hc
    refine ⟨rfl, fun j hj => ?_⟩
    obtain rfl : j = 0 := by simpa using hj
    exact .ept _ g o off cs' F h1 h2 h3
  | fn _ f vs cs' hl hr =>
    simp only [cellsOf, Option.some.injEq] at hc
    subst hc
    refine ⟨rfl, fun j hj => ?_⟩
    obtain rfl : j = 0 := by simpa using hj
    exact .fn _ f vs cs' hl hr
  | bm _ f vs cs' hl hr =>
    simp only [cellsOf, Option.some.injEq] at hc
    subst hc
    refine ⟨rfl, fun j hj => ?_⟩
    obtain rfl : j = 0 := by simpa using hj
    exact .bm _ f vs cs' hl hr
  | ifc _ t v q hr =>
    simp only [cellsOf, Option.some.injEq] at hc
    subst hc
    refine ⟨rfl, fun j hj => ?_⟩
    obtain rfl : j = 0 := by simpa using hj
    exact .ifc _ t v q hr
  | rw0 _ b e sz hb =>
    simp only [cellsOf, Option.some.injEq] at hc
    subst hc
    refine ⟨rfl, fun j hj => ?_⟩
    obtain rfl : j = 0 := by simpa using hj
    exact .rw0 _ b e sz hb
  | rw _ b off n c q N e sz hb hcc hm hq hN hsh hf =>
    simp only [cellsOf, Option.some.injEq] at hc
    subst hc
    refine ⟨rfl, fun j hj => ?_⟩
    obtain rfl : j = 0 := by simpa using hj
    exact .rw _ b off n c q N e sz hb hcc hm hq hN hsh hf
  | own0 _ b e sz hb =>
    simp only [cellsOf, Option.some.injEq] at hc
    subst hc
    refine ⟨rfl, fun j hj => ?_⟩
    obtain rfl : j = 0 := by simpa using hj
    exact .own0 _ b e sz hb
  | own1 _ b e c sz xs F hb hp h1 h2 h0 hz hsh hg hfr hx hr =>
    simp only [cellsOf, Option.some.injEq] at hc
    subst hc
    refine ⟨rfl, fun j hj => ?_⟩
    obtain rfl : j = 0 := by simpa using hj
    exact .own1 _ b e c sz xs F hb hp h1 h2 h0 hz hsh hg hfr hx hr
  | mp _ b hb =>
    simp only [cellsOf, Option.some.injEq] at hc
    subst hc
    refine ⟨rfl, fun j hj => ?_⟩
    obtain rfl : j = 0 := by simpa using hj
    exact .mp _ b hb
theorem places_of (hT : Tok P T) : ∀ (fs : List Field), ((fs.map fun f => (f.offset, f.type)).all fun f => (T f.2).isSome) = true → fs.mapM (fun f => (P.info? f.type).map fun i => (f.offset, i.size)) = some (fs.map fun f => (f.offset, P.cellsOf f.type))
  | [], _ => rfl
  | f :: fs, h => by
    simp only [List.map_cons, List.all_cons, Bool.and_eq_true] at h
    obtain ⟨x, hx⟩ := Option.isSome_iff_exists.1 h.1
    obtain ⟨d, hd⟩ := Option.isSome_iff_exists.1 (hT _ _ hx).2
    obtain ⟨i, h1, h2⟩ := und_info hd
    rw [List.mapM_cons, places_of hT fs h.2]
    simp [h1, h2]
theorem fill_run (hT : Tok P T) {n : Nat} {ρ : Operand → Value} {ev : Operand → PV} (hev : ∀ x, Rep G m w n (ρ x) (ev x)) (flds : List (Nat × TypeId)) : ∀ (parts : List (Nat × Operand)) (us : List Value) (cells cs : List PV), us.length = cells.length → (∀ i, i < cells.length → Rep G m w n (us.getD i undef) (cells.getD i .any)) → fillA T flds ev cells parts = some cs →
    ∃ vs : List Value, Instr.fill (((flds.map fun f => (f.1, P.cellsOf f.2)).toArray)[·]?) us.toArray (parts.map fun x => (x.1, ρ x.2)) = some vs.toArray ∧ vs.length = cs.length ∧ ∀ i, i < cs.length → Rep G m w n (vs.getD i undef) (cs.getD i .any)
  | [], us, cells, cs, hl, hr, h => by
    simp only [fillA, Option.some.injEq] at h
    subst h
    exact ⟨us, rfl, hl, hr⟩
  | (i, x) :: r, us, cells, cs, hl, hr, h => by
    simp only [fillA] at h
    split at h
    case h_2 => cases h
    rename_i o ft hf
    split at h
    case h_2 => cases h
    rename_i fi hfi
    obtain ⟨hi2, hu2⟩ := hT _ _ hfi
    split at h
    case h_2 => cases h
    rename_i ps hps
    split at h
    case h_2 => cases h
    rename_i hck
    simp only [Bool.and_eq_true] at hck
    have c1 : ps.length = fi.size := Nat.eq_of_beq_eq_true hck.1
    have c2 : o + ps.length ≤ cells.length := Nat.le_of_ble_eq_true hck.2
    obtain ⟨k1, k2⟩ := cells_rep (hev x) hps
    obtain ⟨q1, q2⟩ := spliceV_rep (ρ x).cells.toList ps o us cells k1 hl k2 hr
    obtain ⟨vs, e1, e2, e3⟩ := fill_run hT hev flds r _ _ cs q1 q2 h
    refine ⟨vs, ?_, e2, e3⟩
    have hsz : P.cellsOf ft = fi.size := by rw [← hi2]; rfl
    have hk1 : (ρ x).cells.size = ps.length := by simpa using k1
    have hplace : ((flds.map fun f => (f.1, P.cellsOf f.2)).toArray)[i]? = some (o, fi.size) := by
      simp [hf, hsz]
    simp only [List.map_cons, Instr.fill, hplace]
    rw [if_neg (by simp [hk1, c1]; omega)]
    have := splice_fold (ρ x).cells.toList 0 o us.toArray
    simp only [Nat.add_zero] at this
    rw [← this] at e1
    rw [← e1]
    congr 1
    rw [← Array.foldl_toList]
    simp
theorem build_run (hT : Tok P T) {t : TypeId} {ti : TI} (hi : infoP P t = ti) (hst : ti.isStruct = true) {z : List PV} (hz : ti.zero = some z) (hall : (ti.flds.all fun f => (T f.2).isSome) = true) {n : Nat} {ρ : Operand → Value} {ev : Operand → PV} (hev : ∀ x, Rep G m w n (ρ x) (ev x)) {parts : Array (Nat × Operand)} {cs : List PV} (h : fillA T ti.flds ev z parts.toList = some cs) :
    ∃ vs : List Value, P.built t (parts.map fun (i, x) => (i, ρ x)).toList = some vs.toArray ∧ vs.length = cs.length ∧ ∀ i, i < cs.length → Rep G m w n (vs.getD i undef) (cs.getD i .any) := by
  subst hi
  unfold infoP at hst hz hall h
  simp only at hst hz hall h
  split at hst
  case h_2 => simp at hst
  rename_i fs hfs
  rw [hfs] at hall h
  simp only at hall h
  cases hq : P.info? t with
  | none => rw [hq] at hz; simp at hz
  | some i =>
    rw [hq] at hz
    simp only [Option.bind_some] at hz
    cases hqz : i.zero with
    | none => rw [hqz] at hz; simp at hz
    | some zv =>
      rw [hqz] at hz
      simp only [Option.map_some, Option.some.injEq] at hz
      subst hz
      obtain ⟨vs, e1, e2, e3⟩ := fill_run hT hev _ parts.toList zv.cells.toList (zv.cells.toList.map PV.con) cs (by simp) (rep_mapP1 _ _) h
      refine ⟨vs, ?_, e2, e3⟩
      unfold Program.built
      rw [hq, hfs]
      simp only [hqz, places_of hT fs.toList hall]
      simpa [List.map_map, Function.comp_def] using e1
set_option maxHeartbeats 2000000 in
theorem eqFields_run (hT : Tok P T) {n : Nat} {us vs : List Value} {cs ds : List PV} (hl : us.length = cs.length) (hr : ∀ i, i < cs.length → Rep G m w n (us.getD i undef) (cs.getD i .any)) (hl' : vs.length = ds.length) (hr' : ∀ i, i < ds.length → Rep G m w n (vs.getD i undef) (ds.getD i .any)) (d : Nat) :
    ∀ (fs : List Field) (b : Bool), (∀ f ∈ fs, (∃ k, P.underlying f.type = some (.int k)) ∧ f.name ≠ "_") → eqF T (fs.map fun f => (f.offset, f.type)) cs ds = some b → ∀ w', (Op.eqFields (d + 1) us.toArray vs.toArray fs).run P w' = .ok b w'
  | [], b, _, h, w' => by
    simp only [List.map_nil, eqF, Option.some.injEq] at h
    subst h; rfl
  | f :: fs, b, hf, h, w' => by
    obtain ⟨⟨k0, hk0⟩, hname⟩ := hf f (by simp)
    simp only [List.map_cons, eqF] at h
    split at h
    case h_2 => cases h
    rename_i fi hfi
    obtain ⟨hi, hu⟩ := hT _ _ hfi
    split at h
    case h_2 => cases h
    rename_i k a ha
    split at h
    case h_2 => cases h
    rename_i k' c hc
    split at h
    case h_2 => cases h
    rename_i hkk
    have hkk : k = k' := of_decide_eq_true hkk
    subst hkk
    split at h
    case h_2 => cases h
    rename_i r hr2
    injection h with h
    subst h
    obtain ⟨v1, e1, q1⟩ := part_run hi hu hl hr ha
    obtain ⟨v2, e2, q2⟩ := part_run hi hu hl' hr' hc
    obtain rfl := e1.con_eq
    obtain rfl := e2.con_eq
    have ih := eqFields_run hT hl hr hl' hr' d fs r (fun g hg => hf g (by simp [hg])) hr2 w'
    simp only [Op.eqFields, if_pos hname, Sem.run_bind, q1, q2, Result.andThen_ok, run_equalIn_int w' d f.type k k0 a c hk0]
    cases hac : (a == c) with
    | true => simp only [Bool.not_true, Bool.false_eq_true, if_false, Bool.true_and]; exact ih
    | false => simp
theorem flds_of {xt : TypeId} {ti : TI} (hi : infoP P xt = ti) (hst : ti.isStruct = true) : P.underlying xt = some (.struct (P.fieldsOf xt)) ∧ ti.flds = (P.fieldsOf xt).toList.map (fun f => (f.offset, f.type)) := by
  subst hi
  unfold infoP at hst
  dsimp only at hst
  cases hd : P.underlying xt with
  | none => rw [hd] at hst; exact absurd hst Bool.false_ne_true
  | some t =>
    rw [hd] at hst
    cases t <;> first | (exact absurd hst Bool.false_ne_true) | skip
    rename_i fs
    have hq : P.fieldsOf xt = fs := by unfold Program.fieldsOf; rw [hd]
    rw [hq]
    refine ⟨rfl, ?_⟩
    unfold infoP
    dsimp only
    rw [hd]
theorem ints_of {xt : TypeId} (h4 : intFields P xt = true) : ∀ f ∈ (P.fieldsOf xt).toList, (∃ k, P.underlying f.type = some (.int k)) ∧ f.name ≠ "_" := fun f hf => by
  have := List.all_eq_true.1 h4 f hf
  rw [Bool.and_eq_true] at this
  refine ⟨?_, of_decide_eq_true this.2⟩
  have h5 := this.1
  split at h5
  · exact ⟨_, by assumption⟩
  · cases h5
theorem arrInts_of {t : TypeId} (h : arrInts P t = true) : ∃ n e k, P.underlying t = some (.array n e) ∧ P.cellsOf e = 1 ∧ P.underlying e = some (.int k) := by
  unfold arrInts at h
  split at h
  · rename_i n e hu
    rw [Bool.and_eq_true] at h
    obtain ⟨h1, h2⟩ := h
    split at h2
    · rename_i k hk; exact ⟨n, e, k, hu, Nat.eq_of_beq_eq_true h1, hk⟩
    · cases h2
  · cases h
theorem eqElems_run {e : TypeId} {k0 : IntKind} (hk : P.underlying e = some (.int k0)) (d : Nat) {us vs : List Value} {n0 : Nat} {cs ds : List PV} (hl : us.length = cs.length) (hr : ∀ i, i < cs.length → Rep G m w n0 (us.getD i undef) (cs.getD i .any)) (hl' : vs.length = ds.length) (hr' : ∀ i, i < ds.length → Rep G m w n0 (vs.getD i undef) (ds.getD i .any)) :
    ∀ (n s : Nat) (b : Bool), eqL n (cs.drop s) (ds.drop s) = some b → ∀ w' : World, (Sem.run P (forIn (List.range' s n) (none, ()) fun (i : Nat) (_ : Option Bool × Unit) => do
            let a ← part e us.toArray (i * 1)
            let c ← part e vs.toArray (i * 1)
            let r ← Op.equalIn (d + 1) e a c
            if (!r) = true then pure (ForInStep.done (some false, ())) else pure (ForInStep.yield (none, ()))) w').andThen (fun a w' => Sem.run P (match a.fst with | some r => pure r | none => pure true) w') = .ok b w'
  | 0, s, b, h, w' => by
    simp only [eqL, Option.some.injEq] at h
    subst h
    simp
  | n + 1, s, b, h, w' => by
    cases hc : cs.drop s with
    | nil => rw [hc] at h; simp [eqL] at h
    | cons x cs' =>
      cases hd : ds.drop s with
      | nil =>
        rw [hc, hd] at h
        unfold eqL at h
        cases x with
        | con v => cases v <;> simp at h
        | _ => simp at h
      | cons y ds' =>
        rw [hc, hd] at h
        obtain ⟨k, a, rfl⟩ : ∃ k a, x = .con (.int k a) := by
          cases x with
          | con v => cases v with
            | int k a => exact ⟨k, a, rfl⟩
            | _ => simp [eqL] at h
          | _ => simp [eqL] at h
        obtain ⟨k', c, rfl⟩ : ∃ k a, y = .con (.int k a) := by
          cases y with
          | con v => cases v with
            | int k a => exact ⟨k, a, rfl⟩
            | _ => simp [eqL] at h
          | _ => simp [eqL] at h
        simp only [eqL] at h
        split at h
        case h_2 => cases h
        rename_i hkk
        have hkk := of_decide_eq_true hkk
        subst hkk
        split at h
        case h_2 => cases h
        rename_i r hr2
        injection h with h
        subst h
        have hs1 : s < cs.length := by
          apply Classical.byContradiction
          intro hn
          rw [List.drop_eq_nil_of_le (by omega)] at hc
          cases hc
        have hs2 : s < ds.length := by
          apply Classical.byContradiction
          intro hn
          rw [List.drop_eq_nil_of_le (by omega)] at hd
          cases hd
        have g1 : cs.getD s .any = .con (.int k a) := by
          rw [List.drop_eq_getElem_cons hs1] at hc
          injection hc with hc _
          rw [List.getD_eq_getElem?_getD, List.getElem?_eq_getElem hs1]; exact hc
        have g2 : ds.getD s .any = .con (.int k c) := by
          rw [List.drop_eq_getElem_cons hs2] at hd
          injection hd with hd _
          rw [List.getD_eq_getElem?_getD, List.getElem?_eq_getElem hs2]; exact hd
        have e1 := (hr s hs1)
        have e2 := (hr' s hs2)
        rw [g1] at e1
        rw [g2] at e2
        have e1 := e1.con_eq
        have e2 := e2.con_eq
        have hna : ∀ w', (isAgg e).run P w' = .ok false w' := fun w' => by simp [isAgg, run_underlying hk]
        have p1 : ∀ w', (part e us.toArray (s * 1)).run P w' = .ok (.int k a) w' := fun w' => by
          simp only [part, Sem.run_bind, hna, Result.andThen_ok]
          rw [List.getD_eq_getElem?_getD, List.getElem?_eq_getElem (by omega)] at e1
          simp only [Option.getD_some] at e1
          simp [List.getElem?_eq_getElem (show s < us.length by omega), e1]
        have p2 : ∀ w', (part e vs.toArray (s * 1)).run P w' = .ok (.int k c) w' := fun w' => by
          simp only [part, Sem.run_bind, hna, Result.andThen_ok]
          rw [List.getD_eq_getElem?_getD, List.getElem?_eq_getElem (by omega)] at e2
          simp only [Option.getD_some] at e2
          simp [List.getElem?_eq_getElem (show s < vs.length by omega), e2]
        have t1 : cs.drop (s + 1) = cs' := by
          rw [List.drop_eq_getElem_cons hs1] at hc
          injection hc
        have t2 : ds.drop (s + 1) = ds' := by
          rw [List.drop_eq_getElem_cons hs2] at hd
          injection hd
        have ih := eqElems_run hk d hl hr hl' hr' n (s + 1) r (by rw [t1, t2]; exact hr2) w'
        rw [List.range'_succ]
        simp only [List.forIn_cons, Sem.run_bind, p1, p2, Result.andThen_ok, run_equalIn_int w' d e k k0 a c hk]
        cases hac : (a == c) with
        | true => simpa using ih
        | false => simp
theorem eqArr_run {t : TypeId} {ti : TI} (hi : infoP P t = ti) {n : Nat} {el : TypeId} (ha : ti.arr = some (n, el)) (h3 : arrInts P t = true) {us vs : List Value} {n0 : Nat} {cs ds : List PV} (hl : us.length = cs.length) (hr : ∀ i, i < cs.length → Rep G m w n0 (us.getD i undef) (cs.getD i .any)) (hl' : vs.length = ds.length) (hr' : ∀ i, i < ds.length → Rep G m w n0 (vs.getD i undef) (ds.getD i .any)) {b : Bool} (h : eqL n cs ds = some b) (d : Nat) (w' : World) :
    (Op.equalIn (d + 2) t (.agg us.toArray) (.agg vs.toArray)).run P w' = .ok b w' := by
  obtain ⟨n', e, k, hu, hc, hk⟩ := arrInts_of h3
  have hau := arr_und hi ha
  rw [hu] at hau
  simp only [Option.some.injEq, TypeDesc.array.injEq] at hau
  obtain ⟨rfl, rfl⟩ := hau
  have hs : ∀ w, (sizeOf e).run P w = .ok 1 w := fun w => by
    have := sizeOf_run (P := P) (w := w) (t := e) (ti := infoP P e) rfl (by rw [hk]; rfl)
    rw [this]
    show Result.ok (P.cellsOf e) w = _
    rw [hc]
  have := eqElems_run (us := us) (vs := vs) hk d hl hr hl' hr' n' 0 b (by simpa using h) w'
  show (Op.equalIn ((d + 1) + 1) t (.agg us.toArray) (.agg vs.toArray)).run P w' = .ok b w'
  generalize d + 1 = D at this ⊢
  simp only [Op.equalIn, Sem.run_bind, run_underlying hu, Result.andThen_ok, hs]
  rw [Std.Legacy.Range.forIn_eq_forIn_range']
  simp only [Std.Legacy.Range.size]
  rw [show (n' - 0 + 1 - 1) / 1 = n' by omega]
  refine Eq.trans ?_ this
  congr 1
  funext q w2
  obtain ⟨q1, q2⟩ := q
  cases q1 <;> rfl
theorem ints_of2 {xt : TypeId} (h4 : intFields2 P xt = true) : ∀ f ∈ (P.fieldsOf xt).toList, ((∃ k, P.underlying f.type = some (.int k)) ∨ (∃ q, P.underlying f.type = some (.struct q)) ∧ intFields P f.type = true ∧ P.stoodInHeld f.type = false ∨ arrInts P f.type = true) ∧ f.name ≠ "_" := fun f hf => by
  have := List.all_eq_true.1 h4 f hf
  rw [Bool.and_eq_true] at this
  refine ⟨?_, of_decide_eq_true this.2⟩
  have h5 := this.1
  split at h5
  · exact .inl ⟨_, by assumption⟩
  · rw [Bool.and_eq_true] at h5
    exact .inr (.inl ⟨⟨_, by assumption⟩, h5.1, by simpa using h5.2⟩)
  · exact .inr (.inr h5)
  · cases h5
theorem arr_not {xt : TypeId} {ti : TI} (hi : infoP P xt = ti) {n : Nat} {e : TypeId} (hk : P.underlying xt = some (.array n e)) : ti.isStruct = false := by
  rw [← hi]; unfold infoP; dsimp only; rw [hk]
theorem arr_agg {xt : TypeId} {ti : TI} (hi : infoP P xt = ti) {n : Nat} {e : TypeId} (hk : P.underlying xt = some (.array n e)) : ti.agg = true := by
  rw [← hi]; unfold infoP; dsimp only; rw [hk]
theorem int_arr {xt : TypeId} {ti : TI} (hi : infoP P xt = ti) {k : IntKind} (hk : P.underlying xt = some (.int k)) : ti.arr = none := by
  rw [← hi]; unfold infoP; dsimp only; rw [hk]
theorem struct_arr {xt : TypeId} {ti : TI} (hi : infoP P xt = ti) {q : Array Field} (hk : P.underlying xt = some (.struct q)) : ti.arr = none := by
  rw [← hi]; unfold infoP; dsimp only; rw [hk]
theorem int_not {xt : TypeId} {ti : TI} (hi : infoP P xt = ti) {k : IntKind} (hk : P.underlying xt = some (.int k)) : ti.isStruct = false := by
  rw [← hi]; unfold infoP; dsimp only; rw [hk]
theorem struct_is {xt : TypeId} {ti : TI} (hi : infoP P xt = ti) {q : Array Field} (hk : P.underlying xt = some (.struct q)) : ti.isStruct = true := by
  rw [← hi]; unfold infoP; dsimp only; rw [hk]
set_option maxHeartbeats 2000000 in
theorem eqFields_run2 (hT : Tok P T) {n : Nat} {us vs : List Value} {cs ds : List PV} (hl : us.length = cs.length) (hr : ∀ i, i < cs.length → Rep G m w n (us.getD i undef) (cs.getD i .any)) (hl' : vs.length = ds.length) (hr' : ∀ i, i < ds.length → Rep G m w n (vs.getD i undef) (ds.getD i .any)) (d : Nat) :
    ∀ (fs : List Field) (b : Bool), (∀ f ∈ fs, ((∃ k, P.underlying f.type = some (.int k)) ∨ (∃ q, P.underlying f.type = some (.struct q)) ∧ intFields P f.type = true ∧ P.stoodInHeld f.type = false ∨ arrInts P f.type = true) ∧ f.name ≠ "_") → eqF2 T (fs.map fun f => (f.offset, f.type)) cs ds = some b → ∀ w', (Op.eqFields (d + 2) us.toArray vs.toArray fs).run P w' = .ok b w'
  | [], b, _, h, w' => by
    simp only [List.map_nil, eqF2, Option.some.injEq] at h
    subst h; rfl
  | f :: fs, b, hf, h, w' => by
    obtain ⟨hk, hname⟩ := hf f (by simp)
    simp only [List.map_cons, eqF2] at h
    split at h
    case h_2 => cases h
    rename_i fi hfi
    obtain ⟨hi, hu⟩ := hT _ _ hfi
    split at h
    · rename_i k a ha
      split at h
      case h_2 => cases h
      rename_i k' c hc
      split at h
      case h_2 => cases h
      rename_i hkk
      rw [Bool.and_eq_true] at hkk
      obtain ⟨hkk, hns⟩ := hkk
      have hkk : k = k' := of_decide_eq_true hkk
      subst hkk
      split at h
      case h_2 => cases h
      rename_i r hr2
      injection h with h
      subst h
      obtain ⟨v1, e1, q1⟩ := part_run hi hu hl hr ha
      obtain ⟨v2, e2, q2⟩ := part_run hi hu hl' hr' hc
      obtain rfl := e1.con_eq
      obtain rfl := e2.con_eq
      have ih := eqFields_run2 hT hl hr hl' hr' d fs r (fun g hg => hf g (by simp [hg])) hr2 w'
      rcases hk with ⟨k0, hk0⟩ | ⟨⟨q0, hq0⟩, _, hsh⟩ | har
      · simp only [Op.eqFields, if_pos hname, Sem.run_bind, q1, q2, Result.andThen_ok, run_equalIn_int w' (d + 1) f.type k k0 a c hk0]
        cases hac : (a == c) with
        | true => simp only [Bool.not_true, Bool.false_eq_true, if_false, Bool.true_and]; exact ih
        | false => simp
      · rw [struct_is hi hq0] at hns; cases hns
      · obtain ⟨n', e', k', hu', _, _⟩ := arrInts_of har
        unfold loadA at ha
        rw [arr_agg hi hu'] at ha
        simp only at ha
        split at ha <;> cases ha
    · rename_i us' ha
      split at h
      case h_2 => cases h
      rename_i vs' hc
      split at h
      case h_2 =>
        rename_i hst
        split at h
        case h_2 => cases h
        rename_i n' el' harr
        split at h
        case h_2 => cases h
        rename_i q hq
        split at h
        case h_2 => cases h
        rename_i r hr2
        injection h with h
        subst h
        obtain ⟨v1, e1, q1⟩ := part_run hi hu hl hr ha
        obtain ⟨v2, e2, q2⟩ := part_run hi hu hl' hr' hc
        have ih := eqFields_run2 hT hl hr hl' hr' d fs r (fun g hg => hf g (by simp [hg])) hr2 w'
        have har : arrInts P f.type = true := by
          rcases hk with ⟨k0, hk0⟩ | ⟨⟨q0, hq0⟩, _, _⟩ | har
          · rw [int_arr hi hk0] at harr; cases harr
          · rw [struct_arr hi hq0] at harr; cases harr
          · exact har
        cases e1 with
        | agg _ ua _ hla hra =>
        cases e2 with
        | agg _ va _ hlb hrb =>
        have hin2 := eqArr_run hi harr har hla hra hlb hrb hq d w'
        simp only [Op.eqFields, if_pos hname, Sem.run_bind, q1, q2, Result.andThen_ok, hin2]
        cases q with
        | true => simp only [Bool.not_true, Bool.false_eq_true, if_false, Bool.true_and]; exact ih
        | false => simp
      rename_i hst
      split at h
      case h_2 => cases h
      rename_i q hq
      split at h
      case h_2 => cases h
      rename_i r hr2
      injection h with h
      subst h
      obtain ⟨v1, e1, q1⟩ := part_run hi hu hl hr ha
      obtain ⟨v2, e2, q2⟩ := part_run hi hu hl' hr' hc
      have ih := eqFields_run2 hT hl hr hl' hr' d fs r (fun g hg => hf g (by simp [hg])) hr2 w'
      rcases hk with ⟨k0, hk0⟩ | ⟨_, hin, hsh⟩ | har
      rotate_left 2
      · obtain ⟨n', e', k', hu', _, _⟩ := arrInts_of har
        rw [arr_not hi hu'] at hst; cases hst
      · rw [int_not hi hk0] at hst; cases hst
      obtain ⟨g1, g2⟩ := flds_of hi hst
      cases e1 with
      | agg _ ua _ hla hra =>
      cases e2 with
      | agg _ va _ hlb hrb =>
      rw [g2] at hq
      have hin2 := eqFields_run hT hla hra hlb hrb d _ q (ints_of hin) hq w'
      simp only [Op.eqFields, if_pos hname, Sem.run_bind, q1, q2, Result.andThen_ok, run_equalIn_struct w' (d + 1) f.type _ _ g1 hsh, hin2]
      cases q with
      | true => simp only [Bool.not_true, Bool.false_eq_true, if_false, Bool.true_and]; exact ih
      | false => simp
    · cases h
theorem eqS_run (hT : Tok P T) {xt : TypeId} {ti : TI} (hi : infoP P xt = ti) (hst : ti.isStruct = true) {n : Nat} {u v : Value} {cs ds : List PV} (hu : Rep G m w n u (.agg cs)) (hv : Rep G m w n v (.agg ds)) {b : Bool} (h : eqF2 T ti.flds cs ds = some b) (h2 : P.stoodInHeld xt = false) (h3 : P.eqGuardType P.depth xt = false) (h4 : intFields2 P xt = true) (x y : Operand) (w' : World) :
    (do eqGuard .eql xt x y u v; binOp .eql xt u v : Sem Value).run P w' = .ok (.bool b) w' ∧ (do eqGuard .neq xt x y u v; binOp .neq xt u v : Sem Value).run P w' = .ok (.bool (!b)) w' := by
  cases hu with
  | agg _ us _ hl hr =>
  cases hv with
  | agg _ vs _ hl' hr' =>
  have hfs := flds_of hi hst
  have hall := ints_of2 h4
  rw [hfs.2] at h
  have hrun := eqFields_run2 hT hl hr hl' hr' 9997 _ b hall h w'
  constructor
  · rw [Sem.run_bind, run_eqGuard_agg _ _ _ _ _ _ _ h3, Result.andThen_ok, run_eql_struct, run_equalIn_struct _ _ _ _ _ hfs.1 h2, hrun]; rfl
  · rw [Sem.run_bind, run_eqGuard_agg _ _ _ _ _ _ _ h3, Result.andThen_ok, run_neq_struct, run_equalIn_struct _ _ _ _ _ hfs.1 h2, hrun]; rfl
theorem eqA_run {xt : TypeId} {ti : TI} (hi : infoP P xt = ti) {n : Nat} {el : TypeId} (ha : ti.arr = some (n, el)) {n0 : Nat} {u v : Value} {cs ds : List PV} (hu : Rep G m w n0 u (.agg cs)) (hv : Rep G m w n0 v (.agg ds)) {b : Bool} (h : eqL n cs ds = some b) (h3 : P.eqGuardType P.depth xt = false) (h4 : arrInts P xt = true) (x y : Operand) (w' : World) :
    (do eqGuard .eql xt x y u v; binOp .eql xt u v : Sem Value).run P w' = .ok (.bool b) w' ∧ (do eqGuard .neq xt x y u v; binOp .neq xt u v : Sem Value).run P w' = .ok (.bool (!b)) w' := by
  cases hu with
  | agg _ us _ hl hr =>
  cases hv with
  | agg _ vs _ hl' hr' =>
  have hrun := eqArr_run hi ha h4 hl hr hl' hr' h 9998 w'
  constructor
  · rw [Sem.run_bind, run_eqGuard_agg _ _ _ _ _ _ _ h3, Result.andThen_ok, run_eql_struct, hrun]; rfl
  · rw [Sem.run_bind, run_eqGuard_agg _ _ _ _ _ _ _ h3, Result.andThen_ok, run_neq_struct, hrun]; rfl
theorem conv_run {n : Nat} {v : Value} {l : List UInt8} (hr : Rep G m w n v (.sl (l.map fun b => [.con (.int .u8 (b.toNat : Int))]))) {src dst e : TypeId} (hs : P.underlying src = some (.slice e)) (he : P.underlying e = some (.int .u8)) (hd : P.underlying dst = some .string)
    (hG : ∀ g, G g ≠ 0 → g < w.heap.size) (w' : World) (hw : ∀ g x, g < w.heap.size → w'.cell? ⟨g, x, none⟩ = w.cell? ⟨g, x, none⟩) : (convert src dst v).run P w' = .ok (.string ⟨l.toArray⟩) w' := by
  generalize hxs : (l.map fun b => [PV.con (.int .u8 (b.toNat : Int))]) = xs at hr
  cases hr with
  | sl _ a c sz _ F hc hm hz ha hrr =>
  have hlen : xs.length = l.length := by rw [← hxs, List.length_map]
  by_cases h0 : 0 < xs.length
  · obtain ⟨g, o, rfl, hs2, hcell⟩ := ha h0
    have hget : ∀ j (hj : j < l.length), xs.getD j [] = [PV.con (.int .u8 (l[j].toNat : Int))] := fun j hj => by
      rw [← hxs, List.getD_eq_getElem?_getD, List.getElem?_map, List.getElem?_eq_getElem hj]; rfl
    have hsz : sz = 1 := by rw [← hz 0 h0, hget 0 (by omega)]; rfl
    subst hsz
    rw [hlen]
    refine run_convert_bytes_back w' src dst e ⟨g, o, none⟩ c l hs he hd (fun j hj => ?_)
    have h1 := hcell j (by omega) 0 (by omega)
    have h2 := hrr j (by omega) 0 (by omega)
    rw [hget j hj] at h2
    have h3 := h2.con_eq
    rw [h3] at h1
    have hadd : (⟨g, o, none⟩ : Addr).add j = ⟨g, o + j, none⟩ := by unfold Addr.add; split <;> simp_all
    rw [hadd, hw g _ (hG g (by omega))]
    simpa using h1
  · have hl0 : l = [] := List.length_eq_zero_iff.1 (by omega)
    subst hl0
    have hx0 : xs.length = 0 := by omega
    rw [hx0, run_convert_bytes_string w' src dst e a 0 c hs he hd]
    cases a <;> simp [Conv.bytesToString, loadCells]
    all_goals rfl
theorem map_und {t k e : TypeId} {ti : TI} (hi : infoP P t = ti) (hs : ti.mapKE = some (k, e)) : P.underlying t = some (.map k e) := by
  subst hi
  unfold infoP at hs
  simp only at hs
  split at hs
  · rename_i a b he; simp only [Option.some.injEq, Prod.mk.injEq] at hs; obtain ⟨rfl, rfl⟩ := hs; exact he
  · cases hs
theorem int_und {t : TypeId} {q : IntKind} {ti : TI} (hi : infoP P t = ti) (hs : ti.intK = some q) : P.underlying t = some (.int q) ∧ ∀ w', (zeroValue t).run P w' = .ok (.int q 0) w' := by
  subst hi
  unfold infoP at hs
  simp only at hs
  split at hs
  case h_2 => cases hs
  rename_i a he
  split at hs
  case h_2 => cases hs
  rename_i q' n hz
  split at hs
  case h_2 => cases hs
  rename_i hd
  have hd := of_decide_eq_true hd
  obtain ⟨rfl, rfl⟩ := hd
  simp only [Option.some.injEq] at hs
  subst hs
  refine ⟨he, fun w' => ?_⟩
  cases hq : P.info? t with
  | none => rw [hq] at hz; cases hz
  | some i =>
    rw [hq] at hz
    have hz' : i.zero = some (.int a 0) := hz
    simp [zeroValue, typeInfo, hq, hz']
theorem lookup_int_ok {P : Program} {w : World} {k e t : TypeId} {q : IntKind} {b n : Nat} {D : DataW Unit} (h : w.ownsMap P k (plainElem P e) b n D) (K : Maps.Keyed P k) (ht : P.underlying t = some (.map k e)) (he : P.underlying e = some (.int q)) (hz : (zeroValue e).run P w = .ok (.int q 0) w)
    {key : Value} {kl : Lit} (hkey : keyOf P k key = some kl) : ∃ c, (Instr.lookup t (.map (some b)) key true).run P w = .ok (.tuple #[.int q c, .bool (Maps.has D kl)]) w ∧ D.atKey kl (.lit (.int q 0)) = .lit (.int q c) := by
  have hw0 : (Lit.int q 0).wf = true := by cases q <;> decide
  obtain ⟨v, ps, hrun, hv⟩ := h.look_ok K ht hz (plainElem_int he hw0) hkey
  obtain ⟨c, rfl, hc, _⟩ := plainElem_int_inv he hv
  simp only [Prod.mk.injEq] at hc
  exact ⟨c, hrun, hc.1⟩
theorem fixL_rep {n : Nat} : ∀ {cs : List PV} {vs : List Value}, fixL cs = some vs → vs.length = cs.length ∧ (∀ i, i < cs.length → Rep G m w n (vs.getD i undef) (cs.getD i .any)) ∧ ∀ us : List Value, us.length = cs.length → (∀ i, i < cs.length → Rep G m w n (us.getD i undef) (cs.getD i .any)) → us = vs
  | [], vs, h => by
    simp only [fixL, Option.some.injEq] at h
    subst h
    exact ⟨rfl, fun i hi => absurd hi (Nat.not_lt_zero _), fun us hl _ => List.eq_nil_of_length_eq_zero hl⟩
  | c :: cs, vs, h => by
    cases c with
    | con v =>
      simp only [fixL] at h
      split at h
      case h_2 => cases h
      rename_i vs' hvs
      injection h with h
      subst h
      obtain ⟨h1, h2, h3⟩ := fixL_rep (n := n) hvs
      refine ⟨by simp [h1], fun i hi => ?_, fun us hl hr => ?_⟩
      · cases i with
        | zero => exact .con _ _
        | succ i => exact h2 i (by simpa using hi)
      · cases us with
        | nil => simp at hl
        | cons u us =>
          have h0 := hr 0 (by simp)
          have e : u = v := h0.con_eq
          subst e
          rw [h3 us (by simpa using hl) (fun i hi => by simpa using hr (i + 1) (by simpa using hi))]
    | _ => simp [fixL] at h
theorem rep_fix {n : Nat} {p : PV} {u : Value} (h : fixV p = some u) : Rep G m w n u p := by
  cases p with
  | con v => simp only [fixV, Option.some.injEq] at h; subst h; exact .con _ _
  | agg cs =>
    simp only [fixV] at h
    split at h
    case h_2 => cases h
    rename_i vs hvs
    injection h with h
    subst h
    obtain ⟨h1, h2, _⟩ := fixL_rep (G := G) (m := m) (w := w) (n := n) hvs
    exact .agg _ _ _ h1 h2
  | ifc t q =>
    simp only [fixV] at h
    split at h
    case h_2 => cases h
    rename_i u' hu'
    injection h with h
    subst h
    exact .ifc _ _ _ _ (rep_fix hu')
  | _ => simp [fixV] at h
theorem fix_rep {n : Nat} {v : Value} {p : PV} {u : Value} (h : fixV p = some u) (hr : Rep G m w n v p) : v = u := by
  induction hr generalizing u with
  | con _ v => simp only [fixV, Option.some.injEq] at h; exact h
  | agg n' us cs hl hrr _ =>
    simp only [fixV] at h
    split at h
    case h_2 => cases h
    rename_i vs hvs
    injection h with h
    subst h
    obtain ⟨_, _, h3⟩ := fixL_rep (G := G) (m := m) (w := w) (n := n') hvs
    rw [h3 us hl hrr]
  | ifc _ t v q hq ih =>
    simp only [fixV] at h
    split at h
    case h_2 => cases h
    rename_i u' hu'
    injection h with h
    subst h
    rw [ih hu']
  | _ => simp [fixV] at h
theorem Rep.up {n : Nat} {v : Value} {p : PV} (h : Rep G m w 0 v p) : Rep G m w n v p := h.keep (Nat.zero_le _) ⟨fun _ => Nat.le_refl _, fun _ _ _ => rfl, fun _ _ _ h => h, fun _ _ => rfl⟩
theorem rep_pair {n : Nat} {a b : Value} {p q : PV} (h1 : Rep G m w n a p) (h2 : Rep G m w n b q) : Rep G m w n (.tuple #[a, b]) (.tup [p, q]) :=
  .tup n [a, b] [p, q] rfl (fun i hi => by
    match i, hi with
    | 0, _ => exact h1
    | 1, _ => exact h2)
theorem assert_yes {t xt : TypeId} {d : TypeDesc} (hd : P.underlying t = some d) (hif : isIface P t = false) (v : Value) (ok : Bool) (w : World) : (Instr.typeAssert (.iface t v) xt t ok).run P w = .ok (match ok with | true => .tuple #[v, .bool true] | false => v) w := by
  unfold isIface at hif
  rw [hd] at hif
  unfold Instr.typeAssert
  cases d <;> cases ok <;> simp_all [run_underlying hd]
theorem zero_info {t : TypeId} {ti : TI} {z : List PV} (hi : infoP P t = ti) (hz : ti.zero = some z) : ∃ i zv, P.info? t = some i ∧ i.zero = some zv := by
  subst hi
  unfold infoP at hz
  simp only at hz
  cases hq : P.info? t with
  | none => rw [hq] at hz; simp at hz
  | some i =>
    rw [hq] at hz
    simp only [Option.bind_some] at hz
    cases hqz : i.zero with
    | none => rw [hqz] at hz; simp at hz
    | some zv => exact ⟨i, zv, rfl, hqz⟩
theorem assert_no {t xt u : TypeId} {d : TypeDesc} {i : TypeInfo} {zv : Value} (hd : P.underlying t = some d) (hif : isIface P t = false) (h1 : P.info? t = some i) (h2 : i.zero = some zv) (hne : u ≠ t) (v : Value) (w : World) : (Instr.typeAssert (.iface u v) xt t true).run P w = .ok (.tuple #[zv, .bool false]) w := by
  unfold isIface at hif
  rw [hd] at hif
  unfold Instr.typeAssert
  cases d <;> simp_all [run_underlying hd, zeroValue, typeInfo]
theorem cut_rep {n : Nat} {v : Value} {a0 : Option Addr} {c0 z : Nat} {xs : List (List PV)} (hr : Rep G m w n v (.sl xs)) (hv : v = .slice a0 xs.length c0) {k : Nat} (hk : k ≤ xs.length) (hy : ∀ y ∈ xs, y.length = z) : Rep G m w n (.slice (if c0 = k then a0 else a0.map (·.add (k * z))) (xs.length - k) (c0 - k)) (.sl (xs.drop k)) := by
  cases hr with
  | sl _ a c sz _ F hc hm hz ha hr =>
    injection hv with e1 e2 e3
    subst e1 e3
    have hd : (xs.drop k).length = xs.length - k := by simp
    have hg : ∀ i, (xs.drop k).getD i [] = xs.getD (k + i) [] := fun i => by simp [List.getD_eq_getElem?_getD]
    have := Rep.sl (G := G) (m := m) (w := w) n (if c = k then a else a.map (·.add (k * z))) (c - k) sz (xs.drop k) (fun i j => F (k + i) j) (by omega) (by omega) (fun i hi' => by rw [hg]; exact hz _ (by omega))
      (fun h0 => by
        obtain ⟨g, o, rfl, hG, hcell⟩ := ha (by omega)
        have hse : sz = z := by
          have h00 : 0 < xs.length := by omega
          rw [← hz 0 h00]
          exact hy _ (by rw [List.getD_eq_getElem?_getD, List.getElem?_eq_getElem h00]; exact List.getElem_mem h00)
        have hmul : k * sz + (xs.length - k) * sz = xs.length * sz := by rw [← Nat.add_mul, Nat.add_sub_cancel' hk]
        refine ⟨g, o + k * sz, ?_, by rw [hd, Nat.add_assoc, hmul]; exact hG, fun i hi' j hj => ?_⟩
        · have hck : ¬ c = k := fun he => by rw [hd] at h0; omega
          rw [if_neg hck, ← hse]
          simp [Addr.add]
        · have := hcell (k + i) (by omega) j hj
          rw [Nat.add_mul] at this
          rw [← this]
          rw [Nat.add_assoc o, Nat.add_assoc o, Nat.add_assoc (k * sz)])
      (fun i hi' j hj => by rw [hg]; exact hr (k + i) (by omega) j hj)
    rwa [hd] at this
theorem take_rep {n : Nat} {v : Value} {a0 : Option Addr} {c0 j : Nat} {xs : List (List PV)} (hr : Rep G m w n v (.sl xs)) (hv : v = .slice a0 xs.length c0) (hj : j ≤ xs.length) : Rep G m w n (.slice a0 (xs.take j).length c0) (.sl (xs.take j)) := by
  cases hr with
  | sl _ a c sz _ F hc hm hz ha hr =>
    injection hv with e1 e2 e3
    subst e1 e3
    have hl : (xs.take j).length = j := by simp; omega
    have hg : ∀ i, i < j → (xs.take j).getD i [] = xs.getD i [] := fun i hi => by simp [List.getD_eq_getElem?_getD, List.getElem?_take, hi]
    refine .sl n a c sz (xs.take j) F (by omega) hm (fun i hi => by rw [hg i (by omega)]; exact hz _ (by omega)) (fun h0 => ?_) (fun i hi q hq => by rw [hg i (by omega)]; exact hr i (by omega) q hq)
    obtain ⟨g, o, rfl, hG, hcell⟩ := ha (by omega)
    refine ⟨g, o, rfl, ?_, fun i hi q hq => hcell i (by omega) q hq⟩
    have : (xs.take j).length * sz ≤ xs.length * sz := Nat.mul_le_mul_right _ (by omega)
    omega
theorem sl_len {n : Nat} {v : Value} {xs : List (List PV)} (hr : Rep G m w n v (.sl xs)) : ∃ a c, v = .slice a xs.length c ∧ xs.length ≤ c := by
  cases hr with
  | sl _ a c sz _ F hc hm hz ha hr => exact ⟨a, c, rfl, hc⟩
theorem cut_run {t : TypeId} {ti ei : TI} (hi : infoP P t = ti) (hs : ti.isSl = true) (he : infoP P ti.elem = ei) (hu : (P.underlying ti.elem).isSome = true) {n : Nat} {v : Value} {xs : List (List PV)} (hr : Rep G m w n v (.sl xs)) {k : Nat} (hk : k ≤ xs.length) (hy : ∀ y ∈ xs, y.length = ei.size) :
    ∃ u, Rep G m w n u (.sl (xs.drop k)) ∧ ∀ (q : IntKind) (w' : World), (Instr.sliceAt t v (some (.int q (k : Int))) none none).run P w' = .ok u w' := by
  obtain ⟨a, c, rfl, hc⟩ := sl_len hr
  refine ⟨_, cut_rep hr rfl hk hy, fun q w' => ?_⟩
  have hsl := slice_und hi hs
  have hsize := sizeOf_run (w := w') he hu
  simp [Instr.sliceAt, Instr.slice, Instr.sliceBounds, Instr.sliceBound, asIntOf, run_underlying hsl, hsize, hk]
theorem piece_run {t : TypeId} {ti ei : TI} (hi : infoP P t = ti) (hs : ti.isSl = true) (he : infoP P ti.elem = ei) (hu : (P.underlying ti.elem).isSome = true) {n : Nat} {v : Value} {xs : List (List PV)} (hr : Rep G m w n v (.sl xs)) {i j : Int} (h0 : 0 ≤ i) (h1 : i ≤ j) (h2 : j ≤ xs.length) (hy : ∀ y ∈ xs, y.length = ei.size) :
    ∃ u, Rep G m w n u (.sl ((xs.take j.toNat).drop i.toNat)) ∧ (∀ (q q' : IntKind) (w' : World), (Instr.sliceAt t v (some (.int q i)) (some (.int q' j)) none).run P w' = .ok u w') ∧ (i = 0 → ∀ (q' : IntKind) (w' : World), (Instr.sliceAt t v none (some (.int q' j)) none).run P w' = .ok u w') := by
  obtain ⟨a, c, rfl, hc⟩ := sl_len hr
  have hl : (xs.take j.toNat).length = j.toNat := by simp; omega
  have r1 := take_rep hr rfl (j := j.toNat) (by omega)
  have r2 := cut_rep r1 rfl (k := i.toNat) (by omega) (fun y h => hy y (List.mem_of_mem_take h))
  rw [hl] at r2
  have hsl := slice_und hi hs
  refine ⟨_, r2, fun q q' w' => ?_, fun hi0 q' w' => ?_⟩
  · have hsize := sizeOf_run (w := w') he hu
    have e1 : i ≤ (c : Int) := by omega
    have e2 : j ≤ (c : Int) := by omega
    have e3 : (0 : Int) ≤ j := by omega
    simp [Instr.sliceAt, Instr.slice, Instr.sliceBounds, Instr.sliceBound, asIntOf, run_underlying hsl, hsize, h0, h1, e1, e2, e3, Int.max_eq_left e3, Int.not_lt.2 h1]
  · have hsize := sizeOf_run (w := w') he hu
    subst hi0
    have e2 : j ≤ (c : Int) := by omega
    simp [Instr.sliceAt, Instr.slice, Instr.sliceBounds, Instr.sliceBound, asIntOf, run_underlying hsl, hsize, h1, e2]
theorem weak_rw {p : PV} {b off n z : Nat} {e : TypeId} (hq : weak p = .rw b off n e z) : p = .rw b off n e z := by
  cases p <;> simp [weak] at hq
  · rename_i vv; unfold weakV at hq; split at hq <;> cases hq
  · obtain ⟨rfl, rfl, rfl, rfl, rfl⟩ := hq; rfl
theorem nilP_eq {p : PV} (h : nilP p = true) : p = .con (.slice none 0 0) := by
  unfold nilP at h
  split at h
  · rename_i v
    unfold isNil at h
    split at h
    · rfl
    · cases h
  · cases h
theorem nilPiece_run {t : TypeId} {ti ei : TI} (hi : infoP P t = ti) (hs : ti.isSl = true) (he : infoP P ti.elem = ei) (hu : (P.underlying ti.elem).isSome = true) (q' : IntKind) (w' : World) : (Instr.sliceAt t (.slice none 0 0) none (some (.int q' 0)) none).run P w' = .ok (.slice none 0 0) w' := by
  have hsl := slice_und hi hs
  have hsize : ∀ w' : World, (sizeOf ti.elem).run P w' = .ok ei.size w' := fun w' => sizeOf_run (w := w') he hu
  simp [Instr.sliceAt, Instr.slice, Instr.sliceBounds, Instr.sliceBound, asIntOf, run_underlying hsl, hsize]
theorem rowPiece_run {t : TypeId} {ti ei : TI} (hi : infoP P t = ti) (hs : ti.isSl = true) (he : infoP P ti.elem = ei) (hu : (P.underlying ti.elem).isSome = true) {n0 : Nat} {v : Value} {b off n z : Nat} {e : TypeId} (hr : Rep G m w n0 v (.rw b off n e z)) (hz : z = ei.size) {i j : Int} (h0 : 0 ≤ i) (h1 : i ≤ j) (h2 : j ≤ n) :
    ∃ u, Rep G m w n0 u (.rw b (off + i.toNat * z) (j.toNat - i.toNat) e z) ∧ (∀ (q q' : IntKind) (w' : World), (Instr.sliceAt t v (some (.int q i)) (some (.int q' j)) none).run P w' = .ok u w') ∧ (i = 0 → ∀ (q' : IntKind) (w' : World), (Instr.sliceAt t v none (some (.int q' j)) none).run P w' = .ok u w') ∧
      (j = n → ∀ (q : IntKind) (w' : World), (Instr.sliceAt t v (some (.int q i)) none none).run P w' = .ok u w') := by
  subst hz
  have hsl := slice_und hi hs
  have hsize : ∀ w' : World, (sizeOf ti.elem).run P w' = .ok ei.size w' := fun w' => sizeOf_run (w := w') he hu
  have e3 : (0 : Int) ≤ j := by omega
  cases hr with
  | rw0 _ _ _ _ hb =>
    obtain rfl : j = 0 := by omega
    obtain rfl : i = 0 := by omega
    refine ⟨.slice none 0 0, ?_, fun q q' w' => ?_, fun _ q' w' => ?_, fun _ q w' => ?_⟩
    · have := Rep.rw0 (G := G) (m := m) (w := w) n0 b e ei.size hb
      simpa using this
    all_goals simp [Instr.sliceAt, Instr.slice, Instr.sliceBounds, Instr.sliceBound, asIntOf, run_underlying hsl, hsize]
  | rw _ _ _ _ c q N _ _ hb hc hm hq hN hsh hf =>
    have e1 : i ≤ (c : Int) := by omega
    have e2 : j ≤ (c : Int) := by omega
    refine ⟨.slice (if c = i.toNat then some ⟨(m b).at', q, none⟩ else (some (⟨(m b).at', q, none⟩ : Addr)).map (·.add (i.toNat * ei.size))) (j.toNat - i.toNat) (c - i.toNat), ?_, fun q q' w' => ?_, fun hi0 q' w' => ?_, fun hj q w' => ?_⟩
    · have hN' : off + i.toNat * ei.size + (c - i.toNat) * ei.size ≤ N := by
        rw [Nat.add_assoc, ← Nat.add_mul, show i.toNat + (c - i.toNat) = c by omega]; exact hN
      by_cases hci : c = i.toNat
      · rw [if_pos hci]
        exact .rw _ b _ _ _ q N e _ hb (by omega) (by omega) (.inr (by omega)) hN' hsh hf
      · rw [if_neg hci]
        have hq2 : q = off := by omega
        subst hq2
        simp only [Option.map_some, Addr.add_mid]
        exact .rw _ b _ _ _ _ N e _ hb (by omega) (by omega) (.inl rfl) hN' hsh hf
    · simp [Instr.sliceAt, Instr.slice, Instr.sliceBounds, Instr.sliceBound, asIntOf, run_underlying hsl, hsize, h0, h1, e1, e2, e3, Int.max_eq_left e3, Int.not_lt.2 h1]
    · subst hi0
      simp [Instr.sliceAt, Instr.slice, Instr.sliceBounds, Instr.sliceBound, asIntOf, run_underlying hsl, hsize, h1, e2]
    · subst hj
      have h1' : i.toNat ≤ n := by omega
      simp [Instr.sliceAt, Instr.slice, Instr.sliceBounds, Instr.sliceBound, asIntOf, run_underlying hsl, hsize, h0, h1, e1]
theorem textPiece_run {t : TypeId} {ti : TI} (hi : infoP P t = ti) (hs : ti.isStr = true) {s : ByteArray} {i j : Int} (h0 : 0 ≤ i) (h1 : i ≤ j) (h2 : j ≤ s.size) :
    (∀ (q q' : IntKind) (w' : World), (Instr.sliceAt t (.string s) (some (.int q i)) (some (.int q' j)) none).run P w' = .ok (.string (s.extract i.toNat j.toNat)) w') ∧
    (i = 0 → ∀ (q' : IntKind) (w' : World), (Instr.sliceAt t (.string s) none (some (.int q' j)) none).run P w' = .ok (.string (s.extract 0 j.toNat)) w') ∧
    (j = s.size → ∀ (q : IntKind) (w' : World), (Instr.sliceAt t (.string s) (some (.int q i)) none none).run P w' = .ok (.string (s.extract i.toNat s.size)) w') := by
  have hsu := str_und hi hs
  have e3 : (0 : Int) ≤ j := by omega
  have e1 : i ≤ (s.size : Int) := by omega
  refine ⟨fun q q' w' => ?_, fun hi0 q' w' => ?_, fun hj q w' => ?_⟩
  · simp [Instr.sliceAt, Instr.slice, Instr.sliceBounds, Instr.sliceBound, asIntOf, run_underlying hsu, h0, h1, h2, e1, e3, Int.max_eq_left e3, Int.not_lt.2 h1]
  · subst hi0
    simp [Instr.sliceAt, Instr.slice, Instr.sliceBounds, Instr.sliceBound, asIntOf, run_underlying hsu, h1, h2]
  · subst hj
    simp [Instr.sliceAt, Instr.slice, Instr.sliceBounds, Instr.sliceBound, asIntOf, run_underlying hsu, h0, h1]
theorem textAll_run {t : TypeId} {ti : TI} (hi : infoP P t = ti) (hs : ti.isStr = true) (s : ByteArray) (w' : World) : (Instr.sliceAt t (.string s) none none none).run P w' = .ok (.string s) w' := by
  have hsu := str_und hi hs
  simp [Instr.sliceAt, Instr.slice, Instr.sliceBounds, Instr.sliceBound, run_underlying hsu]
theorem shift_run {k yk : IntKind} {a b : Int} (xt : TypeId) (x y : Operand) (h : 0 ≤ b) : (do eqGuard .shl xt x y (.int k a) (.int yk b); binOp .shl xt (.int k a) (.int yk b) : Sem Value).run P w = .ok (.int k (shlI k a b)) w ∧ (do eqGuard .shr xt x y (.int k a) (.int yk b); binOp .shr xt (.int k a) (.int yk b) : Sem Value).run P w = .ok (.int k (shrI k a b)) w := by
  have hb : ¬ b < 0 := by omega
  constructor <;> simp [eqGuard, binOp, Op.shift, hb, shlI, shrI]
theorem quo_run {k : IntKind} {a b : Int} (xt : TypeId) (x y : Operand) (h : b ≠ 0) : (do eqGuard .quo xt x y (.int k a) (.int k b); binOp .quo xt (.int k a) (.int k b) : Sem Value).run P w = .ok (.int k (k.wrap (a.tdiv b))) w ∧ (do eqGuard .rem xt x y (.int k a) (.int k b); binOp .rem xt (.int k a) (.int k b) : Sem Value).run P w = .ok (.int k (a.tmod b)) w := by
  constructor <;> simp [eqGuard, binOp, Op.intArith, Op.intDiv, h]
theorem valA_run (hT : Tok P T) {h : Heap} (hs : HS P G m w h) {ρ : Operand → Value} {ev : Operand → PV} (hev : ∀ x, Rep G m w h.length (ρ x) (ev x)) {K : PV → Prop} (o : Oper) (op : Op) (ho : o.op = op) (hv : valA P T ev h K op) :
    ∃ p v, K p ∧ Rep G m w h.length v p ∧ ∀ w', (∀ g, g < w.heap.size → w'.heap[g]? = w.heap[g]?) → (execOp ρ o).run P w' = .ok (.value v) w' := by
  unfold valA at hv
  unfold execOp
  rw [ho]
  split at hv
  · rename_i x; exact ⟨_, _, hv, hev x, fun _ _ => rfl⟩
  · rename_i x; exact ⟨_, _, hv, hev x, fun _ _ => rfl⟩
  · rename_i c a b
    split at hv
    · rename_i t ht
      have hc := hev c
      rw [ht] at hc
      have e := hc.con_eq
      obtain ⟨hv1, hv2⟩ := br_out hv
      cases t
      · have hv := hv2 rfl
        exact ⟨_, _, hv, hev b, fun w' hw' => by simp [e, asBool]⟩
      · have hv := hv1 rfl
        exact ⟨_, _, hv, hev a, fun w' hw' => by simp [e, asBool]⟩
    · exact hv.elim
  · rename_i x
    have hx := hev x
    split at hv
    · rename_i b o' hq; rw [hq] at hx; generalize hρ : ρ x = v at hx; cases hx with | ptr _ _ _ hb => exact ⟨_, _, hv, .ptr _ _ _ hb, fun w' hw' => by simp [hρ]⟩
    · rename_i cs o' hq; rw [hq] at hx; generalize hρ : ρ x = v at hx; cases hx with | ept _ g o2 _ _ F h1 h2 h3 => exact ⟨_, _, hv, .ept _ g o2 _ _ F h1 h2 h3, fun w' hw' => by simp [hρ]⟩
    · rename_i f cs hq; rw [hq] at hx; generalize hρ : ρ x = v at hx; cases hx with | fn _ _ vs _ hl hr => exact ⟨_, _, hv, .fn _ _ vs _ hl hr, fun w' hw' => by simp [hρ]⟩
    · rename_i f cs hq; rw [hq] at hx; generalize hρ : ρ x = v at hx; cases hx with | bm _ _ vs _ hl hr => exact ⟨_, _, hv, .bm _ _ vs _ hl hr, fun w' hw' => by simp [hρ]⟩
    · exact hv.elim
  · rename_i t a
    split at hv
    · rename_i ti hti
      obtain ⟨hi, hu⟩ := hT _ _ hti
      have hx := hev a
      split at hv
      · rename_i b off hq
        rw [hq] at hx
        split at hv
        case h_2 =>
          split at hv
          case h_2 => exact hv.elim
          rename_i l hrow
          split at hv
          case h_2 => exact hv.elim
          rename_i z hz
          split at hv
          case h_2 => exact hv.elim
          rename_i shs hshs
          obtain ⟨ps, _, hv⟩ := exC_out _ _ hv
          split at hv
          case h_2 => exact hv.elim
          rename_i r hr
          obtain ⟨hps, hv⟩ := hv
          generalize hρ : ρ a = v at hx
          cases hx with
          | ptr _ _ _ hb =>
            have hl : Lie G m w 0 (m b).at' off ps := by
              have := (hs.lieRow b off l hb hrow).take ps.length
              rwa [hps] at this
            obtain ⟨v, h2, h1⟩ := loadA_run hi hu (hl.lift (Nat.zero_le h.length)) hr
            have hlt : ∀ j, j < ps.length → (m b).at' < w.heap.size := fun j hj => hs.at_ltRow b l hb hrow (fun e => by
              subst e
              rw [← hps] at hj
              simp at hj)
            exact ⟨_, v, hv, h2, fun w' hw' => by simp [hρ, Instr.loadAt, Instr.sureAddr, h1 w' (fun j hj => cell_block _ (hw' _ (hlt j hj)))]⟩
        rename_i hisc
        split at hv
        · rename_i r hr
          generalize hρ : ρ a = v at hx
          cases hx with
          | ptr _ _ _ hb =>
            obtain ⟨v, h2, h1⟩ := loadA_run hi hu (hs.lie b off hb hisc) hr
            have hlt := hs.at_lt b hb hisc
            exact ⟨_, v, hv, h2, fun w' hw' => by simp [hρ, Instr.loadAt, Instr.sureAddr, h1 w' (fun j hj => cell_block _ (hw' _ hlt))]⟩
        · exact hv.elim
      · rename_i cs off hq
        rw [hq] at hx
        split at hv
        · rename_i r hr
          generalize hρ : ρ a = v at hx
          cases hx with
          | ept _ g o2 _ _ F h1 h2 h3 =>
            have hl : Lie G m w 0 g o2 cs := ⟨F, h2, h3⟩
            obtain ⟨v, k2, k1⟩ := loadA_run hi hu ((hl.drop off).lift (Nat.zero_le h.length)) hr
            exact ⟨_, v, hv, k2, fun w' hw' => by simp [hρ, Instr.loadAt, Instr.sureAddr, k1 w' (fun j hj => cell_block _ (hw' _ (hs.old _ (by simp only [List.length_drop] at hj; omega))))]⟩
        · exact hv.elim
      · exact hv.elim
    · exact hv.elim
  · rename_i s x f
    split at hv
    · rename_i ti hti
      obtain ⟨hi, hu⟩ := hT _ _ hti
      split at hv
      · rename_i o' ft hf
        split at hv
        · rename_i fi hfi
          obtain ⟨hi2, hu2⟩ := hT _ _ hfi
          split at hv
          · exact hv.elim
          · rename_i k hk
            have hx := hev x
            split at hv
            · rename_i b off hq
              rw [hq] at hx
              generalize hρ : ρ x = v at hx
              cases hx with
              | ptr _ _ _ hb => exact ⟨_, _, hv, .ptr _ _ _ hb, fun w' hw' => by simp [hρ, field_run hi hf hi2 hu2 hk]⟩
            · rename_i cs off hq
              rw [hq] at hx
              generalize hρ : ρ x = v at hx
              cases hx with
              | ept _ g o2 _ _ F h1 h2 h3 => exact ⟨_, _, hv, .ept _ g o2 (off + o') _ F h1 h2 h3, fun w' hw' => by simp [hρ, field_run hi hf hi2 hu2 hk, Nat.add_assoc]⟩
            · exact hv.elim
        · exact hv.elim
      · exact hv.elim
    · exact hv.elim
  · rename_i s x f
    split at hv
    · rename_i ti hti
      obtain ⟨hi, hu⟩ := hT _ _ hti
      split at hv
      · rename_i o' ft hf
        split at hv
        · rename_i fi hfi
          obtain ⟨hi2, hu2⟩ := hT _ _ hfi
          have hx := hev x
          split at hv
          · rename_i cs hq
            rw [hq] at hx
            split at hv
            · rename_i r hr
              generalize hρ : ρ x = v at hx
              cases hx with
              | agg _ vs _ hl hrr =>
                obtain ⟨v, k2, k1⟩ := fieldV_run hi hf hi2 hu2 hl hrr hr
                exact ⟨_, v, hv, k2, fun w' hw' => by simp [hρ, k1]⟩
            · exact hv.elim
          · exact hv.elim
        · exact hv.elim
      · exact hv.elim
    · exact hv.elim
  · rename_i t x ix
    split at hv
    · rename_i ti hti
      obtain ⟨hi, hu⟩ := hT _ _ hti
      split at hv
      · rename_i hsl
        split at hv
        · rename_i ei hei
          obtain ⟨hi2, hu2⟩ := hT _ _ hei
          have hx := (hev x).weak
          have hix := hev ix
          split at hv
          · rename_i xs hq
            rw [hq] at hx
            split at hv
            · rename_i k i hqi
              rw [hqi] at hix
              split at hv
              · split at hv
                · rename_i shs hshs
                  split at hv
                  · rename_i hlen
                    obtain ⟨cs, hl, h0, hg, hK⟩ := exC_out _ _ hv
                    have hl2 : cs.length = ei.size := by
                      have := Nat.eq_of_beq_eq_true hlen
                      simp only [List.length_nil] at hl
                      omega
                    obtain ⟨u, k2, k1⟩ := index_run hi hsl hi2 hu2 hx k i h0 hg hl2
                    have e := hix.con_eq
                    exact ⟨_, u, hK, k2, fun w' hw' => by simp [e, k1]⟩
                  · exact hv.elim
                · exact hv.elim
              · exact hv.elim
            · exact hv.elim
          · rename_i b off n re rz hq
            rw [hq] at hx
            split at hv
            case h_2 => exact hv.elim
            rename_i k i hqi
            rw [hqi] at hix
            split at hv
            case h_2 => exact hv.elim
            obtain ⟨h0, h1, hv⟩ := hv
            have e := hix.con_eq
            have hslu := slice_und hi hsl
            have h1' : i < n := by omega
            generalize hρ : ρ x = v at hx
            cases hx with
            | rw0 _ _ _ _ hb => omega
            | rw _ _ _ _ c qq N _ _ hb hc hm hq2 hN hsh hf =>
              have hq3 : qq = off := by omega
              subst hq3
              exact ⟨_, _, hv, .ptr _ _ _ hb, fun w' hw' => by simp [hρ, e, Instr.indexAt, asIntOf, run_underlying hslu, h0, h1', sizeOf_run (w := w') hi2 hu2, Addr.add_mid]⟩
          · exact hv.elim
        · exact hv.elim
      · split at hv
        case h_2 => exact hv.elim
        rename_i n e harr
        have hau := arr_und hi harr
        split at hv
        case h_2 => exact hv.elim
        rename_i ei hei
        obtain ⟨hi2, hu2⟩ := hT _ _ hei
        split at hv
        case h_2 => exact hv.elim
        rename_i k i hqi
        have hix := hev ix
        rw [hqi] at hix
        have e1 := hix.con_eq
        have hx := hev x
        split at hv
        · rename_i b off hq
          rw [hq] at hx
          obtain ⟨h0, h1, hv⟩ := hv
          have h1' : i < n := by omega
          generalize hρ : ρ x = v at hx
          cases hx with
          | ptr _ _ _ hb =>
            exact ⟨_, _, hv, .ptr _ _ _ hb, fun w' hw' => by simp [hρ, e1, Instr.indexAt, Instr.sureAddr, asIntOf, run_underlying hau, h0, h1', sizeOf_run (w := w') hi2 hu2, Addr.add_mid]⟩
        · rename_i cs off hq
          rw [hq] at hx
          split at hv
          case h_2 => exact hv.elim
          split at hv
          case h_2 => exact hv.elim
          obtain ⟨h0, h1, hsz, ps, hl, hxx, hv⟩ := arrAt_out hv
          have h1' : i < n := by omega
          obtain ⟨c1, c2⟩ := arr_cells hxx (by omega)
          generalize hρ : ρ x = v at hx
          cases hx with
          | ept _ g o2 _ _ F q1 q2 q3 =>
            refine ⟨_, .pointer (some ⟨g, (o2 + (off + i.toNat * ei.size)) + 0, none⟩), hv, .ept _ g (o2 + (off + i.toNat * ei.size)) 0 ps (fun j => F (off + i.toNat * ei.size + j)) (by omega) (fun j hj => ?_) (fun j hj => ?_), fun w' hw' => ?_⟩
            · rw [Nat.add_assoc]; exact q2 _ (by omega)
            · rw [c2 j hj]; exact q3 _ (by omega)
            · have hsize : ∀ w', (sizeOf e).run P w' = .ok ei.size w' := fun w' => sizeOf_run (w := w') hi2 hu2
              simp [hρ, e1, Instr.indexAt, Instr.sureAddr, asIntOf, run_underlying hau, h0, h1', hsize, Addr.add_mid, Nat.add_assoc]
        · exact hv.elim
    · exact hv.elim
  · rename_i t x ix
    split at hv
    · rename_i ti hti
      obtain ⟨hi, hu⟩ := hT _ _ hti
      split at hv
      · rename_i hst
        have hx := hev x
        have hix := hev ix
        split at hv
        · rename_i s hq
          rw [hq] at hx
          split at hv
          · rename_i k i hqi
            rw [hqi] at hix
            obtain ⟨b, h0, hg, hK⟩ := hv
            have e := hix.con_eq
            have e2 := hx.con_eq
            exact ⟨_, _, hK, .con _ _, fun w' hw' => by simp [e, e2, Instr.index, asIntOf, run_underlying (str_und hi hst), h0, hg]⟩
          · exact hv.elim
        · exact hv.elim
      · split at hv
        case h_2 => exact hv.elim
        rename_i n e harr
        have hau := arr_und hi harr
        split at hv
        case h_2 => exact hv.elim
        rename_i ei hei
        obtain ⟨hi2, hu2⟩ := hT _ _ hei
        split at hv
        case h_2 => exact hv.elim
        rename_i k i hqi
        have hix := hev ix
        rw [hqi] at hix
        have e1 := hix.con_eq
        have hx := hev x
        split at hv
        case h_2 => exact hv.elim
        rename_i cs hq
        rw [hq] at hx
        split at hv
        case h_2 => exact hv.elim
        split at hv
        case h_2 => exact hv.elim
        obtain ⟨h0, h1, hsz, ps, hl, hxx, hv⟩ := arrAt_out hv
        have h1' : i < n := by omega
        split at hv
        case h_2 => exact hv.elim
        rename_i r hr
        have hr2 := loadA_take hxx hr
        rw [Nat.zero_add] at hr2
        generalize hρ : ρ x = v at hx
        cases hx with
        | agg _ vs _ hl2 hrr =>
          obtain ⟨u, k2, k1⟩ := part_run (w := w) hi2 hu2 hl2 hrr hr2
          exact ⟨_, u, hv, k2, fun w' hw' => by simp [hρ, e1, Instr.index, asIntOf, run_underlying hau, h0, h1', sizeOf_run (w := w') hi2 hu2, k1]⟩
    · exact hv.elim
  · rename_i op xt x y yt
    split at hv
    · rename_i ti hti
      obtain ⟨hi, hu⟩ := hT _ _ hti
      have hx := hev x
      have hy := hev y
      split at hv
      · rename_i u hqu
        rw [hqu] at hx
        split at hv
        · rename_i v hqv
          rw [hqv] at hy
          have e := hx.con_eq
          have e2 := hy.con_eq
          split at hv
          · rename_i s t
            have hc := fun w' => cat_run (P := P) (w := w') xt x y s t (by cases hv; assumption)
            obtain ⟨hv1, hv2⟩ := hv
            exact ⟨_, _, hv2, .con _ _, fun w' hw' => by simp only [e, e2]; rw [Sem.run_bind, hc]; rfl⟩
          · rename_i k a yk b
            obtain ⟨hb, hv⟩ := hv
            have hc := fun w' => (shift_run (P := P) (w := w') (k := k) (yk := yk) (a := a) xt x y hb).1
            exact ⟨_, _, hv, .con _ _, fun w' hw' => by simp only [e, e2]; rw [Sem.run_bind, hc]; rfl⟩
          · rename_i k a yk b
            obtain ⟨hb, hv⟩ := hv
            have hc := fun w' => (shift_run (P := P) (w := w') (k := k) (yk := yk) (a := a) xt x y hb).2
            exact ⟨_, _, hv, .con _ _, fun w' hw' => by simp only [e, e2]; rw [Sem.run_bind, hc]; rfl⟩
          · rename_i k a k' b
            split at hv
            case h_2 => exact hv.elim
            rename_i hk
            obtain rfl := of_decide_eq_true hk
            obtain ⟨hb, hv⟩ := hv
            have hc := fun w' => (quo_run (P := P) (w := w') (k := k) (a := a) xt x y hb).1
            exact ⟨_, _, hv, .con _ _, fun w' hw' => by simp only [e, e2]; rw [Sem.run_bind, hc]; rfl⟩
          · rename_i k a k' b
            split at hv
            case h_2 => exact hv.elim
            rename_i hk
            obtain rfl := of_decide_eq_true hk
            obtain ⟨hb, hv⟩ := hv
            have hc := fun w' => (quo_run (P := P) (w := w') (k := k) (a := a) xt x y hb).2
            exact ⟨_, _, hv, .con _ _, fun w' hw' => by simp only [e, e2]; rw [Sem.run_bind, hc]; rfl⟩
          · obtain ⟨hp, hv⟩ := hv
            exact ⟨_, _, hv, .con _ _, fun w' hw' => by simp only [e, e2]; simp [eqGuard, run_eql_pointer_nil _ _ _ hp]⟩
          · obtain ⟨hp, hv⟩ := hv
            exact ⟨_, _, hv, .con _ _, fun w' hw' => by simp only [e, e2]; simp [eqGuard, run_neq_pointer_nil _ _ _ hp]⟩
          · split at hv
            · rename_i r hr
              have hc := fun w' => bin_run (w := w') op hi hu x y hr
              exact ⟨_, _, hv, .con _ _, fun w' hw' => by simp only [e, e2]; rw [Sem.run_bind, hc]; rfl⟩
            · exact hv.elim
        · exact hv.elim
      · rename_i pb po hqu
        rw [hqu] at hx
        split at hv
        case h_2 => exact hv.elim
        rename_i hqv
        rw [hqv] at hy
        have e2 := hy.con_eq
        generalize hρ : ρ x = vx at hx
        cases hx with
        | ptr _ _ _ hb =>
          split at hv
          · obtain ⟨hp, hv⟩ := hv
            exact ⟨_, _, hv, .con _ _, fun w' hw' => by simp only [hρ, e2]; simp [eqGuard, run_eql_pointer_nil _ _ _ hp]⟩
          · obtain ⟨hp, hv⟩ := hv
            exact ⟨_, _, hv, .con _ _, fun w' hw' => by simp only [hρ, e2]; simp [eqGuard, run_neq_pointer_nil _ _ _ hp]⟩
          · exact hv.elim
      · rename_i us hqu
        rw [hqu] at hx
        split at hv
        · rename_i vs hqv
          rw [hqv] at hy
          split at hv
          · rename_i hst
            split at hv
            · rename_i b hb
              split at hv
              · obtain ⟨g1, g2, g3, hk⟩ := hv
                have hc := fun w' => (eqS_run hT hi hst hx hy hb g1 g2 g3 x y w').1
                exact ⟨_, _, hk, .con _ _, fun w' hw' => by dsimp only; rw [Sem.run_bind, hc]; rfl⟩
              · obtain ⟨g1, g2, g3, hk⟩ := hv
                have hc := fun w' => (eqS_run hT hi hst hx hy hb g1 g2 g3 x y w').2
                exact ⟨_, _, hk, .con _ _, fun w' hw' => by dsimp only; rw [Sem.run_bind, hc]; rfl⟩
              · exact hv.elim
            · exact hv.elim
          · split at hv
            case h_2 => exact hv.elim
            rename_i n el harr
            split at hv
            case h_2 => exact hv.elim
            rename_i b hb
            split at hv
            · obtain ⟨g1, g2, hk⟩ := hv
              have hc := fun w' => (eqA_run hi harr hx hy hb g1 g2 x y w').1
              exact ⟨_, _, hk, .con _ _, fun w' hw' => by dsimp only; rw [Sem.run_bind, hc]; rfl⟩
            · obtain ⟨g1, g2, hk⟩ := hv
              have hc := fun w' => (eqA_run hi harr hx hy hb g1 g2 x y w').2
              exact ⟨_, _, hk, .con _ _, fun w' hw' => by dsimp only; rw [Sem.run_bind, hc]; rfl⟩
            · exact hv.elim
        · exact hv.elim
      · exact hv.elim
    · exact hv.elim
  · rename_i t x ix
    split at hv
    case h_2 => exact hv.elim
    rename_i ti hti
    obtain ⟨hi, hu⟩ := hT _ _ hti
    split at hv
    case h_2 => exact hv.elim
    rename_i k e hke
    split at hv
    case h_2 => exact hv.elim
    rename_i tk htk
    obtain ⟨hik, huk⟩ := hT _ _ htk
    split at hv
    case h_2 => exact hv.elim
    rename_i hstr
    split at hv
    case h_2 => exact hv.elim
    rename_i te hte
    obtain ⟨hie, hue⟩ := hT _ _ hte
    split at hv
    case h_2 => exact hv.elim
    rename_i q hq
    have hx := hev x
    split at hv
    case h_2 => exact hv.elim
    rename_i b hqx
    rw [hqx] at hx
    split at hv
    case h_2 => exact hv.elim
    rename_i k' e' n D hblk
    split at hv
    case h_2 => exact hv.elim
    rename_i hkk
    rw [Bool.and_eq_true] at hkk
    obtain rfl := Nat.eq_of_beq_eq_true hkk.1
    obtain rfl := Nat.eq_of_beq_eq_true hkk.2
    have hix := hev ix
    split at hv
    case h_2 => exact hv.elim
    rename_i s hqi
    rw [hqi] at hix
    obtain ⟨c, hss, hc, hK⟩ := hv
    have e1 := hix.con_eq
    generalize hρ : ρ x = v at hx
    cases hx with
    | mp _ _ hb =>
      have hL := hs.blk b hb
      unfold Lies at hL
      rw [hblk] at hL
      have hown : w.ownsMap P k (plainElem P e) (m b).at' n D := hL.1
      have hmap := map_und hi hke
      obtain ⟨hie2, hzr⟩ := int_und hie hq
      refine ⟨_, .int q c, hK, .con _ _, fun w' hw' => ?_⟩
      have hown' := World.ownsMap_of_block (w' := w') hown (hw' _ hown.lt)
      obtain ⟨c', q1, q2, q3⟩ := hown'.lookup_int (t := t) (Maps.string_keyed (str_und hik hstr)) hmap hie2 (hzr w') (Go.WideMaps.keyOf_string_mk (str_und hik hstr) hss)
      rw [hc] at q2
      simp only [DataW.lit.injEq, Lit.int.injEq, true_and] at q2
      subst q2
      simp [hρ, e1, q1]
  · rename_i t x ix
    split at hv
    case h_2 => exact hv.elim
    rename_i ti hti
    obtain ⟨hi, hu⟩ := hT _ _ hti
    split at hv
    case h_2 => exact hv.elim
    rename_i k e hke
    split at hv
    case h_2 => exact hv.elim
    rename_i tk htk
    obtain ⟨hik, huk⟩ := hT _ _ htk
    split at hv
    case h_2 => exact hv.elim
    rename_i hstr
    split at hv
    case h_2 => exact hv.elim
    rename_i te hte
    obtain ⟨hie, hue⟩ := hT _ _ hte
    split at hv
    case h_2 => exact hv.elim
    rename_i q hq
    have hx := hev x
    split at hv
    case h_2 => exact hv.elim
    rename_i b hqx
    rw [hqx] at hx
    split at hv
    case h_2 => exact hv.elim
    rename_i k' e' n D hblk
    split at hv
    case h_2 => exact hv.elim
    rename_i hkk
    rw [Bool.and_eq_true] at hkk
    obtain rfl := Nat.eq_of_beq_eq_true hkk.1
    obtain rfl := Nat.eq_of_beq_eq_true hkk.2
    have hix := hev ix
    split at hv
    case h_2 => exact hv.elim
    rename_i s hqi
    rw [hqi] at hix
    obtain ⟨c, ok, hss, hc, ho, hK⟩ := hv
    have e1 := hix.con_eq
    generalize hρ : ρ x = v at hx
    cases hx with
    | mp _ _ hb =>
      have hL := hs.blk b hb
      unfold Lies at hL
      rw [hblk] at hL
      have hown : w.ownsMap P k (plainElem P e) (m b).at' n D := hL.1
      have hmap := map_und hi hke
      obtain ⟨hie2, hzr⟩ := int_und hie hq
      refine ⟨_, .tuple #[.int q c, .bool ok], hK, .tup _ [.int q c, .bool ok] _ rfl (fun i hi => ?_), fun w' hw' => ?_⟩
      · match i, hi with
        | 0, _ => exact .con _ _
        | 1, _ => exact .con _ _
      have hown' := World.ownsMap_of_block (w' := w') hown (hw' _ hown.lt)
      obtain ⟨c', q1, q2⟩ := lookup_int_ok (t := t) hown' (Maps.string_keyed (str_und hik hstr)) hmap hie2 (hzr w') (Go.WideMaps.keyOf_string_mk (str_und hik hstr) hss)
      rw [hc] at q2
      simp only [DataW.lit.injEq, Lit.int.injEq, true_and] at q2
      subst q2
      rw [ho] at q1
      simp [hρ, e1, q1]
  · rename_i src dst x
    have hx := (hev x).weak
    split at hv
    · rename_i xs hq
      rw [hq] at hx
      obtain ⟨l, ⟨e, q1, q2⟩, h2, rfl, hk⟩ := hv
      exact ⟨_, _, hk, .con _ _, fun w' hw' => by dsimp only; rw [Sem.run_bind, conv_run hx q1 q2 h2 hs.old w' (fun g x hg => cell_block _ (hw' g hg))]; rfl⟩
    · rename_i k n hq
      rw [hq] at hx
      split at hv
      case h_2 => exact hv.elim
      rename_i si hsi
      obtain ⟨_, hus⟩ := hT _ _ hsi
      split at hv
      case h_2 => exact hv.elim
      rename_i ti hti
      obtain ⟨hi, hu⟩ := hT _ _ hti
      split at hv
      case h_2 => exact hv.elim
      rename_i q hq2
      have e := hx.con_eq
      obtain ⟨hud, _⟩ := int_und hi hq2
      obtain ⟨sd, hsd⟩ := Option.isSome_iff_exists.1 hus
      exact ⟨_, _, hv, .con _ _, fun w' hw' => by dsimp only; simp [e, convert, run_underlying hud, run_underlying hsd, Conv.intToInt]⟩
    · exact hv.elim
  · rename_i t x
    split at hv
    case h_2 => exact hv.elim
    rename_i ti hti
    obtain ⟨_, hu⟩ := hT _ _ hti
    split at hv
    case h_2 => exact hv.elim
    rename_i hif
    obtain ⟨d, hd⟩ := Option.isSome_iff_exists.1 hu
    split at hv
    case h_2 => exact hv.elim
    rename_i hun
    refine ⟨_, _, hv, .ifc _ _ _ _ ((hev x).weak.lower hun), fun w' hw' => ?_⟩
    unfold isIface at hif
    rw [hd] at hif
    cases d <;> simp_all [Instr.makeInterface, run_underlying hd]
  · rename_i x xt t ok
    split at hv
    case h_2 => exact hv.elim
    rename_i ti hti
    obtain ⟨hi, hu⟩ := hT _ _ hti
    split at hv
    case h_2 => exact hv.elim
    rename_i hif
    have hx := hev x
    split at hv
    case h_2 => exact hv.elim
    rename_i u q hq
    rw [hq] at hx
    split at hv
    case h_2 => exact hv.elim
    rename_i z hz
    split at hv
    case h_2 => exact hv.elim
    rename_i shs hshs
    obtain ⟨hv1, hv2⟩ := br_out hv
    obtain ⟨d, hd⟩ := Option.isSome_iff_exists.1 hu
    generalize hρ : ρ x = v at hx
    cases hx with
    | ifc _ _ v _ hr =>
      cases hb : Nat.beq u t with
      | true =>
        obtain rfl := Nat.eq_of_beq_eq_true hb
        obtain ⟨cs, _, hK⟩ := exC_out _ _ (hv1 hb)
        split at hK
        case h_2 => exact hK.elim
        rename_i p hp
        obtain ⟨hqp, hK⟩ := hK
        subst hqp
        cases ok with
        | true => exact ⟨_, .tuple #[v, .bool true], hK, rep_pair hr.up (.con _ _), fun w' hw' => by simp [hρ, assert_yes hd hif]⟩
        | false => exact ⟨_, v, hK, hr.up, fun w' hw' => by simp [hρ, assert_yes hd hif]⟩
      | false =>
        have hne : u ≠ t := fun h => by subst h; simp at hb
        have hv := hv2 hb
        cases ok with
        | true =>
          obtain ⟨i, zv, h1, h2⟩ := zero_info hi hz
          exact ⟨_, .tuple #[zv, .bool false], hv, rep_pair (.any _ _) (.con _ _), fun w' hw' => by simp [hρ, assert_no hd hif h1 h2 hne]⟩
        | false => exact hv.elim
  · rename_i t x low hi'
    split at hv
    case h_2 => exact hv.elim
    rename_i ti hti
    obtain ⟨hi, hu⟩ := hT _ _ hti
    split at hv
    · rename_i hst
      have hx := hev x
      split at hv
      case h_2 => exact hv.elim
      rename_i s hq
      rw [hq] at hx
      have ex := hx.con_eq
      have hh := hev hi'
      split at hv
      case h_2 => exact hv.elim
      rename_i q j hq2
      rw [hq2] at hh
      have eh := hh.con_eq
      split at hv
      · rename_i lo
        have hlo := hev lo
        split at hv
        case h_2 => exact hv.elim
        rename_i q' i hq3
        rw [hq3] at hlo
        have el := hlo.con_eq
        obtain ⟨h0, h1, h2, hv⟩ := hv
        have hr := (textPiece_run (P := P) hi hst h0 h1 h2).1
        exact ⟨_, _, hv, .con _ _, fun w' hw' => by simp [ex, eh, el, hr]⟩
      · obtain ⟨h0, h1, h2, hv⟩ := hv
        have hr := (textPiece_run (P := P) hi hst (Int.le_refl 0) h1 h2).2.1 rfl
        exact ⟨_, _, hv, .con _ _, fun w' hw' => by simp [ex, eh, hr]⟩
    · split at hv
      case h_2 => exact hv.elim
      rename_i hsl
      split at hv
      case h_2 => exact hv.elim
      rename_i ei hei
      obtain ⟨hie, hue⟩ := hT _ _ hei
      have hx0 := hev x
      have hx := (hev x).weak
      split at hv
      · rename_i hnp
        rw [nilP_eq hnp] at hx0
        have hh := hev hi'
        split at hv
        case h_2 => exact hv.elim
        rename_i q j hq2
        rw [hq2] at hh
        split at hv
        · exact hv.elim
        obtain ⟨h0, h1, h2, hv⟩ := hv
        obtain rfl : j = 0 := by omega
        exact ⟨_, _, hv, .con _ _, fun w' hw' => by simp [hh.con_eq, hx0.con_eq, nilPiece_run hi hsl hie hue]⟩
      split at hv
      case h_3 => exact hv.elim
      case h_2 =>
        rename_i b off n re rz hq
        rw [hq] at hx
        have hh := hev hi'
        have hraw : Rep G m w h.length (ρ x) (.rw b off n re rz) := by
          rw [weak_rw hq] at hx0
          exact hx0
        split at hv
        case h_2 => exact hv.elim
        rename_i q j hq2
        rw [hq2] at hh
        have eh := hh.con_eq
        split at hv
        case h_2 => exact hv.elim
        rename_i hzz
        have hzz := Nat.eq_of_beq_eq_true hzz
        split at hv
        · rename_i lo
          have hlo := hev lo
          split at hv
          case h_2 => exact hv.elim
          rename_i q' i hq3
          rw [hq3] at hlo
          have el := hlo.con_eq
          obtain ⟨h0, h1, h2, hv⟩ := hv
          obtain ⟨u, k1, k2, _⟩ := rowPiece_run hi hsl hie hue hraw hzz h0 h1 h2
          exact ⟨_, u, hv, k1, fun w' hw' => by simp [eh, el, k2]⟩
        · obtain ⟨h0, h1, h2, hv⟩ := hv
          obtain ⟨u, k1, _, k2, _⟩ := rowPiece_run hi hsl hie hue hraw hzz (Int.le_refl 0) h1 h2
          have k3 := k2 rfl
          have k1' : Rep G m w h.length u (.rw b off j.toNat re rz) := by simpa using k1
          exact ⟨_, u, hv, k1', fun w' hw' => by simp [eh, k3]⟩
      rename_i xs hq
      rw [hq] at hx
      have hh := hev hi'
      split at hv
      case h_2 => exact hv.elim
      rename_i q j hq2
      rw [hq2] at hh
      have eh := hh.con_eq
      split at hv
      · rename_i lo
        have hlo := hev lo
        split at hv
        case h_2 => exact hv.elim
        rename_i q' i hq3
        rw [hq3] at hlo
        have el := hlo.con_eq
        obtain ⟨h0, h1, h2, hy, hv⟩ := hv
        obtain ⟨u, k1, k2, _⟩ := piece_run hi hsl hie hue hx h0 h1 h2 hy
        exact ⟨_, u, hv, k1, fun w' hw' => by simp [eh, el, k2]⟩
      · obtain ⟨h0, h1, h2, hy, hv⟩ := hv
        obtain ⟨u, k1, _, k2⟩ := piece_run hi hsl hie hue hx (Int.le_refl 0) h1 h2 hy
        have k3 := k2 rfl
        exact ⟨_, u, hv, k1, fun w' hw' => by simp [eh, k3]⟩
  · rename_i t x low
    split at hv
    case h_2 => exact hv.elim
    rename_i ti hti
    obtain ⟨hi, hu⟩ := hT _ _ hti
    split at hv
    · rename_i hst
      have hx := hev x
      split at hv
      case h_2 => exact hv.elim
      rename_i s hq
      rw [hq] at hx
      have ex := hx.con_eq
      split at hv
      · rename_i lo
        have hlo := hev lo
        split at hv
        case h_2 => exact hv.elim
        rename_i q' i hq3
        rw [hq3] at hlo
        have el := hlo.con_eq
        obtain ⟨h0, h1, h2, hv⟩ := hv
        have hr := (textPiece_run (P := P) hi hst h0 h1 (Int.le_refl _)).2.2 rfl
        exact ⟨_, _, hv, .con _ _, fun w' hw' => by simp [ex, el, hr]⟩
      · have hr := fun w' => textAll_run (P := P) hi hst s w'
        exact ⟨_, _, hv, .con _ _, fun w' hw' => by simp [ex, hr]⟩
    · split at hv
      case h_2 =>
        split at hv
        · exact hv.elim
        split at hv
        case h_2 => exact hv.elim
        rename_i n e harr
        have hau := arr_und hi harr
        split at hv
        case h_2 => exact hv.elim
        rename_i ei hei
        obtain ⟨hie, hue⟩ := hT _ _ hei
        have hx := hev x
        split at hv
        case h_2 => exact hv.elim
        rename_i b off hq
        rw [hq] at hx
        split at hv
        case h_2 => exact hv.elim
        rename_i cs hrow
        split at hv
        case h_2 => exact hv.elim
        rename_i hn
        simp only [Bool.and_eq_true] at hn
        obtain ⟨⟨n1, n2⟩, n3⟩ := hn
        have n1 : 0 < n := Nat.le_of_ble_eq_true n1
        have n2 : 0 < ei.size := Nat.le_of_ble_eq_true n2
        have n3 : n ≤ 1000000 := Nat.le_of_ble_eq_true n3
        obtain ⟨hw, hv⟩ := hv
        generalize hρ : ρ x = v at hx
        cases hx with
        | ptr _ _ _ hb =>
          have hL := hs.blk b hb
          unfold Lies at hL
          rw [hrow] at hL
          simp only [kind] at hL
          have hpos : 0 < n * ei.size := Nat.mul_pos n1 n2
          have h0 : (m b).fr ≠ 0 := fun h0 => by
            rw [hL.2 h0] at hw
            simp at hw
            omega
          obtain ⟨⟨cl, X, c1, c2, c3⟩, _⟩ := hL.1 h0
          have hrun : ∀ w', (Instr.sliceAt t (.pointer (some ⟨(m b).at', off, none⟩)) none none none).run P w' = .ok (.slice (some ⟨(m b).at', off, none⟩) n n) w' := fun w' => by
            simp [Instr.sliceAt, Instr.sliceBounds, Instr.sliceBound, Instr.sureAddr, run_underlying hau, sizeOf_run (w := w') hie hue, Addr.add]
          exact ⟨_, _, hv, .rw _ b off n n off cl.length e ei.size hb (Nat.le_refl _) (by omega) (.inl rfl) (by omega) ⟨X, cl, c1, rfl⟩ h0, fun w' hw' => by simp [hρ, hrun]⟩
      rename_i hsl
      split at hv
      case h_2 => exact hv.elim
      rename_i ei hei
      obtain ⟨hie, hue⟩ := hT _ _ hei
      have hx0 := hev x
      have hx := (hev x).weak
      split at hv
      case h_3 => exact hv.elim
      case h_2 =>
        rename_i b off n re rz hq
        have hraw : Rep G m w h.length (ρ x) (.rw b off n re rz) := by
          rw [weak_rw hq] at hx0
          exact hx0
        split at hv
        case h_2 => exact hv.elim
        rename_i lo
        have hlo := hev lo
        split at hv
        case h_2 => exact hv.elim
        rename_i k i hq2
        rw [hq2] at hlo
        have el := hlo.con_eq
        split at hv
        case h_2 => exact hv.elim
        rename_i hzz
        have hzz := Nat.eq_of_beq_eq_true hzz
        obtain ⟨h0, h1, h2, hv⟩ := hv
        obtain ⟨u, k1, _, _, k2⟩ := rowPiece_run hi hsl hie hue hraw hzz h0 h1 h2
        have k3 := k2 rfl
        exact ⟨_, u, hv, by simpa using k1, fun w' hw' => by simp [el, k3]⟩
      rename_i xs hq
      rw [hq] at hx
      split at hv
      case h_2 => exact hv.elim
      rename_i lo
      have hlo := hev lo
      split at hv
      case h_2 => exact hv.elim
      rename_i k i hq2
      rw [hq2] at hlo
      obtain ⟨n, hin, hn, hy, hk⟩ := hv
      have e := hlo.con_eq
      obtain ⟨u, k1, k2⟩ := cut_run hi hsl hie hue hx hn hy
      refine ⟨_, u, hk, k1, fun w' hw' => ?_⟩
      simp [e, hin, k2]
  · rename_i op xt x
    have hx := hev x
    split at hv
    · rename_i u hq
      rw [hq] at hx
      split at hv
      · rename_i r hr
        have e := hx.con_eq
        exact ⟨_, _, hv, .con _ _, fun w' hw' => by simp [e, un_run op hr]⟩
      · exact hv.elim
    · exact hv.elim
  · rename_i t ix
    have hx := hev t
    split at hv
    · rename_i vs hq
      rw [hq] at hx
      split at hv
      · rename_i p hp
        generalize hρ : ρ t = v at hx
        cases hx with
        | tup _ us _ hl hr =>
          have hlt : ix < vs.length := (List.getElem?_eq_some_iff.1 hp).1
          have := hr ix hlt
          rw [List.getD_eq_getElem?_getD (l := vs), hp, List.getD_eq_getElem?_getD, List.getElem?_eq_getElem (by omega)] at this
          exact ⟨_, _, hv, this, fun w' hw' => by simp [hρ, Instr.extract, List.getElem?_eq_getElem (show ix < us.length by omega)]⟩
      · exact hv.elim
    · exact hv.elim
  · rename_i fn first cap
    split at hv
    · rename_i f
      split at hv
      · rename_i hf
        have hf' : first = #[] := by simpa using hf
        subst hf'
        refine ⟨_, .func (.func f) #[] (cap.toList.map ρ).toArray, hv, .fn _ f (cap.toList.map ρ) _ (by simp) (rep_listmap hev _), ?_⟩
        have e : Array.map ρ cap = (cap.toList.map ρ).toArray := by rw [← Array.toList_map]
        simp [Instr.makeFunc, e]
      · rename_i x r hf
        split at hv
        case h_2 => exact hv.elim
        rename_i hc
        have hc' : cap = #[] := by simpa using hc
        subst hc'
        refine ⟨_, .func (.func f) ((x :: r).map ρ).toArray #[], hv, .bm _ f ((x :: r).map ρ) _ (by simp) (rep_listmap hev _), ?_⟩
        have e : Array.map ρ first = ((x :: r).map ρ).toArray := by rw [← hf, ← Array.toList_map]
        simp [Instr.makeFunc, e]
    · exact hv.elim
  · rename_i c
    split at hv
    · rename_i hb
      split at hv
      · rename_i t rest hts
        split at hv
        · rename_i ti hti
          obtain ⟨hi, hu⟩ := hT _ _ hti
          split at hv
          · rename_i x hxs
            have hargs : c.args = #[x] := by rw [← Array.toArray_toList (xs := c.args), hxs]
            have hx := (hev x).weak
            split at hv
            · rename_i xs hq
              rw [hq] at hx
              split at hv
              · rename_i hsl
                generalize hρ : ρ x = v at hx
                cases hx with
                | sl _ a cc sz _ F hc hm hz ha hr =>
                  have := fun w' => len_run_sl (w := w') hi hsl c.argTypes rest hts o.type a xs.length cc
                  exact ⟨_, _, hv, .con _ _, fun w' hw' => by simp [resolve, hb, hargs, invoke, builtin, hρ, this]⟩
              · exact hv.elim
            · rename_i b off n re rz hq
              rw [hq] at hx
              split at hv
              · rename_i hsl
                generalize hρ : ρ x = v at hx
                cases hx with
                | rw0 _ _ _ _ hb2 =>
                  have := fun w' => len_run_sl (w := w') hi hsl c.argTypes rest hts o.type none 0 0
                  have h2 : ∀ w', (Builtin.len_ c.argTypes o.type #[.slice none 0 0]).run P w' = .ok (.int .i64 0) w' := fun w' => by simpa using this w'
                  exact ⟨_, _, hv, .con _ _, fun w' hw' => by simp [resolve, hb, hargs, invoke, builtin, hρ, h2]⟩
                | rw _ _ _ _ cc qq N _ _ hb2 hc hm hq2 hN hsh hf =>
                  have := fun w' => len_run_sl (w := w') hi hsl c.argTypes rest hts o.type (some ⟨(m b).at', qq, none⟩) n cc
                  exact ⟨_, _, hv, .con _ _, fun w' hw' => by simp [resolve, hb, hargs, invoke, builtin, hρ, this]⟩
              · exact hv.elim
            · rename_i s hq
              rw [hq] at hx
              split at hv
              · rename_i hst
                have e := hx.con_eq
                have := fun w' => len_run_str (w := w') hi hst c.argTypes rest hts o.type s
                exact ⟨_, _, hv, .con _ _, fun w' hw' => by simp [resolve, hb, hargs, invoke, builtin, e, this]⟩
              · exact hv.elim
            · exact hv.elim
          · exact hv.elim
        · exact hv.elim
      · exact hv.elim
    · rename_i hb
      split at hv
      · rename_i t rest hts
        split at hv
        · rename_i ti hti
          obtain ⟨hi, hu⟩ := hT _ _ hti
          split at hv
          · rename_i x hxs
            have hargs : c.args = #[x] := by rw [← Array.toArray_toList (xs := c.args), hxs]
            have hx := hev x
            split at hv
            · rename_i v hq
              rw [hq] at hx
              split at hv
              · rename_i hck
                rw [Bool.and_eq_true] at hck
                have e := hx.con_eq
                have e2 := nilP_eq (p := .con v) hck.1
                simp only [PV.con.injEq] at e2
                subst e2
                have h0 : c.argTypes[0]? = some t := by rw [← Array.getElem?_toList, hts]; rfl
                exact ⟨_, _, hv, .con _ _, fun w' hw' => by simp [resolve, hb, hargs, invoke, builtin, e, Builtin.cap_, h0, run_underlying (slice_und hi hck.2), goInt]⟩
              · exact hv.elim
            · exact hv.elim
          · exact hv.elim
        · exact hv.elim
      · exact hv.elim
    · rename_i hb
      split at hv
      · rename_i x y hxs
        have hargs : c.args = #[x, y] := by rw [← Array.toArray_toList (xs := c.args), hxs]
        have hx := hev x
        have hy := hev y
        split at hv
        · rename_i k a hq
          rw [hq] at hx
          split at hv
          · rename_i k2 b hq2
            rw [hq2] at hy
            have e := hx.con_eq
            have e2 := hy.con_eq
            exact ⟨_, _, hv, .con _ _, fun w' hw' => by simp [resolve, hb, hargs, invoke, builtin, e, e2, Builtin.min_, Builtin.min2, minI]⟩
          · exact hv.elim
        · exact hv.elim
      · rename_i x y z hxs
        have hargs : c.args = #[x, y, z] := by rw [← Array.toArray_toList (xs := c.args), hxs]
        have hx := hev x
        have hy := hev y
        have hz := hev z
        split at hv
        · rename_i k a hq
          rw [hq] at hx
          split at hv
          · rename_i k2 b hq2
            rw [hq2] at hy
            split at hv
            · rename_i k3 d hq3
              rw [hq3] at hz
              have e := hx.con_eq
              have e2 := hy.con_eq
              have e3 := hz.con_eq
              have m2 : ∀ (p q : Int) (q' : IntKind), Builtin.min2 (.int k p) (.int q' q) = pure (.int k (minI p q)) := fun _ _ _ => rfl
              exact ⟨_, _, hv, .con _ _, fun w' hw' => by simp [resolve, hb, hargs, invoke, builtin, e, e2, e3, Builtin.min_, m2]⟩
            · exact hv.elim
          · exact hv.elim
        · exact hv.elim
      · exact hv.elim
    · rename_i hb
      split at hv
      · rename_i x y hxs
        have hargs : c.args = #[x, y] := by rw [← Array.toArray_toList (xs := c.args), hxs]
        have hx := hev x
        have hy := hev y
        split at hv
        · rename_i k a hq
          rw [hq] at hx
          split at hv
          · rename_i k2 b hq2
            rw [hq2] at hy
            have e := hx.con_eq
            have e2 := hy.con_eq
            exact ⟨_, _, hv, .con _ _, fun w' hw' => by simp [resolve, hb, hargs, invoke, builtin, e, e2, Builtin.max_, Builtin.max2, maxI]⟩
          · exact hv.elim
        · exact hv.elim
      · rename_i x y z hxs
        have hargs : c.args = #[x, y, z] := by rw [← Array.toArray_toList (xs := c.args), hxs]
        have hx := hev x
        have hy := hev y
        have hz := hev z
        split at hv
        · rename_i k a hq
          rw [hq] at hx
          split at hv
          · rename_i k2 b hq2
            rw [hq2] at hy
            split at hv
            · rename_i k3 d hq3
              rw [hq3] at hz
              have e := hx.con_eq
              have e2 := hy.con_eq
              have e3 := hz.con_eq
              have m2 : ∀ (p q : Int) (q' : IntKind), Builtin.max2 (.int k p) (.int q' q) = pure (.int k (maxI p q)) := fun _ _ _ => rfl
              exact ⟨_, _, hv, .con _ _, fun w' hw' => by simp [resolve, hb, hargs, invoke, builtin, e, e2, e3, Builtin.max_, m2]⟩
            · exact hv.elim
          · exact hv.elim
        · exact hv.elim
      · exact hv.elim
    · exact hv.elim
  · rename_i t parts
    split at hv
    case h_2 => exact hv.elim
    rename_i ti hti
    obtain ⟨hi, hu⟩ := hT _ _ hti
    split at hv
    case h_2 => exact hv.elim
    rename_i hst
    split at hv
    case h_2 => exact hv.elim
    rename_i z hz
    split at hv
    case h_2 => exact hv.elim
    rename_i hall
    split at hv
    case h_2 => exact hv.elim
    rename_i cs hcs
    obtain ⟨vs, k1, k2, k3⟩ := build_run hT hi hst hz hall hev hcs
    exact ⟨_, _, hv, .agg _ vs cs k2 k3, fun w' hw' => by simp [run_build w' t _ vs.toArray k1]⟩
  · exact hv.elim
end Go.Proofs.YtboopmfjkepilaaGreatDoor.Deep

namespace Go.Proofs.YtboopmfjkepilaaGreatDoor.Deep
open Go.RowKit
set_option linter.unusedVariables false
set_option linter.unusedSimpArgs false
variable {P : Program} {G : Nat → Nat} {m : Nat → Pl} {w : World} {h : Heap}
def mvia (m : Nat → Pl) (σ : Nat → Option Nat) : Nat → Pl := fun b => match σ b with | some t => m t | none => ⟨0, 0⟩
theorem mvia_some {σ : Nat → Option Nat} {b t : Nat} (h : σ b = some t) : mvia m σ b = m t := by unfold mvia; rw [h]
theorem mvia_none {σ : Nat → Option Nat} {b : Nat} (h : σ b = none) : mvia m σ b = ⟨0, 0⟩ := by unfold mvia; rw [h]
def SeenAs (σ : Nat → Option Nat) (n : Nat) (p q : PV) : Prop := ∀ (G : Nat → Nat) (m : Nat → Pl) (w : World) (n0 : Nat) (v : Value), Rep G m w n0 v p → Rep G (mvia m σ) w n v q
theorem SeenAs.same {σ : Nat → Option Nat} {d n : Nat} {p : PV} (hu : p.under d = true) (hσ : ∀ b, b < d → σ b = some b) (hn : d ≤ n) : SeenAs σ n p p := fun G m w n0 v hr =>
  (hr.lower hu).keep hn ⟨fun _ => Nat.le_refl _, fun _ _ _ => rfl, fun _ _ _ h => h, fun b hb => mvia_some (hσ b hb)⟩
theorem SeenAs.weak {σ : Nat → Option Nat} {n : Nat} {p : PV} (hu : (weak p).under 0 = true) : SeenAs σ n p (weak p) := fun G m w n0 v hr =>
  (hr.weak.lower hu).keep (Nat.zero_le _) ⟨fun _ => Nat.le_refl _, fun _ _ _ => rfl, fun _ _ _ h => h, fun b hb => absurd hb (Nat.not_lt_zero _)⟩
def Bound (σ : Nat → Option Nat) (n : Nat) (ps : Bd) : Prop := ∀ b t, (b, t) ∈ ps → b < n ∧ ∀ x, t = some x → σ b = some x
theorem Bound.app {σ : Nat → Option Nat} {n : Nat} {ps qs : Bd} (h : Bound σ n (ps ++ qs)) : Bound σ n ps ∧ Bound σ n qs :=
  ⟨fun b t hb => h b t (List.mem_append_left _ hb), fun b t hb => h b t (List.mem_append_right _ hb)⟩
theorem isNil_eq {v : Value} (h : isNil v = true) : v = .slice none 0 0 := by
  unfold isNil at h
  split at h
  · rfl
  · cases h
theorem canS_seen {σ : Nat → Option Nat} {n : Nat} {s : Sh} {p q : PV} (hc : canS s p = some q) (hb : Bound σ n (tokS s p)) : SeenAs σ n p q := by
  unfold canS at hc
  split at hc
  case h_2 => cases hc
  rename_i v hv
  injection hc with hc
  subst hc
  intro G m w n0 u hr
  cases s with
  | int k =>
    replace hv : getInt k p = some v := hv
    unfold getInt at hv
    split at hv
    case h_2 => cases hv
    split at hv
    case h_2 => cases hv
    rename_i hk
    have hk := of_decide_eq_true hk
    subst hk
    injection hv with hv
    subst hv
    have e := hr.con_eq
    subst e
    exact .con _ _
  | bool =>
    replace hv : getBool p = some v := hv
    unfold getBool at hv
    split at hv
    case h_2 => cases hv
    injection hv with hv
    subst hv
    have e := hr.con_eq
    subst e
    exact .con _ _
  | str =>
    replace hv : getStr p = some v := hv
    unfold getStr at hv
    split at hv
    case h_2 => cases hv
    injection hv with hv
    subst hv
    have e := hr.con_eq
    subst e
    exact .con _ _
  | list =>
    have key : weak p = .sl v := by
      replace hv : getList p = some v := hv
      unfold getList at hv
      split at hv
      · injection hv with hv; subst hv; rfl
      · injection hv with hv; subst hv; rfl
      · split at hv
        · rename_i hw; injection hv with hv; subst hv; exact hw
        · cases hv
      · cases hv
    have := SeenAs.weak (σ := σ) (n := n) (p := p) (by rw [key]; rfl) G m w n0 u hr
    rw [key] at this
    exact this
  | fn f => unfold Sh.get at hv; cases hv
  | ifc =>
    replace hv : getIfc p = some v := hv
    unfold getIfc at hv
    split at hv
    case h_2 => cases hv
    rename_i t q
    injection hv with hv
    subst hv
    cases hr with
    | ifc _ _ v _ hq => exact .ifc _ _ _ _ (hq.keep (Nat.le_refl _) ⟨fun _ => Nat.le_refl _, fun _ _ _ => rfl, fun _ _ _ h => h, fun b hb => absurd hb (Nat.not_lt_zero _)⟩)
  | own b e sz =>
    replace hv : getOwn e sz p = some v := hv
    unfold getOwn at hv
    split at hv
    · rename_i t e' sz' x
      split at hv
      case h_2 => cases hv
      rename_i hk
      rw [Bool.and_eq_true] at hk
      obtain rfl := Nat.eq_of_beq_eq_true hk.1
      obtain rfl := Nat.eq_of_beq_eq_true hk.2
      injection hv with hv
      subst hv
      obtain ⟨h1, h2⟩ := hb b (some t) (by simp [tokS])
      have em : mvia m σ b = m t := mvia_some (h2 t rfl)
      cases hr with
      | own0 _ _ _ _ hlt => exact .own0 _ _ _ _ h1
      | own1 _ _ _ c _ _ F q1 q2 q3 q4 q5 q6 q7 q8 q9 q10 q11 =>
        have hz := fun (i : Nat) (hi : i < x.length) (j : Nat) (hj : j < sz) => (q11 i hi j hj).keep (G' := G) (m' := mvia m σ) (w' := w) (Nat.le_refl 0) ⟨fun _ => Nat.le_refl _, fun _ _ _ => rfl, fun _ _ _ h => h, fun b hb => absurd hb (Nat.not_lt_zero _)⟩
        have := Rep.own1 (G := G) (m := mvia m σ) (w := w) n b e c sz x F h1 q2 q3 q4 q5 q6 (by rw [em]; exact q7) (by rw [em]; exact q8) (by rw [em]; exact q9) (by rw [em]; exact q10) hz
        rw [em] at this
        exact this
    · rename_i u'
      split at hv
      case h_2 => cases hv
      rename_i hn
      injection hv with hv
      subst hv
      have e1 := hr.con_eq
      have e2 := isNil_eq hn
      subst e1
      rw [e2]
      exact .own0 _ _ _ _ (hb b none (by simp [tokS])).1
    · cases hv
  | ptr b off =>
    replace hv : getPtr off p = some v := hv
    unfold getPtr at hv
    split at hv
    case h_2 => cases hv
    rename_i t off'
    split at hv
    case h_2 => cases hv
    rename_i hk
    obtain rfl := Nat.eq_of_beq_eq_true hk
    obtain ⟨h1, h2⟩ := hb b (some t) (by simp [tokS])
    cases hr with
    | ptr _ _ _ hlt =>
      have := Rep.ptr (G := G) (m := mvia m σ) (w := w) n b off h1
      rw [mvia_some (h2 t rfl)] at this
      exact this
  | mp b =>
    replace hv : getMp p = some v := hv
    unfold getMp at hv
    split at hv
    case h_2 => cases hv
    rename_i t
    obtain ⟨h1, h2⟩ := hb b (some t) (by simp [tokS])
    cases hr with
    | mp _ _ hlt =>
      have := Rep.mp (G := G) (m := mvia m σ) (w := w) n b h1
      rw [mvia_some (h2 t rfl)] at this
      exact this
  | rw b off re rz =>
    replace hv : getRw off re rz p = some v := hv
    unfold getRw at hv
    split at hv
    case h_2 => cases hv
    rename_i t off' n2 e' sz'
    split at hv
    case h_2 => cases hv
    rename_i hbe
    simp only [Bool.and_eq_true] at hbe
    obtain rfl := Nat.eq_of_beq_eq_true hbe.1.1
    obtain rfl := Nat.eq_of_beq_eq_true hbe.1.2
    obtain rfl := Nat.eq_of_beq_eq_true hbe.2
    injection hv with hv
    subst hv
    obtain ⟨h1, h2⟩ := hb b (some t) (by simp [tokS])
    cases hr with
    | rw0 _ _ _ _ hlt => exact .rw0 _ _ _ _ h1
    | rw _ _ _ _ c q N _ _ hlt hc hm hq hN hsh hf =>
      have := Rep.rw (G := G) (m := mvia m σ) (w := w) n b off n2 c q N re rz h1 hc hm hq hN (by rw [mvia_some (h2 t rfl)]; exact hsh) (by rw [mvia_some (h2 t rfl)]; exact hf)
      rw [mvia_some (h2 t rfl)] at this
      exact this
  | row =>
    replace hv : getRow p = some v := hv
    unfold getRow at hv
    split at hv
    case h_2 => cases hv
    cases hr
  | nilp =>
    replace hv : getNilp p = some v := hv
    unfold getNilp at hv
    split at hv
    case h_2 => cases hv
    have e := hr.con_eq
    subst e
    exact .con _ _
  | gro b re rz =>
    replace hv : getGro re rz p = some v := hv
    unfold getGro at hv
    split at hv
    · rename_i t off' n2 e' sz'
      split at hv
      case h_2 => cases hv
      rename_i hbe
      simp only [Bool.and_eq_true] at hbe
      obtain rfl := Nat.eq_of_beq_eq_true hbe.1.1
      obtain rfl := Nat.eq_of_beq_eq_true hbe.1.2
      obtain rfl := Nat.eq_of_beq_eq_true hbe.2
      injection hv with hv
      subst hv
      obtain ⟨h1, h2⟩ := hb b (some t) (by simp [tokS])
      cases hr with
      | rw0 _ _ _ _ hlt => exact .rw0 _ _ _ _ h1
      | rw _ _ _ _ c q N _ _ hlt hc hm hq hN hsh hf =>
        have := Rep.rw (G := G) (m := mvia m σ) (w := w) n b 0 n2 c q N re rz h1 hc hm hq hN (by rw [mvia_some (h2 t rfl)]; exact hsh) (by rw [mvia_some (h2 t rfl)]; exact hf)
        rw [mvia_some (h2 t rfl)] at this
        exact this
    · rename_i u2
      split at hv
      case h_2 => cases hv
      rename_i hnil
      injection hv with hv
      subst hv
      obtain ⟨h1, _⟩ := hb b none (by simp [tokS])
      have e := hr.con_eq
      subst e
      have e2 : u = .slice none 0 0 := by
        unfold isNil at hnil
        split at hnil
        · rfl
        · cases hnil
      subst e2
      exact .rw0 _ _ _ _ h1
    · cases hv
  | mpc k e =>
    replace hv : getMpc k e p = some v := hv
    unfold getMpc at hv
    split at hv
    case h_2 => cases hv
    cases hr
theorem canL_seen {σ : Nat → Option Nat} {n : Nat} : ∀ {ss : List Sh} {ps qs : List PV}, canL ss ps = some qs → Bound σ n (tokL ss ps) → ps.length = qs.length ∧ ∀ j, j < qs.length → SeenAs σ n (ps.getD j .any) (qs.getD j .any)
  | [], [], qs, hc, _ => by
    simp only [canL, Option.some.injEq] at hc
    subst hc
    exact ⟨rfl, fun j hj => absurd hj (Nat.not_lt_zero _)⟩
  | [], _ :: _, qs, hc, _ => by simp [canL] at hc
  | _ :: _, [], qs, hc, _ => by simp [canL] at hc
  | s :: ss, p :: ps, qs, hc, hb => by
    simp only [canL] at hc
    split at hc
    case h_2 => cases hc
    rename_i q hq
    split at hc
    case h_2 => cases hc
    rename_i qs' hqs
    injection hc with hc
    subst hc
    obtain ⟨h1, h2⟩ := Bound.app (ps := tokS s p) (qs := tokL ss ps) hb
    obtain ⟨k1, k2⟩ := canL_seen hqs h2
    refine ⟨by simp [k1], fun j hj => ?_⟩
    cases j with
    | zero => exact canS_seen hq h1
    | succ j => exact k2 j (by simpa using hj)
theorem canS_mark {s : Sh} {p q : PV} (hc : canS s p = some q) : (p.mark = q.mark) ∧ (q.mark = true → p = q) := by
  unfold canS at hc
  split at hc
  case h_2 => cases hc
  rename_i v hv
  injection hc with hc
  subst hc
  cases s with
  | mpc k e =>
    replace hv : getMpc k e p = some v := hv
    unfold getMpc at hv
    split at hv
    case h_2 => cases hv
    split at hv
    case h_2 => cases hv
    rename_i hk
    rw [Bool.and_eq_true] at hk
    obtain rfl := Nat.eq_of_beq_eq_true hk.1
    obtain rfl := Nat.eq_of_beq_eq_true hk.2
    injection hv with hv
    subst hv
    exact ⟨rfl, fun _ => rfl⟩
  | row =>
    replace hv : getRow p = some v := hv
    unfold getRow at hv
    split at hv
    case h_2 => cases hv
    injection hv with hv
    subst hv
    exact ⟨rfl, fun _ => rfl⟩
  | _ =>
    refine ⟨?_, fun hm => absurd hm (by simp [Sh.mk, PV.mark])⟩
    cases p <;> first | rfl | (simp [Sh.get, getInt, getBool, getStr, getList, getOwn, getPtr, getMp, getIfc, getRw, getGro, getNilp] at hv)
theorem kind_mark {p q : PV} (hm : p.mark = q.mark) (he : q.mark = true → p = q) : kind [p] = kind [q] := by
  cases hq : q.mark with
  | true => rw [he hq]
  | false => rw [kind_one hq, kind_one (by rw [hm, hq])]
def SeenB (σ : Nat → Option Nat) (n : Nat) (old new : List PV) : Prop := kind old = kind new ∧ (kind new = .cells → old.length = new.length ∧ ∀ j, j < new.length → SeenAs σ n (old.getD j .any) (new.getD j .any))
structure Norm (σ : Nat → Option Nat) (h2 h' : Heap) : Prop where
  blk : ∀ b, b < h'.length → kind (h'.getD b []) = .dead ∨ ((kind (h'.getD b []) = .tip ∨ kind (h'.getD b []) = .row []) ∧ σ b = none) ∨ ∃ t, σ b = some t ∧ t < h2.length ∧ SeenB σ h'.length (h2.getD t []) (h'.getD b [])
  inj : ∀ b b' t, b < h'.length → b' < h'.length → kind (h'.getD b []) ≠ .dead → kind (h'.getD b' []) ≠ .dead → σ b = some t → σ b' = some t → b = b'
theorem Norm.alive {σ : Nat → Option Nat} {h2 h' : Heap} (N : Norm σ h2 h') {b : Nat} (hb : b < h'.length) (ha : alive (mvia m σ) h' b) : kind (h'.getD b []) ≠ .dead ∧ ∃ t, σ b = some t ∧ t < h2.length ∧ Deep.alive m h2 t := by
  have hnd : kind (h'.getD b []) ≠ .dead := fun he => by unfold Deep.alive at ha; rw [he] at ha; exact ha
  refine ⟨hnd, ?_⟩
  rcases N.blk b hb with q | ⟨q1, q2⟩ | ⟨t, q1, q2, q3, _⟩
  · exact absurd q hnd
  · unfold Deep.alive at ha
    rcases q1 with q1 | q1 <;> rw [q1, mvia_none q2] at ha <;> exact absurd rfl ha
  · refine ⟨t, q1, q2, ?_⟩
    unfold Deep.alive at ha ⊢
    rw [mvia_some q1] at ha
    rw [q3]; exact ha
theorem HS.norm {h2 h' : Heap} (k : HS P G m w h2) {σ : Nat → Option Nat} (N : Norm σ h2 h') : HS P G (mvia m σ) w h' := by
  refine ⟨fun b hb => ?_, fun b b' hb hb' ha ha' he => ?_, k.old⟩
  · rcases N.blk b hb with q | ⟨q1, q2⟩ | ⟨t, q1, q2, q3, q4⟩
    · unfold Lies; rw [q]; trivial
    · rcases q1 with q1 | q1
      · unfold Lies; rw [q1, mvia_none q2]; exact fun h0 => absurd rfl h0
      · unfold Lies; rw [q1, mvia_none q2]; exact ⟨fun h0 => absurd rfl h0, fun _ => rfl⟩
    · have hL := k.blk t q2
      rw [mvia_some q1]
      unfold Lies at hL ⊢
      rw [q3] at hL
      split
      · trivial
      · rename_i hk; rw [hk] at hL; exact hL
      · rename_i hk; rw [hk] at hL; exact hL
      · rename_i hk
        rw [hk] at hL
        refine ⟨fun h0 => ?_, hL.2⟩
        obtain ⟨⟨cs, T, c1, c2, c3⟩, c4⟩ := hL.1 h0
        exact ⟨⟨cs, T, c1, c2, fun j hj => (c3 j hj).keep (Nat.le_refl _) ⟨fun _ => Nat.le_refl _, fun _ _ _ => rfl, fun _ _ _ h => h, fun b hb => absurd hb (Nat.not_lt_zero _)⟩⟩, c4⟩
      · rename_i hk
        rw [hk] at hL
        obtain ⟨e1, e2⟩ := q4 hk
        obtain ⟨⟨cs, T, c1, c2, c3⟩, c4⟩ := hL
        exact ⟨⟨cs, T, c1, by omega, fun j hj => e2 j hj G m w _ _ (c3 j (by omega))⟩, c4⟩
  · obtain ⟨n1, t, e1, e2, e3⟩ := N.alive hb ha
    obtain ⟨n2, t', f1, f2, f3⟩ := N.alive hb' ha'
    rw [mvia_some e1, mvia_some f1] at he
    have := k.inj t t' e2 f2 e3 f3 he
    subst this
    exact N.inj b b' t hb hb' n1 n2 e1 f1
theorem Goes.norm {G0 : Nat → Nat} {m0 : Nat → Pl} {w0 : World} {h0 h2 h' : Heap} (g : Goes G0 m0 w0 h0 G m w h2) {σ : Nat → Option Nat} (N : Norm σ h2 h') (hid : ∀ b, b < h0.length → σ b = some b) (hn : h0.length ≤ h'.length) : Goes G0 m0 w0 h0 G (mvia m σ) w h' where
  os := g.os
  tape := g.tape
  output := g.output
  size := g.size
  num := hn
  grow := g.grow
  cell := g.cell
  shp := g.shp
  map := fun b hb => by rw [mvia_some (hid b hb)]; exact g.map b hb
  aliv := fun b hb ha => by
    obtain ⟨_, t, e1, e2, e3⟩ := N.alive (by omega) ha
    rw [hid b hb] at e1
    injection e1 with e1
    subst e1
    exact g.aliv b hb e3
  rest := g.rest
  new := fun b hb hb2 ha => by
    obtain ⟨_, t, e1, e2, e3⟩ := N.alive hb2 ha
    rw [mvia_some e1]
    by_cases ht : t < h0.length
    · right; exact ⟨t, ht, g.aliv t ht e3, by rw [g.map t ht]⟩
    · exact g.new t (by omega) e2 e3
theorem HS.void (k : HS P G m w h) : HS P G (updM m h.length ⟨0, 0⟩) w (h ++ [[.tip]]) ∧ Goes G m w h G (updM m h.length ⟨0, 0⟩) w (h ++ [[.tip]]) := by
  have hm : ∀ b, b < h.length → updM m h.length ⟨0, 0⟩ b = m b := fun b hb => updM_ne _ _ (by omega)
  have ks : Keeps G m w h.length G (updM m h.length ⟨0, 0⟩) w := ⟨fun _ => Nat.le_refl _, fun _ _ _ => rfl, fun _ _ _ h => h, hm⟩
  have hal : ∀ b, b < (h ++ [[PV.tip]]).length → alive (updM m h.length ⟨0, 0⟩) (h ++ [[.tip]]) b → b < h.length ∧ alive m h b := fun b hb ha => by
    by_cases hb2 : b < h.length
    · exact ⟨hb2, (alive_congr (getD_app_lt h [.tip] hb2) (hm b hb2)).1 ha⟩
    · obtain rfl : b = h.length := by simp at hb; omega
      unfold alive at ha
      rw [getD_app_eq, updM_eq] at ha
      exact absurd rfl ha
  refine ⟨⟨fun b hb => ?_, fun b b' hb hb' ha ha' he => ?_, k.old⟩, ⟨rfl, rfl, rfl, Nat.le_refl _, by simp, fun _ => Nat.le_refl _, fun _ _ _ => rfl, fun _ _ _ h => h, hm, fun b hb ha => (hal b (by simp; omega) ha).2, fun _ _ _ => ⟨rfl, rfl⟩, fun b hb hb2 ha => absurd (hal b hb2 ha).1 (by omega)⟩⟩
  · by_cases hb2 : b < h.length
    · rw [getD_app_lt h _ hb2, hm b hb2]
      exact (k.blk b hb2).keep ks (by simp) (fun _ => ⟨rfl, rfl⟩)
    · obtain rfl : b = h.length := by simp at hb; omega
      rw [getD_app_eq, updM_eq]
      unfold Lies kind
      exact fun h0 => absurd rfl h0
  · obtain ⟨a1, a2⟩ := hal b hb ha
    obtain ⟨b1, b2⟩ := hal b' hb' ha'
    rw [hm b a1, hm b' b1] at he
    exact k.inj b b' a1 b1 a2 b2 he
theorem voidsB_length : ∀ l, (voidsB l).length = l.length
  | [] => rfl
  | t :: r => by simp [voidsB, voidsB_length r]
theorem voidsB_hs : ∀ (l : List BT) {m : Nat → Pl} {h : Heap}, HS P G m w h → ∃ m', HS P G m' w (h ++ Deep.voidsB l) ∧ Goes G m w h G m' w (h ++ Deep.voidsB l)
  | [], m, h, k => ⟨m, by simpa [Deep.voidsB] using k, by simpa [Deep.voidsB] using Goes.refl G m w h⟩
  | t :: r, m, h, k => by
    obtain ⟨m1, k1, g1⟩ : ∃ m1, HS P G m1 w (h ++ [voidT t]) ∧ Goes G m w h G m1 w (h ++ [voidT t]) := by
      unfold voidT
      split
      · exact ⟨_, k.voidRow.1, k.voidRow.2⟩
      · exact ⟨_, k.void.1, k.void.2⟩
    obtain ⟨m', k2, g2⟩ := voidsB_hs r k1
    have e : h ++ [voidT t] ++ Deep.voidsB r = h ++ Deep.voidsB (t :: r) := by simp [Deep.voidsB]
    rw [e] at k2 g2
    exact ⟨m', k2, g1.trans g2⟩
theorem HS.voidsB (k : HS P G m w h) (l : List BT) : ∃ m', HS P G m' w (h ++ Deep.voidsB l) ∧ Goes G m w h G m' w (h ++ Deep.voidsB l) := voidsB_hs l k
theorem renL_length (ρ : Nat → Nat) : ∀ l : List PV, (renL ρ l).length = l.length
  | [] => rfl
  | p :: ps => by simp [renL, renL_length ρ ps]
theorem renL_getD (ρ : Nat → Nat) : ∀ (l : List PV) (i : Nat), (renL ρ l).getD i .any = ren ρ (l.getD i .any)
  | [], i => by simp [renL, ren]
  | p :: ps, 0 => by simp [renL]
  | p :: ps, i + 1 => by simpa [renL] using renL_getD ρ ps i
theorem Rep.ren {m' : Nat → Pl} {n' n : Nat} {ρ : Nat → Nat} {v : Value} {q : PV} (h : Rep G m' w n' v q) : (∀ b, b < n' → m (ρ b) = m' b ∧ ρ b < n) → Rep G m w n v (ren ρ q) := by
  induction h with
  | any n v => intro _; exact .any _ _
  | con n v => intro _; exact .con _ _
  | agg n vs l hl hr ih => intro hρ; exact .agg _ _ _ (by rw [renL_length]; exact hl) (fun i hi => by rw [renL_getD]; exact ih i (by rwa [renL_length] at hi) hρ)
  | tup n vs l hl hr ih => intro hρ; exact .tup _ _ _ (by rw [renL_length]; exact hl) (fun i hi => by rw [renL_getD]; exact ih i (by rwa [renL_length] at hi) hρ)
  | sl n' a c sz xs F h1 h2 h3 h4 h5 ih => intro hρ; exact .sl _ a c sz xs F h1 h2 h3 h4 (fun i hi j hj => (h5 i hi j hj).keep (Nat.le_refl _) ⟨fun _ => Nat.le_refl _, fun _ _ _ => rfl, fun _ _ _ h => h, fun b hb => absurd hb (Nat.not_lt_zero _)⟩)
  | ptr n b off hb => intro hρ; rw [← (hρ b hb).1]; exact .ptr _ _ _ (hρ b hb).2
  | ept n g o off l F h1 h2 h3 ih => intro hρ; exact .ept _ g o off l F h1 h2 (fun j hj => (h3 j hj).keep (Nat.le_refl _) ⟨fun _ => Nat.le_refl _, fun _ _ _ => rfl, fun _ _ _ h => h, fun b hb => absurd hb (Nat.not_lt_zero _)⟩)
  | fn n f vs l hl hr ih => intro hρ; exact .fn _ _ _ _ (by rw [renL_length]; exact hl) (fun i hi => by rw [renL_getD]; exact ih i (by rwa [renL_length] at hi) hρ)
  | bm n f vs l hl hr ih => intro hρ; exact .bm _ _ _ _ (by rw [renL_length]; exact hl) (fun i hi => by rw [renL_getD]; exact ih i (by rwa [renL_length] at hi) hρ)
  | ifc n t v p hr ih => intro hρ; exact .ifc _ _ _ _ (hr.keep (Nat.le_refl _) ⟨fun _ => Nat.le_refl _, fun _ _ _ => rfl, fun _ _ _ h => h, fun b hb => absurd hb (Nat.not_lt_zero _)⟩)
  | rw0 n0 b e sz hb => intro hρ; exact .rw0 _ _ _ _ (hρ b hb).2
  | rw n0 b off n c q N e sz hb hc hm hq hN hsh hf =>
    intro hρ
    rw [← (hρ b hb).1] at hsh hf ⊢
    exact .rw _ _ _ _ _ _ N _ _ (hρ b hb).2 hc hm hq hN hsh hf
  | own0 n b e sz hb => intro hρ; exact .own0 _ _ _ _ (hρ b hb).2
  | own1 n b e c sz xs F hb hp hc hm h0 hz hsh hg hfr hx hr ih =>
    intro hρ
    obtain ⟨e1, e2⟩ := hρ b hb
    have hz' := fun (i : Nat) (hi : i < xs.length) (j : Nat) (hj : j < sz) => (hr i hi j hj).keep (G' := G) (m' := m) (w' := w) (Nat.le_refl 0) ⟨fun _ => Nat.le_refl _, fun _ _ _ => rfl, fun _ _ _ h => h, fun b hb => absurd hb (Nat.not_lt_zero _)⟩
    rw [← e1] at hsh hg hfr hx ⊢
    exact .own1 _ (ρ b) e c sz xs F e2 hp hc hm h0 hz hsh hg hfr hx hz'
  | mp n b hb => intro hρ; rw [← (hρ b hb).1]; exact .mp _ _ (hρ b hb).2
theorem mark_ren (ρ : Nat → Nat) (p : PV) : (ren ρ p).mark = p.mark := by cases p <;> rfl
theorem kind_ren (ρ : Nat → Nat) (l : List PV) : kind (renL ρ l) = kind l := by
  match l with
  | [] => rfl
  | [p] =>
    cases hp : p.mark with
    | false => rw [kind_one hp]; exact kind_one (by rw [mark_ren]; exact hp)
    | true => cases p <;> first | rfl | simp [PV.mark] at hp
  | p :: q :: r => rfl
theorem Lies.ren {G' : Nat → Nat} {m' m2 : Nat → Pl} {w' : World} {n' n : Nat} {ρ : Nat → Nat} {p : Pl} {l : List PV} (k : Lies P G' m' w' n' p l) (hρ : ∀ b, b < n' → m2 (ρ b) = m' b ∧ ρ b < n) : Lies P G' m2 w' n p (renL ρ l) := by
  unfold Lies at k ⊢
  rw [kind_ren]
  split
  · trivial
  · rename_i hk; rw [hk] at k; exact k
  · rename_i hk; rw [hk] at k; exact k
  · rename_i hk
    rw [hk] at k
    refine ⟨fun h0 => ?_, k.2⟩
    obtain ⟨⟨cs, T, c1, c2, c3⟩, c4⟩ := k.1 h0
    exact ⟨⟨cs, T, c1, c2, fun j hj => (c3 j hj).keep (Nat.le_refl _) ⟨fun _ => Nat.le_refl _, fun _ _ _ => rfl, fun _ _ _ h => h, fun b hb => absurd hb (Nat.not_lt_zero _)⟩⟩, c4⟩
  · rename_i hk
    rw [hk] at k
    obtain ⟨⟨cs, T, c1, c2, c3⟩, c4⟩ := k
    exact ⟨⟨cs, T, c1, by rw [renL_length]; exact c2, fun j hj => by rw [renL_getD]; exact (c3 j (by rwa [renL_length] at hj)).ren hρ⟩, c4⟩
theorem setAll_spec (ρ : Nat → Nat) (n0 H : Nat) : ∀ (ls : List (List PV)) (i : Nat) (h : Heap), h.length = H + (i - n0) → (∀ k, i ≤ k → k < n0 → ρ k < H) → (∀ k k', k < n0 → k' < n0 → ρ k = ρ k' → k = k') → (∀ k, n0 ≤ k → ρ k = H + (k - n0)) →
    (setAll ρ ls i n0 h).length = max h.length (H + (i + ls.length - n0)) ∧ (∀ k, k < ls.length → (setAll ρ ls i n0 h).getD (ρ (i + k)) [] = renL ρ (ls.getD k [])) ∧ ∀ b, b < h.length → (∀ k, i ≤ k → k < n0 → k < i + ls.length → ρ k ≠ b) → (setAll ρ ls i n0 h).getD b [] = h.getD b []
  | [], i, h, hl, h1, h2, h3 => ⟨by simp only [setAll, List.length_nil]; omega, fun k hk => absurd hk (Nat.not_lt_zero _), fun b hb _ => rfl⟩
  | l :: r, i, h, hl, h1, h2, h3 => by
    simp only [setAll]
    split
    · rename_i hb
      have hi : i < n0 := Nat.le_of_ble_eq_true hb
      obtain ⟨q1, q2, q3⟩ := setAll_spec ρ n0 H r (i + 1) (h.set (ρ i) (renL ρ l)) (by simp; omega) (fun k a b => h1 k (by omega) b) h2 h3
      have hρi := h1 i (Nat.le_refl _) hi
      refine ⟨by rw [q1]; simp only [List.length_set, List.length_cons]; omega, fun k hk => ?_, fun b hb hk => ?_⟩
      · cases k with
        | zero =>
          rw [show i + 0 = i from rfl, q3 (ρ i) (by simp; omega) (fun k a b c e => by have := h2 k i b hi e; omega)]
          rw [getD_set_eq _ _ _ (by omega)]; rfl
        | succ k =>
          have := q2 k (by simpa using hk)
          rw [show i + 1 + k = i + (k + 1) by omega] at this
          rw [this]; rfl
      · rw [q3 b (by simpa using hb) (fun k a c d => hk k (by omega) c (by simp; omega))]
        exact getD_set_ne _ _ _ (fun e => hk i (Nat.le_refl _) hi (by simp) e)
    · rename_i hb
      have hi : ¬ i < n0 := fun hlt => by
        have : Nat.blt i n0 = true := Nat.ble_eq_true_of_le hlt
        rw [this] at hb; cases hb
      obtain ⟨q1, q2, q3⟩ := setAll_spec ρ n0 H r (i + 1) (h ++ [renL ρ l]) (by simp; omega) (fun k a b => absurd b (by omega)) h2 h3
      refine ⟨by rw [q1]; simp only [List.length_append, List.length_cons, List.length_nil]; omega, fun k hk => ?_, fun b hb hk => ?_⟩
      · cases k with
        | zero =>
          have e : ρ (i + 0) = h.length := by rw [Nat.add_zero, h3 i (by omega)]; omega
          rw [e, q3 h.length (by simp) (fun k a b => absurd b (by omega)), getD_app_eq]; rfl
        | succ k =>
          have := q2 k (by simpa using hk)
          rw [show i + 1 + k = i + (k + 1) by omega] at this
          rw [this]; rfl
      · rw [q3 b (by simp; omega) (fun k a c => absurd c (by omega))]
        exact getD_app_lt _ _ hb
theorem frame_ret {G' : Nat → Nat} {h0 h1 h0' : Heap} {r0 : PV} {v : Value} {w' : World} {m0' : Nat → Pl} (ρ : Nat → Nat) (N : Norm (fun b => if b < h0.length then some (ρ b) else none) h1 h0)
    (hρ : ∀ i, i < h0.length → ρ i < h1.length) (hinj : ∀ i i', i < h0.length → i' < h0.length → ρ i = ρ i' → i = i') (hnew : ∀ i, h0.length ≤ i → ρ i = h1.length + (i - h0.length))
    (hs : HS P G m w h1) (hrep : Rep G' m0' w' h0'.length v r0) (hs' : HS P G' m0' w' h0') (hg : Goes G (mvia m fun b => if b < h0.length then some (ρ b) else none) w h0 G' m0' w' h0') :
    ∃ m2, Rep G' m2 w' (setAll ρ h0' 0 h0.length h1).length v (ren ρ r0) ∧ HS P G' m2 w' (setAll ρ h0' 0 h0.length h1) ∧ Goes G m w h1 G' m2 w' (setAll ρ h0' 0 h0.length h1) := by
  obtain ⟨σ, hσ⟩ : ∃ σ, σ = fun b => if b < h0.length then some (ρ b) else none := ⟨_, rfl⟩
  rw [← hσ] at N hg
  have hσi : ∀ i, i < h0.length → σ i = some (ρ i) := fun i hi => by rw [hσ]; exact if_pos hi
  have hnum := hg.num
  obtain ⟨q1, q2, q3⟩ := setAll_spec ρ h0.length h1.length h0' 0 h1 (by omega) (fun k _ b => hρ k b) hinj hnew
  have q2' : ∀ i, i < h0'.length → (setAll ρ h0' 0 h0.length h1).getD (ρ i) [] = renL ρ (h0'.getD i []) := fun i hi => by simpa using q2 i hi
  obtain ⟨H, hH⟩ : ∃ H, H = setAll ρ h0' 0 h0.length h1 := ⟨_, rfl⟩
  rw [← hH] at q1 q2' q3
  have hHl : H.length = h1.length + (h0'.length - h0.length) := by rw [q1]; omega
  let m2 : Nat → Pl := fun b => if b < h1.length then m b else m0' (b - h1.length + h0.length)
  have hm2 : ∀ i, i < h0'.length → m2 (ρ i) = m0' i ∧ ρ i < H.length := fun i hi => by
    by_cases h3 : i < h0.length
    · have e1 := hg.map i h3
      rw [mvia_some (hσi i h3)] at e1
      refine ⟨?_, by have := hρ i h3; omega⟩
      show (if ρ i < h1.length then m (ρ i) else _) = _
      rw [if_pos (hρ i h3), e1]
    · have e1 := hnew i (by omega)
      refine ⟨?_, by omega⟩
      show (if ρ i < h1.length then m (ρ i) else m0' (ρ i - h1.length + h0.length)) = _
      rw [if_neg (by omega), e1]
      congr 1; omega
  have hm2b : ∀ b, b < h1.length → m2 b = m b := fun b hb => if_pos hb
  have ks : Keeps G m w h1.length G' m2 w' := ⟨hg.grow, hg.cell, hg.shp, hm2b⟩
  -- each name is one that was handed in, or new, or another
  have cases3 : ∀ b, b < H.length → (∃ i, i < h0'.length ∧ b = ρ i) ∨ (b < h1.length ∧ ∀ i, i < h0.length → ρ i ≠ b) := fun b hb => by
    by_cases hb1 : b < h1.length
    · by_cases hx : ∃ i, i < h0.length ∧ b = ρ i
      · obtain ⟨i, i1, i2⟩ := hx
        exact .inl ⟨i, by omega, i2⟩
      · exact .inr ⟨hb1, fun i hi he => hx ⟨i, hi, he.symm⟩⟩
    · left
      refine ⟨b - h1.length + h0.length, by omega, ?_⟩
      rw [hnew _ (by omega)]; omega
  have hother : ∀ b, b < h1.length → (∀ i, i < h0.length → ρ i ≠ b) → H.getD b [] = h1.getD b [] := fun b hb hx => q3 b hb (fun k _ hk _ => hx k hk)
  have halive : ∀ i, i < h0.length → alive (mvia m σ) h0 i → alive m h1 (ρ i) := fun i hi ha => by
    obtain ⟨_, t, e1, _, e3⟩ := N.alive hi ha
    rw [hσi i hi] at e1
    injection e1 with e1
    rw [e1]; exact e3
  have halH : ∀ i, i < h0'.length → (alive m2 H (ρ i) ↔ alive m0' h0' i) := fun i hi => by
    unfold alive
    rw [q2' i hi, kind_ren, (hm2 i hi).1]
  have hprot : ∀ b, b < h1.length → (∀ i, i < h0.length → ρ i ≠ b) → alive m h1 b → w'.heap[(m b).at']? = w.heap[(m b).at']? ∧ G' (m b).at' = G (m b).at' := fun b hb hx ha =>
    hg.rest _ (hs.lt hb ha) (fun i hi hai hat => by
      have := halive i hi hai
      rw [mvia_some (hσi i hi)] at hat
      exact hx i hi (hs.inj (ρ i) b (hρ i hi) hb this ha hat))
  have hnewat : ∀ i, h0.length ≤ i → i < h0'.length → alive m0' h0' i → w.heap.size ≤ (m0' i).at' ∨ ∃ j, j < h0.length ∧ alive m h1 (ρ j) ∧ (m0' i).at' = (m (ρ j)).at' := fun i hi hi2 hai => by
    rcases hg.new i hi hi2 hai with q | ⟨j, j1, j2, j3⟩
    · exact .inl q
    · rw [mvia_some (hσi j j1)] at j3
      exact .inr ⟨j, j1, halive j j1 j2, j3⟩
  rw [← hH]
  refine ⟨m2, hrep.ren (fun b hb => hm2 b hb), ⟨fun b hb => ?_, fun b b' hb hb' ha ha' he => ?_, hs'.old⟩, ⟨hg.os, hg.tape, hg.output, hg.size, by omega, hg.grow, hg.cell, hg.shp, hm2b, fun b hb ha => ?_, fun j hj hx => ?_, fun b hb hb2 ha => ?_⟩⟩
  · rcases cases3 b hb with ⟨i, i1, rfl⟩ | ⟨b1, b2⟩
    · rw [q2' i i1, (hm2 i i1).1]
      exact (hs'.blk i i1).ren (fun b hb => hm2 b hb)
    · rw [hother b b1 b2, hm2b b b1]
      exact (hs.blk b b1).keep ks (by omega) (fun ha => hprot b b1 b2 ha)
  · -- no two lie at one place
    have key : ∀ i b', i < h0'.length → b' < h1.length → (∀ i, i < h0.length → ρ i ≠ b') → alive m0' h0' i → alive m h1 b' → (m0' i).at' ≠ (m b').at' := fun i b' hi hb' hx hai hab he => by
      by_cases h3 : i < h0.length
      · have e1 := hg.map i h3
        rw [mvia_some (hσi i h3)] at e1
        rw [e1] at he
        exact hx i h3 (hs.inj (ρ i) b' (hρ i h3) hb' (halive i h3 (hg.aliv i h3 hai)) hab he)
      · rcases hnewat i (by omega) hi hai with q | ⟨j, j1, j2, j3⟩
        · have := hs.lt hb' hab; omega
        · rw [j3] at he
          exact hx j j1 (hs.inj (ρ j) b' (hρ j j1) hb' j2 hab he)
    rcases cases3 b hb with ⟨i, i1, rfl⟩ | ⟨b1, b2⟩ <;> rcases cases3 b' hb' with ⟨i', i1', rfl⟩ | ⟨b1', b2'⟩
    · rw [(hm2 i i1).1, (hm2 i' i1').1] at he
      rw [hs'.inj i i' i1 i1' ((halH i i1).1 ha) ((halH i' i1').1 ha') he]
    · rw [(hm2 i i1).1, hm2b b' b1'] at he
      exact absurd he (key i b' i1 b1' b2' ((halH i i1).1 ha) ((alive_congr (hother b' b1' b2') (hm2b b' b1')).1 ha'))
    · rw [(hm2 i' i1').1, hm2b b b1] at he
      exact absurd he.symm (key i' b i1' b1 b2 ((halH i' i1').1 ha') ((alive_congr (hother b b1 b2) (hm2b b b1)).1 ha))
    · rw [hm2b b b1, hm2b b' b1'] at he
      exact hs.inj b b' b1 b1' ((alive_congr (hother b b1 b2) (hm2b b b1)).1 ha) ((alive_congr (hother b' b1' b2') (hm2b b' b1')).1 ha') he
  · rcases cases3 b (by omega) with ⟨i, i1, rfl⟩ | ⟨b1, b2⟩
    · by_cases h3 : i < h0.length
      · exact halive i h3 (hg.aliv i h3 ((halH i i1).1 ha))
      · have := hnew i (by omega); omega
    · exact (alive_congr (hother b b1 b2) (hm2b b b1)).1 ha
  · exact hg.rest j hj (fun i hi hai hat => hx (ρ i) (hρ i hi) (halive i hi hai) (by rw [mvia_some (hσi i hi)] at hat; exact hat))
  · rcases cases3 b hb2 with ⟨i, i1, rfl⟩ | ⟨b1, b2⟩
    · by_cases h3 : i < h0.length
      · have := hρ i h3; omega
      · rw [(hm2 i i1).1]
        rcases hnewat i (by omega) i1 ((halH i i1).1 ha) with q | ⟨j, j1, j2, j3⟩
        · exact .inl q
        · exact .inr ⟨ρ j, hρ j j1, j2, j3⟩
    · omega
def deadH (n : Nat) : Heap := List.replicate n []
theorem deadH_getD (n b : Nat) : (deadH n).getD b [] = [] := by
  unfold deadH
  rw [List.getD_eq_getElem?_getD, List.getElem?_replicate]
  split <;> rfl
theorem deadH_alive (n b : Nat) : ¬ alive m (deadH n) b := by
  unfold alive; rw [deadH_getD]; exact fun h => h
theorem frame_thr {H : Value → Prop} {h0 h1 : Heap} {c : List PanicEntry} {w' : World} (ρ : Nat → Nat) (N : Norm (fun b => if b < h0.length then some (ρ b) else none) h1 h0) (hρ : ∀ i, i < h0.length → ρ i < h1.length)
    (t : Thrown P H G (mvia m fun b => if b < h0.length then some (ρ b) else none) w h0 c w') : Thrown P H G m w h1 c w' := by
  obtain ⟨v, h', G', m', e1, e2, e3, g⟩ := t
  refine ⟨v, deadH h1.length, G', m, e1, e2, ⟨fun b hb => ?_, fun b b' _ _ ha => absurd ha (deadH_alive _ _), e3.old⟩, ⟨g.os, g.tape, g.output, g.size, by simp [deadH], g.grow, g.cell, g.shp, fun _ _ => rfl, fun b _ ha => absurd ha (deadH_alive _ _), fun k hk hx => ?_, fun b h1' h2' => absurd h2' (by simp [deadH]; omega)⟩⟩
  · rw [deadH_getD]; unfold Lies kind; trivial
  · refine g.rest k hk (fun b hb ha he => ?_)
    obtain ⟨_, t, q1, q2, q3⟩ := N.alive hb ha
    rw [mvia_some q1] at he
    exact hx t q2 q3 he
theorem TCalls.frame {f : FuncId} {args0 args : List PV} {h0 h1 : Heap} {Q0 : PV → Heap → Prop} {H : Value → Prop} (hc : TCalls P f args0 h0 Q0 H) (ρ : Nat → Nat) (N : Norm (fun b => if b < h0.length then some (ρ b) else none) h1 h0)
    (hA : args.length = args0.length ∧ ∀ i, i < args0.length → SeenAs (fun b => if b < h0.length then some (ρ b) else none) h0.length (args.getD i .any) (args0.getD i .any))
    (hρ : ∀ i, i < h0.length → ρ i < h1.length) (hinj : ∀ i i', i < h0.length → i' < h0.length → ρ i = ρ i' → i = i') (hnew : ∀ i, h0.length ≤ i → ρ i = h1.length + (i - h0.length)) :
    TCalls P f args h1 (fun r h' => ∃ r0 h0', Q0 r0 h0' ∧ r = ren ρ r0 ∧ h' = setAll ρ h0' 0 h0.length h1) H := by
  intro G m w vs hs ha
  refine (hc G _ w vs (hs.norm N) ⟨ha.1.trans hA.1, fun i hi => hA.2 i hi G m w _ _ (ha.2 i (by omega))⟩).mono ?_
  rintro e w' (⟨v, r0, h0', G', m0', rfl, hQ, hrep, hs', hg⟩ | ⟨c, rfl, ht⟩)
  · obtain ⟨m2, k1, k2, k3⟩ := frame_ret ρ N hρ hinj hnew hs hrep hs' hg
    exact .inl ⟨v, ren ρ r0, _, G', m2, rfl, ⟨r0, h0', hQ, rfl, rfl⟩, k1, k2, k3⟩
  · exact .inr ⟨c, rfl, frame_thr ρ N hρ ht⟩
theorem ACalls.frame {f : FuncId} {args0 args : List PV} {h0 h1 : Heap} {Q0 : PV → Heap → Prop} (hc : ACalls P f args0 h0 Q0) (ρ : Nat → Nat) (N : Norm (fun b => if b < h0.length then some (ρ b) else none) h1 h0)
    (hA : args.length = args0.length ∧ ∀ i, i < args0.length → SeenAs (fun b => if b < h0.length then some (ρ b) else none) h0.length (args.getD i .any) (args0.getD i .any))
    (hρ : ∀ i, i < h0.length → ρ i < h1.length) (hinj : ∀ i i', i < h0.length → i' < h0.length → ρ i = ρ i' → i = i') (hnew : ∀ i, h0.length ≤ i → ρ i = h1.length + (i - h0.length)) :
    ACalls P f args h1 fun r h' => ∃ r0 h0', Q0 r0 h0' ∧ r = ren ρ r0 ∧ h' = setAll ρ h0' 0 h0.length h1 := (TCalls.frame hc.t ρ N hA hρ hinj hnew).a
end Go.Proofs.YtboopmfjkepilaaGreatDoor.Deep

namespace Go.Proofs.YtboopmfjkepilaaGreatDoor.Deep
open Go.RowKit
set_option linter.unusedVariables false
set_option linter.unusedSimpArgs false
variable {P : Program} {T : TypeId → Option TI} {G : Nat → Nat} {m : Nat → Pl} {w : World} {h : Heap}
def rowV (F : Nat → Nat → Value) (n sz : Nat) : List Value := (List.range (n * sz)).map fun k => F (k / sz) (k % sz)
theorem rowV_length (F : Nat → Nat → Value) (n sz : Nat) : (rowV F n sz).length = n * sz := by simp [rowV]
theorem div_row {i j sz : Nat} (hj : j < sz) : (i * sz + j) / sz = i := by
  rw [Nat.mul_comm, Nat.mul_add_div (by omega), Nat.div_eq_of_lt hj, Nat.add_zero]
theorem mod_row {i j sz : Nat} (hj : j < sz) : (i * sz + j) % sz = j := by
  rw [Nat.mul_comm, Nat.mul_add_mod, Nat.mod_eq_of_lt hj]
theorem rowV_at {F : Nat → Nat → Value} {n sz i j : Nat} (hi : i < n) (hj : j < sz) : (rowV F n sz)[i * sz + j]? = some (F i j) := by
  have hlt : i * sz + j < n * sz := by
    have h1 : i * sz + sz ≤ n * sz := by rw [← Nat.succ_mul]; exact Nat.mul_le_mul_right _ hi
    omega
  simp only [rowV, List.getElem?_map, List.getElem?_range hlt, Option.map_some, div_row hj, mod_row hj]
theorem rowV_cells {F : Nat → Nat → Value} {n sz : Nat} {g o : Nat} (hc : ∀ i, i < n → ∀ j, j < sz → w.cell? ⟨g, o + i * sz + j, none⟩ = some (F i j)) : ∀ j u, (rowV F n sz)[j]? = some u → w.cell? ((⟨g, o, none⟩ : Addr).add j) = some u := by
  intro j u hu
  have hlt : j < n * sz := by have := (List.getElem?_eq_some_iff.1 hu).1; rwa [rowV_length] at this
  have hsz : 0 < sz := by
    apply Nat.pos_of_ne_zero
    intro h0
    subst h0
    simp at hlt
  have e : (⟨g, o, none⟩ : Addr).add j = ⟨g, o + j, none⟩ := by unfold Addr.add; split <;> simp_all
  rw [e]
  have hi : j / sz < n := Nat.div_lt_of_lt_mul (by rw [Nat.mul_comm]; exact hlt)
  have hm : j % sz < sz := Nat.mod_lt _ hsz
  have h1 : j / sz * sz + j % sz = j := by rw [Nat.mul_comm]; exact Nat.div_add_mod j sz
  have h2 := hc (j / sz) hi (j % sz) hm
  have h3 := rowV_at (F := F) hi hm
  rw [h1, hu] at h3
  injection h3 with h3
  rw [h3, ← h2, Nat.add_assoc, h1]
theorem rowV_mem {F : Nat → Nat → Value} {n sz : Nat} {u : Value} (hu : u ∈ rowV F n sz) : ∃ i j, i < n ∧ j < sz ∧ u = F i j := by
  obtain ⟨j, hj, rfl⟩ := List.getElem_of_mem hu
  rw [rowV_length] at hj
  have hsz : 0 < sz := by
    apply Nat.pos_of_ne_zero
    intro h0
    subst h0
    simp at hj
  refine ⟨j / sz, j % sz, Nat.div_lt_of_lt_mul (by rw [Nat.mul_comm]; exact hj), Nat.mod_lt _ hsz, ?_⟩
  simp [rowV]
theorem zeroOk_info {t : TypeId} {ti : TI} (hi : infoP P t = ti) (hz : zeroOk ti = true) : ∃ (i : TypeInfo) (z : Value), P.info? t = some i ∧ i.zero = some z ∧ i.bytes = ti.bytes ∧ z.cells.size = ti.size := by
  subst hi
  unfold zeroOk infoP at hz
  simp only at hz
  cases hq : P.info? t with
  | none => rw [hq] at hz; simp at hz
  | some i =>
    rw [hq] at hz
    simp only [Option.bind_some] at hz
    cases hqz : i.zero with
    | none => rw [hqz] at hz; simp at hz
    | some z =>
      rw [hqz] at hz
      simp only [Option.map_some] at hz
      refine ⟨i, z, rfl, hqz, ?_, ?_⟩
      · unfold infoP; simp only [hq]
      · have := Nat.eq_of_beq_eq_true hz
        simp only [List.length_map, Array.length_toList] at this
        exact this
theorem flat_at {α : Type} (z : List α) (hz : 0 < z.length) : ∀ (n i : Nat), i < n * z.length → (List.replicate n z).flatten[i]? = z[i % z.length]?
  | 0, i, h => by simp at h
  | n + 1, i, h => by
    rw [List.replicate_succ, List.flatten_cons]
    by_cases hi : i < z.length
    · rw [List.getElem?_append_left hi, Nat.mod_eq_of_lt hi]
    · rw [List.getElem?_append_right (by omega), flat_at z hz n (i - z.length) (by rw [Nat.succ_mul] at h; omega)]
      congr 1
      rw [← Nat.sub_add_cancel (Nat.le_of_not_lt hi), Nat.add_mod_right, Nat.add_sub_cancel]
theorem flat_len {α : Type} (z : List α) (n : Nat) : (List.replicate n z).flatten.length = n * z.length := by
  induction n with
  | zero => simp
  | succ n ih => rw [List.replicate_succ, List.flatten_cons, List.length_append, ih, Nat.succ_mul]; omega
theorem made_flat (z : Array Value) (hz : 0 < z.size) (n : Nat) : madeCells z (n * z.size) = ((List.replicate n z.toList).flatten).toArray := by
  apply Array.ext
  · simp [madeCells]
  · intro i h1 h2
    have hi : i < n * z.size := by simpa [madeCells] using h1
    have := flat_at z.toList (by simpa using hz) n i (by simpa using hi)
    have hm : i % z.size < z.size := Nat.mod_lt _ hz
    simp only [Array.length_toList] at this
    rw [List.getElem?_eq_getElem (by rw [flat_len]; simpa using hi), List.getElem?_eq_getElem (by simpa using hm)] at this
    injection this with this
    simp only [madeCells, Array.getElem_map, Array.getElem_range, List.getElem_toArray, this]
    simp [getElem!_pos, hm]
theorem flat_map {α β : Type} (f : α → β) (z : List α) (n : Nat) : (List.replicate n (z.map f)).flatten = ((List.replicate n z).flatten).map f := by
  induction n with
  | zero => rfl
  | succ n ih => rw [List.replicate_succ, List.replicate_succ, List.flatten_cons, List.flatten_cons, List.map_append, ih]
theorem one_of {n : Nat} {v : Value} {p : PV} (hr : Rep G m w n v p) (h1 : p.one = true) : v.oneCell' = true := by
  cases hr <;> simp [PV.one] at h1 <;> first | exact h1 | rfl
theorem new_row (k : HS P G m w h) {W : World} {e : TypeId} {sz c : Nat} {zs : List (List PV)} {cells : List Value} {F : Nat → Nat → Value} (h0 : 0 < sz) (hp : 0 < zs.length) (hc : zs.length ≤ c) (hm : c ≤ 9223372036854775807) (hz : ∀ i, i < zs.length → (zs.getD i []).length = sz)
    (hl : cells.length = c * sz) (hF : ∀ i, i < zs.length → ∀ j, j < sz → cells[i * sz + j]? = some (F i j)) (hr : ∀ i, i < zs.length → ∀ j, j < sz → Rep G m w 0 (F i j) ((zs.getD i []).getD j .any))
    (hW : W.heap = w.heap.push (.cells cells.toArray e)) (h1 : W.os = w.os) (h2 : W.tape = w.tape) (h3 : W.output = w.output) :
    ∃ G' m', HS P G' m' W (h ++ [[PV.tip]]) ∧ Goes G m w h G' m' W (h ++ [[PV.tip]]) ∧ Rep G' m' W (h ++ [[PV.tip]]).length (.slice (some ⟨w.heap.size, 0, none⟩) zs.length c) (.own h.length e sz zs) := by
  have hnew : W.heap[w.heap.size]? = some (.cells cells.toArray e (0, 0)) := by rw [hW, Array.getElem?_push, if_pos rfl]
  have hshp : Shp W w.heap.size e (c * sz) := ⟨cells, hnew, hl⟩
  obtain ⟨q1, q2⟩ := k.add (.cells cells.toArray e) hW h1 h2 h3 [.tip] (zs.length * sz) (zs.length * sz) (by
    unfold Lies kind
    exact fun _ => ⟨updG_eq _ _ _, e, _, hshp⟩)
  refine ⟨_, _, q1, q2, ?_⟩
  have := Rep.own1 (G := updG G w.heap.size (zs.length * sz)) (m := updM m h.length ⟨w.heap.size, zs.length * sz⟩) (w := W) (h ++ [[PV.tip]]).length h.length e c sz zs F (by simp) hp hc hm h0 hz
    (by rw [updM_eq]; exact hshp) (by rw [updM_eq, updG_eq]; exact Nat.le_refl _) (by rw [updM_eq]) (fun i hi j hj => by
      rw [updM_eq, cell_of_row W _ _ cells.toArray e (0, 0) hnew]
      simpa using hF i hi j hj) (fun i hi j hj => (hr i hi j hj).keep (Nat.le_refl _) (q2.keeps.zero _))
  rw [updM_eq] at this
  exact this
theorem nil_row (k : HS P G m w h) (e : TypeId) (sz : Nat) : ∃ G' m', HS P G' m' w (h ++ [[PV.tip]]) ∧ Goes G m w h G' m' w (h ++ [[PV.tip]]) ∧ Rep G' m' w (h ++ [[PV.tip]]).length (.slice none 0 0) (.own h.length e sz []) := by
  obtain ⟨q1, q2⟩ := k.void
  exact ⟨_, _, q1, q2, .own0 _ _ _ _ (by simp)⟩
theorem append_zero {t ty e : TypeId} {i : TypeInfo} (ht : P.underlying t = some (.slice e)) (hi : P.info? e = some i) (base a : Option Addr) (n c c2 : Nat) (hc : n ≤ c) : (Builtin.append_ #[t, t] ty #[.slice base n c, .slice a 0 c2]).run P w = .ok (.slice base n c) w := by
  cases base <;> cases a <;> simp [Builtin.append_, run_underlying ht, sizeOf, typeInfo, hi, Builtin.lenOf, hc, Builtin.firstCells, loadCells, loadCellsFrom, storeCells]
theorem app_news {n sz : Nat} {u : Value} {ys : List (List PV)} (hu : Rep G m w n u (.sl ys)) (hy : ∀ y ∈ ys, y.length = sz ∧ ∀ p ∈ y, p.one = true) :
    ∃ a c F', u = .slice a ys.length c ∧ (∀ i, i < ys.length → (ys.getD i []).length = sz) ∧ (∀ i, i < ys.length → ∀ j, j < sz → Rep G m w 0 (F' i j) ((ys.getD i []).getD j .any)) ∧ (0 < ys.length → ∃ g o, a = some ⟨g, o, none⟩ ∧ (∀ j v, (rowV F' ys.length sz)[j]? = some v → w.cell? ((⟨g, o, none⟩ : Addr).add j) = some v) ∧ ∀ v ∈ rowV F' ys.length sz, v.oneCell' = true) := by
  cases hu with
  | sl _ a c sz' _ F hc hm hz ha hr =>
    have hsz : ∀ i, i < ys.length → (ys.getD i []).length = sz := fun i hi => by
      rw [List.getD_eq_getElem?_getD, List.getElem?_eq_getElem hi]
      exact (hy _ (List.getElem_mem hi)).1
    have hee : 0 < ys.length → sz' = sz := fun h0 => (hz 0 h0).symm.trans (hsz 0 h0)
    have hr' : ∀ i, i < ys.length → ∀ j, j < sz → Rep G m w 0 (F i j) ((ys.getD i []).getD j .any) := fun i hi j hj => hr i hi j (by rw [hee (by omega)]; exact hj)
    refine ⟨a, c, F, rfl, hsz, hr', fun h0 => ?_⟩
    have := hee h0
    subst this
    obtain ⟨g, o, rfl, q1, q2⟩ := ha h0
    refine ⟨g, o, rfl, rowV_cells q2, fun v hv => ?_⟩
    obtain ⟨i, j, hi, hj, rfl⟩ := rowV_mem hv
    have h1 := hr' i hi j hj
    have hi' : ys.getD i [] = ys[i] := by rw [List.getD_eq_getElem?_getD, List.getElem?_eq_getElem hi]; rfl
    rw [hi'] at h1
    have hl : j < ys[i].length := by rw [(hy _ (List.getElem_mem hi)).1]; exact hj
    rw [List.getD_eq_getElem?_getD, List.getElem?_eq_getElem hl] at h1
    exact one_of h1 ((hy _ (List.getElem_mem hi)).2 _ (List.getElem_mem hl))
theorem getD_app {xs ys : List (List PV)} {i : Nat} (hi : i < xs.length) : (xs ++ ys).getD i [] = xs.getD i [] := by
  rw [List.getD_eq_getElem?_getD, List.getElem?_append_left hi, ← List.getD_eq_getElem?_getD]
theorem getD_app2 {xs ys : List (List PV)} {i : Nat} (hi : ¬ i < xs.length) : (xs ++ ys).getD i [] = ys.getD (i - xs.length) [] := by
  rw [List.getD_eq_getElem?_getD, List.getElem?_append_right (by omega), ← List.getD_eq_getElem?_getD]
theorem size_zc (z : Array Value) (n : Nat) : (Builtin.zeroCells z n).toList.length = n * z.size := by simp [Builtin.zeroCells]
theorem grow_heap (w : World) (A : Array Value) (B : List Value) (e : TypeId) (h : A.toList = B) : (w.drew.alloc (.cells A e)).heap = w.heap.push (.cells B.toArray e) := by
  subst h
  rw [Array.toArray_toList]
  rfl
set_option maxHeartbeats 1000000 in
theorem append_run {t ty : TypeId} {ti ei : TI} (hi : infoP P t = ti) (hsl : ti.isSl = true) (hie : infoP P ti.elem = ei) (hue : (P.underlying ti.elem).isSome = true) (h0 : 0 < ei.size) (hb0 : 0 < ei.bytes) (hzo : zeroOk ei = true) (k : HS P G m w h)
    {n : Nat} {v u : Value} {b : Nat} {xs ys : List (List PV)} (hv : Rep G m w n v (.own b ti.elem ei.size xs)) (hb : b < h.length) (htip : kind (h.getD b []) = .tip) (hu : Rep G m w n u (.sl ys)) (hl : (xs.length + ys.length) * ei.bytes ≤ 140737488355328) (hy : ∀ y ∈ ys, y.length = ei.size ∧ ∀ p ∈ y, p.one = true) :
    ∃ v' W G' m', (Builtin.append_ #[t, t] ty #[v, u]).run P w = .ok v' W ∧ HS P G' m' W (h.set b [] ++ [[PV.tip]]) ∧ Goes G m w h G' m' W (h.set b [] ++ [[PV.tip]]) ∧ Rep G' m' W (h.set b [] ++ [[PV.tip]]).length v' (.own h.length ti.elem ei.size (xs ++ ys)) := by
  obtain ⟨i, z, q1, q2, q3, q4⟩ := zeroOk_info hie hzo
  have ht := slice_und hi hsl
  have hsz : i.size = ei.size := by
    subst hie
    unfold infoP Program.cellsOf
    simp only
    have hs := hue
    obtain ⟨d, hd⟩ := Option.isSome_iff_exists.1 hs
    obtain ⟨i', h1, h2⟩ := und_info hd
    rw [q1] at h1
    injection h1 with h1
    subst h1
    exact h2
  obtain ⟨a, c2, F', rfl, hyz, hyr, hya⟩ := app_news hu hy
  have hbound : xs.length + ys.length ≤ 140737488355328 := Nat.le_trans (Nat.le_mul_of_pos_right _ hb0) hl
  obtain ⟨kk, kg⟩ := k.kill b
  have hlen : (h.set b []).length = h.length := by simp
  by_cases hy0 : ys.length = 0
  · -- nothing is behind it
    have hys : ys = [] := List.length_eq_zero_iff.1 hy0
    subst hys
    rw [List.append_nil]
    simp only [List.length_nil]
    cases hv with
    | own0 =>
      obtain ⟨G', m', r1, r2, r3⟩ := nil_row kk ti.elem ei.size
      rw [hlen] at r3
      exact ⟨_, w, G', m', append_zero ht q1 none a 0 0 c2 (Nat.le_refl _), r1, kg.trans r2, r3⟩
    | own1 _ _ _ c _ _ F p1 p2 p3 p4 p5 p6 p7 p8 p9 p10 p11 =>
      -- the name is another one: by a row that grows by nothing
      obtain ⟨cs, c1, c3⟩ := p7
      have hfr0 : (m b).fr ≠ 0 := by rw [p9]; exact Nat.pos_iff_ne_zero.1 (Nat.mul_pos p2 p5)
      obtain ⟨r1, r2⟩ := k.regrow hb htip hfr0 (cur' := cs.toArray) c1 rfl (fun _ _ => rfl) (m b).fr (Nat.le_refl _)
      have hw : w.setRow (m b).at' cs.toArray = w := by
        cases w
        simp only [World.setRow, World.mk.injEq, and_true, true_and]
        apply Array.ext_getElem?
        intro x
        rw [Array.getElem?_modify]
        split
        · rename_i hx
          subst hx
          simp only at c1
          rw [c1]; rfl
        · rfl
      rw [hw] at r1 r2
      refine ⟨_, w, _, _, append_zero ht q1 _ a _ c c2 p3, r1, r2, ?_⟩
      have hks := r2.keeps
      have := Rep.own1 (G := updG G (m b).at' (m b).fr) (m := updM m h.length ⟨(m b).at', (m b).fr⟩) (w := w) (h.set b [] ++ [[PV.tip]]).length h.length ti.elem c ei.size xs F (by simp) p2 p3 p4 p5 p6 (by rw [updM_eq]; exact ⟨cs, c1, c3⟩) (by rw [updM_eq, updG_eq, p9]; exact Nat.le_refl _) (by rw [updM_eq]; exact p9) (fun i hi j hj => by rw [updM_eq]; exact p10 i hi j hj) (fun i hi j hj => (p11 i hi j hj).keep (Nat.le_refl _) (hks.zero _))
      rw [updM_eq] at this
      exact this
  · obtain ⟨g2, o2, rfl, hnews, hone⟩ := hya (by omega)
    have hnl : (rowV F' ys.length ei.size).length = ys.length * i.size := by rw [rowV_length, hsz]
    cases hv with
    | own0 =>
      simp only [List.nil_append, List.length_nil, Nat.zero_add] at *
      have hr := run_append_nil (P := P) w t ty ti.elem i z ht q1 q2 ⟨g2, o2, none⟩ ys.length c2 _ hnl hnews (by omega) (by omega) (by rw [q3]; omega)
      have hge := grownCap_ge w ys.length 0 ti.elem
      have hcm := grownCap_le_maxLen w ys.length 0 ti.elem (by simp only [maxLen]; omega)
      obtain ⟨G', m', r1, r2, r3⟩ := new_row (W := w.drew.alloc (.cells ((rowV F' ys.length ei.size).toArray ++ Builtin.zeroCells z.cells (grownCap w ys.length 0 ti.elem - ys.length)) ti.elem)) (e := ti.elem) (sz := ei.size) (c := grownCap w ys.length 0 ti.elem) (zs := ys) (F := F') kk (cells := rowV F' ys.length ei.size ++ (Builtin.zeroCells z.cells (grownCap w ys.length 0 ti.elem - ys.length)).toList) h0 (by omega) hge hcm hyz
        (by rw [List.length_append, rowV_length, size_zc, q4, ← Nat.add_mul]; congr 1; omega) (fun i hi j hj => by rw [List.getElem?_append_left (by rw [rowV_length]; exact row_lt hi hj)]; exact rowV_at hi hj) hyr (grow_heap _ _ _ _ (by simp)) rfl rfl rfl
      rw [hlen] at r3
      exact ⟨_, _, G', m', hr, r1, kg.trans r2, r3⟩
    | own1 _ _ _ c _ _ F p1 p2 p3 p4 p5 p6 p7 p8 p9 p10 p11 =>
      have hxz : ∀ i, i < (xs ++ ys).length → ((xs ++ ys).getD i []).length = ei.size := fun i hi => by
        by_cases hx : i < xs.length
        · rw [getD_app hx]; exact p6 i hx
        · rw [getD_app2 hx]; exact hyz _ (by simp at hi; omega)
      have hzlen : (xs ++ ys).length = xs.length + ys.length := List.length_append
      by_cases hroom : xs.length + ys.length ≤ c
      · obtain ⟨cs, c1, c3⟩ := p7
        have hfr0 : (m b).fr ≠ 0 := by rw [p9]; exact Nat.pos_iff_ne_zero.1 (Nat.mul_pos p2 p5)
        have hcs : xs.length * ei.size + ys.length * ei.size ≤ cs.length := by rw [c3, ← Nat.add_mul]; exact Nat.mul_le_mul_right _ hroom
        have hr := run_append_room (P := P) w t ty ti.elem i ht q1 (m b).at' xs.length c cs.toArray c1 ⟨g2, o2, none⟩ ys.length c2 _ hnl hnews hone hroom (by rw [hnl, hsz]; simpa using hcs)
        rw [hsz, hnl, hsz] at hr
        have hsame : ∀ j, j < (m b).fr → ((cs.toArray.toList.take (xs.length * ei.size) ++ rowV F' ys.length ei.size ++ cs.toArray.toList.drop (xs.length * ei.size + ys.length * ei.size)).toArray)[j]? = cs.toArray[j]? := fun j hj => by
          rw [p9] at hj
          simp only [List.getElem?_toArray, List.append_assoc]
          rw [List.getElem?_append_left (by simp; omega), List.getElem?_take, if_pos hj]
        obtain ⟨r1, r2⟩ := k.regrow hb htip hfr0 (cur' := (cs.toArray.toList.take (xs.length * ei.size) ++ rowV F' ys.length ei.size ++ cs.toArray.toList.drop (xs.length * ei.size + ys.length * ei.size)).toArray) c1 (by simp [rowV_length]; omega) hsame ((xs ++ ys).length * ei.size) (by rw [p9, hzlen, Nat.add_mul]; omega)
        have hks := r2.keeps
        have s1 := setRow_heap w (m b).at' cs.toArray ((cs.toArray.toList.take (xs.length * ei.size) ++ rowV F' ys.length ei.size ++ cs.toArray.toList.drop (xs.length * ei.size + ys.length * ei.size)).toArray) ti.elem (0, 0) c1
        refine ⟨_, _, _, _, hr, r1, r2, ?_⟩
        have := Rep.own1 (G := updG G (m b).at' ((xs ++ ys).length * ei.size)) (m := updM m h.length ⟨(m b).at', (xs ++ ys).length * ei.size⟩) (w := w.setRow (m b).at' ((cs.toArray.toList.take (xs.length * ei.size) ++ rowV F' ys.length ei.size ++ cs.toArray.toList.drop (xs.length * ei.size + ys.length * ei.size)).toArray)) (h.set b [] ++ [[PV.tip]]).length h.length ti.elem c ei.size (xs ++ ys)
          (fun x j => if x < xs.length then F x j else F' (x - xs.length) j) (by simp) (by omega) (by omega) p4 p5 hxz (by rw [updM_eq]; exact r2.shp _ _ _ ⟨cs, c1, c3⟩) (by rw [updM_eq, updG_eq]; exact Nat.le_refl _) (by rw [updM_eq]) (fun x hx j hj => by
            rw [updM_eq, cell_of_row _ _ _ _ _ _ s1]
            simp only [List.getElem?_toArray, List.append_assoc]
            by_cases hx2 : x < xs.length
            · rw [if_pos hx2]
              have hlt := row_lt hx2 hj
              rw [List.getElem?_append_left (by simp; omega), List.getElem?_take, if_pos hlt]
              have := p10 x hx2 j hj
              rw [cell_of_row _ _ _ _ _ _ c1] at this
              simpa using this
            · rw [if_neg hx2]
              have hge : xs.length * ei.size ≤ x * ei.size + j := Nat.le_trans (Nat.mul_le_mul_right _ (by omega)) (Nat.le_add_right _ _)
              have hx3 : x - xs.length < ys.length := by rw [hzlen] at hx; omega
              have hlt := row_lt hx3 hj
              have e : x * ei.size + j - xs.length * ei.size = (x - xs.length) * ei.size + j := by rw [Nat.sub_mul]; have := Nat.mul_le_mul_right ei.size (show xs.length ≤ x by omega); omega
              rw [List.getElem?_append_right (by simp; omega)]
              simp only [List.length_take, Nat.min_eq_left (show xs.length * ei.size ≤ cs.toArray.toList.length by simp; omega)]
              rw [e, List.getElem?_append_left (by rw [rowV_length]; exact hlt)]
              exact rowV_at hx3 hj)
          (fun x hx j hj => by
            by_cases hx2 : x < xs.length
            · rw [if_pos hx2, getD_app hx2]; exact (p11 x hx2 j hj).keep (Nat.le_refl _) (hks.zero _)
            · rw [if_neg hx2, getD_app2 hx2]; exact (hyr _ (by rw [hzlen] at hx; omega) j hj).keep (Nat.le_refl _) (hks.zero _))
        rw [updM_eq, hzlen] at this
        rw [hzlen]
        exact this
      · have holds : ∀ j v, (rowV F xs.length ei.size)[j]? = some v → w.cell? ((⟨(m b).at', 0, none⟩ : Addr).add j) = some v := rowV_cells (fun x hx j hj => by rw [Nat.zero_add]; exact p10 x hx j hj)
        have hr := run_append_grow (P := P) w t ty ti.elem i z ht q1 q2 ⟨(m b).at', 0, none⟩ xs.length c _ (by rw [rowV_length, hsz]) holds ⟨g2, o2, none⟩ ys.length c2 _ hnl hnews (by omega) (by omega) (growslice_fits (by omega) (by rw [q3]; exact hl))
        have hge := grownCap_ge w (xs.length + ys.length) c ti.elem
        have hcm := grownCap_le_maxLen w (xs.length + ys.length) c ti.elem (by simp only [maxLen]; omega)
        obtain ⟨G', m', r1, r2, r3⟩ := new_row (W := w.drew.alloc (.cells ((rowV F xs.length ei.size).toArray ++ (rowV F' ys.length ei.size).toArray ++ Builtin.zeroCells z.cells (grownCap w (xs.length + ys.length) c ti.elem - (xs.length + ys.length))) ti.elem)) (e := ti.elem) (sz := ei.size) (c := grownCap w (xs.length + ys.length) c ti.elem) (zs := xs ++ ys) (F := fun x j => if x < xs.length then F x j else F' (x - xs.length) j) kk
          (cells := rowV F xs.length ei.size ++ rowV F' ys.length ei.size ++ (Builtin.zeroCells z.cells (grownCap w (xs.length + ys.length) c ti.elem - (xs.length + ys.length))).toList) h0 (by omega) (by omega) hcm hxz
          (by rw [List.length_append, List.length_append, rowV_length, rowV_length, size_zc, q4, ← Nat.add_mul, ← Nat.add_mul]; congr 1; omega) (fun x hx j hj => by
            rw [List.append_assoc]
            by_cases hx2 : x < xs.length
            · rw [if_pos hx2, List.getElem?_append_left (by rw [rowV_length]; exact row_lt hx2 hj)]; exact rowV_at hx2 hj
            · rw [if_neg hx2]
              have hge : xs.length * ei.size ≤ x * ei.size + j := Nat.le_trans (Nat.mul_le_mul_right _ (by omega)) (Nat.le_add_right _ _)
              have hx3 : x - xs.length < ys.length := by rw [hzlen] at hx; omega
              have e : x * ei.size + j - xs.length * ei.size = (x - xs.length) * ei.size + j := by rw [Nat.sub_mul]; have := Nat.mul_le_mul_right ei.size (show xs.length ≤ x by omega); omega
              rw [List.getElem?_append_right (by rw [rowV_length]; exact hge), rowV_length, e, List.getElem?_append_left (by rw [rowV_length]; exact row_lt hx3 hj)]
              exact rowV_at hx3 hj) (fun x hx j hj => by
            by_cases hx2 : x < xs.length
            · rw [if_pos hx2, getD_app hx2]; exact p11 x hx2 j hj
            · rw [if_neg hx2, getD_app2 hx2]; exact hyr _ (by rw [hzlen] at hx; omega) j hj) (grow_heap _ _ _ _ (by simp)) rfl rfl rfl
        rw [hlen, hzlen] at r3
        exact ⟨_, _, G', m', hr, r1, kg.trans r2, r3⟩
theorem spliceV_length : ∀ (o : Nat) (ps cs : List Value), (spliceV o ps cs).length = cs.length
  | _, [], _ => rfl
  | o, p :: ps, cs => by rw [spliceV, spliceV_length]; simp
theorem spliceV_out : ∀ (ps : List Value) (o : Nat) (cs : List Value) (j : Nat), j < o ∨ o + ps.length ≤ j → (spliceV o ps cs)[j]? = cs[j]?
  | [], _, _, _, _ => rfl
  | p :: ps, o, cs, j, h => by
    simp only [List.length_cons] at h
    rw [spliceV, spliceV_out ps (o + 1) _ j (by omega), List.getElem?_set_ne (by omega)]
theorem spliceV_in : ∀ (ps : List Value) (o : Nat) (cs : List Value), o + ps.length ≤ cs.length → ∀ j, j < ps.length → (spliceV o ps cs)[o + j]? = ps[j]?
  | [], _, _, _, j, hj => absurd hj (Nat.not_lt_zero _)
  | p :: ps, o, cs, h, j, hj => by
    rw [spliceV]
    simp only [List.length_cons] at h
    cases j with
    | zero => rw [spliceV_out _ _ _ _ (by omega), Nat.add_zero, List.getElem?_set_self (by omega)]; rfl
    | succ j =>
      have := spliceV_in ps (o + 1) (cs.set o p) (by simp; omega) j (by simpa using hj)
      rw [show o + (j + 1) = o + 1 + j by omega, this]; simp
theorem fill_seq {n sz : Nat} {ρ : Operand → Value} {ev : Operand → PV} (hev : ∀ x, Rep G m w n (ρ x) (ev x)) : ∀ (parts : List (Nat × Operand)) (k : Nat) (L : List Value) (css : List (List PV)), partsA ev sz k parts = some css → (k + css.length) * sz ≤ L.length →
    ∃ L' : List Value, Instr.fill (fun i => some (i * sz, sz)) L.toArray (parts.map fun x => (x.1, ρ x.2)) = some L'.toArray ∧ L'.length = L.length ∧ (∀ j, j < k * sz → L'[j]? = L[j]?) ∧
      (∀ i, i < css.length → (css.getD i []).length = sz ∧ ∀ j, j < sz → ∃ v, L'[(k + i) * sz + j]? = some v ∧ Rep G m w 0 v ((css.getD i []).getD j .any))
  | [], k, L, css, hp, hl => by
    simp only [partsA, Option.some.injEq] at hp
    subst hp
    exact ⟨L, rfl, rfl, fun _ _ => rfl, fun i hi => absurd hi (Nat.not_lt_zero _)⟩
  | (j0, x) :: r, k, L, css, hp, hl => by
    simp only [partsA] at hp
    split at hp
    case h_2 => cases hp
    rename_i hj0
    obtain rfl := Nat.eq_of_beq_eq_true hj0
    split at hp
    case h_2 => cases hp
    rename_i cs hcs
    split at hp
    case h_2 => cases hp
    rename_i hck
    simp only [Bool.and_eq_true] at hck
    obtain ⟨⟨c1, c2⟩, c3⟩ := hck
    have c1 := Nat.eq_of_beq_eq_true c1
    split at hp
    case h_2 => cases hp
    rename_i l hl2
    injection hp with hp
    subst hp
    obtain ⟨k1, k2⟩ := cells_rep (hev x).weak hcs
    have hsz : (ρ x).cells.toList.length = sz := by omega
    have hsz' : (ρ x).cells.size = sz := by simpa using hsz
    have hfit : k * sz + sz ≤ L.length := by
      have : (k + 1) * sz ≤ (k + (l.length + 1)) * sz := Nat.mul_le_mul_right _ (by omega)
      rw [Nat.add_mul, Nat.one_mul] at this
      simp only [List.length_cons] at hl
      omega
    obtain ⟨L', e1, e2, e3, e4⟩ := fill_seq hev r (k + 1) (spliceV (k * sz) (ρ x).cells.toList L) l hl2 (by rw [spliceV_length]; simp only [List.length_cons] at hl; rw [show k + 1 + l.length = k + (l.length + 1) by omega]; exact hl)
    refine ⟨L', ?_, by rw [e2, spliceV_length], fun j hj => ?_, fun i hi => ?_⟩
    · simp only [List.map_cons, Instr.fill]
      rw [if_neg (by simp [hsz']; omega)]
      have := splice_fold (ρ x).cells.toList 0 (k * sz) L.toArray
      simp only [Nat.add_zero] at this
      rw [← this] at e1
      rw [← e1]
      congr 1
      rw [← Array.foldl_toList]
      simp
    · rw [e3 j (by rw [Nat.add_mul]; omega), spliceV_out _ _ _ _ (.inl hj)]
    · cases i with
      | zero =>
        refine ⟨c1, fun j hj => ?_⟩
        have h1 := k2 j (by rw [c1]; exact hj)
        have hjl : j < (ρ x).cells.toList.length := by omega
        refine ⟨(ρ x).cells.toList[j], ?_, ?_⟩
        · rw [Nat.add_zero, e3 _ (by rw [Nat.add_mul]; omega), spliceV_in _ _ _ (by omega) j hjl]
          exact List.getElem?_eq_getElem hjl
        · rw [List.getD_eq_getElem?_getD, List.getElem?_eq_getElem hjl] at h1
          exact h1.lower (undersL_at c2 j (by omega))
      | succ i =>
        obtain ⟨f1, f2⟩ := e4 i (by simpa using hi)
        refine ⟨f1, fun j hj => ?_⟩
        have := f2 j hj
        rw [show k + 1 + i = k + (i + 1) by omega] at this
        exact this
theorem buildSlice_run {t : TypeId} {ti ei : TI} (hi : infoP P t = ti) (hsl : ti.isSl = true) (hie : infoP P ti.elem = ei) (hue : (P.underlying ti.elem).isSome = true) (hzo : zeroOk ei = true) (k : HS P G m w h)
    {ρ : Operand → Value} {ev : Operand → PV} (hev : ∀ x, Rep G m w h.length (ρ x) (ev x)) {len : Nat} {parts : Array (Nat × Operand)} {css : List (List PV)} (hp : partsA ev ei.size 0 parts.toList = some css) (hlen : css.length = len) (h24 : len * ei.size ≤ 16777216) (h0 : 0 < len * ei.size) :
    ∃ v' W G' m', (Instr.buildSlice t len (parts.map fun x => (x.1, ρ x.2))).run P w = .ok v' W ∧ HS P G' m' W (h ++ [[PV.tip]]) ∧ Goes G m w h G' m' W (h ++ [[PV.tip]]) ∧ Rep G' m' W (h ++ [[PV.tip]]).length v' (.own h.length ti.elem ei.size css) := by
  obtain ⟨i, z, q1, q2, q3, q4⟩ := zeroOk_info hie hzo
  have hsize := sizeOf_run (w := w) hie hue
  have hlp : 0 < len := Nat.pos_of_ne_zero (fun e => by subst e; simp at h0)
  have hsp : 0 < ei.size := Nat.pos_of_ne_zero (fun e => by rw [e] at h0; simp at h0)
  obtain ⟨L', e1, e2, e3, e4⟩ := fill_seq hev parts.toList 0 (((Array.range (len * ei.size)).map (z.cells[· % z.cells.size]!)).toList) css hp (by simp [hlen])
  have hL : L'.length = len * ei.size := by rw [e2]; simp
  obtain ⟨G', m', r1, r2, r3⟩ := new_row (W := w.alloc (.cells L'.toArray ti.elem)) (e := ti.elem) (sz := ei.size) (c := len) (zs := css) (cells := L') (F := fun i j => L'.getD (i * ei.size + j) undef) k hsp (by omega) (by omega) (by
    have : len ≤ len * ei.size := Nat.le_mul_of_pos_right _ hsp
    omega) (fun i hi => (e4 i hi).1) hL (fun i hi j hj => by
      obtain ⟨v, f1, f2⟩ := (e4 i hi).2 j hj
      rw [Nat.zero_add] at f1
      rw [List.getD_eq_getElem?_getD, f1]; rfl) (fun i hi j hj => by
      obtain ⟨v, f1, f2⟩ := (e4 i hi).2 j hj
      rw [Nat.zero_add] at f1
      rw [List.getD_eq_getElem?_getD, f1]; exact f2) rfl rfl rfl rfl
  rw [hlen] at r3
  refine ⟨_, _, G', m', ?_, r1, r2, r3⟩
  · have hne : ¬ len * ei.size = 0 := by omega
    have h24' : ¬ 16777216 < len * ei.size := by omega
    have hzr : (zeroValue ti.elem).run P w = .ok z w := by simp [zeroValue, typeInfo, q1, q2]
    simp only [Instr.buildSlice, Sem.run_bind, run_underlying (slice_und hi hsl), Result.andThen_ok, hsize, if_neg h24', if_neg hne, hzr, Sem.run_pure]
    rw [Array.toArray_toList] at e1
    simp [e1, newRow]
theorem buildSlice_lone {t : TypeId} {ti ei : TI} (hi : infoP P t = ti) (hsl : ti.isSl = true) (hie : infoP P ti.elem = ei) (hue : (P.underlying ti.elem).isSome = true) (hzo : zeroOk ei = true) (k : HS P G m w h)
    {ρ : Operand → Value} {ev : Operand → PV} (hev : ∀ x, Rep G m w h.length (ρ x) (ev x)) {len : Nat} {parts : Array (Nat × Operand)} {css : List (List PV)} (hp : partsA ev ei.size 0 parts.toList = some css) (hlen : css.length = len) (h24 : len * ei.size ≤ 16777216) (h0 : 0 < len * ei.size) :
    ∃ v' W G', (Instr.buildSlice t len (parts.map fun x => (x.1, ρ x.2))).run P w = .ok v' W ∧ HS P G' m W h ∧ Goes G m w h G' m W h ∧ Rep G' m W h.length v' (.sl css) := by
  obtain ⟨i, z, q1, q2, q3, q4⟩ := zeroOk_info hie hzo
  have hsize := sizeOf_run (w := w) hie hue
  have hlp : 0 < len := Nat.pos_of_ne_zero (fun e => by subst e; simp at h0)
  have hsp : 0 < ei.size := Nat.pos_of_ne_zero (fun e => by rw [e] at h0; simp at h0)
  obtain ⟨L', e1, e2, e3, e4⟩ := fill_seq hev parts.toList 0 (((Array.range (len * ei.size)).map (z.cells[· % z.cells.size]!)).toList) css hp (by simp [hlen])
  have hL : L'.length = len * ei.size := by rw [e2]; simp
  obtain ⟨G', m', r1, r2, r3⟩ := new_row (W := w.alloc (.cells L'.toArray ti.elem)) (e := ti.elem) (sz := ei.size) (c := len) (zs := css) (cells := L') (F := fun i j => L'.getD (i * ei.size + j) undef) k.bare hsp (by omega) (by omega) (by
    have : len ≤ len * ei.size := Nat.le_mul_of_pos_right _ hsp
    omega) (fun i hi => (e4 i hi).1) hL (fun i hi j hj => by
      obtain ⟨v, f1, f2⟩ := (e4 i hi).2 j hj
      rw [Nat.zero_add] at f1
      rw [List.getD_eq_getElem?_getD, f1]; rfl) (fun i hi j hj => by
      obtain ⟨v, f1, f2⟩ := (e4 i hi).2 j hj
      rw [Nat.zero_add] at f1
      rw [List.getD_eq_getElem?_getD, f1]; exact f2) rfl rfl rfl rfl
  rw [hlen] at r3
  obtain ⟨k1, k2⟩ := k.over r2 r1.old
  refine ⟨_, _, G', ?_, k1, k2, ((r3.weak.lower (d := 0) ?_).keep (Nat.zero_le _) ⟨fun _ => Nat.le_refl _, fun _ _ _ => rfl, fun _ _ _ h => h, fun b hb => absurd hb (Nat.not_lt_zero _)⟩)⟩
  · have hne : ¬ len * ei.size = 0 := by omega
    have h24' : ¬ 16777216 < len * ei.size := by omega
    have hzr : (zeroValue ti.elem).run P w = .ok z w := by simp [zeroValue, typeInfo, q1, q2]
    simp only [Instr.buildSlice, Sem.run_bind, run_underlying (slice_und hi hsl), Result.andThen_ok, hsize, if_neg h24', if_neg hne, hzr, Sem.run_pure]
    rw [Array.toArray_toList] at e1
    simp [e1, newRow]
  · rfl
end Go.Proofs.YtboopmfjkepilaaGreatDoor.Deep

namespace Go.Proofs.YtboopmfjkepilaaGreatDoor.Deep
open Go.RowKit
set_option linter.unusedVariables false
set_option linter.unusedSimpArgs false
variable {P : Program} {T : TypeId → Option TI} {S : FuncId → Option Sg} {G : Nat → Nat} {m : Nat → Pl} {w : World} {h : Heap}
theorem flatten_at {sz : Nat} : ∀ (ys : List (List PV)), (∀ i, i < ys.length → (ys.getD i []).length = sz) → ys.flatten.length = ys.length * sz ∧ ∀ i j, i < ys.length → j < sz → ys.flatten.getD (i * sz + j) .any = (ys.getD i []).getD j .any
  | [], _ => ⟨by simp, fun i j hi => absurd hi (Nat.not_lt_zero _)⟩
  | y :: ys, h => by
    have h0 : y.length = sz := h 0 (by simp)
    obtain ⟨q1, q2⟩ := flatten_at ys (fun i hi => by have := h (i + 1) (by simpa using hi); simpa using this)
    refine ⟨by rw [List.flatten_cons, List.length_append, q1, h0, List.length_cons, Nat.succ_mul]; omega, fun i j hi hj => ?_⟩
    rw [List.flatten_cons]
    cases i with
    | zero =>
      rw [Nat.zero_mul, Nat.zero_add, List.getD_eq_getElem?_getD, List.getElem?_append_left (by omega), ← List.getD_eq_getElem?_getD]
      rfl
    | succ i =>
      rw [List.getD_eq_getElem?_getD, List.getElem?_append_right (by rw [h0, Nat.succ_mul]; omega), ← List.getD_eq_getElem?_getD, h0, show (i + 1) * sz + j - sz = i * sz + j by rw [Nat.succ_mul]; omega, q2 i j (by simpa using hi) hj]
      rfl
structure News (G : Nat → Nat) (m : Nat → Pl) (w : World) (u : Value) (k sz : Nat) (cs : List PV) (a : Option Addr) (c : Nat) (news : List Value) : Prop where
  val : u = .slice a k c
  len : news.length = k * sz
  rep : ∀ j, j < k * sz → Rep G m w 0 (news.getD j undef) (cs.getD j .any)
  at' : 0 < k → ∃ g o, a = some ⟨g, o, none⟩ ∧ (∀ j v, news[j]? = some v → w.cell? ((⟨g, o, none⟩ : Addr).add j) = some v)
  one : ∀ v ∈ news, v.oneCell' = true
theorem getD_mem {cs : List PV} {j : Nat} (hj : j < cs.length) : cs.getD j .any ∈ cs := by
  rw [List.getD_eq_getElem?_getD, List.getElem?_eq_getElem hj]
  exact List.getElem_mem hj
theorem news_one {k sz : Nat} {cs : List PV} {news : List Value} (hl : news.length = k * sz) (hc : cs.length = k * sz) (hr : ∀ j, j < k * sz → Rep G m w 0 (news.getD j undef) (cs.getD j .any)) (hy : ∀ p ∈ cs, PV.one p = true) : ∀ v ∈ news, v.oneCell' = true := by
  intro v hv
  obtain ⟨j, hj, rfl⟩ := List.getElem_of_mem hv
  have := hr j (by omega)
  rw [List.getD_eq_getElem?_getD, List.getElem?_eq_getElem hj] at this
  exact one_of this (hy _ (getD_mem (by omega)))
theorem srcR_news (hs : HS P G m w h) {n0 : Nat} (hn0 : n0 = h.length) {u : Value} {p : PV} (hu : Rep G m w n0 u p) {sz k : Nat} (h0 : 0 < sz) {cs : List PV} (hc : srcR h sz p = some (k, cs)) (hk : cs.length = k * sz) (hy : ∀ p ∈ cs, PV.one p = true) :
    ∃ a c news, News G m w u k sz cs a c news := by
  unfold srcR at hc
  split at hc
  · rename_i ys
    simp only [Option.some.injEq, Prod.mk.injEq] at hc
    obtain ⟨rfl, rfl⟩ := hc
    cases hu with
    | sl _ a c sz' _ F hcc hm hz ha hr =>
      obtain ⟨f1, f2⟩ := flatten_at ys hz
      by_cases hy0 : ys.length = 0
      · have hys : ys = [] := List.length_eq_zero_iff.1 hy0
        subst hys
        exact ⟨a, c, [], ⟨rfl, by simp, fun j hj => by simp at hj, fun hp => by simp at hp, fun v hv => by cases hv⟩⟩
      · have e : sz' = sz := Nat.eq_of_mul_eq_mul_left (by omega) (f1.symm.trans hk)
        subst e
        have hrep : ∀ j, j < ys.length * sz' → Rep G m w 0 ((rowV F ys.length sz').getD j undef) (ys.flatten.getD j .any) := fun j hj => by
          have hi : j / sz' < ys.length := Nat.div_lt_of_lt_mul (by rw [Nat.mul_comm]; exact hj)
          have hj2 : j % sz' < sz' := Nat.mod_lt _ h0
          have e2 : j / sz' * sz' + j % sz' = j := by rw [Nat.mul_comm]; exact Nat.div_add_mod j sz'
          have e3 := f2 _ _ hi hj2
          have e4 := rowV_at (F := F) hi hj2
          rw [e2] at e3 e4
          rw [e3, List.getD_eq_getElem?_getD (l := rowV F ys.length sz'), e4]
          exact hr _ hi _ hj2
        refine ⟨a, c, rowV F ys.length sz', ⟨rfl, rowV_length _ _ _, hrep, fun hp => ?_, news_one (rowV_length _ _ _) hk hrep hy⟩⟩
        obtain ⟨g, o, rfl, q1, q2⟩ := ha hp
        exact ⟨g, o, rfl, rowV_cells q2⟩
  · rename_i b off n e z
    split at hc
    case h_2 => cases hc
    rename_i hzz
    have hzz := Nat.eq_of_beq_eq_true hzz
    subst hzz
    split at hc
    case h_2 => cases hc
    rename_i l hrow
    simp only [Option.some.injEq, Prod.mk.injEq] at hc
    obtain ⟨rfl, rfl⟩ := hc
    cases hu with
    | rw0 _ _ _ _ hb => exact ⟨none, 0, [], ⟨rfl, by simp, fun j hj => by simp at hj, fun hp => absurd hp (Nat.lt_irrefl _), fun v hv => by cases hv⟩⟩
    | rw _ _ _ _ c q N _ _ hb hcc hm hq hN hsh hf =>
      rw [hn0] at hb
      obtain ⟨F, f1, f2⟩ := (hs.lieRow b off l hb hrow).take (n * z)
      rw [hk] at f1 f2
      have hl : ((List.range (n * z)).map F).length = n * z := by simp
      have hg : ∀ j, j < n * z → ((List.range (n * z)).map F)[j]? = some (F j) := fun j hj => by simp [List.getElem?_range hj]
      have hrep : ∀ j, j < n * z → Rep G m w 0 (((List.range (n * z)).map F).getD j undef) (((l.drop off).take (n * z)).getD j .any) := fun j hj => by
        rw [List.getD_eq_getElem?_getD (l := (List.range (n * z)).map F), hg j hj]
        exact f2 j hj
      refine ⟨_, c, (List.range (n * z)).map F, ⟨rfl, hl, hrep, fun hp => ?_, news_one hl hk hrep hy⟩⟩
      have hq2 : q = off := by omega
      subst hq2
      refine ⟨_, _, rfl, fun j v hv => ?_⟩
      have hj : j < n * z := by have := (List.getElem?_eq_some_iff.1 hv).1; rwa [hl] at this
      rw [hg j hj] at hv
      injection hv with hv
      subst hv
      have e : (⟨(m b).at', q, none⟩ : Addr).add j = ⟨(m b).at', q + j, none⟩ := by unfold Addr.add; split <;> simp_all
      rw [e]
      exact f1 j hj
  · cases hc
theorem setRow_same {g : Nat} {cur : Array Value} {e : TypeId} (hg : w.heap[g]? = some (.cells cur e (0, 0))) : w.setRow g cur = w := by
  cases w
  simp only [World.setRow, World.mk.injEq, and_true, true_and]
  apply Array.ext_getElem?
  intro x
  rw [Array.getElem?_modify]
  split
  · rename_i hx
    subst hx
    simp only at hg
    rw [hg]; rfl
  · rfl
theorem HS.rowCells (k : HS P G m w h) {b : Nat} {l : List PV} (hb : b < h.length) (hk : h.getD b [] = [.row l]) (h0 : (m b).fr ≠ 0) {cur : List Value} {e : TypeId} (hg : w.heap[(m b).at']? = some (.cells cur.toArray e (0, 0))) : l.length ≤ cur.length ∧ ∀ j, j < l.length → Rep G m w 0 (cur.getD j undef) (l.getD j .any) := by
  have hL := k.blk b hb
  unfold Lies at hL
  rw [hk] at hL
  simp only [kind] at hL
  obtain ⟨⟨cs, X, h1, h2, h3⟩, _⟩ := hL.1 h0
  rw [hg] at h1
  simp only [Option.some.injEq, Obj.cells.injEq] at h1
  obtain ⟨e1, _, _⟩ := h1
  have e2 : cur = cs := by have := congrArg Array.toList e1; simpa using this
  subst e2
  exact ⟨h2, h3⟩
theorem getD_appV {α : Type} {xs ys : List α} {j : Nat} {d : α} : (xs ++ ys).getD j d = if j < xs.length then xs.getD j d else ys.getD (j - xs.length) d := by
  by_cases hj : j < xs.length
  · rw [if_pos hj, List.getD_eq_getElem?_getD, List.getElem?_append_left hj, ← List.getD_eq_getElem?_getD]
  · rw [if_neg hj, List.getD_eq_getElem?_getD, List.getElem?_append_right (by omega), ← List.getD_eq_getElem?_getD]
theorem getD_takeV {α : Type} {xs : List α} {n j : Nat} {d : α} (hj : j < n) : (xs.take n).getD j d = xs.getD j d := by
  rw [List.getD_eq_getElem?_getD, List.getElem?_take, if_pos hj, ← List.getD_eq_getElem?_getD]
theorem rep_app {l cs : List PV} {olds news more : List Value} {n k sz : Nat} (hn : n * sz ≤ l.length) (ho : olds.length = n * sz) (hr : ∀ j, j < n * sz → Rep G m w 0 (olds.getD j undef) (l.getD j .any)) (hl : news.length = k * sz) (hc : cs.length = k * sz) (hq : ∀ j, j < k * sz → Rep G m w 0 (news.getD j undef) (cs.getD j .any)) :
    ∀ j, j < (l.take (n * sz) ++ cs).length → Rep G m w 0 ((olds ++ news ++ more).getD j undef) ((l.take (n * sz) ++ cs).getD j .any) := by
  intro j hj
  have e1 : (l.take (n * sz)).length = n * sz := by simp; omega
  rw [List.length_append, e1, hc] at hj
  have e2 : (olds ++ news ++ more).getD j undef = (olds ++ news).getD j undef := by
    rw [getD_appV, if_pos (by rw [List.length_append]; omega)]
  rw [e2, getD_appV, getD_appV, ho, e1]
  by_cases hj2 : j < n * sz
  · rw [if_pos hj2, if_pos hj2, getD_takeV hj2]
    exact hr j hj2
  · rw [if_neg hj2, if_neg hj2]
    exact hq _ (by omega)
theorem room_any {t ty e5 : TypeId} {E : TypeId} {inf : TypeInfo} (ht : P.underlying t = some (.slice E)) (hi : P.info? E = some inf) {g k c : Nat} {old : List Value} (hg : w.heap[g]? = some (.cells old.toArray e5 (0, 0))) {src : Addr} {q c2 : Nat} {vs : List Value}
    (hv : vs.length = q * inf.size) (hs : ∀ j u, vs[j]? = some u → w.cell? (src.add j) = some u) (h1 : ∀ u ∈ vs, u.oneCell' = true) (hr : k + q ≤ c) (hf : k * inf.size + vs.length ≤ old.length) :
    (Builtin.append_ #[t, t] ty #[.slice (some ⟨g, 0, none⟩) k c, .slice (some src) q c2]).run P w = .ok (.slice (some ⟨g, 0, none⟩) (k + q) c) (w.setRow g (old.take (k * inf.size) ++ vs ++ old.drop (k * inf.size + vs.length)).toArray) := by
  have st := run_storeCells_at P g (k * inf.size) e5 vs 0 old.toArray w hg (by simpa using hf) h1
  rw [Nat.add_zero] at st
  simp [Builtin.append_, Builtin.lenOf, run_underlying ht, sizeOf, typeInfo, hi, hr, run_firstCells_some (P := P) w inf.size q src q c2 vs hv hs, Addr.add_lit, st]
set_option maxHeartbeats 1000000 in
theorem rowapp_run {t ty : TypeId} {ti ei : TI} (hi : infoP P t = ti) (hsl : ti.isSl = true) (hie : infoP P ti.elem = ei) (hue : (P.underlying ti.elem).isSome = true) (h0 : 0 < ei.size) (hb0 : 0 < ei.bytes) (hzo : zeroOk ei = true) (k : HS P G m w h)
    {v u : Value} {b n kk : Nat} {l cs : List PV} (hv : Rep G m w h.length v (.rw b 0 n ti.elem ei.size)) (hb : b < h.length) (hrow : h.getD b [] = [.row l]) (hn : n * ei.size ≤ l.length) {a : Option Addr} {c2 : Nat} {news : List Value} (hu : News G m w u kk ei.size cs a c2 news) (hcs : cs.length = kk * ei.size) (hl : (n + kk) * ei.bytes ≤ 140737488355328) :
    ∃ v' W G' m', (Builtin.append_ #[t, t] ty #[v, u]).run P w = .ok v' W ∧ HS P G' m' W (h.set b [] ++ [[.row (l.take (n * ei.size) ++ cs)]]) ∧ Goes G m w h G' m' W (h.set b [] ++ [[.row (l.take (n * ei.size) ++ cs)]]) ∧ Rep G' m' W (h.set b [] ++ [[PV.row (l.take (n * ei.size) ++ cs)]]).length v' (.rw h.length 0 (n + kk) ti.elem ei.size) := by
  obtain ⟨i, z, q1, q2, q3, q4⟩ := zeroOk_info hie hzo
  have ht := slice_und hi hsl
  have hsz : i.size = ei.size := by
    subst hie
    unfold infoP Program.cellsOf
    simp only
    have hs := hue
    obtain ⟨d, hd⟩ := Option.isSome_iff_exists.1 hs
    obtain ⟨i', h1, h2⟩ := und_info hd
    rw [q1] at h1
    injection h1 with h1
    subst h1
    exact h2
  obtain ⟨rfl, hnl, hrep, hat, hone⟩ := hu
  have hbound : n + kk ≤ 140737488355328 := Nat.le_trans (Nat.le_mul_of_pos_right _ hb0) hl
  obtain ⟨kd, kg⟩ := k.kill b
  have hlen : (h.set b []).length = h.length := by simp
  have etk : (l.take (n * ei.size)).length = n * ei.size := by simp; omega
  have etot : (l.take (n * ei.size) ++ cs).length = (n + kk) * ei.size := by rw [List.length_append, etk, hcs, Nat.add_mul]
  by_cases hk0 : kk = 0
  · -- nothing is behind it
    subst hk0
    rw [Nat.zero_mul] at hcs
    have hc0 : cs = [] := List.length_eq_zero_iff.1 hcs
    subst hc0
    cases hv with
    | rw0 _ _ _ _ hb2 =>
      obtain ⟨r1, r2⟩ := kd.voidRow
      rw [hlen] at r1 r2
      rw [Nat.zero_mul, List.take_zero, List.append_nil]
      refine ⟨_, w, _, _, append_zero ht q1 none a 0 0 c2 (Nat.le_refl _), r1, kg.trans r2, ?_⟩
      exact .rw0 _ _ _ _ (by simp)
    | rw _ _ _ _ c q N _ _ hb2 hc hm hq hN hsh hf =>
      obtain ⟨e5, cur, c1, c3⟩ := hsh
      obtain ⟨p1, p2⟩ := k.rowCells hb hrow hf c1
      obtain ⟨r1, r2⟩ := k.regrowRow hb hrow hf (cur' := cur.toArray) (l' := l.take (n * ei.size) ++ []) c1 rfl (by simp; omega) (fun j hj => by
        rw [List.append_nil] at hj ⊢
        rw [etk] at hj
        rw [getD_takeV hj]
        have := p2 j (by omega)
        simpa [Array.getD_eq_getD_getElem?, List.getD_eq_getElem?_getD] using this)
      rw [setRow_same c1] at r1 r2
      refine ⟨_, w, _, _, append_zero ht q1 _ a n c c2 hc, r1, r2, ?_⟩
      have := Rep.rw (G := G) (m := updM m h.length (m b)) (w := w) (h.set b [] ++ [[PV.row (l.take (n * ei.size) ++ [])]]).length h.length 0 n c q N ti.elem ei.size (by simp) hc hm hq hN (by rw [updM_eq]; exact ⟨_, cur, c1, c3⟩) (by rw [updM_eq]; exact hf)
      rw [updM_eq] at this
      exact this
  · obtain ⟨g2, o2, rfl, hnews⟩ := hat (by omega)
    have hnl2 : news.length = kk * i.size := by rw [hnl, hsz]
    cases hv with
    | rw0 _ _ _ _ hb2 =>
      rw [Nat.zero_add] at *
      have hr := run_append_nil (P := P) w t ty ti.elem i z ht q1 q2 ⟨g2, o2, none⟩ kk c2 _ hnl2 hnews (by omega) (by omega) (by rw [q3]; omega)
      have hge := grownCap_ge w kk 0 ti.elem
      have hcm := grownCap_le_maxLen w kk 0 ti.elem (by simp only [maxLen]; omega)
      obtain ⟨G', m', r1, r4, r2, r3⟩ := kd.pushRow (W := w.drew.alloc (.cells (news.toArray ++ Builtin.zeroCells z.cells (grownCap w kk 0 ti.elem - kk)) ti.elem)) (news ++ (Builtin.zeroCells z.cells (grownCap w kk 0 ti.elem - kk)).toList) (l.take (0 * ei.size) ++ cs) ti.elem (by rw [etot, List.length_append, hnl]; omega) (fun j hj => by
        rw [etot] at hj
        rw [Nat.zero_mul, List.take_zero, List.nil_append, getD_appV, if_pos (by omega)]
        exact hrep j (by omega)) (grow_heap _ _ _ _ (by simp)) rfl rfl rfl
      rw [hlen] at r1 r4
      refine ⟨_, _, G', m', hr, r2, kg.trans r3, ?_⟩
      have hnew : (w.drew.alloc (.cells (news.toArray ++ Builtin.zeroCells z.cells (grownCap w kk 0 ti.elem - kk)) ti.elem)).heap[w.heap.size]? = some (.cells (news ++ (Builtin.zeroCells z.cells (grownCap w kk 0 ti.elem - kk)).toList).toArray ti.elem (0, 0)) := by
        rw [grow_heap w _ (news ++ (Builtin.zeroCells z.cells (grownCap w kk 0 ti.elem - kk)).toList) ti.elem (by simp), Array.getElem?_push, if_pos rfl]
      have := Rep.rw (G := G') (m := m') (w := w.drew.alloc (.cells (news.toArray ++ Builtin.zeroCells z.cells (grownCap w kk 0 ti.elem - kk)) ti.elem)) (h.set b [] ++ [[PV.row (l.take (0 * ei.size) ++ cs)]]).length h.length 0 kk (grownCap w kk 0 ti.elem) 0 _ ti.elem ei.size (by simp) hge hcm (.inl rfl) (Nat.le_refl _) (by rw [r1]; exact ⟨_, _, hnew, by rw [List.length_append, hnl, size_zc, q4, ← Nat.add_mul, Nat.zero_add]; congr 1; omega⟩) r4
      rw [r1] at this
      exact this
    | rw _ _ _ _ c q N _ _ hb2 hc hm hq hN hsh hf =>
      obtain ⟨e5, cur, c1, c3⟩ := hsh
      obtain ⟨p1, p2⟩ := k.rowCells hb hrow hf c1
      by_cases hroom : n + kk ≤ c
      · have hq0 : q = 0 := by omega
        subst hq0
        have hNc : n * ei.size + kk * ei.size ≤ cur.length := by
          have := Nat.mul_le_mul_right ei.size hroom
          rw [Nat.add_mul] at this; omega
        have hr := room_any (P := P) (w := w) (ty := ty) (src := ⟨g2, o2, none⟩) (c2 := c2) ht q1 c1 hnl2 hnews hone hroom (by rw [hsz, hnl]; simpa using hNc)
        rw [hsz, hnl] at hr
        have olen : (cur.take (n * ei.size)).length = n * ei.size := by simp; omega
        obtain ⟨r1, r2⟩ := k.regrowRow hb hrow hf (cur' := (cur.take (n * ei.size) ++ news ++ cur.drop (n * ei.size + kk * ei.size)).toArray) (l' := l.take (n * ei.size) ++ cs) c1 (by simp [hnl]; omega) (by rw [etot, Nat.add_mul]; simp [hnl]; omega) (fun j hj => by
          have := rep_app (more := cur.drop (n * ei.size + kk * ei.size)) hn olen (fun j hj => by rw [getD_takeV hj]; exact p2 j (by omega)) hnl hcs hrep j hj
          simpa [Array.getD_eq_getD_getElem?, List.getD_eq_getElem?_getD] using this)
        refine ⟨_, _, _, _, hr, r1, r2, ?_⟩
        have := Rep.rw (G := G) (m := updM m h.length (m b)) (w := w.setRow (m b).at' ((cur.take (n * ei.size) ++ news ++ cur.drop (n * ei.size + kk * ei.size)).toArray)) (h.set b [] ++ [[PV.row (l.take (n * ei.size) ++ cs)]]).length h.length 0 (n + kk) c 0 N ti.elem ei.size (by simp) hroom hm (.inl rfl) hN (by rw [updM_eq]; exact ⟨_, r2.shp _ _ _ ⟨cur, c1, c3⟩⟩) (by rw [updM_eq]; exact hf)
        rw [updM_eq] at this
        exact this
      · have olen : (cur.take (n * ei.size)).length = n * ei.size := by simp; omega
        have holds : ∀ j v, (cur.take (n * ei.size))[j]? = some v → w.cell? ((⟨(m b).at', q, none⟩ : Addr).add j) = some v := fun j v hv => by
          have hj : j < n * ei.size := by have := (List.getElem?_eq_some_iff.1 hv).1; rwa [olen] at this
          have hn0 : 0 < n := by
            apply Nat.pos_of_ne_zero
            intro e; subst e; simp at hj
          have hq0 : q = 0 := by omega
          subst hq0
          have e : (⟨(m b).at', 0, none⟩ : Addr).add j = ⟨(m b).at', j, none⟩ := by unfold Addr.add; split <;> simp_all
          rw [e, cell_of_row _ _ j _ _ _ c1]
          rw [List.getElem?_take, if_pos hj] at hv
          simpa using hv
        have hr := run_append_grow (P := P) w t ty ti.elem i z ht q1 q2 ⟨(m b).at', q, none⟩ n c _ (by rw [olen, hsz]) holds ⟨g2, o2, none⟩ kk c2 _ hnl2 hnews (by omega) (by omega) (growslice_fits (by omega) (by rw [q3]; exact hl))
        have hge := grownCap_ge w (n + kk) c ti.elem
        have hcm := grownCap_le_maxLen w (n + kk) c ti.elem (by simp only [maxLen]; omega)
        obtain ⟨G', m', r1, r4, r2, r3⟩ := kd.pushRow (W := w.drew.alloc (.cells ((cur.take (n * ei.size)).toArray ++ news.toArray ++ Builtin.zeroCells z.cells (grownCap w (n + kk) c ti.elem - (n + kk))) ti.elem)) (cur.take (n * ei.size) ++ news ++ (Builtin.zeroCells z.cells (grownCap w (n + kk) c ti.elem - (n + kk))).toList) (l.take (n * ei.size) ++ cs) ti.elem (by rw [etot, List.length_append, List.length_append, hnl, olen, Nat.add_mul]; omega)
          (rep_app hn olen (fun j hj => by rw [getD_takeV hj]; exact p2 j (by omega)) hnl hcs hrep) (grow_heap _ _ _ _ (by simp)) rfl rfl rfl
        rw [hlen] at r1 r4
        refine ⟨_, _, G', m', hr, r2, kg.trans r3, ?_⟩
        have hnew : (w.drew.alloc (.cells ((cur.take (n * ei.size)).toArray ++ news.toArray ++ Builtin.zeroCells z.cells (grownCap w (n + kk) c ti.elem - (n + kk))) ti.elem)).heap[w.heap.size]? = some (.cells (cur.take (n * ei.size) ++ news ++ (Builtin.zeroCells z.cells (grownCap w (n + kk) c ti.elem - (n + kk))).toList).toArray ti.elem (0, 0)) := by
          rw [grow_heap w _ (cur.take (n * ei.size) ++ news ++ (Builtin.zeroCells z.cells (grownCap w (n + kk) c ti.elem - (n + kk))).toList) ti.elem (by simp), Array.getElem?_push, if_pos rfl]
        have := Rep.rw (G := G') (m := m') (w := w.drew.alloc (.cells ((cur.take (n * ei.size)).toArray ++ news.toArray ++ Builtin.zeroCells z.cells (grownCap w (n + kk) c ti.elem - (n + kk))) ti.elem)) (h.set b [] ++ [[PV.row (l.take (n * ei.size) ++ cs)]]).length h.length 0 (n + kk) (grownCap w (n + kk) c ti.elem) 0 _ ti.elem ei.size (by simp) hge hcm (.inl rfl) (Nat.le_refl _) (by rw [r1]; exact ⟨_, _, hnew, by rw [List.length_append, List.length_append, hnl, olen, size_zc, q4, ← Nat.add_mul, ← Nat.add_mul, Nat.zero_add]; congr 1; omega⟩) r4
        rw [r1] at this
        exact this
set_option maxHeartbeats 1000000 in
theorem rowzeros_run {t tn ty : TypeId} {ti ei : TI} (hi : infoP P t = ti) (hsl : ti.isSl = true) (hie : infoP P ti.elem = ei) (hue : (P.underlying ti.elem).isSome = true) (h0 : 0 < ei.size) (hb0 : 0 < ei.bytes) (hzo : zeroOk ei = true) {kn : IntKind} (htn : P.underlying tn = some (.int kn)) (k : HS P G m w h)
    {ki : IntKind} {n : Int} (hn : 0 < n) (hl : n.toNat * ei.bytes ≤ 140737488355328) {z : List PV} (hz : ei.zero = some z) :
    ∃ v' W G' m', (Builtin.append_ #[t, tn] ty #[.slice none 0 0, .int ki n]).run P w = .ok v' W ∧ HS P G' m' W (h ++ [[], [.row (List.replicate n.toNat z).flatten]]) ∧ Goes G m w h G' m' W (h ++ [[], [.row (List.replicate n.toNat z).flatten]]) ∧ Rep G' m' W (h ++ [[], [PV.row (List.replicate n.toNat z).flatten]]).length v' (.rw (h.length + 1) 0 n.toNat ti.elem ei.size) := by
  obtain ⟨i, zv, q1, q2, q3, q4⟩ := zeroOk_info hie hzo
  have ht := slice_und hi hsl
  have hsz : i.size = ei.size := by
    subst hie
    unfold infoP Program.cellsOf
    simp only
    have hs := hue
    obtain ⟨d, hd⟩ := Option.isSome_iff_exists.1 hs
    obtain ⟨i', h1, h2⟩ := und_info hd
    rw [q1] at h1
    injection h1 with h1
    subst h1
    exact h2
  have hzz : z = zv.cells.toList.map .con := by
    subst hie
    unfold infoP at hz
    simp only [q1, Option.bind_some, q2, Option.map_some, Option.some.injEq] at hz
    exact hz.symm
  obtain ⟨kk, hkk⟩ : ∃ kk : Nat, n = kk := ⟨n.toNat, by omega⟩
  subst hkk
  simp only [Int.toNat_natCast] at *
  have hk0 : 0 < kk := by omega
  have hbound : kk ≤ 140737488355328 := Nat.le_trans (Nat.le_mul_of_pos_right _ hb0) hl
  obtain ⟨k1, g1⟩ := k.voidRow
  obtain ⟨kd, kg⟩ := k1.kill h.length
  have e5 : (h ++ [[PV.row []]]).set h.length [] = h ++ [[]] := by simp
  rw [e5] at kd kg
  have hr := Lib.run_append_nil_zeros (P := P) w t tn ty ti.elem i zv ki kn ht htn q1 q2 kk hk0 (by omega) (by omega) (by rw [q3]; omega)
  have hge := grownCap_ge w kk 0 ti.elem
  have hcm := grownCap_le_maxLen w kk 0 ti.elem (by simp only [maxLen]; omega)
  have hzp : 0 < zv.cells.size := by omega
  have hzc : (Builtin.zeroCells zv.cells kk).toList = (List.replicate kk zv.cells.toList).flatten := by
    have := congrArg Array.toList (made_flat zv.cells hzp kk)
    simpa [madeCells, Builtin.zeroCells] using this
  have hfl : (List.replicate kk z).flatten = ((List.replicate kk zv.cells.toList).flatten).map .con := by rw [hzz, flat_map]
  have hlen1 : ((List.replicate kk z).flatten).length = kk * ei.size := by rw [hfl, List.length_map, flat_len, Array.length_toList, q4]
  obtain ⟨G', m', r1, r4, r2, r3⟩ := kd.pushRow (W := w.drew.alloc (.cells (Builtin.zeroCells zv.cells kk ++ Builtin.zeroCells zv.cells (grownCap w kk 0 ti.elem - kk)) ti.elem)) ((Builtin.zeroCells zv.cells kk).toList ++ (Builtin.zeroCells zv.cells (grownCap w kk 0 ti.elem - kk)).toList) (List.replicate kk z).flatten ti.elem (by rw [hlen1, List.length_append, hzc, flat_len, Array.length_toList, q4]; omega) (fun j hj => by
    rw [hlen1] at hj
    have hj2 : j < (Builtin.zeroCells zv.cells kk).toList.length := by rw [hzc, flat_len, Array.length_toList, q4]; exact hj
    rw [getD_appV, if_pos hj2, hfl, hzc]
    exact rep_mapP1 _ _ j (by rw [List.length_map, flat_len, Array.length_toList, q4]; exact hj)) (grow_heap _ _ _ _ (by simp)) rfl rfl rfl
  have e6 : (h ++ [[]]).length = h.length + 1 := by simp
  have e7 : (h ++ [[]]) ++ [[PV.row (List.replicate kk z).flatten]] = h ++ [[], [PV.row (List.replicate kk z).flatten]] := by simp
  rw [e6] at r1 r4
  rw [e7] at r2 r3
  refine ⟨_, _, G', m', hr, r2, (g1.trans kg).trans r3, ?_⟩
  have hnew : (w.drew.alloc (.cells (Builtin.zeroCells zv.cells kk ++ Builtin.zeroCells zv.cells (grownCap w kk 0 ti.elem - kk)) ti.elem)).heap[w.heap.size]? = some (.cells ((Builtin.zeroCells zv.cells kk).toList ++ (Builtin.zeroCells zv.cells (grownCap w kk 0 ti.elem - kk)).toList).toArray ti.elem (0, 0)) := by
    rw [grow_heap w _ ((Builtin.zeroCells zv.cells kk).toList ++ (Builtin.zeroCells zv.cells (grownCap w kk 0 ti.elem - kk)).toList) ti.elem (by simp), Array.getElem?_push, if_pos rfl]
  have := Rep.rw (G := G') (m := m') (w := w.drew.alloc (.cells (Builtin.zeroCells zv.cells kk ++ Builtin.zeroCells zv.cells (grownCap w kk 0 ti.elem - kk)) ti.elem)) (h ++ [[], [PV.row (List.replicate kk z).flatten]]).length (h.length + 1) 0 kk (grownCap w kk 0 ti.elem) 0 _ ti.elem ei.size (by simp) hge hcm (.inl rfl) (Nat.le_refl _) (by rw [r1]; exact ⟨_, _, hnew, by rw [List.length_append, hzc, flat_len, size_zc, Array.length_toList, q4, ← Nat.add_mul, Nat.zero_add]; congr 1; omega⟩) r4
  rw [r1] at this
  exact this
end Go.Proofs.YtboopmfjkepilaaGreatDoor.Deep
