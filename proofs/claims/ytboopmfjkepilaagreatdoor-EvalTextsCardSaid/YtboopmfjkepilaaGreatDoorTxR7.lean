/-
  Texts of one proof, in their order. No condition.
-/
import Derived.Test.YtboopmfjkepilaaGreatDoorTxR6
namespace Go.Proofs.YtboopmfjkepilaaGreatDoor.Run
open Go.RowKit
set_option linter.unusedVariables false
set_option linter.unusedSimpArgs false
section
variable {P : Program} {w0 : Bs} {m : Mp} {h : Hp} {w : World} {a : Act} {f : Fr}
theorem spV_fold (vs : List Value) : ∀ (k o : Nat) (cs : Array Value), (vs.zipIdx k).foldl (fun (cs : Array Value) x => cs.setIfInBounds (o + x.2) x.1) cs = spV (o + k) vs cs := by
  induction vs with
  | nil => intro k o cs; simp [spV]
  | cons v vs ih =>
    intro k o cs
    rw [List.zipIdx_cons, List.foldl_cons, ih]
    simp only [spV]
    rw [Nat.add_assoc]
theorem spA_lr : ∀ {vs : List Value} {ds : List CV} {o : Nat} {us : Array Value} {cs : List CV}, LR m vs ds → LR m us.toList cs → LR m (spV o vs us).toList (spA o ds cs)
  | [], [], o, us, cs, _, k => k
  | v :: vs, d :: ds, o, us, cs, hd, k => by
    refine spA_lr (vs := vs) (ds := ds) (o := o + 1) hd.hd.2 ?_
    rw [Array.toList_setIfInBounds]
    exact k.set o hd.hd.1
  | [], _ :: _, _, _, _, hr, _ => by simp [LR] at hr
  | _ :: _, [], _, _, _, hr, _ => by simp [LR] at hr
theorem fillC_run {ev : Operand → CV} {ρ : Operand → Value} (hev : ∀ x, Rp m (ρ x) (ev x)) {place place' : Nat → Option (Nat × Nat)} (hp : ∀ i p, place i = some p → place' i = some p) : ∀ (parts : List (Nat × Operand)) (us : Array Value) (cells cs : List CV), LR m us.toList cells → fillC place ev cells parts = some cs →
    ∃ vs : Array Value, Instr.fill place' us (parts.map fun x => (x.1, ρ x.2)) = some vs ∧ LR m vs.toList cs
  | [], us, cells, cs, hr, hc => by
    simp only [fillC, Option.some.injEq] at hc
    subst hc
    exact ⟨us, rfl, hr⟩
  | (i, x) :: r, us, cells, cs, hr, hc => by
    simp only [fillC] at hc
    split at hc
    · cases hc
    rename_i off sz hpl
    split at hc
    · cases hc
    rename_i ds hds
    split at hc
    case h_2 => cases hc
    rename_i hck
    rw [Bool.and_eq_true] at hck
    have c1 := Nat.eq_of_beq_eq_true hck.1
    have c2 := Nat.le_of_ble_eq_true hck.2
    have hd := cellsC_rep (hev x) hds
    obtain ⟨vs, e1, e2⟩ := fillC_run hev hp r _ _ cs (spA_lr (o := off) hd hr) hc
    refine ⟨vs, ?_, e2⟩
    have k1 : (ρ x).cells.size = ds.length := by have := hd.1; simpa using this
    have k2 : us.size = cells.length := by have := hr.1; simpa using this
    simp only [List.map_cons, Instr.fill, hp _ _ hpl]
    rw [if_neg (by simp [k1, c1, k2]; omega)]
    have := spV_fold (ρ x).cells.toList 0 off us
    simp only [Nat.add_zero] at this
    rw [← this] at e1
    rw [← e1]
    congr 1
    rw [← Array.foldl_toList]
    simp
theorem mapM_ok {α β : Type} {g : α → Sem β} {k : α → β} {w : World} : ∀ (l : List α), (∀ x ∈ l, (g x).run P w = .ok (k x) w) → (l.mapM g).run P w = .ok (l.map k) w
  | [], _ => by simp
  | x :: l, hf => by
    have h1 := hf x (by simp)
    have h2 := mapM_ok l (fun y hy => hf y (by simp [hy]))
    rw [List.mapM_cons, Sem.run_bind, h1, Result.andThen_ok, Sem.run_bind, h2, Result.andThen_ok]
    simp
theorem allSz_mem : ∀ {fs : List Field}, allSz P fs = true → ∀ g ∈ fs, ∃ n, szT P g.type = some n
  | [], _, g, hg => by cases hg
  | x :: fs, h, g, hg => by
    simp only [allSz, Bool.and_eq_true] at h
    rcases List.mem_cons.1 hg with rfl | hg
    · exact Option.isSome_iff_exists.1 h.1
    · exact allSz_mem h.2 g hg
theorem buildC_run {ev : Operand → CV} {ρ : Operand → Value} (hev : ∀ x, Rp m (ρ x) (ev x)) {t : TypeId} {parts : Array (Nat × Operand)} {c : CV} (hc : buildC P ev t parts.toList = some c) :
    ∃ v, Rp m v c ∧ ∀ w, (Instr.build t (parts.map fun (i, x) => (i, ρ x))).run P w = .ok v w := by
  unfold buildC at hc
  split at hc
  case h_2 => cases hc
  rename_i z hz
  have hpl : (parts.map fun (x : Nat × Operand) => (x.1, ρ x.2)).toList = parts.toList.map fun x => (x.1, ρ x.2) := by simp
  split at hc
  · rename_i fs hu
    split at hc
    case h_2 => cases hc
    rename_i hall
    split at hc
    case h_2 => cases hc
    rename_i cs hcs
    injection hc with hc; subst hc
    have hmem := allSz_mem hall
    have hpm : ∀ w, (fs.mapM fun f => do pure (f.offset, ← sizeOf f.type) : Sem (Array (Nat × Nat))).run P w = .ok ((fs.toList.map fun f => (f.offset, (szT P f.type).getD 0)).toArray) w := fun w => by
      rw [Array.mapM_eq_mapM_toList, Sem.run_map]
      rw [mapM_ok (P := P) (g := fun f => do pure (f.offset, ← sizeOf f.type)) (k := fun f => (f.offset, (szT P f.type).getD 0)) (w := w) fs.toList (fun f hf => by
        obtain ⟨n, hn⟩ := hmem f hf
        simp [szT_run hn, hn])]
      rfl
    obtain ⟨vs, e1, e2⟩ := fillC_run hev (place' := fun i => ((fs.toList.map fun f => (f.offset, (szT P f.type).getD 0)).toArray)[i]?) (fun i p hp => by
      unfold placeS at hp
      split at hp
      · rename_i f hf
        split at hp
        · rename_i n hn
          injection hp with hp; subst hp
          simp [hf, hn]
        · cases hp
      · cases hp) parts.toList z.cells (z.cells.toList.map .lit) cs (LR.map_lit _) hcs
    refine ⟨.agg vs, ?_, fun w => ?_⟩
    · have := Rp.agg (m := m) vs.toList cs e2.1 e2.2
      simpa using this
    · simp only [Instr.build, Sem.run_bind, zeroT_run hz, Result.andThen_ok, run_underlying hu, hpm, hpl, e1, Sem.run_pure]
  · rename_i n e hu
    split at hc
    case h_2 => cases hc
    rename_i k hk
    split at hc
    case h_2 => cases hc
    rename_i cs hcs
    injection hc with hc; subst hc
    obtain ⟨vs, e1, e2⟩ := fillC_run hev (place' := fun i => some (i * k, k)) (fun i p hp => hp) parts.toList z.cells (z.cells.toList.map .lit) cs (LR.map_lit _) hcs
    refine ⟨.agg vs, ?_, fun w => ?_⟩
    · have := Rp.agg (m := m) vs.toList cs e2.1 e2.2
      simpa using this
    · simp only [Instr.build, Sem.run_bind, zeroT_run hz, Result.andThen_ok, run_underlying hu, szT_run hk, hpl, e1, Sem.run_pure]
  · cases hc
theorem fieldC_run {t : TypeId} {x c : CV} {i : Nat} {v : Value} (hx : Rp m v x) (hc : fieldC P t x i = some c) : ∃ u, Rp m u c ∧ ∀ w, (Instr.field t v i).run P w = .ok u w := by
  unfold fieldC at hc
  split at hc
  case h_2 => cases hc
  rename_i fs hu
  split at hc
  case h_2 => cases hc
  rename_i g hg
  split at hc
  case h_2 => cases hc
  rename_i cs hcs
  obtain ⟨vs, rfl, hvs⟩ := aggC_rep hx hcs
  obtain ⟨u, h1, h2⟩ := part_rep hvs _ hc
  exact ⟨u, h1, fun w => by simp [Instr.field, run_underlying hu, hg, asAgg, h2]⟩
theorem fieldAddrC_run {t : TypeId} {x c : CV} {i : Nat} {v : Value} (hx : Rp m v x) (hc : fieldAddrC P t x i = some c) : ∃ u, Rp m u c ∧ ∀ w, (Instr.fieldAt t v i).run P w = .ok u w := by
  unfold fieldAddrC at hc
  split at hc
  case h_2 => cases hc
  rename_i fs hu
  split at hc
  case h_2 => cases hc
  rename_i g hg
  split at hc
  case h_2 => cases hc
  rename_i n hn
  split at hc
  case h_2 => cases hc
  injection hc with hc; subst hc
  cases hx with
  | ptr _ _ p hp =>
    refine ⟨_, .ptr _ _ p hp, fun w => ?_⟩
    simp [Instr.fieldAt, run_underlying hu, hg, Instr.sureAddr, fieldPlace, szT_run hn, Addr.add_mid, Nat.add_assoc]
theorem indexAddrC_run {t : TypeId} {x y c : CV} {v u : Value} (hx : Rp m v x) (hy : Rp m u y) (hc : indexAddrC P t x y = some c) : ∃ r, Rp m r c ∧ ∀ w, (Instr.indexAt t v u).run P w = .ok r w := by
  unfold indexAddrC at hc
  split at hc
  · rename_i e hu
    split at hc
    case h_2 => cases hc
    rename_i b o n sz c1 x1
    split at hc
    case h_2 => cases hc
    rename_i i hi
    split at hc
    case h_2 => cases hc
    rename_i z hz
    split at hc
    case h_2 => cases hc
    rename_i hck
    rw [Bool.and_eq_true] at hck
    have hzz := Nat.eq_of_beq_eq_true hck.1
    have hlt : i < n := Nat.le_of_ble_eq_true hck.2
    subst hzz
    injection hc with hc; subst hc
    obtain ⟨k, rfl⟩ := natC_run hy hi
    cases hx with
    | sl _ _ _ _ _ _ c' q p hp hn hcc hxx hN hq =>
      have hq2 : q = p.o + o := by omega
      subst hq2
      refine ⟨_, .ptr b _ p hp, fun w => ?_⟩
      have e1 : (i : Int) < (n : Int) := by omega
      simp [Instr.indexAt, asIntOf, run_underlying hu, e1, hlt, Nat.not_le.2 hlt, szT_run hz, Addr.add_mid, Nat.add_assoc]
  · rename_i len e hu
    split at hc
    case h_2 => cases hc
    rename_i b o
    split at hc
    case h_2 => cases hc
    rename_i i hi
    split at hc
    case h_2 => cases hc
    rename_i z hz
    split at hc
    case h_2 => cases hc
    rename_i hck
    have hlt : i < len := Nat.le_of_ble_eq_true hck
    injection hc with hc; subst hc
    obtain ⟨k, rfl⟩ := natC_run hy hi
    cases hx with
    | ptr _ _ p hp =>
      refine ⟨_, .ptr b _ p hp, fun w => ?_⟩
      have e1 : (i : Int) < (len : Int) := by omega
      simp [Instr.indexAt, asIntOf, run_underlying hu, e1, hlt, Nat.not_le.2 hlt, szT_run hz, Addr.add_mid, Nat.add_assoc, Instr.sureAddr]
  · cases hc
theorem byte_at (s : ByteArray) (i : Nat) : s[i]? = s.data.toList[i]? := by
  rw [Array.getElem?_toList]
  rfl
theorem indexC_run {t : TypeId} {x y c : CV} {v u : Value} (hx : Rp m v x) (hy : Rp m u y) (hc : indexC P t x y = some c) : ∃ r, Rp m r c ∧ ∀ w, (Instr.index t v u).run P w = .ok r w := by
  unfold indexC at hc
  split at hc
  · rename_i hu
    split at hc
    case h_2 => cases hc
    rename_i s
    split at hc
    case h_2 => cases hc
    rename_i i hi
    split at hc
    case h_2 => cases hc
    rename_i b hb
    rw [nfN_eq] at hc
    injection hc with hc; subst hc
    obtain ⟨k, rfl⟩ := natC_run hy hi
    rw [hx.lit_eq]
    refine ⟨_, .lit _, fun w => ?_⟩
    have h1 : s[i]? = some b := by rw [byte_at]; exact hb
    simp [Instr.index, asIntOf, run_underlying hu, h1]
  · rename_i len e hu
    split at hc
    case h_2 => cases hc
    rename_i cs hcs
    split at hc
    case h_2 => cases hc
    rename_i i hi
    split at hc
    case h_2 => cases hc
    rename_i z hz
    split at hc
    case h_2 => cases hc
    rename_i hck
    have hlt : i < len := Nat.le_of_ble_eq_true hck
    obtain ⟨k, rfl⟩ := natC_run hy hi
    obtain ⟨vs, rfl, hvs⟩ := aggC_rep hx hcs
    obtain ⟨r, h1, h2⟩ := part_rep hvs _ hc
    refine ⟨r, h1, fun w => ?_⟩
    have e1 : (i : Int) < (len : Int) := by omega
    simp [Instr.index, asIntOf, run_underlying hu, e1, hlt, Nat.not_le.2 hlt, szT_run hz, h2]
  · cases hc
theorem entriesC_run (s : SR w0 m h w) {x : CV} {v : Value} (hx : Rp m v x) {es : List (Value × CV)} (hc : entriesC h x = some es) : (v = .map none ∧ es = []) ∨ ∃ (r : Nat) (E : Array MapEntry) (clk : Nat), v = .map (some r) ∧ w.heap[r]? = some (.map E clk) ∧ ER m E.toList es := by
  unfold entriesC at hc
  split at hc
  · rename_i b
    split at hc
    case h_2 => cases hc
    rename_i es' hb
    injection hc with hc; subst hc
    obtain ⟨p, E, clk, e1, e2, e3, e4, e5, e6⟩ := s.blk b _ hb
    cases hx with
    | mp _ p' hp =>
      rw [e1] at hp; injection hp with hp; subst hp
      exact .inr ⟨_, E, clk, rfl, e2, by simpa using e3, fun i hi => by simpa [Array.getD_eq_getD_getElem?, List.getD_eq_getElem?_getD] using e4 i hi⟩
  · injection hc with hc; subst hc
    exact .inl ⟨hx.lit_eq, rfl⟩
  · cases hc
theorem tup2 {u v : Value} {c d : CV} (h1 : Rp m u c) (h2 : Rp m v d) : Rp m (.tuple #[u, v]) (.tup [c, d]) := by
  have := (LR.nil (m := m)).cons h2 |>.cons h1
  exact .tup [u, v] [c, d] this.1 this.2
theorem lookupC_run (s : SR w0 m h w) {t : TypeId} {x y c : CV} {ok : Bool} {v u : Value} (hx : Rp m v x) (hy : Rp m u y) (hc : lookupC P h t x y ok = some c) : ∃ r, Rp m r c ∧ (Instr.lookup t v u ok).run P w = .ok r w := by
  unfold lookupC at hc
  split at hc
  case h_2 => cases hc
  rename_i kt e hu
  split at hc
  case h_2 => cases hc
  rename_i es hes
  split at hc
  case h_2 => cases hc
  rename_i k hk
  have hku := fixC_eq hy hk
  subst hku
  split at hc
  case h_2 => cases hc
  rename_i hko
  have hchk := fun em => keyOk_check hko em w
  have fin : ∀ (E : Array MapEntry), ER m E.toList es → (∀ (q : Option (Nat × Value)) (z r : Value), (∀ w, (Instr.findKey kt u E.toList).run P w = .ok q w) → (q = none → (zeroValue e).run P w = .ok z w) → r = (match q with | some (_, v) => (if ok then .tuple #[v, .bool true] else v) | none => (if ok then .tuple #[z, .bool false] else z)) → (Instr.lookup t v u ok).run P w = .ok r w) → ∃ r, Rp m r c ∧ (Instr.lookup t v u ok).run P w = .ok r w := by
    intro E hE hrun
    split at hc
    · rename_i j hf
      obtain ⟨q, q1, q2, rfl⟩ := findE_run hE hf
      injection hc with hc
      have h5 := (hE.2 j q2).2
      cases ok with
      | true =>
        subst hc
        exact ⟨_, tup2 h5 (.lit _), hrun _ undef _ q1 (fun h => by cases h) rfl⟩
      | false =>
        subst hc
        exact ⟨_, h5, hrun _ undef _ q1 (fun h => by cases h) rfl⟩
    · rename_i hf
      obtain ⟨q, q1, rfl⟩ := findE_run hE hf
      split at hc
      case h_2 => cases hc
      rename_i z hz
      injection hc with hc
      cases ok with
      | true =>
        subst hc
        exact ⟨_, tup2 (.lit _) (.lit _), hrun _ z _ q1 (fun _ => zeroT_run hz w) rfl⟩
      | false =>
        subst hc
        exact ⟨_, .lit _, hrun _ z _ q1 (fun _ => zeroT_run hz w) rfl⟩
    · cases hc
  rcases entriesC_run s hx hes with ⟨rfl, rfl⟩ | ⟨r, E, clk, rfl, h2, h3⟩
  · refine fin #[] ⟨rfl, fun i hi => absurd hi (Nat.not_lt_zero _)⟩ (fun q z r hq hz hr => ?_)
    subst hr
    have hq2 : ∀ w, (Instr.findKey kt u []).run P w = .ok q w := hq
    cases q with
    | none => simp [Instr.lookup, run_underlying hu, hchk, hq2, hz]
    | some q => simp [Instr.lookup, run_underlying hu, hchk, hq2]
  · refine fin E h3 (fun q z r hq hz hr => ?_)
    subst hr
    cases q with
    | none => simp [Instr.lookup, run_underlying hu, hchk, hq, hz, MapKept.run_getObj_map h2]
    | some q => simp [Instr.lookup, run_underlying hu, hchk, hq, MapKept.run_getObj_map h2]
theorem assertC_run {x c : CV} {xt t : TypeId} {ok : Bool} {v : Value} (hx : Rp m v x) (hc : assertC P x t ok = some c) : ∃ r, Rp m r c ∧ ∀ w, (Instr.typeAssert v xt t ok).run P w = .ok r w := by
  unfold assertC at hc
  split at hc
  · rename_i want hu
    split at hc
    · rename_i u y
      split at hc
      case h_2 => cases hc
      rename_i i hi
      cases hx with
      | ifc _ v1 _ hv =>
      split at hc
      · rename_i hm
        injection hc with hc; subst hc
        cases ok with
        | true => exact ⟨_, tup2 (.ifc u v1 y hv) (.lit _), fun w => by simp [Instr.typeAssert, run_underlying hu, typeInfo, hi, hm]⟩
        | false => exact ⟨_, .ifc u v1 y hv, fun w => by simp [Instr.typeAssert, run_underlying hu, typeInfo, hi, hm]⟩
      · rename_i nm hm
        split at hc
        case h_2 => cases hc
        split at hc
        case h_2 => cases hc
        rename_i z hz
        injection hc with hc; subst hc
        exact ⟨_, tup2 (.lit _) (.lit _), fun w => by simp [Instr.typeAssert, run_underlying hu, typeInfo, hi, hm, zeroT_run hz]⟩
    · split at hc
      case h_2 => cases hc
      split at hc
      case h_2 => cases hc
      rename_i z hz
      injection hc with hc; subst hc
      rw [hx.lit_eq]
      exact ⟨_, tup2 (.lit _) (.lit _), fun w => by simp [Instr.typeAssert, run_underlying hu, zeroT_run hz]⟩
    · cases hc
  · rename_i d hnd hu
    split at hc
    · rename_i u y
      cases hx with
      | ifc _ v1 _ hv =>
      split at hc
      · rename_i ht
        have ht := of_decide_eq_true ht
        subst ht
        injection hc with hc; subst hc
        cases ok with
        | true => exact ⟨_, tup2 hv (.lit _), fun w => by unfold Instr.typeAssert; cases d <;> first | exact absurd rfl (hnd _) | simp [run_underlying hu]⟩
        | false => exact ⟨_, hv, fun w => by unfold Instr.typeAssert; cases d <;> first | exact absurd rfl (hnd _) | simp [run_underlying hu]⟩
      · rename_i ht
        have ht := of_decide_eq_false ht
        split at hc
        case h_2 => cases hc
        split at hc
        case h_2 => cases hc
        rename_i z hz
        injection hc with hc; subst hc
        exact ⟨_, tup2 (.lit _) (.lit _), fun w => by unfold Instr.typeAssert; cases d <;> first | exact absurd rfl (hnd _) | simp [run_underlying hu, ht, zeroT_run hz]⟩
    · split at hc
      case h_2 => cases hc
      split at hc
      case h_2 => cases hc
      rename_i z hz
      injection hc with hc; subst hc
      rw [hx.lit_eq]
      exact ⟨_, tup2 (.lit _) (.lit _), fun w => by unfold Instr.typeAssert; cases d <;> first | exact absurd rfl (hnd _) | simp [run_underlying hu, zeroT_run hz]⟩
    · cases hc
  · cases hc
end
end Go.Proofs.YtboopmfjkepilaaGreatDoor.Run
