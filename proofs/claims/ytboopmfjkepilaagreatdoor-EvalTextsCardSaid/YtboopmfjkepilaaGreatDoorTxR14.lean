/-
  Texts of one proof, in their order. No condition.
-/
import Derived.RangeFuncIn
import Derived.RangeFuncLeaves
import Derived.LoopNIn
import Derived.Test.YtboopmfjkepilaaGreatDoorTxR13
namespace Go.Proofs.YtboopmfjkepilaaGreatDoor.Run
open Go.RowKit
set_option linter.unusedVariables false
set_option linter.unusedSimpArgs false
section
variable {P : Program} {w0 : Bs} {m : Mp} {h : Hp} {w : World} {a : Act} {f : Fr}
theorem Below.putObj' {B r : Nat} (hB : B ≤ r) {a w : World} (o : Obj) (k : Below B a w) : Below B a (w.putObj r o) :=
  ⟨k.os, k.tape, k.output, by rw [World.putObj_size]; exact k.size, fun i hi => (World.putObj_heap_other (by omega)).trans (k.block i hi)⟩
theorem SR.drop (s : SR w0 m h w) {b : Pa} {k : Blk} (hb : h.t.get b = some k) (hk : grp b k = (b, false)) {p : Pl} (hp : m b = some p) {w' : World} (hbel : Below w0.w.heap.size w w') (hrest : ∀ r, r ≠ p.r → w'.heap[r]? = w.heap[r]?) :
    SR w0 m { h with t := Tr.set none b h.t } w' := by
  have hget : ∀ c kc, (Tr.set none b h.t).get c = some kc → h.t.get c = some kc ∧ c ≠ b := fun c kc hc => by
    by_cases he : c = b
    · subst he; rw [Tr.get_set_eq] at hc; cases hc
    · rw [Tr.get_set_ne _ _ _ _ (Ne.symm he)] at hc; exact ⟨hc, he⟩
  have hoff : ∀ c kc q, h.t.get c = some kc → c ≠ b → m c = some q → q.r ≠ p.r := fun c kc q hc hne hq he => by
    have := s.apart c b kc k q p hc hb hq hp he
    rw [hk] at this
    cases kc <;> simp [grp] at this <;> exact hne this
  refine ⟨s.bel.turn hbel (s.dom b p hp).2.1 (fun i _ hi => hrest i hi), fun c q hq => ?_, fun c kc hc => ?_, fun c cs' g' hc => ?_, fun c d kc kd q1 q2 hc hd' h1 h2 he => ?_, fun g' L' hL' => ?_, s.lst⟩
  · obtain ⟨h1, h2, h3⟩ := s.dom c q hq
    exact ⟨h1, h2, Nat.lt_of_lt_of_le h3 hbel.size⟩
  · obtain ⟨e1, e2⟩ := hget c kc hc
    exact (s.blk c kc e1).keep (MLe.refl m) (fun q hq => hrest _ (hoff c kc q e1 e2 hq))
  · exact s.grl c cs' g' (hget c _ hc).1
  · exact s.apart c d kc kd q1 q2 (hget c kc hc).1 (hget d kd hd').1 h1 h2 he
  · exact (s.order g' L' hL').imp (fun {y x} ho cs1 ds1 q1 q2 h1 h2 h3 h4 hr => ho cs1 ds1 q1 q2 (hget y _ h1).1 (hget x _ h2).1 h3 h4 hr)
theorem run_enterLoop_inner {l : Nat} {r : Loop} (hl : w.heap[l]? = some (.loop r)) (fn : FuncId) (tmps : Array Value) (ps : Array Tmp) (assign body : Code) :
    (Instr.enterLoop fn tmps ps assign body (some l)).run P w = .ok (w.heap.size, []) (w.alloc (.loop { state := .ready, pending := none, fn, tmps, params := ps, assign, body, defers := r.defers })) := by
  unfold Instr.enterLoop
  simp only [Sem.run_bind, run_getLoop hl, run_newObj_alloc, Result.andThen, Sem.run_pure]
theorem entersB_run {g : FuncId} (hg : entersB P g = true) (args : Array Value) (w : World) : (callFunc g args).run P w = .ok (.enter g args) w := by
  unfold entersB at hg
  split at hg
  · rename_i fn hf
    rw [Bool.and_eq_true] at hg
    obtain ⟨h1, h2⟩ := hg
    have h1' : (fn.name == "runtime.NumGoroutine") = false := by simpa using h1
    obtain ⟨bd, hbd⟩ := Option.isSome_iff_exists.1 h2
    have h1'' : fn.name ≠ "runtime.NumGoroutine" := by simpa using h1'
    simp [callFunc, hf, h1'', hbd]
  · cases hg
theorem methC_run {t : TypeId} {v : Value} {c : CV} (hr : Rp m v c) {name : String} {g : FuncId} {c' : CV} (hc : methC P t c name = some (g, c')) (n : Nat) (w : World) : (method (n + 1) t v name).run P w = .ok (g, v) w ∧ c' = c := by
  unfold methC at hc
  split at hc
  case h_2 => cases hc
  rename_i i hi
  split at hc
  case h_2 => cases hc
  rename_i mt hmt
  split at hc
  case h_2 => cases hc
  rename_i hp
  split at hc
  case h_2 => cases hc
  rename_i g' pr hfn
  have key : ∀ d, P.underlying t = some d → ((∃ e, d = .pointer e ∧ pr = true) ∨ ((∀ e, d ≠ .pointer e) ∧ pr = false)) → (method (n + 1) t v name).run P w = .ok (g', v) w := fun d hd hor => by
    have hpe : mt.path = #[] := by rw [← Array.toList_inj]; simpa using hp
    simp only [method, Sem.run_bind, typeInfo, hi, hmt, hp, follow, Sem.run_pure, Result.andThen, hfn, hpe]
    rcases hor with ⟨e, rfl, rfl⟩ | ⟨h1, rfl⟩
    · simp [receiverAt, run_underlying hd, Place.get, hi, hmt, hp, follow, hfn, hpe]
    · cases d <;> first | exact absurd rfl (h1 _) | simp [receiverAt, run_underlying hd, Place.get, hi, hmt, hp, follow, hfn, hpe]
  split at hc
  · rename_i e hu
    split at hc
    · simp only [Option.some.injEq, Prod.mk.injEq] at hc
      obtain ⟨rfl, rfl⟩ := hc
      exact ⟨key _ hu (.inl ⟨e, rfl, rfl⟩), rfl⟩
    · cases hc
  · rename_i d hne hu
    split at hc
    · simp only [Option.some.injEq, Prod.mk.injEq] at hc
      obtain ⟨rfl, rfl⟩ := hc
      exact ⟨key _ hu (.inr ⟨fun e he => by subst he; exact hne _ rfl, rfl⟩), rfl⟩
    · cases hc
  · cases hc
theorem calleeC_run (hf : FT m a.tmps f) {c : Call} {o : Oper} (ho : o.op = .call c) {g : FuncId} {cs : List CV} (hc : calleeC P (evO f) c = some (g, cs)) (w : World) : ∃ us : Array Value, LR m us.toList cs ∧ (execOp a.eval o).run P w = .ok (.enter g us) w := by
  have hargs : LR m (c.args.map a.eval).toList (c.args.toList.map (evO f)) := by rw [Array.toList_map]; exact hf.evs _
  unfold calleeC at hc
  split at hc
  · rename_i fo hcal
    split at hc
    case h_2 => cases hc
    rename_i g' fst cap hev
    split at hc
    case h_2 => cases hc
    rename_i hen
    simp only [Option.some.injEq, Prod.mk.injEq] at hc
    obtain ⟨rfl, rfl⟩ := hc
    have h1 := hf.ev fo
    rw [hev] at h1
    generalize hv : a.eval fo = v at h1
    cases h1 with
    | fn _ us vs _ _ hl hr hl2 hr2 =>
      refine ⟨us.toArray ++ c.args.map a.eval ++ vs.toArray, ?_, ?_⟩
      · have l1 : LR m us fst := ⟨hl, hr⟩
        have l2 : LR m vs cap := ⟨hl2, hr2⟩
        have := l1.append (hargs.append l2)
        simpa [List.append_assoc] using this
      · simp [execOp, ho, resolve, hcal, hv, Deferred.ofValue, invoke, entersB_run hen]
  · rename_i r name hcal
    split at hc
    case h_2 => cases hc
    rename_i t v hev
    split at hc
    case h_2 => cases hc
    rename_i g' rv hm
    split at hc
    case h_2 => cases hc
    rename_i hen
    simp only [Option.some.injEq, Prod.mk.injEq] at hc
    obtain ⟨rfl, rfl⟩ := hc
    have h1 := hf.ev r
    rw [hev] at h1
    generalize hv : a.eval r = u at h1
    cases h1 with
    | ifc _ u' _ hr =>
      obtain ⟨k1, rfl⟩ := methC_run hr hm (P.types.size + 99) w
      refine ⟨#[u'] ++ c.args.map a.eval, ?_, ?_⟩
      · have := LR.cons hr hargs
        simpa using this
      · have k1' : (method (P.types.size + Made.depth) t u' name).run P w = .ok (g', u') w := k1
        have e1 : (#[Value.iface t u'] ++ c.args.map a.eval)[0]? = some (Value.iface t u') := by simp [Array.getElem?_append]
        have e2 : (#[Value.iface t u'] ++ c.args.map a.eval).extract 1 (#[Value.iface t u'] ++ c.args.map a.eval).size = c.args.map a.eval := by
          apply Array.ext'
          have : c.args.size = (List.map a.eval c.args.toList).length := by simp
          simp only [Array.toList_extract, Array.size_append, Array.size_map, Array.toList_append, List.size_toArray, Array.toList_map, List.extract_eq_take_drop]
          rw [List.take_of_length_le (by simp)]
          rfl
        have e3 : (invoke (.fn (.method name) #[]) (#[Value.iface t u'] ++ c.args.map a.eval)).run P w = .ok (.enter g' (#[u'] ++ c.args.map a.eval)) w := by
          unfold invoke
          rw [e1]
          simp only [e2, callMethod, Sem.run_bind, program, Sem.run, Result.andThen, k1', entersB_run hen]
        have e4 : (execOp a.eval o).run P w = (invoke (.fn (.method name) #[]) (#[Value.iface t u'] ++ c.args.map a.eval)).run P w := by
          unfold execOp
          rw [ho]
          simp only [resolve, hcal, hv, Sem.run_bind, Sem.run_pure, Result.andThen]
        rw [e4, e3]
  · cases hc
theorem yieldC_run (hf : FT m a.tmps f) {c : Call} {o : Oper} (ho : o.op = .call c) {l : Pa} {cs : List CV} (hc : yieldC (evO f) c = some (l, cs)) (w : World) : ∃ (us : Array Value) (p : Pl), LR m us.toList cs ∧ m l = some p ∧ (execOp a.eval o).run P w = (Instr.yield p.r us).run P w := by
  have hargs : LR m (c.args.map a.eval).toList (c.args.toList.map (evO f)) := by rw [Array.toList_map]; exact hf.evs _
  unfold yieldC at hc
  split at hc
  case h_2 => cases hc
  rename_i fo hcal
  split at hc
  case h_2 => cases hc
  rename_i l' hev
  simp only [Option.some.injEq, Prod.mk.injEq] at hc
  obtain ⟨rfl, rfl⟩ := hc
  have h1 := hf.ev fo
  rw [hev] at h1
  generalize hv : a.eval fo = v at h1
  cases h1 with
  | yl _ p hp =>
    exact ⟨c.args.map a.eval, p, hargs, hp, by simp [execOp, ho, resolve, hcal, hv, Deferred.ofValue, invoke]⟩
theorem set_same (C : Array Value) (t : Nat) : C.setIfInBounds t (C.getD t undef) = C := by
  apply Array.ext (by simp)
  intro i h1 h2
  by_cases he : t = i
  · subst he; simp [Array.getD_eq_getD_getElem?, h2]
  · rw [Array.getElem_setIfInBounds]; rw [if_neg he]
theorem FT.see {tmps : Array Value} (hf : FT m tmps f) (t : Nat) {c : CV} (hr : Rp m (tmps.getD t undef) c) : FT m tmps (f.put (some t) c) := by
  have := FT.put (a := { tmps := tmps, defers := [] }) hf (some t) hr
  simp only [Act.put, set_same] at this
  exact this
theorem FT.sees {tmps : Array Value} : ∀ (ts : List Nat) (cs : List CV) {f : Fr}, FT m tmps f → (∀ i, i < ts.length → i < cs.length → Rp m (tmps.getD (ts.getD i 0) undef) (cs.getD i .any)) → FT m tmps (putAll f ts cs)
  | [], _, _, hf, _ => by simpa [putAll] using hf
  | _ :: _, [], _, hf, _ => by simpa [putAll] using hf
  | t :: ts, c :: cs, f, hf, hr => by
    simp only [putAll]
    refine FT.sees ts cs (hf.see t ?_) (fun i h1 h2 => ?_)
    · simpa using hr 0 (by simp) (by simp)
    · simpa using hr (i + 1) (by simpa using h1) (by simpa using h2)
theorem FT.puts : ∀ (ps : List Nat) (us : List Value) (cs : List CV) {tmps : Array Value} {f : Fr}, FT m tmps f → LR m us cs → FT m ((ps.zip us).foldl (fun tmps x => tmps.setIfInBounds x.1 x.2) tmps) (putAll f ps cs)
  | [], _, _, _, _, hf, _ => by simpa [putAll] using hf
  | _ :: _, [], [], _, _, hf, _ => by simpa [putAll] using hf
  | p :: ps, u :: us, c :: cs, tmps, f, hf, hr => by
    simp only [putAll, List.zip_cons_cons, List.foldl_cons]
    refine FT.puts ps us cs ?_ hr.hd.2
    have := FT.put (a := { tmps := tmps, defers := [] }) hf (some p) hr.hd.1
    simpa [Act.put] using this
  | _ :: _, [], _ :: _, _, _, _, hr => by simp [LR] at hr
  | _ :: _, _ :: _, [], _, _, _, hr => by simp [LR] at hr
theorem FT.none {tmps : Array Value} {n : Nat} (hn : tmps.size = n) : FT m tmps ⟨.lf, n⟩ := ⟨hn, fun t => by simp [Fr.get, Tr.get_lf]; exact .any _⟩
theorem upTo_length : ∀ n, (upTo n).length = n
  | 0 => rfl
  | n + 1 => by simp [upTo, upTo_length n]
theorem upTo_at : ∀ (n i : Nat), i < n → (upTo n).getD i 0 = i
  | n + 1, i, hi => by
    by_cases he : i = n
    · subst he
      simp [upTo, List.getD_eq_getElem?_getD, List.getElem?_append_right, upTo_length]
    · have := upTo_at n i (by omega)
      simp only [upTo, List.getD_eq_getElem?_getD] at this ⊢
      rw [List.getElem?_append_left (by rw [upTo_length]; omega)]
      exact this
theorem FT.enter {us : Array Value} {cs : List CV} (hr : LR m us.toList cs) (k n : Nat) (hn : n = us.size + (k - us.size)) : FT m (us ++ Array.replicate (k - us.size) undef) (putAll ⟨.lf, n⟩ (upTo cs.length) cs) := by
  refine FT.sees _ _ (FT.none (by simp [hn])) (fun i h1 h2 => ?_)
  rw [upTo_length] at h1
  rw [upTo_at _ _ h1]
  have := hr.2 i h1
  have hlt : i < us.size := by have := hr.1; simp at this; omega
  simp only [Array.getD_eq_getD_getElem?, List.getD_eq_getElem?_getD] at this ⊢
  rw [Array.getElem?_append_left hlt]
  simpa using this
def resS (tmps : Array Value) : ResultVar → Sem Value
  | .tmp t => pure (tmps.getD t undef)
  | .cell a t => do loadVar t (← asAddr (tmps.getD a undef))
theorem resL_run (s : SR w0 m h w) {tmps : Array Value} (hf : FT m tmps f) : ∀ (rs : List ResultVar) (l : List CV), resL P f h rs = some l → ∃ vs : List Value, LR m vs l ∧ (rs.mapM (resS tmps)).run P w = .ok vs w
  | [], l, hl => by
    injection hl with hl; subst hl
    exact ⟨[], LR.nil, by simp⟩
  | .tmp t :: r, l, hl => by
    unfold resL at hl
    split at hl
    case h_2 => cases hl
    rename_i l' hl'
    injection hl with hl; subst hl
    obtain ⟨vs, h1, h2⟩ := resL_run s hf r l' hl'
    refine ⟨tmps.getD t undef :: vs, LR.cons (hf.rep t) h1, ?_⟩
    rw [List.mapM_cons]
    simp only [Sem.run_bind, resS, Sem.run_pure, Result.andThen, h2]
  | .cell x t :: r, l, hl => by
    unfold resL at hl
    split at hl
    case h_2 => cases hl
    rename_i b o hx
    split at hl
    case h_2 => cases hl
    rename_i c l' hc hl'
    injection hl with hl; subst hl
    obtain ⟨vs, h1, h2⟩ := resL_run s hf r l' hl'
    obtain ⟨v, p, k1, k2, k3⟩ := load_rep s hc
    have := hf.rep x
    rw [hx] at this
    generalize hv : tmps.getD x undef = u at this
    cases this with
    | ptr _ _ q hq =>
      rw [k2] at hq; injection hq with hq; subst hq
      refine ⟨v :: vs, LR.cons k1 h1, ?_⟩
      rw [List.mapM_cons]
      simp only [Sem.run_bind, resS, Sem.run_pure, Result.andThen, hv, asAddr, k3, h2]
theorem results_run (s : SR w0 m h w) {tmps : Array Value} (hf : FT m tmps f) {fn : Func} {l : List CV} (hl : resL P f h fn.results.toList = some l) {c : CV} (hc : oneR l = c) : ∃ v, Rp m v c ∧ (results fn tmps).run P w = .ok v w := by
  obtain ⟨vs, h1, h2⟩ := resL_run (P := P) s hf _ l hl
  have h3 : (results fn tmps).run P w = .ok (if h : vs.toArray.size = 1 then vs.toArray[0] else .tuple vs.toArray) w := by
    have e1 : results fn tmps = (do let vs ← fn.results.mapM (resS tmps); pure (if h : vs.size = 1 then vs[0] else .tuple vs)) := by
      unfold results
      congr 1
    rw [e1, Sem.run_bind, Array.mapM_eq_mapM_toList]
    simp only [Sem.run_map, h2, Result.andThen, Sem.run_pure]
  rw [h3]
  clear hl
  match l, vs, h1, hc with
  | [r], [v], h1, hc => exact ⟨v, by simpa [← hc, oneR] using h1.hd.1, by simp⟩
  | [], [], h1, hc => exact ⟨.tuple #[], by rw [← hc]; exact .tup [] [] h1.1 h1.2, by simp⟩
  | a :: b :: l, a' :: b' :: l', h1, hc => exact ⟨.tuple (a' :: b' :: l').toArray, by rw [← hc]; exact .tup _ _ h1.1 h1.2, by simp⟩
  | [], _ :: _, h1, _ => simp [LR] at h1
  | [_], [], h1, _ => simp [LR] at h1
  | [_], _ :: _ :: _, h1, _ => simp [LR] at h1
  | _ :: _ :: _, [], h1, _ => simp [LR] at h1
  | _ :: _ :: _, [_], h1, _ => simp [LR] at h1
end
end Go.Proofs.YtboopmfjkepilaaGreatDoor.Run
