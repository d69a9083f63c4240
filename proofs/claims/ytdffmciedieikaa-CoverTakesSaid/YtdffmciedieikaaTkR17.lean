/-
  Texts of one proof, in their order. No condition.
-/
import Derived.Test.YtdffmciedieikaaTkR16
namespace Go.Proofs.Ytdffmciedieikaa.Run
open Go.RowKit
set_option linter.unusedVariables false
set_option linter.unusedSimpArgs false
section
variable {P : Program} {w0 : Bs} {m : Mp} {h : Hp} {w : World} {a : Act} {f : Fr} {ih : Tk → Option Rs}
theorem callsIn_fc {r : Option Nat} {n : Nat} {g : FuncId} {us : Array Value} {R : Ending → World → Prop} (h : CallsIn (Fc none) n P g us w R) : CallsIn (Fc r) n P g us w R := h
theorem loopR_wp (I : Snd P ih) {rd : Option Pa} {b : Code} {n : Nat} {r : Option Nat} {R : Exit → Act → World → Prop} {x : Ex} {f' : Fr} {D' : List AD} {h' : Hp} : ∀ (N : Nat) {f : Fr} {D : List AD} {h : Hp} {m : Mp} {a : Act} {w : World}, loopR ih rd b N f D h = some (.code x f' D' h') → SR w0 m h w → FT m a.tmps f → DR m a.defers D → Rd m r rd →
    (∀ m' a' w', MLe m m' → SR w0 m' h' w' → FT m' a'.tmps f' → DR m' a'.defers D' → R (exitOf x) a' w') → Code.roundsIn (Fc r) n P b R N a w
  | 0, f, D, h, m, a, w, hc, _, _, _, _, _ => by simp [loopR] at hc
  | N + 1, f, D, h, m, a, w, hc, s, hf, hd, hr, hk => by
    rw [roundsIn_succ]
    unfold loopR at hc
    split at hc
    · rename_i f1 D1 h1 hb
      exact I.code hb n m a w r _ s hf hd hr (fun m' a' w' hm s' hf' hd' => loopR_wp I N hc s' hf' hd' (hr.mono hm) (fun m'' a'' w'' hm' => hk m'' a'' w'' (hm.trans hm')))
    · rename_i x1 f1 D1 h1 hne hb
      simp only [Option.some.injEq, Rs.code.injEq] at hc
      obtain ⟨rfl, rfl, rfl, rfl⟩ := hc
      refine I.code hb n m a w r _ s hf hd hr (fun m' a' w' hm s' hf' hd' => ?_)
      have := hk m' a' w' hm s' hf' hd'
      cases x1 <;> first | exact (hne rfl).elim | exact this
    · cases hc
theorem enterR_spec {rd : Option Pa} {r : Option Nat} {D D1 : List AD} {h1 : Hp} {d : Pa} (hc : enterR rd D h = some (d, h1, D1)) (s : SR w0 m h w) (hr : Rd m r rd) {ds : List Deferred} (hd : DR m ds D) :
    ∃ (m1 : Mp) (w1 : World) (mark : List Deferred) (q : Pl), MLe m m1 ∧ SR w0 m1 h1 w1 ∧ m1 d = some q ∧ DR m1 (mark ++ ds) D1 ∧ ∀ fn tmps ps assign body, (Instr.enterLoop fn tmps ps assign body r).run P w = .ok (w1.heap.size, mark) (w1.alloc (.loop { state := .ready, pending := none, fn, tmps, params := ps, assign, body, defers := q.r })) := by
  unfold enterR at hc
  split at hc
  · simp only [Option.some.injEq, Prod.mk.injEq] at hc
    obtain ⟨rfl, rfl, rfl⟩ := hc
    cases r with
    | some l => exact hr.elim
    | none =>
      have hmle := mset_le s ⟨w.heap.size, 0, 0⟩
      have e1 : mset m h.n ⟨w.heap.size, 0, 0⟩ h.n = some ⟨w.heap.size, 0, 0⟩ := by simp [mset]
      refine ⟨mset m h.n ⟨w.heap.size, 0, 0⟩, w.alloc (.deferred (some [])), [{ target := .collected w.heap.size, args := #[] }], ⟨w.heap.size, 0, 0⟩, hmle, ?_, e1, ⟨⟨_, e1, rfl⟩, hd.mono hmle⟩, fun fn tmps ps assign body => ?_⟩
      · exact s.new .dfr ⟨w.heap.size, 0, 0⟩ (Below.alloc (Below.refl _ _) (Nat.le_refl _) _) (Nat.le_refl _) (by simp) ⟨_, e1, World.alloc_heap_new w _⟩ (fun cs g he => by cases he)
      · rw [run_enterLoop_outer]
        simp
  · rename_i l
    split at hc
    case h_2 => cases hc
    rename_i st pend fr ps as bd d' hget
    simp only [Option.some.injEq, Prod.mk.injEq] at hc
    obtain ⟨rfl, rfl, rfl⟩ := hc
    cases r with
    | none => exact hr.elim
    | some l' =>
      obtain ⟨p, hp, rfl⟩ := hr
      obtain ⟨p', q, fn, tmps, e1, e2, e3, e4⟩ := s.blk l _ hget
      rw [hp] at e1; injection e1 with e1; subst e1
      exact ⟨m, w, [], q, MLe.refl m, s, e2, hd, fun fn tmps ps assign body => run_enterLoop_inner e3 fn tmps ps assign body⟩
theorem marks_leave {n : Nat} {fn : Func} {tmps : Array Value} {R : Ending → World → Prop} {h2 : Hp} : ∀ (D : List AD) {ds : List Deferred} {h : Hp} {w : World}, marksR D h = some h2 → SR w0 m h w → DR m ds D → (∀ w2, SR w0 m h2 w2 → LeavesIn (Fc none) n P fn tmps R [] .returning w2) → LeavesInM (Fc none) n P fn tmps R ds .returning w
  | [], [], h, w, hc, s, hd, hk => by
    simp only [marksR, Option.some.injEq] at hc
    subst hc
    exact hk w s
  | [], _ :: _, _, _, _, _, hd, _ => hd.elim
  | .mark d :: D, [], _, _, _, _, hd, _ => hd.elim
  | .mark d :: D, x :: ds, h, w, hc, s, hd, hk => by
    unfold marksR at hc
    split at hc
    case h_2 => cases hc
    rename_i hget
    obtain ⟨⟨p, hp, htar⟩, hrest⟩ := hd
    obtain ⟨p', e1, e2⟩ := s.blk d _ hget
    rw [hp] at e1; injection e1 with e1; subst e1
    refine ⟨by simp, .inl ⟨p.r, _, htar, run_takeDeferred e2, ?_⟩⟩
    exact marks_leave D hc (s.drop hget rfl hp (Below.putObj' (s.dom _ _ hp).2.1.1 _ (Below.refl _ _)) (fun r hr => World.putObj_heap_other hr)) hrest hk
set_option maxHeartbeats 1000000 in
theorem step_snd (hm : P.follows .mixedOrders = true) (I : Snd P ih) : Snd P (step P ih) where
  code := by
    intro rd c f D h x f' D' h' hc w0 n m a w r R s hf hd hr hk
    unfold step at hc
    simp only at hc
    split at hc
    · simp only [Option.some.injEq, Rs.code.injEq] at hc
      obtain ⟨rfl, rfl, rfl, rfl⟩ := hc
      exact wpIn_skip (hk m a w (MLe.refl m) s hf hd)
    · simp only [Option.some.injEq, Rs.code.injEq] at hc
      obtain ⟨rfl, rfl, rfl, rfl⟩ := hc
      exact wpIn_label (hk m a w (MLe.refl m) s hf hd)
    · simp only [Option.some.injEq, Rs.code.injEq] at hc
      obtain ⟨rfl, rfl, rfl, rfl⟩ := hc
      exact wpIn_ret (hk m a w (MLe.refl m) s hf hd)
    · simp only [Option.some.injEq, Rs.code.injEq] at hc
      obtain ⟨rfl, rfl, rfl, rfl⟩ := hc
      exact wpIn_exit (hk m a w (MLe.refl m) s hf hd)
    · rename_i c1 c2
      refine wpIn_seq ?_
      split at hc
      · rename_i f1 D1 h1 h1c
        exact I.code h1c n m a w r _ s hf hd hr (fun m' a' w' hm' s' hf' hd' => I.code hc n m' a' w' r R s' hf' hd' (hr.mono hm') (fun m'' a'' w'' hm'' => hk m'' a'' w'' (hm'.trans hm'')))
      · rename_i x1 f1 D1 h1 hne h1c
        simp only [Option.some.injEq, Rs.code.injEq] at hc
        obtain ⟨rfl, rfl, rfl, rfl⟩ := hc
        refine I.code h1c n m a w r _ s hf hd hr (fun m' a' w' hm s' hf' hd' => ?_)
        have := hk m' a' w' hm s' hf' hd'
        cases x1 <;> first | exact (hne rfl).elim | exact this
      · cases hc
    · rename_i cx c1 c2
      split at hc
      · rename_i hx
        have := hf.ev cx
        rw [hx] at this
        exact wpIn_cond_true this.lit_eq (I.code hc n m a w r R s hf hd hr hk)
      · rename_i hx
        have := hf.ev cx
        rw [hx] at this
        exact wpIn_cond_false this.lit_eq (I.code hc n m a w r R s hf hd hr hk)
      · cases hc
    · rename_i id b
      refine wpIn_block ?_
      split at hc
      · rename_i i f1 D1 h1 h1c
        split at hc
        · rename_i hb
          have := Nat.eq_of_beq_eq_true hb
          subst this
          simp only [Option.some.injEq, Rs.code.injEq] at hc
          obtain ⟨rfl, rfl, rfl, rfl⟩ := hc
          refine I.code h1c n m a w r _ s hf hd hr (fun m' a' w' hm s' hf' hd' => ?_)
          have := hk m' a' w' hm s' hf' hd'
          simpa [exitOf, Exit.inBlock] using this
        · rename_i hb
          simp only [Option.some.injEq, Rs.code.injEq] at hc
          obtain ⟨rfl, rfl, rfl, rfl⟩ := hc
          refine I.code h1c n m a w r _ s hf hd hr (fun m' a' w' hm s' hf' hd' => ?_)
          have := hk m' a' w' hm s' hf' hd'
          have hne : i ≠ id := fun he => by subst he; rw [Nat.beq_refl] at hb; cases hb
          simpa [exitOf, Exit.inBlock, hne] using this
      · rename_i x1 f1 D1 h1 hne h1c
        simp only [Option.some.injEq, Rs.code.injEq] at hc
        obtain ⟨rfl, rfl, rfl, rfl⟩ := hc
        refine I.code h1c n m a w r _ s hf hd hr (fun m' a' w' hm s' hf' hd' => ?_)
        have := hk m' a' w' hm s' hf' hd'
        cases x1 <;> first | exact (hne _ rfl).elim | exact this
      · cases hc
    · rename_i b
      exact wpIn_loop_rounds _ (loopR_wp I _ hc s hf hd hr hk)
    · rename_i id ops
      split at hc
      case h_2 => cases hc
      rename_i f1 h1 hop
      simp only [Option.some.injEq, Rs.code.injEq] at hc
      obtain ⟨rfl, rfl, rfl, rfl⟩ := hc
      exact wpIn_region_list (opsR_wp I _ s hf hop (fun m' a' w' hm s' hf' hd' => hk m' a' w' hm s' hf' (by rw [hd']; exact hd.mono hm)))
    · rename_i id ops
      split at hc
      case h_2 => cases hc
      rename_i f1 h1 hop
      simp only [Option.some.injEq, Rs.code.injEq] at hc
      obtain ⟨rfl, rfl, rfl, rfl⟩ := hc
      exact anyR_wp I hm s hf hop (fun m' a' w' hm s' hf' hd' => hk m' a' w' hm s' hf' (by rw [hd']; exact hd.mono hm))
    · rename_i g params assign body
      split at hc
      case h_2 => cases hc
      rename_i gid fst cap hg
      split at hc
      case h_1 => cases hc
      rename_i hen
      split at hc
      case h_1 => cases hc
      rename_i d h1 D1 hent
      split at hc
      case h_2 => cases hc
      rename_i c2 h2 hcall
      obtain ⟨m1, w1, mark, q, k1, k2, k3, k4, k5⟩ := enterR_spec (P := P) hent s hr hd
      refine wpIn_rangeFunc (fun fn _ => ?_)
      have hev := hf.ev g
      rw [hg] at hev
      generalize hv : a.eval g = v at hev
      cases hev with
      | fn _ us vs _ _ hl hrr hl2 hrr2 =>
        have hm2 := mset_le k2 ⟨w1.heap.size, 0, 0⟩
        have e1 : mset m1 h1.n ⟨w1.heap.size, 0, 0⟩ h1.n = some ⟨w1.heap.size, 0, 0⟩ := by simp [mset]
        have s2 := k2.new (.loop .ready none f params assign body d) ⟨w1.heap.size, 0, 0⟩ (w' := w1.alloc (.loop { state := .ready, pending := none, fn, tmps := a.tmps, params, assign, body, defers := q.r })) (Below.alloc (Below.refl _ _) (Nat.le_refl _) _) (Nat.le_refl _) (by simp) ⟨_, q, fn, a.tmps, e1, hm2 _ _ k3, World.alloc_heap_new w1 _, hf.mono (k1.trans hm2)⟩ (fun cs g he => by cases he)
        refine ⟨w1.heap.size, mark, _, { target := .fn (.func gid) vs.toArray, args := us.toArray ++ #[.func (.yield w1.heap.size) #[] #[]] }, w1.alloc (.loop { state := .ready, pending := none, fn, tmps := a.tmps, params, assign, body, defers := q.r }), gid, us.toArray ++ #[.func (.yield w1.heap.size) #[] #[]] ++ vs.toArray, w1.alloc (.loop { state := .ready, pending := none, fn, tmps := a.tmps, params, assign, body, defers := q.r }), k5 fn a.tmps params assign body, ?_, fun _ _ => fcfn _ _, by simp only [invoke]; exact entersB_run hen _ _, fcdepth _, ?_⟩
        · have hce : ∀ v, a.eval (.const v) = v := fun _ => rfl
          unfold resolve
          simp only [rangeCall, List.map_toArray, List.map_cons, List.map_nil, hv, hce, Deferred.ofValue, Sem.run_pure]
        · refine I.call hcall (n - 1) _ _ _ r _ s2 ?_ (fun m3 v w3 hm3 s3 hr3 => ?_)
          · have l1 : LR (mset m1 h1.n ⟨w1.heap.size, 0, 0⟩) us fst := LR.mono (k1.trans hm2) ⟨hl, hrr⟩
            have l2 : LR (mset m1 h1.n ⟨w1.heap.size, 0, 0⟩) vs cap := LR.mono (k1.trans hm2) ⟨hl2, hrr2⟩
            have := l1.append (LR.cons (.yl h1.n ⟨w1.heap.size, 0, 0⟩ e1) l2)
            simpa [List.append_assoc] using this
          · unfold leaveR at hc
            split at hc
            case h_2 => cases hc
            rename_i st pend fr ps as bd d2 hget
            have hp3 := hm3 _ _ e1
            obtain ⟨p', q3, fn3, tmps3, j1, j2, j3, j4⟩ := s3.blk h1.n _ hget
            rw [hp3] at j1; injection j1 with j1; subst j1
            have hlt3 := (s3.dom _ _ hp3).2.2
            have hmm := (k1.trans hm2).trans hm3
            have s4 : SR w0 m3 (h2.turn h1.n (.loop .exhausted pend fr ps as bd d2)) (w3.putObj w1.heap.size (.loop { state := .exhausted, pending := pend, fn := fn3, tmps := tmps3, params := ps, assign := as, body := bd, defers := q3.r })) :=
              s3.turn hget rfl rfl hp3 (Below.putObj' (s3.dom _ _ hp3).2.1.1 _ (Below.refl _ _)) ⟨_, q3, fn3, tmps3, hp3, j2, World.putObj_heap_same hlt3, j4⟩ (fun r hr => World.putObj_heap_other hr)
            have fin : st ≠ .busy → (match pend with
                | none => some (Rs.code .normal f D1 (h2.turn h1.n (.loop .exhausted pend fr ps as bd d2)))
                | some j => ih (.code rd j f D1 (h2.turn h1.n (.loop .exhausted pend fr ps as bd d2)))) = some (.code x f' D' h') → rangePost (Fc r) n P w1.heap.size R { a with defers := mark ++ a.defers } (.returned v) w3 := fun hst hc => by
              refine ⟨_, _, run_endLoop j3 hst, ?_⟩
              cases pend with
              | none =>
                simp only [Option.some.injEq, Rs.code.injEq] at hc
                obtain ⟨rfl, rfl, rfl, rfl⟩ := hc
                exact hk m3 _ _ hmm s4 (hf.mono hmm) (k4.mono (hm2.trans hm3))
              | some j =>
                exact I.code hc n m3 _ _ r R s4 (hf.mono hmm) (k4.mono (hm2.trans hm3)) (hr.mono hmm) (fun m'' a'' w'' hm'' => hk m'' a'' w'' (hmm.trans hm''))
            split at hc
            · cases hc
            · rename_i hst
              exact fin hst hc
    · cases hc
  call := by
    intro g cs h c h' hc w0 n m us w r R s hr hk
    unfold step at hc
    simp only at hc
    split at hc
    · cases hc
    · rename_i fn hfn
      split at hc
      · cases hc
      · rename_i cd hbody
        rw [nfN_eq] at hc
        split at hc
        case h_2 => cases hc
        rename_i x f1 D1 h1 hrun
        split at hc
        · cases hc
        · rename_i hx
          split at hc
          case h_1 => cases hc
          rename_i h2 hmarks
          split at hc
          case h_2 => cases hc
          rename_i l hres
          simp only [Option.some.injEq, Rs.ret.injEq] at hc
          obtain ⟨hcc, rfl⟩ := hc
          refine callsIn_fc (callsIn_of_wp_marks hfn hbody (fcfn _ _) ?_ rfl)
          have hlen : us.size = cs.length := by have := hr.1; simpa using this
          refine I.code hrun n m _ w none _ s (FT.enter hr fn.ntmps _ (by rw [hlen])) trivial trivial (fun m' a' w' hm s' hf' hd' => ?_)
          have fin : LeavesInM (Fc none) n P fn a'.tmps R a'.defers .returning w' := marks_leave D1 hmarks s' hd' (fun w2 s2 => by
            obtain ⟨v, k1, k2⟩ := results_run (P := P) s2 hf' hres hcc
            exact ⟨v, k2, hk m' v w2 hm s2 k1⟩)
          cases x <;> first | exact fin | cases hx
theorem run_snd (hm : P.follows .mixedOrders = true) : ∀ N, Snd P (run P N)
  | 0 => ⟨fun h => by simp [run] at h, fun h => by simp [run] at h⟩
  | N + 1 => step_snd hm (run_snd hm N)
theorem run_calls (hm : P.follows .mixedOrders = true) {N : Nat} {g : FuncId} {v : Value} {h' : Hp} (hc : run P N (.call g [] ⟨.lf, .lf, .e⟩) = some (.ret (.lit v) h')) (w : World) : Calls P g #[] w fun e w' => e = .returned v ∧ Below w.heap.size w w' :=
  callsIn_wide.1 ((run_snd hm N).call hc 0 (fun _ => none) #[] w none _ (SR.zero w) LR.nil (fun m' v' w' _ s' hr => ⟨by rw [hr.lit_eq], s'.bel.1⟩))
end
end Go.Proofs.Ytdffmciedieikaa.Run
