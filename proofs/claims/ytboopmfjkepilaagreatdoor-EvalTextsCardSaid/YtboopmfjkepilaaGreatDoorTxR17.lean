/-
  Texts of one proof, in their order. No condition.
-/
import Derived.Scope
import Derived.AtR
import Derived.RecoverIn
import Derived.Test.YtboopmfjkepilaaGreatDoorTxR16
namespace Go.Proofs.YtboopmfjkepilaaGreatDoor.Run
open Go.RowKit
set_option linter.unusedVariables false
set_option linter.unusedSimpArgs false
section
variable {P : Program} {F : Fence} {n : Nat} {Q : Exit → Act → World → Prop} {a : Act} {w : World}
theorem stepR_scope {b : Frame} {k : List Item} {cs : List Frame} {c : Code} : Go.step P (lone (b.atR a (.code (.scope c) :: k)) cs w) = .next (lone (b.atR a (.code c :: .inScope c :: k)) cs w) := step_lone_go (by simp [stepG, stepG.exec, Frame.atR])
theorem stepR_inScope {b : Frame} {k : List Item} {cs : List Frame} {c : Code} : Go.step P (lone (b.atR a (.inScope c :: k)) cs w) = .next (lone (b.atR a k) cs w) := step_lone_go (by simp [stepG, stepG.exec, Frame.atR])
theorem wpIn_scope {c : Code} (h : c.wpIn F n P (Exit.noGoto Q) a w) : (Code.scope c).wpIn F n P Q a w := by
  intro b k cs hro hb hr
  have h0 : (lone (b.atR a (.code (.scope c) :: k)) cs w).fenced P F := fenced_calm hb hr rfl
  obtain ⟨e, a₁, w₁, hq, harr⟩ := h b (.inScope c :: k) cs hro hb hr
  cases e with
  | normal => exact ⟨.normal, a₁, w₁, hq, .head h0 stepR_scope (StepsIn.trans harr (.one (fenced_calm hb hr rfl) stepR_inScope))⟩
  | exit id =>
    have hx : exitTo id (.inScope c :: k) = exitTo id k := by simp [exitTo]
    exact ⟨.exit id, a₁, w₁, hq, fun k' hk => .head h0 stepR_scope (harr.1 k' (by rw [hx]; exact hk)),
      fun hr' hk => let ⟨k₁, h1, h2⟩ := harr.2 hr' (by rw [hx]; exact hk); ⟨k₁, h1, .head h0 stepR_scope h2⟩⟩
  | goto l => exact hq.elim
  | ret => exact ⟨_, a₁, w₁, hq, .of_steps (.one h0 stepR_scope) harr⟩
  | panic ch => exact ⟨_, a₁, w₁, hq, .of_steps (.one h0 stepR_scope) harr⟩
  | outgrown => exact ⟨_, a₁, w₁, hq, .of_steps (.one h0 stepR_scope) harr⟩
end
section
variable {P : Program} {w0 : Bs} {m : Mp} {h : Hp} {w : World} {a : Act} {f : Fr} {ih : Tk → Option Rs}
theorem callsIn_fc {r : Option Nat} {n : Nat} {g : FuncId} {us : Array Value} {R : Ending → World → Prop} (h : CallsIn (Fc none) n P g us w R) : CallsIn (Fc r) n P g us w R := h
theorem loopR_wp (I : Snd P ih) {rd : Option Pa} {b : Code} {n : Nat} {r : Option Nat} {R : Exit → Act → World → Prop} {x : Ex} {f' : Fr} {D' : List AD} {h' : Hp} : ∀ (N : Nat) {f : Fr} {D : List AD} {h : Hp} {m : Mp} {a : Act} {w : World}, loopR ih rd b N f D h = some (.code x f' D' h') → SR w0 m h w → FT m a.tmps f → DR P m a.defers D → Rd m r rd →
    (∀ m' a' w', MLe m m' → SR w0 m' h' w' → FT m' a'.tmps f' → DR P m' a'.defers D' → R (exitOf x) a' w') → Code.roundsIn (Fc r) n P b R N a w
  | 0, f, D, h, m, a, w, hc, _, _, _, _, _ => by simp [loopR] at hc
  | N + 1, f, D, h, m, a, w, hc, s, hf, hd, hr, hk => by
    rw [roundsIn_succ]
    unfold loopR at hc
    split at hc
    · rename_i f1 D1 h1 hb
      exact I.code hb n m a w r _ s hf hd hr (fun m' a' w' hm s' hf' hd' => loopR_wp I N hc s' hf' hd' (hr.mono hm) (fun m'' a'' w'' hm' => hk m'' a'' w'' (hm.trans hm')))
    · rename_i x1 f1 D1 h1 hne hb
      simp only [Option.some.injEq, Rs.code.injEq] at hc
      obtain ⟨rfl, rfl, rfl, rfl⟩ := hc
      refine I.code hb n m a w r _ s hf hd hr (fun m' a' w' hm s' hf' hd' => ?_)
      have := hk m' a' w' hm s' hf' hd'
      cases x1 <;> first | exact (hne rfl).elim | exact this
    · cases hc
theorem enterR_spec {rd : Option Pa} {r : Option Nat} {D D1 : List AD} {h1 : Hp} {d : Pa} (hc : enterR rd D h = some (d, h1, D1)) (s : SR w0 m h w) (hr : Rd m r rd) {ds : List Deferred} (hd : DR P m ds D) :
    ∃ (m1 : Mp) (w1 : World) (mark : List Deferred) (q : Pl), MLe m m1 ∧ SR w0 m1 h1 w1 ∧ m1 d = some q ∧ DR P m1 (mark ++ ds) D1 ∧ ∀ fn tmps ps assign body, (Instr.enterLoop fn tmps ps assign body r).run P w = .ok (w1.heap.size, mark) (w1.alloc (.loop { state := .ready, pending := none, fn, tmps, params := ps, assign, body, defers := q.r })) := by
  unfold enterR at hc
  split at hc
  · simp only [Option.some.injEq, Prod.mk.injEq] at hc
    obtain ⟨rfl, rfl, rfl⟩ := hc
    cases r with
    | some l => exact hr.elim
    | none =>
      have hmle := mset_le s ⟨w.heap.size, 0, 0⟩
      have e1 : mset m h.n ⟨w.heap.size, 0, 0⟩ h.n = some ⟨w.heap.size, 0, 0⟩ := by simp [mset]
      refine ⟨mset m h.n ⟨w.heap.size, 0, 0⟩, w.alloc (.deferred (some [])), [{ target := .collected w.heap.size, args := #[] }], ⟨w.heap.size, 0, 0⟩, hmle, ?_, e1, ⟨⟨_, e1, rfl⟩, hd.mono hmle⟩, fun fn tmps ps assign body => ?_⟩
      · exact s.new .dfr ⟨w.heap.size, 0, 0⟩ (Below.alloc (Below.refl _ _) (Nat.le_refl _) _) (Nat.le_refl _) (by simp) ⟨_, e1, World.alloc_heap_new w _⟩ (fun cs g he => by cases he)
      · rw [run_enterLoop_outer]
        simp
  · rename_i l
    split at hc
    case h_2 => cases hc
    rename_i st pend fr ps as bd d' hget
    simp only [Option.some.injEq, Prod.mk.injEq] at hc
    obtain ⟨rfl, rfl, rfl⟩ := hc
    cases r with
    | none => exact hr.elim
    | some l' =>
      obtain ⟨p, hp, rfl⟩ := hr
      obtain ⟨p', q, fn, tmps, e1, e2, e3, e4⟩ := s.blk l _ hget
      rw [hp] at e1; injection e1 with e1; subst e1
      exact ⟨m, w, [], q, MLe.refl m, s, e2, hd, fun fn tmps ps assign body => run_enterLoop_inner e3 fn tmps ps assign body⟩
theorem marks_leave (I : Snd P ih) {n : Nat} {fn : Func} {tmps : Array Value} {R : Ending → World → Prop} {h2 : Hp} : ∀ (D : List AD) {m : Mp} {ds : List Deferred} {h : Hp} {w : World}, marksR ih D h = some h2 → SR w0 m h w → DR P m ds D → (∀ m2 w2, MLe m m2 → SR w0 m2 h2 w2 → LeavesIn (Fc none) n P fn tmps R [] .returning w2) → LeavesInM (Fc none) n P fn tmps R ds .returning w
  | [], m, [], h, w, hc, s, hd, hk => by
    simp only [marksR, Option.some.injEq] at hc
    subst hc
    exact hk m w (MLe.refl m) s
  | [], _, _ :: _, _, _, _, _, hd, _ => hd.elim
  | .mark d :: D, _, [], _, _, _, _, hd, _ => hd.elim
  | .fn g cs :: D, _, [], _, _, _, _, hd, _ => hd.elim
  | .mark d :: D, m, x :: ds, h, w, hc, s, hd, hk => by
    unfold marksR at hc
    split at hc
    case h_2 => cases hc
    rename_i hget
    obtain ⟨⟨p, hp, htar⟩, hrest⟩ := hd
    obtain ⟨p', e1, e2⟩ := s.blk d _ hget
    rw [hp] at e1; injection e1 with e1; subst e1
    refine ⟨by simp, .inl ⟨p.r, _, htar, run_takeDeferred e2, ?_⟩⟩
    exact marks_leave I D hc (s.drop hget rfl hp (Below.putObj' (s.dom _ _ hp).2.1.1 _ (Below.refl _ _)) (fun r hr => World.putObj_heap_other hr)) hrest hk
  | .fn g cs :: D, m, x :: ds, h, w, hc, s, hd, hk => by
    unfold marksR at hc
    split at hc
    case h_2 => cases hc
    rename_i c h' hcall
    obtain ⟨⟨fv, cap, us, htar, hinv, hlr⟩, hrest⟩ := hd
    refine ⟨by simp, .inr ⟨fcdepth _, fv, cap, g, us, htar, hinv w, fun _ _ => fcfn _ _, ?_⟩⟩
    exact I.dcall hcall (n - 1) m us w _ s hlr (fun m' v w' hm s' => marks_leave I D hc s' (hrest.mono hm) (fun m2 w2 hm2 => hk m2 w2 (hm.trans hm2)))
theorem opsSR_wp {n : Nat} {ops : Array Oper} {Q : Exit → Act → List Frame → World → Prop} {c0 : Frame} {cs0 : List Frame} (hm0 : c0.mode = .returning) : ∀ (l : List Oper) (k : Nat) {f : Fr} {h : Hp} {m : Mp} {a : Act} {w : World} {f' : Fr} {h' : Hp}, (∀ j, ops[k + j]? = l[j]?) → SR w0 m h w → FT m a.tmps f → opsSR P l f h = some (f', h') → (∀ m' a' w', MLe m m' → SR w0 m' h' w' → FT m' a'.tmps f' → a'.defers = a.defers → Q .normal a' (c0 :: cs0) w') → wpOpsSIn (Fc none) n P ops Q (List.range' k l.length) a (c0 :: cs0) w
  | [], k, f, h, m, a, w, f', h', _, s, hf, hc, hk => by
    simp only [opsSR, Option.some.injEq, Prod.mk.injEq] at hc
    obtain ⟨rfl, rfl⟩ := hc
    exact hk m a w (MLe.refl m) s hf rfl
  | o :: l, k, f, h, m, a, w, f', h', hop, s, hf, hc, hk => by
    have ho : ops[k]? = some o := by have := hop 0; simpa using this
    have hop' : ∀ j, ops[k + 1 + j]? = l[j]? := fun j => by
      have := hop (j + 1)
      rw [show k + 1 + j = k + (j + 1) by omega]; simpa using this
    unfold opsSR at hc
    split at hc
    · cases hc
    rename_i hg
    split at hc
    case h_2 => cases hc
    rename_i c h1 hst
    have hwant : Region.wanted o (yielded ops a.tmps) = true := by simp [Region.wanted, hg]
    simp only [List.length_cons, List.range'_succ, wpOpsSIn, ho]
    refine ⟨fun g _ => fcfn _ _, ?_⟩
    rw [hwant]
    simp only [if_true]
    have go : ∀ m' v w', MLe m m' → SR w0 m' h1 w' → Rp m' v c → wpOpsSIn (Fc none) n P ops Q (List.range' (k + 1) l.length) (a.put o.dst v) (c0 :: cs0) w' := fun m' v w' hm s' hr =>
      opsSR_wp hm0 l (k + 1) hop' s' ((hf.mono hm).put o.dst hr) hc (fun m'' a' w'' hm' s'' f'' hd => hk m'' a' w'' (hm.trans hm') s'' f'' (by rw [hd, put_defers]))
    rcases opRS_run s hf hst with ⟨_, rfl, rfl, hrun⟩ | ⟨m', v, w', k1, k2, k3, hrun | ⟨rfl, hrun⟩⟩
    · rw [hrun]
      have hrec : recoverD (c0 :: cs0) = none := by simp [recoverD, hm0]
      simp only [hrec]
      exact go m .nilIface w (MLe.refl m) s (.lit _)
    · rw [hrun]; exact go m' v w' k1 k2 k3
    · rw [hrun]; exact go m' undef w' k1 k2 k3
theorem codeD_wp (I : Snd P ih) {n : Nat} {c0 : Frame} {cs0 : List Frame} (hm0 : c0.mode = .returning) (c : Code) : ∀ {f : Fr} {D : List AD} {h : Hp} {m : Mp} {a : Act} {w : World} {x : Ex} {f' : Fr} {D' : List AD} {h' : Hp} {R : Exit → Act → List Frame → World → Prop}, codeD P ih c f D h = some (.code x f' D' h') → SR w0 m h w → FT m a.tmps f → DR P m a.defers D → (∀ m' a' w', MLe m m' → SR w0 m' h' w' → FT m' a'.tmps f' → DR P m' a'.defers D' → R (exitOf x) a' (c0 :: cs0) w') → c.wpSIn (Fc none) n P R a (c0 :: cs0) w := by
  have gen : ∀ (c : Code) {f : Fr} {D : List AD} {h : Hp} {m : Mp} {a : Act} {w : World} {x : Ex} {f' : Fr} {D' : List AD} {h' : Hp} {R : Exit → Act → List Frame → World → Prop}, ih (.code none c f D h) = some (.code x f' D' h') → SR w0 m h w → FT m a.tmps f → DR P m a.defers D → (∀ m' a' w', MLe m m' → SR w0 m' h' w' → FT m' a'.tmps f' → DR P m' a'.defers D' → R (exitOf x) a' (c0 :: cs0) w') → c.wpSIn (Fc none) n P R a (c0 :: cs0) w := by
    intro c f D h m a w x f' D' h' R hc s hf hd hk
    exact wpSIn_of_wpIn rfl (I.code hc n m a w none _ s hf hd trivial hk)
  induction c with
  | seq c1 c2 ih1 ih2 =>
    intro f D h m a w x f' D' h' R hc s hf hd hk
    simp only [codeD] at hc
    refine wpSIn_seq ?_
    split at hc
    · rename_i f1 D1 h1 h1c
      exact ih1 h1c s hf hd (fun m' a' w' hm' s' hf' hd' => ih2 hc s' hf' hd' (fun m'' a'' w'' hm'' => hk m'' a'' w'' (hm'.trans hm'')))
    · rename_i x1 f1 D1 h1 hne h1c
      simp only [Option.some.injEq, Rs.code.injEq] at hc
      obtain ⟨rfl, rfl, rfl, rfl⟩ := hc
      refine ih1 h1c s hf hd (fun m' a' w' hm s' hf' hd' => ?_)
      have := hk m' a' w' hm s' hf' hd'
      cases x1 <;> first | exact (hne rfl).elim | exact this
    · cases hc
  | cond cx c1 c2 ih1 ih2 =>
    intro f D h m a w x f' D' h' R hc s hf hd hk
    simp only [codeD] at hc
    split at hc
    · rename_i hx
      have := hf.ev cx
      rw [hx] at this
      exact wpSIn_cond this.lit_eq (t := true) (ih1 hc s hf hd hk)
    · rename_i hx
      have := hf.ev cx
      rw [hx] at this
      exact wpSIn_cond this.lit_eq (t := false) (ih2 hc s hf hd hk)
    · cases hc
  | region id ops draw =>
    intro f D h m a w x f' D' h' R hc s hf hd hk
    cases draw with
    | true => exact gen _ (by simpa only [codeD] using hc) s hf hd hk
    | false =>
      simp only [codeD] at hc
      split at hc
      · split at hc
        case h_2 => cases hc
        rename_i f1 h1 hop
        simp only [Option.some.injEq, Rs.code.injEq] at hc
        obtain ⟨rfl, rfl, rfl, rfl⟩ := hc
        refine wpSIn_region ?_
        rw [List.range_eq_range', ← Array.length_toList]
        exact opsSR_wp hm0 ops.toList 0 (fun j => by simp) s hf hop (fun m' a' w' hm s' hf' hd' => hk m' a' w' hm s' hf' (by rw [hd']; exact hd.mono hm))
      · exact gen _ hc s hf hd hk
  | _ =>
    intro f D h m a w x f' D' h' R hc s hf hd hk
    exact gen _ (by simpa only [codeD] using hc) s hf hd hk
set_option maxHeartbeats 1000000 in
theorem step_snd (hm : P.follows .mixedOrders = true) (I : Snd P ih) : Snd P (step P ih) where
  code := by
    intro rd c f D h x f' D' h' hc w0 n m a w r R s hf hd hr hk
    unfold step at hc
    simp only at hc
    split at hc
    · simp only [Option.some.injEq, Rs.code.injEq] at hc
      obtain ⟨rfl, rfl, rfl, rfl⟩ := hc
      exact wpIn_skip (hk m a w (MLe.refl m) s hf hd)
    · simp only [Option.some.injEq, Rs.code.injEq] at hc
      obtain ⟨rfl, rfl, rfl, rfl⟩ := hc
      exact wpIn_label (hk m a w (MLe.refl m) s hf hd)
    · simp only [Option.some.injEq, Rs.code.injEq] at hc
      obtain ⟨rfl, rfl, rfl, rfl⟩ := hc
      exact wpIn_ret (hk m a w (MLe.refl m) s hf hd)
    · simp only [Option.some.injEq, Rs.code.injEq] at hc
      obtain ⟨rfl, rfl, rfl, rfl⟩ := hc
      exact wpIn_exit (hk m a w (MLe.refl m) s hf hd)
    · rename_i c1 c2
      refine wpIn_seq ?_
      split at hc
      · rename_i f1 D1 h1 h1c
        exact I.code h1c n m a w r _ s hf hd hr (fun m' a' w' hm' s' hf' hd' => I.code hc n m' a' w' r R s' hf' hd' (hr.mono hm') (fun m'' a'' w'' hm'' => hk m'' a'' w'' (hm'.trans hm'')))
      · rename_i x1 f1 D1 h1 hne h1c
        simp only [Option.some.injEq, Rs.code.injEq] at hc
        obtain ⟨rfl, rfl, rfl, rfl⟩ := hc
        refine I.code h1c n m a w r _ s hf hd hr (fun m' a' w' hm s' hf' hd' => ?_)
        have := hk m' a' w' hm s' hf' hd'
        cases x1 <;> first | exact (hne rfl).elim | exact this
      · cases hc
    · rename_i cx c1 c2
      split at hc
      · rename_i hx
        have := hf.ev cx
        rw [hx] at this
        exact wpIn_cond_true this.lit_eq (I.code hc n m a w r R s hf hd hr hk)
      · rename_i hx
        have := hf.ev cx
        rw [hx] at this
        exact wpIn_cond_false this.lit_eq (I.code hc n m a w r R s hf hd hr hk)
      · cases hc
    · rename_i id b
      refine wpIn_block ?_
      split at hc
      · rename_i i f1 D1 h1 h1c
        split at hc
        · rename_i hb
          have := Nat.eq_of_beq_eq_true hb
          subst this
          simp only [Option.some.injEq, Rs.code.injEq] at hc
          obtain ⟨rfl, rfl, rfl, rfl⟩ := hc
          refine I.code h1c n m a w r _ s hf hd hr (fun m' a' w' hm s' hf' hd' => ?_)
          have := hk m' a' w' hm s' hf' hd'
          simpa [exitOf, Exit.inBlock] using this
        · rename_i hb
          simp only [Option.some.injEq, Rs.code.injEq] at hc
          obtain ⟨rfl, rfl, rfl, rfl⟩ := hc
          refine I.code h1c n m a w r _ s hf hd hr (fun m' a' w' hm s' hf' hd' => ?_)
          have := hk m' a' w' hm s' hf' hd'
          have hne : i ≠ id := fun he => by subst he; rw [Nat.beq_refl] at hb; cases hb
          simpa [exitOf, Exit.inBlock, hne] using this
      · rename_i x1 f1 D1 h1 hne h1c
        simp only [Option.some.injEq, Rs.code.injEq] at hc
        obtain ⟨rfl, rfl, rfl, rfl⟩ := hc
        refine I.code h1c n m a w r _ s hf hd hr (fun m' a' w' hm s' hf' hd' => ?_)
        have := hk m' a' w' hm s' hf' hd'
        cases x1 <;> first | exact (hne _ rfl).elim | exact this
      · cases hc
    · rename_i b
      exact wpIn_loop_rounds _ (loopR_wp I _ hc s hf hd hr hk)
    · rename_i id ops
      split at hc
      · split at hc
        case h_2 => cases hc
        rename_i f1 D1 h1 hop
        simp only [Option.some.injEq, Rs.code.injEq] at hc
        obtain ⟨rfl, rfl, rfl, rfl⟩ := hc
        cases r with
        | some l => exact hr.elim
        | none => exact wpIn_region_list (opsDR_wp I _ s hf hd hop hk)
      split at hc
      case h_2 => cases hc
      rename_i f1 h1 hop
      simp only [Option.some.injEq, Rs.code.injEq] at hc
      obtain ⟨rfl, rfl, rfl, rfl⟩ := hc
      exact wpIn_region_list (opsR_wp I _ s hf hop (fun m' a' w' hm s' hf' hd' => hk m' a' w' hm s' hf' (by rw [hd']; exact hd.mono hm)))
    · rename_i id ops
      split at hc
      case h_2 => cases hc
      rename_i f1 h1 hop
      simp only [Option.some.injEq, Rs.code.injEq] at hc
      obtain ⟨rfl, rfl, rfl, rfl⟩ := hc
      exact anyR_wp I hm s hf hop (fun m' a' w' hm s' hf' hd' => hk m' a' w' hm s' hf' (by rw [hd']; exact hd.mono hm))
    · rename_i g params assign body
      split at hc
      case h_2 => cases hc
      rename_i gid fst cap hg
      split at hc
      case h_1 => cases hc
      rename_i hen
      split at hc
      case h_1 => cases hc
      rename_i d h1 D1 hent
      split at hc
      case h_2 => cases hc
      rename_i c2 h2 hcall
      obtain ⟨m1, w1, mark, q, k1, k2, k3, k4, k5⟩ := enterR_spec (P := P) hent s hr hd
      refine wpIn_rangeFunc (fun fn _ => ?_)
      have hev := hf.ev g
      rw [hg] at hev
      generalize hv : a.eval g = v at hev
      cases hev with
      | fn _ us vs _ _ hl hrr hl2 hrr2 =>
        have hm2 := mset_le k2 ⟨w1.heap.size, 0, 0⟩
        have e1 : mset m1 h1.n ⟨w1.heap.size, 0, 0⟩ h1.n = some ⟨w1.heap.size, 0, 0⟩ := by simp [mset]
        have s2 := k2.new (.loop .ready none f params assign body d) ⟨w1.heap.size, 0, 0⟩ (w' := w1.alloc (.loop { state := .ready, pending := none, fn, tmps := a.tmps, params, assign, body, defers := q.r })) (Below.alloc (Below.refl _ _) (Nat.le_refl _) _) (Nat.le_refl _) (by simp) ⟨_, q, fn, a.tmps, e1, hm2 _ _ k3, World.alloc_heap_new w1 _, hf.mono (k1.trans hm2)⟩ (fun cs g he => by cases he)
        refine ⟨w1.heap.size, mark, _, { target := .fn (.func gid) vs.toArray, args := us.toArray ++ #[.func (.yield w1.heap.size) #[] #[]] }, w1.alloc (.loop { state := .ready, pending := none, fn, tmps := a.tmps, params, assign, body, defers := q.r }), gid, us.toArray ++ #[.func (.yield w1.heap.size) #[] #[]] ++ vs.toArray, w1.alloc (.loop { state := .ready, pending := none, fn, tmps := a.tmps, params, assign, body, defers := q.r }), k5 fn a.tmps params assign body, ?_, fun _ _ => fcfn _ _, by simp only [invoke]; exact entersB_run hen _ _, fcdepth _, ?_⟩
        · have hce : ∀ v, a.eval (.const v) = v := fun _ => rfl
          unfold resolve
          simp only [rangeCall, List.map_toArray, List.map_cons, List.map_nil, hv, hce, Deferred.ofValue, Sem.run_pure]
        · refine I.call hcall (n - 1) _ _ _ r _ s2 ?_ (fun m3 v w3 hm3 s3 hr3 => ?_)
          · have l1 : LR (mset m1 h1.n ⟨w1.heap.size, 0, 0⟩) us fst := LR.mono (k1.trans hm2) ⟨hl, hrr⟩
            have l2 : LR (mset m1 h1.n ⟨w1.heap.size, 0, 0⟩) vs cap := LR.mono (k1.trans hm2) ⟨hl2, hrr2⟩
            have := l1.append (LR.cons (.yl h1.n ⟨w1.heap.size, 0, 0⟩ e1) l2)
            simpa [List.append_assoc] using this
          · unfold leaveR at hc
            split at hc
            case h_2 => cases hc
            rename_i st pend fr ps as bd d2 hget
            have hp3 := hm3 _ _ e1
            obtain ⟨p', q3, fn3, tmps3, j1, j2, j3, j4⟩ := s3.blk h1.n _ hget
            rw [hp3] at j1; injection j1 with j1; subst j1
            have hlt3 := (s3.dom _ _ hp3).2.2
            have hmm := (k1.trans hm2).trans hm3
            have s4 : SR w0 m3 (h2.turn h1.n (.loop .exhausted pend fr ps as bd d2)) (w3.putObj w1.heap.size (.loop { state := .exhausted, pending := pend, fn := fn3, tmps := tmps3, params := ps, assign := as, body := bd, defers := q3.r })) :=
              s3.turn hget rfl rfl hp3 (Below.putObj' (s3.dom _ _ hp3).2.1.1 _ (Below.refl _ _)) ⟨_, q3, fn3, tmps3, hp3, j2, World.putObj_heap_same hlt3, j4⟩ (fun r hr => World.putObj_heap_other hr)
            have fin : st ≠ .busy → (match pend with
                | none => some (Rs.code .normal f D1 (h2.turn h1.n (.loop .exhausted pend fr ps as bd d2)))
                | some j => ih (.code rd j f D1 (h2.turn h1.n (.loop .exhausted pend fr ps as bd d2)))) = some (.code x f' D' h') → rangePost (Fc r) n P w1.heap.size R { a with defers := mark ++ a.defers } (.returned v) w3 := fun hst hc => by
              refine ⟨_, _, run_endLoop j3 hst, ?_⟩
              cases pend with
              | none =>
                simp only [Option.some.injEq, Rs.code.injEq] at hc
                obtain ⟨rfl, rfl, rfl, rfl⟩ := hc
                exact hk m3 _ _ hmm s4 (hf.mono hmm) (k4.mono (hm2.trans hm3))
              | some j =>
                exact I.code hc n m3 _ _ r R s4 (hf.mono hmm) (k4.mono (hm2.trans hm3)) (hr.mono hmm) (fun m'' a'' w'' hm'' => hk m'' a'' w'' (hmm.trans hm''))
            split at hc
            · cases hc
            · rename_i hst
              exact fin hst hc
    · rename_i b
      split at hc
      · cases hc
      · rename_i x1 f1 D1 h1 hne h1c
        simp only [Option.some.injEq, Rs.code.injEq] at hc
        obtain ⟨rfl, rfl, rfl, rfl⟩ := hc
        refine wpIn_scope (I.code h1c n m a w r _ s hf hd hr (fun m' a' w' hm s' hf' hd' => ?_))
        have := hk m' a' w' hm s' hf' hd'
        cases x1 <;> first | exact (hne _ _ _ _ rfl).elim | exact (hne _ rfl).elim | exact this
      · cases hc
    · cases hc
  call := by
    intro g cs h c h' hc w0 n m us w r R s hr hk
    unfold step at hc
    simp only at hc
    split at hc
    · cases hc
    · rename_i fn hfn
      split at hc
      · cases hc
      · rename_i cd hbody
        rw [nfN_eq] at hc
        split at hc
        case h_2 => cases hc
        rename_i x f1 D1 h1 hrun
        split at hc
        · cases hc
        · rename_i hx
          split at hc
          case h_1 => cases hc
          rename_i h2 hmarks
          split at hc
          case h_2 => cases hc
          rename_i l hres
          simp only [Option.some.injEq, Rs.ret.injEq] at hc
          obtain ⟨hcc, rfl⟩ := hc
          refine callsIn_fc (callsIn_of_wp_marks hfn hbody (fcfn _ _) ?_ rfl)
          have hlen : us.size = cs.length := by have := hr.1; simpa using this
          refine I.code hrun n m _ w none _ s (FT.enter hr fn.ntmps _ (by rw [hlen])) trivial trivial (fun m' a' w' hm s' hf' hd' => ?_)
          have fin : LeavesInM (Fc none) n P fn a'.tmps R a'.defers .returning w' := marks_leave I D1 hmarks s' hd' (fun m2 w2 hm2 s2 => by
            obtain ⟨v, k1, k2⟩ := results_run (P := P) s2 (hf'.mono hm2) hres hcc
            exact ⟨v, k2, hk m2 v w2 (hm.trans hm2) s2 k1⟩)
          cases x <;> first | exact fin | cases hx
  dcall := by
    intro g cs h c h' hc w0 n m us w R s hr hk
    unfold step at hc
    simp only at hc
    split at hc
    · cases hc
    · rename_i fn hfn
      split at hc
      · cases hc
      · rename_i cd hbody
        rw [nfN_eq] at hc
        split at hc
        case h_2 => cases hc
        rename_i x f1 D1 h1 hrun
        split at hc
        case h_2 => cases hc
        rename_i hx
        split at hc
        case h_2 => cases hc
        rename_i l hres
        simp only [Option.some.injEq, Rs.ret.injEq] at hc
        obtain ⟨hcc, rfl⟩ := hc
        have hlen : us.size = cs.length := by have := hr.1; simpa using this
        refine callsDIn_of_wpSIn hfn hbody (fcfn _ _) (fun c0 cs0 hm0 => ?_)
        refine codeD_wp I hm0 cd (w0 := w0) (m := m) hrun s (FT.enter hr fn.ntmps _ (by rw [hlen])) trivial (fun m' a' w' hm s' hf' hd' => ?_)
        have hdn : a'.defers = [] := by
          cases hq : a'.defers with
          | nil => rfl
          | cons d ds => rw [hq] at hd'; exact hd'.elim
        have hc0 : c0 :: cs0 = { c0 with mode := .returning } :: cs0 := by rw [← hm0]
        obtain ⟨v, k1, k2⟩ := results_run (P := P) s' hf' hres hcc
        have fin : a'.defers = [] ∧ ∃ u', c0 :: cs0 = { c0 with mode := u' } :: cs0 ∧ ∃ v, (results fn a'.tmps).run P w' = .ok v w' ∧ R (.returned v) u' w' := ⟨hdn, .returning, hc0, v, k2, hk m' v w' hm s'⟩
        cases x <;> first | exact fin | cases hx
theorem run_snd (hm : P.follows .mixedOrders = true) : ∀ N, Snd P (run P N)
  | 0 => ⟨fun h => by simp [run] at h, fun h => by simp [run] at h, fun h => by simp [run] at h⟩
  | N + 1 => step_snd hm (run_snd hm N)
theorem run_calls (hm : P.follows .mixedOrders = true) {N : Nat} {g : FuncId} {v : Value} {h' : Hp} (hc : run P N (.call g [] ⟨.lf, .lf, .e⟩) = some (.ret (.lit v) h')) (w : World) : Calls P g #[] w fun e w' => e = .returned v ∧ Below w.heap.size w w' :=
  callsIn_wide.1 ((run_snd hm N).call hc 0 (fun _ => none) #[] w none _ (SR.zero w) LR.nil (fun m' v' w' _ s' hr => ⟨by rw [hr.lit_eq], s'.bel.1⟩))
end
end Go.Proofs.YtboopmfjkepilaaGreatDoor.Run
