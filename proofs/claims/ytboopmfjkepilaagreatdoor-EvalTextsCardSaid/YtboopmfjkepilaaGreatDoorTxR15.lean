/-
  Texts of one proof, in their order. No condition.
-/
import Derived.Test.YtboopmfjkepilaaGreatDoorTxR14
namespace Go.Proofs.YtboopmfjkepilaaGreatDoor.Run
open Go.RowKit
set_option linter.unusedVariables false
set_option linter.unusedSimpArgs false
def Fc (r : Option Nat) : Fence := { Fence.wide with round := r }
def exitOf : Ex → Exit
  | .normal => .normal
  | .exit i => .exit i
  | .goto l => .goto l
  | .ret => .ret
def DR (P : Program) (m : Mp) : List Deferred → List AD → Prop
  | [], [] => True
  | d :: ds, .mark b :: D => (∃ p, m b = some p ∧ d.target = .collected p.r) ∧ DR P m ds D
  | d :: ds, .fn g cs :: D => (∃ (fv : Fn) (cap us : Array Value), d.target = .fn fv cap ∧ (∀ w, (invoke d.target d.args).run P w = .ok (.enter g us) w) ∧ LR m us.toList cs) ∧ DR P m ds D
  | _, _ => False
def Rd (m : Mp) : Option Nat → Option Pa → Prop
  | none, none => True
  | some l, some b => ∃ p, m b = some p ∧ p.r = l
  | _, _ => False
theorem DR.mono {P : Program} {m m' : Mp} (hm : MLe m m') : ∀ {ds : List Deferred} {D : List AD}, DR P m ds D → DR P m' ds D
  | [], [], _ => trivial
  | d :: ds, .mark b :: D, ⟨⟨p, h1, h2⟩, h3⟩ => ⟨⟨p, hm _ _ h1, h2⟩, DR.mono hm h3⟩
  | d :: ds, .fn g cs :: D, ⟨⟨fv, cap, us, h1, h2, h4⟩, h3⟩ => ⟨⟨fv, cap, us, h1, h2, h4.mono hm⟩, DR.mono hm h3⟩
  | [], _ :: _, h => h.elim
  | _ :: _, [], h => h.elim
theorem Rd.mono {m m' : Mp} (hm : MLe m m') : ∀ {r : Option Nat} {rd : Option Pa}, Rd m r rd → Rd m' r rd
  | none, none, _ => trivial
  | some l, some b, ⟨p, h1, h2⟩ => ⟨p, hm _ _ h1, h2⟩
  | none, some _, h => h.elim
  | some _, none, h => h.elim
structure Snd (P : Program) (ih : Tk → Option Rs) : Prop where
  code : ∀ {rd : Option Pa} {c : Code} {f : Fr} {D : List AD} {h : Hp} {x : Ex} {f' : Fr} {D' : List AD} {h' : Hp}, ih (.code rd c f D h) = some (.code x f' D' h') →
    ∀ {w0 : Bs} (n : Nat) (m : Mp) (a : Act) (w : World) (r : Option Nat) (R : Exit → Act → World → Prop), SR w0 m h w → FT m a.tmps f → DR P m a.defers D → Rd m r rd →
      (∀ m' a' w', MLe m m' → SR w0 m' h' w' → FT m' a'.tmps f' → DR P m' a'.defers D' → R (exitOf x) a' w') → c.wpIn (Fc r) n P R a w
  call : ∀ {g : FuncId} {cs : List CV} {h : Hp} {c : CV} {h' : Hp}, ih (.call g cs h) = some (.ret c h') →
    ∀ {w0 : Bs} (n : Nat) (m : Mp) (us : Array Value) (w : World) (r : Option Nat) (R : Ending → World → Prop), SR w0 m h w → LR m us.toList cs →
      (∀ m' v w', MLe m m' → SR w0 m' h' w' → Rp m' v c → R (.returned v) w') → CallsIn (Fc r) n P g us w R
  dcall : ∀ {g : FuncId} {cs : List CV} {h : Hp} {c : CV} {h' : Hp}, ih (.dcall g cs h) = some (.ret c h') →
    ∀ {w0 : Bs} (n : Nat) (m : Mp) (us : Array Value) (w : World) (R : Ending → FrameMode → World → Prop), SR w0 m h w → LR m us.toList cs →
      (∀ m' v w', MLe m m' → SR w0 m' h' w' → R (.returned v) .returning w') → CallsDIn (Fc none) n P g us .returning w R
section
variable {P : Program} {w0 : Bs} {m : Mp} {h : Hp} {w : World} {a : Act} {f : Fr} {ih : Tk → Option Rs}
theorem fcfn (r : Option Nat) (g : FuncId) : (Fc r).fn g := trivial
theorem fcdepth (r : Option Nat) {n : Nat} : (Fc r).depth.isSome = true → 1 ≤ n := fun h => by simp [Fc, Fence.wide] at h
theorem round_in (I : Snd P ih) {l : Pa} {args : List CV} {c : CV} {h' : Hp} (hc : roundC ih l args h = some (c, h')) (s : SR w0 m h w) {p : Pl} (hp : m l = some p) {us : Array Value} (hargs : LR m us.toList args) (n : Nat) (r : Option Nat) {R : Ending → World → Prop}
    (hk : ∀ m' v w', MLe m m' → SR w0 m' h' w' → Rp m' v c → R (.returned v) w') : ∃ (fn : FuncId) (tmps : Array Value) (assign body : Code), (Instr.yield p.r us).run P w = .ok (.round p.r fn tmps assign body) w ∧ RoundIn (Fc r) n P p.r fn tmps assign body w R := by
  unfold roundC at hc
  split at hc
  case h_2 => cases hc
  rename_i pend fr params assign body d hget
  split at hc
  case h_1 => cases hc
  rename_i hlen
  have hlen := Nat.eq_of_beq_eq_true hlen
  split at hc
  case h_2 => cases hc
  rename_i f1 D1 h1 hass
  split at hc
  case h_2 => cases hc
  rename_i pend1 fr1 params1 assign1 body1 d1 hget1
  split at hc
  case h_2 => cases hc
  rename_i x f3 D3 h3 hbody
  split at hc
  case h_2 => cases hc
  rename_i st3 pend3 fr3 params3 assign3 body3 d3 hget3
  obtain ⟨p', q, fn, tmps, e1, e2, e3, e4⟩ := s.blk l _ hget
  rw [hp] at e1; injection e1 with e1; subst e1
  have hsz : us.size = params.size := by have := hargs.1; simp at this; omega
  refine ⟨fn, _, assign, body, run_yield e3 hsz, roundIn_of_wpIn (fcfn _ _) ?_⟩
  have hF : FT m ((params.zip us).foldl (fun tmps (x : Tmp × Value) => tmps.setIfInBounds x.1 x.2) tmps) (putAll fr params.toList args) := by
    have := FT.puts params.toList us.toList args e4 hargs
    rw [← Array.foldl_toList, Array.toList_zip]
    exact this
  refine I.code hass n m { tmps := _, defers := [] } w (some p.r) _ s hF trivial ⟨p, hp, rfl⟩ (fun m1 a1 w1 hm1 s1 f1' _ => ?_)
  obtain ⟨p1, q1, fn1, tmps1, k1, k2, k3, k4⟩ := s1.blk l _ hget1
  have hp1 := hm1 _ _ hp
  rw [hp1] at k1; injection k1 with k1; subst k1
  have hlt1 := (s1.dom _ _ hp1).2.2
  refine ⟨_, run_beginRound k3 rfl, ?_⟩
  have s2 : SR w0 m1 (h1.turn l (.loop .busy pend1 fr1 params1 assign1 body1 d1)) (w1.putObj p.r (.loop { state := .busy, pending := pend1, fn := fn1, tmps := tmps1, params := params1, assign := assign1, body := body1, defers := q1.r })) :=
    s1.turn hget1 rfl rfl hp1 (Below.putObj' (s1.dom _ _ hp1).2.1.1 _ (Below.refl _ _)) ⟨p, q1, fn1, tmps1, hp1, k2, World.putObj_heap_same hlt1, k4⟩ (fun r hr => World.putObj_heap_other hr)
  refine I.code hbody n m1 a1 _ (some p.r) _ s2 f1' (by assumption) ⟨p, hp1, rfl⟩ (fun m3 a3 w3 hm3 s3 f3' _ => ?_)
  obtain ⟨p3, q3, fn3, tmps3, j1, j2, j3, j4⟩ := s3.blk l _ hget3
  have hp3 := hm3 _ _ hp1
  rw [hp3] at j1; injection j1 with j1; subst j1
  have hlt3 := (s3.dom _ _ hp3).2.2
  have fin : ∀ (jump : Option Code) (st : LoopState) (b : Bool), (if jump.isNone then LoopState.ready else .done) = st → jump.isNone = b → c = .lit (.bool b) → h' = h3.turn l (.loop st jump fr3 params3 assign3 body3 d3) → ∃ v w', (Instr.endRound p.r jump).run P w3 = .ok v w' ∧ R (.returned v) w' := by
    intro jump st b hst hb hcc hhh
    subst hcc; subst hhh
    refine ⟨_, _, run_endRound jump j3, ?_⟩
    rw [hb]
    refine hk m3 _ _ (hm1.trans hm3) ?_ (.lit _)
    rw [← hst, hb]
    exact s3.turn hget3 rfl rfl hp3 (Below.putObj' (s3.dom _ _ hp3).2.1.1 _ (Below.refl _ _)) ⟨p, q3, fn3, tmps3, hp3, j2, World.putObj_heap_same hlt3, j4⟩ (fun r hr => World.putObj_heap_other hr)
  cases x <;> simp only [jumpOf, Option.some.injEq, Prod.mk.injEq] at hc <;> obtain ⟨hc1, hc2⟩ := hc
  · exact fin none .ready true rfl rfl hc1.symm hc2.symm
  · exact fin (some _) .done false rfl rfl hc1.symm hc2.symm
  · exact fin (some _) .done false rfl rfl hc1.symm hc2.symm
  · exact fin (some _) .done false rfl rfl hc1.symm hc2.symm
theorem did_wp {r : Option Nat} {n : Nat} {o : Oper} {K : Act → World → Prop} {Q : Exit → Act → World → Prop} (hd : ∀ c, o.op ≠ .defer c) {c : CV} {h' : Hp} (hdid : Did w0 m ((execOp a.eval o).run P w) c h') (hk : ∀ m' v w', MLe m m' → SR w0 m' h' w' → Rp m' v c → K (a.put o.dst v) w') : o.wpIn (Fc r) n P a w K Q := by
  refine ⟨fun g _ => fcfn _ _, ?_⟩
  rw [Oper.semAt_eq _ _ _ hd]
  obtain ⟨m', v, w', h1, h2, h3, h4⟩ := hdid
  rcases h4 with h4 | ⟨rfl, h4⟩
  · rw [h4]; exact hk m' v w' h1 h2 h3
  · rw [h4]; exact hk m' undef w' h1 h2 h3
theorem opR_wp (I : Snd P ih) {r : Option Nat} {n : Nat} {o : Oper} {K : Act → World → Prop} {Q : Exit → Act → World → Prop} (s : SR w0 m h w) (hf : FT m a.tmps f) {c : CV} {h' : Hp} (hc : opR P ih f h o = some (c, h')) (hk : ∀ m' v w', MLe m m' → SR w0 m' h' w' → Rp m' v c → K (a.put o.dst v) w') : o.wpIn (Fc r) n P a w K Q := by
  unfold opR at hc
  split at hc
  · split at hc
    case h_2 => cases hc
    rename_i c' hop
    simp only [Option.some.injEq, Prod.mk.injEq] at hc
    obtain ⟨rfl, rfl⟩ := hc
    obtain ⟨v, h1, h2⟩ := opP_run s hf o hop
    exact did_wp (fun d hd => by rw [hd] at hop; simp [opP] at hop) ⟨m, v, w, MLe.refl m, s, h1, .inl h2⟩ hk
  · rename_i heff
    split at hc
    · rename_i cl hcl
      split at hc
      · exact did_wp (fun d hd => by rw [hcl] at hd; cases hd) (opE_run s hf o hc) hk
      · split at hc
        · rename_i l args hy
          obtain ⟨us, p, h1, h2, h3⟩ := yieldC_run (P := P) hf hcl hy w
          refine ⟨fun g _ => fcfn _ _, ?_⟩
          rw [Oper.semAt_eq _ _ _ (fun d hd => by rw [hcl] at hd; cases hd)]
          have hr : (Fc r).round = r := rfl
          obtain ⟨fn, tmps, assign, body, k1, k2⟩ := round_in I hc s h2 h1 (n - 1) r (R := fun
            | .returned v, w'' => K (a.put o.dst v) w''
            | .panicked chain, w'' => Q (.panic chain) a w''
            | .outgrown, _ => LetsOut Q) hk
          rw [h3, k1]
          exact ⟨fcdepth _, k2⟩
        · split at hc
          case h_2 => cases hc
          rename_i g args hcal
          split at hc
          case h_2 => cases hc
          rename_i c' h'' hcall
          simp only [Option.some.injEq, Prod.mk.injEq] at hc
          obtain ⟨rfl, rfl⟩ := hc
          obtain ⟨us, h1, h2⟩ := calleeC_run hf hcl hcal w
          refine ⟨fun g _ => fcfn _ _, ?_⟩
          rw [Oper.semAt_eq _ _ _ (fun d hd => by rw [hcl] at hd; cases hd), h2]
          exact ⟨fcdepth _, I.call hcall (n - 1) m us w r _ s h1 hk⟩
    · rename_i hncall
      refine did_wp (fun d hd => ?_) (opE_run s hf o hc) hk
      rw [hd] at heff; simp [effB] at heff
theorem opR_quiet {o : Oper} {c : CV} {h' : Hp} (he : effB P o.op = false) (hc : opR P ih f h o = some (c, h')) : h' = h := by
  unfold opR at hc
  rw [he] at hc
  simp only at hc
  split at hc
  · simp only [Option.some.injEq, Prod.mk.injEq] at hc; exact hc.2.symm
  · cases hc
theorem gvC_yielded (hf : FT m a.tmps f) {ops : Array Oper} {j : Nat} : (∀ b, gvC ops.toList f j = .lit (.bool b) → yielded ops a.tmps j = some b) ∧ (∀ vs, gvC ops.toList f j = .lit (.tuple vs) → yielded ops a.tmps j = none) := by
  have key : ∀ v, gvC ops.toList f j = .lit v → ∃ (o : Oper) (d : Tmp), ops[j]? = some o ∧ o.dst = some d ∧ a.tmps.getD d undef = v := fun v hv => by
    unfold gvC at hv
    rw [Array.getElem?_toList] at hv
    split at hv
    · rename_i o ho
      split at hv
      · rename_i d hd
        have := hf.rep d
        rw [hv] at this
        exact ⟨o, d, ho, hd, this.lit_eq⟩
      · cases hv
    · cases hv
  refine ⟨fun b hb => ?_, fun vs hb => ?_⟩
  · obtain ⟨o, d, h1, h2, h3⟩ := key _ hb
    unfold yielded
    simp only [h1, h2, Option.bind_some]
    rw [Array.getD_eq_getD_getElem?] at h3
    cases hq : a.tmps[d]? with
    | none => rw [hq] at h3; simp [undef] at h3
    | some v => rw [hq] at h3; simp at h3; subst h3; rfl
  · obtain ⟨o, d, h1, h2, h3⟩ := key _ hb
    unfold yielded
    simp only [h1, h2, Option.bind_some]
    rw [Array.getD_eq_getD_getElem?] at h3
    cases hq : a.tmps[d]? with
    | none => rfl
    | some v => rw [hq] at h3; simp at h3; subst h3; rfl
theorem stepR_wp (I : Snd P ih) {r : Option Nat} {n : Nat} {ops : Array Oper} {o : Oper} {K : Act → World → Prop} {Q : Exit → Act → World → Prop} (s : SR w0 m h w) (hf : FT m a.tmps f) {c : CV} {h' : Hp} (hc : stepR P ih ops.toList f h o = some (c, h')) (hk : ∀ m' v w', MLe m m' → SR w0 m' h' w' → Rp m' v c → K (a.put o.dst v) w') :
    if Region.wanted o (yielded ops a.tmps) then o.wpIn (Fc r) n P a w K Q else (∀ g, o.about P w a.eval = some g → (Fc r).fn g) ∧ K (a.put o.dst undef) w := by
  unfold stepR at hc
  split at hc
  · rename_i hg
    simp only [Region.wanted, hg, if_true]
    exact opR_wp I s hf hc hk
  · rename_i j want hg
    simp only [Region.wanted, hg]
    have skip : (yielded ops a.tmps j == some want) = false → some (CV.lit undef, h) = some (c, h') → (if (yielded ops a.tmps j == some want) = true then o.wpIn (Fc r) n P a w K Q else (∀ g, o.about P w a.eval = some g → (Fc r).fn g) ∧ K (a.put o.dst undef) w) := fun hy he => by
      simp only [Option.some.injEq, Prod.mk.injEq] at he
      obtain ⟨rfl, rfl⟩ := he
      rw [hy]
      simp only [Bool.false_eq_true, if_false]
      exact ⟨fun g _ => fcfn _ _, hk m undef w (MLe.refl m) s (.lit _)⟩
    have hdo : (yielded ops a.tmps j == some want) = true → opR P ih f h o = some (c, h') → (if (yielded ops a.tmps j == some want) = true then o.wpIn (Fc r) n P a w K Q else (∀ g, o.about P w a.eval = some g → (Fc r).fn g) ∧ K (a.put o.dst undef) w) := fun hy he => by
      rw [hy]
      simp only [if_true]
      exact opR_wp I s hf he hk
    split at hc
    · rename_i b hb
      have hy := (gvC_yielded hf).1 b hb
      cases b <;> cases want <;> first | exact hdo (by rw [hy]; rfl) hc | exact skip (by rw [hy]; rfl) hc
    · rename_i vs hb
      have hy := (gvC_yielded hf).2 vs hb
      exact skip (by rw [hy]; rfl) hc
    · cases hc
theorem stepR_quiet {ops : List Oper} {o : Oper} {c : CV} {h' : Hp} (he : effB P o.op = false) (hc : stepR P ih ops f h o = some (c, h')) : h' = h := by
  unfold stepR at hc
  split at hc
  · exact opR_quiet he hc
  · split at hc
    · split at hc
      · exact opR_quiet he hc
      · exact opR_quiet he hc
      · simp only [Option.some.injEq, Prod.mk.injEq] at hc; exact hc.2.symm
    · simp only [Option.some.injEq, Prod.mk.injEq] at hc; exact hc.2.symm
    · cases hc
theorem put_defers (a : Act) (d : Option Tmp) (v : Value) : (a.put d v).defers = a.defers := by cases d <;> rfl
theorem opsR_wp (I : Snd P ih) {r : Option Nat} {n : Nat} {ops : Array Oper} {Q : Exit → Act → World → Prop} : ∀ (l : List Oper) {f : Fr} {h : Hp} {m : Mp} {a : Act} {w : World} {f' : Fr} {h' : Hp}, SR w0 m h w → FT m a.tmps f → opsR P ih ops.toList l f h = some (f', h') → (∀ m' a' w', MLe m m' → SR w0 m' h' w' → FT m' a'.tmps f' → a'.defers = a.defers → Q .normal a' w') → wpListIn (Fc r) n P ops Q l a w
  | [], f, h, m, a, w, f', h', s, hf, hc, hk => by
    simp only [opsR, Option.some.injEq, Prod.mk.injEq] at hc
    obtain ⟨rfl, rfl⟩ := hc
    exact hk m a w (MLe.refl m) s hf rfl
  | o :: l, f, h, m, a, w, f', h', s, hf, hc, hk => by
    unfold opsR at hc
    split at hc
    case h_2 => cases hc
    rename_i c h1 hst
    unfold wpListIn
    refine stepR_wp I s hf hst (fun m' v w' hm s' hr => ?_)
    refine opsR_wp I l s' ((hf.mono hm).put o.dst hr) hc (fun m'' a' w'' hm' s'' f'' hd => ?_)
    exact hk m'' a' w'' (hm.trans hm') s'' f'' (by rw [hd, put_defers])
theorem deferO_run (hf : FT m a.tmps f) {o : Oper} {ad : AD} (hc : deferO P f o = some ad) (w : World) : o.guard = none ∧ ∃ (c : Call) (d : Deferred), o.op = .defer c ∧ (execOp a.eval o).run P w = .ok (.defer d) w ∧ ∀ ds D, DR P m ds D → DR P m (d :: ds) (ad :: D) := by
  unfold deferO at hc
  split at hc
  case h_2 => cases hc
  rename_i c hg ho
  split at hc
  case h_2 => cases hc
  rename_i fo hcal
  split at hc
  case h_2 => cases hc
  rename_i g fst cap hev
  split at hc
  case h_2 => cases hc
  rename_i hen
  injection hc with hc; subst hc
  have hargs : LR m (c.args.map a.eval).toList (c.args.toList.map (evO f)) := by rw [Array.toList_map]; exact hf.evs _
  have h1 := hf.ev fo
  rw [hev] at h1
  generalize hv : a.eval fo = v at h1
  cases h1 with
  | fn _ us vs _ _ hl hr hl2 hr2 =>
    refine ⟨hg, c, { target := .fn (.func g) vs.toArray, args := us.toArray ++ c.args.map a.eval }, ho, ?_, fun ds D hd => ⟨⟨.func g, vs.toArray, us.toArray ++ c.args.map a.eval ++ vs.toArray, rfl, fun w => ?_, ?_⟩, hd⟩⟩
    · simp [execOp, ho, resolve, hcal, hv, Deferred.ofValue]
    · simp only [invoke]; exact entersB_run hen _ _
    · have l1 : LR m us fst := ⟨hl, hr⟩
      have l2 : LR m vs cap := ⟨hl2, hr2⟩
      have := l1.append (hargs.append l2)
      simpa [List.append_assoc] using this
theorem opsDR_wp (I : Snd P ih) {n : Nat} {ops : Array Oper} {Q : Exit → Act → World → Prop} : ∀ (l : List Oper) {f : Fr} {D : List AD} {h : Hp} {m : Mp} {a : Act} {w : World} {f' : Fr} {D' : List AD} {h' : Hp}, SR w0 m h w → FT m a.tmps f → DR P m a.defers D → opsDR P ih ops.toList l f D h = some (f', D', h') → (∀ m' a' w', MLe m m' → SR w0 m' h' w' → FT m' a'.tmps f' → DR P m' a'.defers D' → Q .normal a' w') → wpListIn (Fc none) n P ops Q l a w
  | [], f, D, h, m, a, w, f', D', h', s, hf, hd, hc, hk => by
    simp only [opsDR, Option.some.injEq, Prod.mk.injEq] at hc
    obtain ⟨rfl, rfl, rfl⟩ := hc
    exact hk m a w (MLe.refl m) s hf hd
  | o :: l, f, D, h, m, a, w, f', D', h', s, hf, hd, hc, hk => by
    unfold opsDR at hc
    unfold wpListIn
    split at hc
    · rename_i ad had
      obtain ⟨hg, c, d, ho, hrun, hdd⟩ := deferO_run hf had w
      have hwant : Region.wanted o (yielded ops a.tmps) = true := by simp [Region.wanted, hg]
      rw [hwant]
      simp only [if_true]
      refine ⟨fun g _ => fcfn _ _, ?_⟩
      have hr : (Fc none).round = none := rfl
      rw [hr, Oper.semAt_none, hrun]
      refine opsDR_wp I l (a := ({ a with defers := d :: a.defers } : Act).put o.dst undef) s ?_ ?_ hc hk
      · exact FT.put (a := { a with defers := d :: a.defers }) hf o.dst (.lit undef)
      · rw [put_defers]; exact hdd _ _ hd
    · split at hc
      case h_2 => cases hc
      rename_i c h1 hst
      refine stepR_wp I s hf hst (fun m' v w' hm s' hr => ?_)
      exact opsDR_wp I l s' ((hf.mono hm).put o.dst hr) (by rw [put_defers]; exact hd.mono hm) hc (fun m'' a' w'' hm' => hk m'' a' w'' (hm.trans hm'))
theorem opRS_run (s : SR w0 m h w) (hf : FT m a.tmps f) {o : Oper} {c : CV} {h' : Hp} (hc : opRS P f h o = some (c, h')) : (isRec o.op = true ∧ c = .lit .nilIface ∧ h' = h ∧ (execOp a.eval o).run P w = .ok .recover w) ∨ Did w0 m ((execOp a.eval o).run P w) c h' := by
  unfold opRS at hc
  split at hc
  · rename_i hr
    simp only [Option.some.injEq, Prod.mk.injEq] at hc
    refine .inl ⟨hr, hc.1.symm, hc.2.symm, ?_⟩
    unfold isRec at hr
    split at hr
    · rename_i cl ho
      split at hr
      · rename_i hb
        simp [execOp, ho, resolve, hb, invoke, builtin]
      · cases hr
    · cases hr
  · right
    split at hc
    · split at hc
      case h_2 => cases hc
      rename_i c' hop
      simp only [Option.some.injEq, Prod.mk.injEq] at hc
      obtain ⟨rfl, rfl⟩ := hc
      obtain ⟨v, h1, h2⟩ := opP_run s hf o hop
      exact ⟨m, v, w, MLe.refl m, s, h1, .inl h2⟩
    · exact opE_run s hf o hc
end
end Go.Proofs.YtboopmfjkepilaaGreatDoor.Run
