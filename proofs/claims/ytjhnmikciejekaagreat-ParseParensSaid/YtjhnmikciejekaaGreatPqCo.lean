/-
  Texts of one proof, in their order. No condition.
-/
import Derived.RangeFuncNested
import Derived.RangeFuncBound
import Derived.RangeFuncCalls
import Derived.RangeFuncLeaves
import Derived.Test.YtjhnmikciejekaaGreatRows
namespace Go.Proofs.YtjhnmikciejekaaGreat
open Go.RowKit
set_option linter.unusedVariables false
variable {F : Fence} {n : Nat} {P : Program}
def CoIter (F : Fence) (n : Nat) (P : Program) (g : Nat) (lb : Array Value) (R : Nat) (rd : Nat → World → Prop) (val : Nat → Value) (more : Nat → Bool) : Prop :=
  ∀ (l : Nat) (J Jm : Nat → World → Prop) (Jx : World → Prop) (W : World) (k0 : Nat),
    (∀ k W, J k W → rd k W) →
    (∀ k W W', J k W → W.grownBy W' none → J k W') →
    (∀ k W W', J k W → more k = true → W.grownBy W' (some R) → rd (k + 1) W' → Jm k W') →
    (∀ k W, Jm k W → more k = true → YieldAt F (n - 1) P l #[val k] W fun e W' => (e = .returned (.bool true) ∧ ∃ k', k < k' ∧ J k' W') ∨ (e = .returned (.bool false) ∧ Jx W')) →
    J k0 W →
    CallsIn F n P g (#[.func (.yield l) #[] #[]] ++ lb) W fun e W' => (∃ v, e = .returned v) ∧ ((∃ k, k0 ≤ k ∧ more k = false ∧ J k W') ∨ Jx W')
theorem CoIter.inRound {g : Nat} {lb : Array Value} {R : Nat} {rd : Nat → World → Prop} {val : Nat → Value} {more : Nat → Bool} (l : Nat) (h : CoIter F n P g lb R rd val more) : CoIter (F.inRound l) n P g lb R rd val more := h
def coPost (B : Nat) (I : Nat → World → Prop) (Ix : Code → World → Prop) (k : Nat) (W : World) : Exit → Act → World → Prop
  | .normal, _, W' => KeepsFrom B W W' ∧ ∃ k', k < k' ∧ I k' W'
  | .ret, _, W' => KeepsFrom B W W' ∧ Ix .ret W'
  | .exit id, _, W' => KeepsFrom B W W' ∧ Ix (.exit id) W'
  | .goto t, _, W' => KeepsFrom B W W' ∧ Ix (.goto t) W'
  | .panic _, _, _ => False
  | .outgrown, _, _ => False
theorem own_none {β : Type} {B : Nat} {I : β → World → Prop} (h : OwnFrom B I) {s : β} {W W' : World} (hs : I s W) (hg : W.grownBy W' none) : I s W' :=
  h s W W' none hs hg (fun r e => by cases e)
theorem co_round {l : Nat} {fn : FuncId} (hfn : F.fn fn) {m : Nat} {rec : LoopState → Option Code → Loop} {ps : Array Tmp} {tmps : Array Value} {assign body : Code} {B D : Nat} (hrec : rec = fun st pe => { state := st, pending := pe, fn, tmps, params := ps, assign, body, defers := D })
    {v : Value} (hps : 1 = ps.size) {I : Nat → World → Prop} {Ix : Code → World → Prop} {T : World → Prop} {Im : World → Prop} {a₁ : Act} {k : Nat} {W : World}
    (hIm : OwnFrom B (fun (_ : Unit) W => Im W)) (hI : OwnFrom B I) (hIx : ∀ c, OwnFrom B (fun (_ : Unit) W => Ix c W)) (hB : B ≤ l) (hT : ∀ W W', KeepsFrom B W W' → T W → T W') (hTp : ∀ W o, T W → T (W.putObj l o))
    (hl : W.heap[l]? = some (.loop (rec .ready none))) (ht : T W) (him : Im W)
    (hassign : ∀ (K : Act → World → Prop), K a₁ W → assign.wpIn (F.inRound l) m P (Exit.then K (fun _ _ _ => False)) { tmps := (ps.zip #[v]).foldl (fun t (p, v) => t.setIfInBounds p v) tmps, defers := [] } W)
    (hbody : ∀ W, (∃ r, W.heap[l]? = some (.loop r)) → Im W → body.wpIn (F.inRound l) m P (coPost B I Ix k W) a₁ W) :
    YieldAt F m P l #[v] W fun e W' => (e = .returned (.bool true) ∧ ∃ k', k < k' ∧ I k' W' ∧ W'.heap[l]? = some (.loop (rec .ready none)) ∧ T W') ∨ (e = .returned (.bool false) ∧ ∃ c, Ix c W' ∧ W'.heap[l]? = some (.loop (rec .done (some c))) ∧ T W') := by
  have hlt : l < W.heap.size := (Array.getElem?_eq_some_iff.1 hl).1
  have hy := run_yield (P := P) (args := #[v]) hl (by rw [hrec]; exact hps)
  rw [hrec] at hy
  refine ⟨fn, _, assign, body, hy, roundIn_of_wpIn hfn (hassign _ ?_)⟩
  refine ⟨_, run_beginRound hl (by rw [hrec]), ?_⟩
  have hl2 : (W.putObj l (.loop { rec .ready none with state := .busy })).heap[l]? = some (.loop { rec .ready none with state := .busy }) := World.putObj_heap_same hlt
  refine wpIn_mono (hbody _ ⟨_, hl2⟩ (hIm.putObj (s := ()) _ him hB hl rfl)) ?_
  have fin : ∀ (jump : Option Code) (W3 : World), KeepsFrom B (W.putObj l (.loop { rec .ready none with state := .busy })) W3 →
      (Instr.endRound l jump).run P W3 = .ok (.bool jump.isNone) (W3.putObj l (.loop (rec (if jump.isNone then .ready else .done) jump))) ∧
      W3.heap[l]? = some (.loop { rec .ready none with state := .busy }) ∧
      (W3.putObj l (.loop (rec (if jump.isNone then .ready else .done) jump))).heap[l]? = some (.loop (rec (if jump.isNone then .ready else .done) jump)) ∧
      T (W3.putObj l (.loop (rec (if jump.isNone then .ready else .done) jump))) := fun jump W3 hk3 => by
    have hl3 := hk3.same _ _ hB hl2 rfl
    have hr := run_endRound (P := P) jump hl3
    refine ⟨by rw [hrec] at hr ⊢; exact hr, hl3, World.putObj_heap_same (Array.getElem?_eq_some_iff.1 hl3).1, hTp _ _ (hT _ _ hk3 (hTp _ _ ht))⟩
  rintro e a3 W3 hp
  cases e with
  | normal =>
    obtain ⟨hk3, k', hkk, hi3⟩ := hp
    obtain ⟨hr, hl3, hl4, ht4⟩ := fin none W3 hk3
    exact ⟨_, _, hr, .inl ⟨rfl, k', hkk, hI.putObj _ hi3 hB hl3 rfl, hl4, ht4⟩⟩
  | ret =>
    obtain ⟨hk3, hi3⟩ := hp
    obtain ⟨hr, hl3, hl4, ht4⟩ := fin (some .ret) W3 hk3
    exact ⟨_, _, hr, .inr ⟨rfl, .ret, (hIx _).putObj (s := ()) _ hi3 hB hl3 rfl, hl4, ht4⟩⟩
  | exit id =>
    obtain ⟨hk3, hi3⟩ := hp
    obtain ⟨hr, hl3, hl4, ht4⟩ := fin (some (.exit id)) W3 hk3
    exact ⟨_, _, hr, .inr ⟨rfl, .exit id, (hIx _).putObj (s := ()) _ hi3 hB hl3 rfl, hl4, ht4⟩⟩
  | goto t =>
    obtain ⟨hk3, hi3⟩ := hp
    obtain ⟨hr, hl3, hl4, ht4⟩ := fin (some (.goto t)) W3 hk3
    exact ⟨_, _, hr, .inr ⟨rfl, .goto t, (hIx _).putObj (s := ()) _ hi3 hB hl3 rfl, hl4, ht4⟩⟩
  | panic ch => exact hp.elim
  | outgrown => exact hp.elim
theorem wpIn_co {g : Operand} {ps : Array Tmp} {assign body : Code} {Q : Exit → Act → World → Prop} {a : Act} {w : World}
    (hro : F.round = none) (h1 : 1 ≤ n) {gf : Nat} {lb : Array Value} (hg : a.eval g = .func (.func gf) #[] lb) (hFg : F.fn gf) (eg : ∀ args w, (callFunc gf args).run P w = .ok (.enter gf args) w)
    {R : Nat} {rd : Nat → World → Prop} {val : Nat → Value} {more : Nat → Bool} (hit : CoIter F (n - 1) P gf lb R rd val more) (hps : 1 = ps.size) (hR : R < w.heap.size)
    (I Im : Nat → World → Prop) (Ix : Code → World → Prop) (hI : OwnFrom w.heap.size I) (hIm : OwnFrom w.heap.size Im) (hIx : ∀ c, OwnFrom w.heap.size (fun (_ : Unit) W => Ix c W))
    (hrd : ∀ k W, I k W → rd k W) (hstep : ∀ k W W', I k W → more k = true → W.grownBy W' (some R) → rd (k + 1) W' → Im k W') {k0 : Nat} (h0 : I k0 w) (a₁ : Nat → Act)
    (hassign : ∀ (l : Nat) (k : Nat) (W : World) (K : Act → World → Prop), K (a₁ k) W →
      assign.wpIn (F.inRound l) (n - 1 - 1) P (Exit.then K (fun _ _ _ => False)) { tmps := (ps.zip #[val k]).foldl (fun t (p, v) => t.setIfInBounds p v) a.tmps, defers := [] } W)
    (hbody : ∀ (l : Nat) (k : Nat) (W : World), w.heap.size ≤ l → (∃ r, W.heap[l]? = some (.loop r)) → Im k W → more k = true → body.wpIn (F.inRound l) (n - 1 - 1) P (coPost w.heap.size I Ix k W) (a₁ k) W)
    (hdone : ∀ (D k : Nat) (W : World), w.heap.size ≤ D → k0 ≤ k → more k = false → I k W → W.heap[D]? = some (.deferred (some [])) → Q .normal { a with defers := { target := .collected D, args := #[] } :: a.defers } W)
    (hstop : ∀ (D : Nat) (c : Code) (W : World), w.heap.size ≤ D → Ix c W → W.heap[D]? = some (.deferred (some [])) → c.wpIn F n P Q { a with defers := { target := .collected D, args := #[] } :: a.defers } W) :
    (Code.rangeFunc g ps assign body).wpIn F n P Q a w := by
  refine wpIn_rangeFunc ?_
  intro fn hfn
  rw [hro]
  obtain ⟨rec, hrec⟩ : ∃ rec : LoopState → Option Code → Loop, rec = fun st pe => { state := st, pending := pe, fn, tmps := a.tmps, params := ps, assign, body, defers := w.heap.size } := ⟨_, rfl⟩
  obtain ⟨W1, hW1⟩ : ∃ W1, (w.alloc (.deferred (some []))).alloc (.loop (rec .ready none)) = W1 := ⟨_, rfl⟩
  have hL1 : W1.heap[w.heap.size + 1]? = some (.loop (rec .ready none)) := by
    rw [← hW1]; have := World.alloc_heap_new (w.alloc (.deferred (some []))) (.loop (rec .ready none)); rwa [World.size_alloc] at this
  have hK1 : W1.heap[w.heap.size]? = some (.deferred (some [])) := by
    rw [← hW1]; exact (Below.heap_alloc _ _ _ (by simp)).trans (World.alloc_heap_new w _)
  have hI1 : I k0 W1 := by rw [← hW1]; exact hI.alloc _ (hI.alloc _ h0)
  have hkeep : ∀ {W W' : World} {row : Option Nat} {k : Nat} {o : Obj}, W.grownBy W' row → (row = none ∨ row = some R) → w.heap.size ≤ k → W.heap[k]? = some o → W'.heap[k]? = some o := fun hg hr hk h => by
    refine (hg.block _ (Array.getElem?_eq_some_iff.1 h).1 ?_).trans h
    rcases hr with rfl | rfl
    · simp
    · intro e; cases e; omega
  refine ⟨w.heap.size + 1, [{ target := .collected w.heap.size, args := #[] }], W1, { target := .fn (.func gf) lb, args := #[.func (.yield (w.heap.size + 1)) #[] #[]] }, W1, gf,
    #[.func (.yield (w.heap.size + 1)) #[] #[]] ++ lb, W1, ?_, ?_, ?_, ?_, fun _ => h1, ?_⟩
  · rw [← hW1, hrec]; exact run_enterLoop_outer _ _ _ _ _
  · simp only [resolve, hg]
    simp [go_sem]
  · intro f' hf'; simp [Target.leads] at hf'; subst hf'; exact hFg
  · simp [invoke, go_sem, eg]
  · refine (hit (w.heap.size + 1)
      (fun k W => I k W ∧ W.heap[w.heap.size + 1]? = some (.loop (rec .ready none)) ∧ W.heap[w.heap.size]? = some (.deferred (some [])))
      (fun k W => Im k W ∧ W.heap[w.heap.size + 1]? = some (.loop (rec .ready none)) ∧ W.heap[w.heap.size]? = some (.deferred (some [])))
      (fun W => ∃ c, Ix c W ∧ W.heap[w.heap.size + 1]? = some (.loop (rec .done (some c))) ∧ W.heap[w.heap.size]? = some (.deferred (some [])))
      W1 k0 (fun k W h => hrd k W h.1) (fun k W W' h hg' => ⟨own_none hI h.1 hg', hkeep hg' (.inl rfl) (by omega) h.2.1, hkeep hg' (.inl rfl) (Nat.le_refl _) h.2.2⟩)
      (fun k W W' h hm hg' hr => ⟨hstep k W W' h.1 hm hg' hr, hkeep hg' (.inr rfl) (by omega) h.2.1, hkeep hg' (.inr rfl) (Nat.le_refl _) h.2.2⟩) ?_ ⟨hI1, hL1, hK1⟩).mono ?_
    · rintro k W ⟨him, hl, hk⟩ hm
      refine (co_round hfn (P := P) (m := n - 1 - 1) hrec hps (I := I) (Ix := Ix) (T := fun W => W.heap[w.heap.size]? = some (.deferred (some []))) (Im := Im k) (B := w.heap.size) (fun _ W W' row h => hIm k W W' row h) hI hIx (by omega)
        (fun W W' hkf h => hkf.same _ _ (Nat.le_refl _) h rfl) (fun W o h => (World.putObj_heap_other (by omega)).trans h) hl hk him (hassign _ k W) (fun W' hr him' => hbody _ k W' (by omega) hr him' hm)).mono ?_
      rintro e W' (⟨rfl, k', hkk, hi, hl', hk'⟩ | ⟨rfl, c, hx, hl', hk'⟩)
      · exact .inl ⟨rfl, k', hkk, hi, hl', hk'⟩
      · exact .inr ⟨rfl, c, hx, hl', hk'⟩
    · rintro e W2 ⟨⟨v, rfl⟩, (⟨k, hk0, hm, hi, hl, hk⟩ | ⟨c, hi, hl, hk⟩)⟩
      · exact ⟨none, _, by have := run_endLoop (P := P) hl (by rw [hrec]; simp); rw [hrec] at this; exact this, hdone _ k _ (Nat.le_refl _) hk0 hm (hI.putObj _ hi (by omega) hl rfl) ((World.putObj_heap_other (by omega)).trans hk)⟩
      · exact ⟨some c, _, by have := run_endLoop (P := P) hl (by rw [hrec]; simp); rw [hrec] at this; exact this, hstop _ c _ (Nat.le_refl _) ((hIx c).putObj (s := ()) _ hi (by omega) hl rfl) ((World.putObj_heap_other (by omega)).trans hk)⟩
theorem wpIn_coIn {g : Operand} {ps : Array Tmp} {assign body : Code} {Q : Exit → Act → World → Prop} {a : Act} {w : World}
    {l₀ : Nat} {r₀ : Loop} (hro : F.round = some l₀) (hl₀ : w.heap[l₀]? = some (.loop r₀)) (h1 : 1 ≤ n) {gf : Nat} {lb : Array Value} (hg : a.eval g = .func (.func gf) #[] lb) (hFg : F.fn gf) (eg : ∀ args w, (callFunc gf args).run P w = .ok (.enter gf args) w)
    {R : Nat} {rd : Nat → World → Prop} {val : Nat → Value} {more : Nat → Bool} (hit : CoIter F (n - 1) P gf lb R rd val more) (hps : 1 = ps.size) (hR : R < w.heap.size)
    (I Im : Nat → World → Prop) (Ix : Code → World → Prop) (hI : OwnFrom w.heap.size I) (hIm : OwnFrom w.heap.size Im) (hIx : ∀ c, OwnFrom w.heap.size (fun (_ : Unit) W => Ix c W))
    (hrd : ∀ k W, I k W → rd k W) (hstep : ∀ k W W', I k W → more k = true → W.grownBy W' (some R) → rd (k + 1) W' → Im k W') {k0 : Nat} (h0 : I k0 w) (a₁ : Nat → Act)
    (hassign : ∀ (l : Nat) (k : Nat) (W : World) (K : Act → World → Prop), K (a₁ k) W →
      assign.wpIn (F.inRound l) (n - 1 - 1) P (Exit.then K (fun _ _ _ => False)) { tmps := (ps.zip #[val k]).foldl (fun t (p, v) => t.setIfInBounds p v) a.tmps, defers := [] } W)
    (hbody : ∀ (l : Nat) (k : Nat) (W : World), w.heap.size ≤ l → (∃ r, W.heap[l]? = some (.loop r)) → Im k W → more k = true → body.wpIn (F.inRound l) (n - 1 - 1) P (coPost w.heap.size I Ix k W) (a₁ k) W)
    (hdone : ∀ (k : Nat) (W : World), k0 ≤ k → more k = false → I k W → Q .normal a W)
    (hstop : ∀ (c : Code) (W : World), Ix c W → c.wpIn F n P Q a W) :
    (Code.rangeFunc g ps assign body).wpIn F n P Q a w := by
  refine wpIn_rangeFunc ?_
  intro fn hfn
  rw [hro]
  obtain ⟨rec, hrec⟩ : ∃ rec : LoopState → Option Code → Loop, rec = fun st pe => { state := st, pending := pe, fn, tmps := a.tmps, params := ps, assign, body, defers := r₀.defers } := ⟨_, rfl⟩
  obtain ⟨W1, hW1⟩ : ∃ W1, w.alloc (.loop (rec .ready none)) = W1 := ⟨_, rfl⟩
  have hL1 : W1.heap[w.heap.size]? = some (.loop (rec .ready none)) := by rw [← hW1]; exact World.alloc_heap_new w _
  have hI1 : I k0 W1 := by rw [← hW1]; exact hI.alloc _ h0
  have hkeep : ∀ {W W' : World} {row : Option Nat} {k : Nat} {o : Obj}, W.grownBy W' row → (row = none ∨ row = some R) → w.heap.size ≤ k → W.heap[k]? = some o → W'.heap[k]? = some o := fun hg hr hk h => by
    refine (hg.block _ (Array.getElem?_eq_some_iff.1 h).1 ?_).trans h
    rcases hr with rfl | rfl
    · simp
    · intro e; cases e; omega
  refine ⟨w.heap.size, [], W1, { target := .fn (.func gf) lb, args := #[.func (.yield w.heap.size) #[] #[]] }, W1, gf,
    #[.func (.yield w.heap.size) #[] #[]] ++ lb, W1, ?_, ?_, ?_, ?_, fun _ => h1, ?_⟩
  · rw [← hW1, hrec]; exact run_enterLoop_inner hl₀ _ _ _ _ _
  · simp only [resolve, hg]
    simp [go_sem]
  · intro f' hf'; simp [Target.leads] at hf'; subst hf'; exact hFg
  · simp [invoke, go_sem, eg]
  · refine (hit w.heap.size
      (fun k W => I k W ∧ W.heap[w.heap.size]? = some (.loop (rec .ready none)))
      (fun k W => Im k W ∧ W.heap[w.heap.size]? = some (.loop (rec .ready none)))
      (fun W => ∃ c, Ix c W ∧ W.heap[w.heap.size]? = some (.loop (rec .done (some c))))
      W1 k0 (fun k W h => hrd k W h.1) (fun k W W' h hg' => ⟨own_none hI h.1 hg', hkeep hg' (.inl rfl) (Nat.le_refl _) h.2⟩)
      (fun k W W' h hm hg' hr => ⟨hstep k W W' h.1 hm hg' hr, hkeep hg' (.inr rfl) (Nat.le_refl _) h.2⟩) ?_ ⟨hI1, hL1⟩).mono ?_
    · rintro k W ⟨him, hl⟩ hm
      refine (co_round hfn (P := P) (m := n - 1 - 1) hrec hps (I := I) (Ix := Ix) (T := fun _ => True) (Im := Im k) (B := w.heap.size) (fun _ W W' row h => hIm k W W' row h) hI hIx (Nat.le_refl _)
        (fun _ _ _ h => h) (fun _ _ h => h) hl trivial him (hassign _ k W) (fun W' hr him' => hbody _ k W' (Nat.le_refl _) hr him' hm)).mono ?_
      rintro e W' (⟨rfl, k', hkk, hi, hl', _⟩ | ⟨rfl, c, hx, hl', _⟩)
      · exact .inl ⟨rfl, k', hkk, hi, hl'⟩
      · exact .inr ⟨rfl, c, hx, hl'⟩
    · rintro e W2 ⟨⟨v, rfl⟩, (⟨k, hk0, hm, hi, hl⟩ | ⟨c, hi, hl⟩)⟩
      · exact ⟨none, _, by have := run_endLoop (P := P) hl (by rw [hrec]; simp); rw [hrec] at this; exact this, hdone k _ hk0 hm (hI.putObj _ hi (Nat.le_refl _) hl rfl)⟩
      · exact ⟨some c, _, by have := run_endLoop (P := P) hl (by rw [hrec]; simp); rw [hrec] at this; exact this, hstop c _ ((hIx c).putObj (s := ()) _ hi (Nat.le_refl _) hl rfl)⟩
end Go.Proofs.YtjhnmikciejekaaGreat
