/-
  Texts of one proof, in their order. No condition.
-/
import Derived.Test.YtboopmfjkepilaaGreatDoorTxR0
namespace Go.Proofs.YtboopmfjkepilaaGreatDoor.Run
open Go.RowKit
set_option linter.unusedVariables false
set_option linter.unusedSimpArgs false
def AR (m : Mp) (C : Array Value) (o : Nat) (cs : List CV) : Prop := o + cs.length ≤ C.size ∧ ∀ i, i < cs.length → Rp m (C.getD (o + i) undef) (cs.getD i .any)
def Thaw (C : Array Value) (fz : Nat × Nat) : Prop := ∀ i, i < C.size → ¬ (fz.1 ≤ i ∧ (i < fz.2 ∨ fz.2 < fz.1))
theorem Thaw.old {C : Array Value} {fz : Nat × Nat} (h : Thaw C fz) (i : Nat) (hi : i < C.size) : ¬ (fz.1 ≤ i ∧ i < fz.2) := fun k => h i hi ⟨k.1, .inl k.2⟩
def BR (m : Mp) (w : World) (b : Pa) : Blk → Prop
  | .cells cs g => ∃ (p : Pl) (C : Array Value) (T : TypeId) (fz : Nat × Nat), m b = some p ∧ w.heap[p.r]? = some (.cells C T fz) ∧ C.size = p.N ∧ Thaw C fz ∧ AR m C p.o cs
  | .map es bs ck => ∃ (p : Pl) (E : Array MapEntry) (clk : Nat), m b = some p ∧ w.heap[p.r]? = some (.map E clk) ∧ E.size = es.length ∧ (∀ i, i < es.length → (E.getD i default).key = (es.getD i default).1 ∧ Rp m (E.getD i default).val (es.getD i default).2) ∧ E.toList.map (·.born) = bs ∧ clk = ck
  | .iter s pos => ∃ (p : Pl), m b = some p ∧ p.o = 0 ∧ w.heap[p.r]? = some (.stringIter s pos)
  | .dfr => ∃ (p : Pl), m b = some p ∧ w.heap[p.r]? = some (.deferred (some []))
  | .loop st pend fr params assign body d => ∃ (p q : Pl) (fn : FuncId) (tmps : Array Value), m b = some p ∧ m d = some q ∧ w.heap[p.r]? = some (.loop { state := st, pending := pend, fn := fn, tmps := tmps, params := params, assign := assign, body := body, defers := q.r }) ∧ FT m tmps fr
def grp (b : Pa) : Blk → Pa × Bool
  | .cells _ g => (g, true)
  | _ => (b, false)
def Ord (m : Mp) (h : Hp) (g : Pa) (y x : Pa) : Prop := ∀ cs ds p q, h.t.get y = some (.cells cs g) → h.t.get x = some (.cells ds g) → m y = some p → m x = some q → p.r = q.r → q.o + ds.length ≤ p.o + cs.length
structure Bs where
  w : World
  x : List (Nat × Obj)
def Bs.keeps (b : Bs) (w : World) : Prop := Below b.w.heap.size b.w w ∧ ∀ y ∈ b.x, w.heap[y.1]? = some y.2
def Bs.off (b : Bs) (r : Nat) : Prop := b.w.heap.size ≤ r ∧ ∀ y ∈ b.x, r ≠ y.1
theorem some_lt {A : Array Obj} {i : Nat} {o : Obj} (h : A[i]? = some o) : i < A.size := (Array.getElem?_eq_some_iff.1 h).1
theorem Bs.keeps.later {b : Bs} {w w' : World} (k : b.keeps w) (hb : Below w.heap.size w w') : b.keeps w' :=
  ⟨k.1.trans (hb.mono k.1.size), fun y hy => (hb.block _ (some_lt (k.2 y hy))).trans (k.2 y hy)⟩
theorem Bs.keeps.turn {b : Bs} {w w' : World} (k : b.keeps w) (hb : Below b.w.heap.size w w') {r : Nat} (hr : b.off r) (hrest : ∀ i, i < w.heap.size → i ≠ r → w'.heap[i]? = w.heap[i]?) : b.keeps w' :=
  ⟨k.1.trans hb, fun y hy => (hrest _ (some_lt (k.2 y hy)) (fun e => hr.2 y hy e.symm)).trans (k.2 y hy)⟩
theorem Bs.keeps.offAt {b : Bs} {w : World} (k : b.keeps w) {r : Nat} (hr : w.heap.size ≤ r) : b.off r :=
  ⟨Nat.le_trans k.1.size hr, fun y hy e => by have := some_lt (k.2 y hy); omega⟩
structure SR (w0 : Bs) (m : Mp) (h : Hp) (w : World) : Prop where
  bel : w0.keeps w
  dom : ∀ b p, m b = some p → b.num < h.n.num ∧ w0.off p.r ∧ p.r < w.heap.size
  blk : ∀ b k, h.t.get b = some k → BR m w b k
  grl : ∀ b cs g, h.t.get b = some (.cells cs g) → g.num < h.n.num ∧ ∃ L, h.g.get g = some L ∧ b ∈ L
  apart : ∀ b c kb kc p q, h.t.get b = some kb → h.t.get c = some kc → m b = some p → m c = some q → p.r = q.r → grp b kb = grp c kc
  order : ∀ g L, h.g.get g = some L → L.Pairwise (Ord m h g)
  lst : ∀ g L, h.g.get g = some L → ∀ x, x ∈ L → x.num < h.n.num
def mset (m : Mp) (b : Pa) (p : Pl) : Mp := fun x => if x = b then some p else m x
def Hp.new (h : Hp) (k : Blk) : Hp := ⟨Tr.set (some k) h.n h.t, Tr.set (some [h.n]) h.n h.g, h.n.succ⟩
def kill : List Pa → Tr Blk → Tr Blk
  | [], t => t
  | b :: r, t => kill r (Tr.set none b t)
def Hp.write (h : Hp) (b : Pa) (cs : List CV) (g : Pa) : Hp := ⟨Tr.set (some (.cells cs g)) b (kill ((h.g.get g).getD []) h.t), Tr.set (some [b]) g h.g, h.n⟩
def cutAt (b : Pa) : List Pa → Option (List Pa × List Pa)
  | [] => none
  | c :: r => match decide (c = b) with
    | true => some ([], r)
    | false => match cutAt b r with | some (x, y) => some (c :: x, y) | none => none
def Hp.push (h : Hp) (b : Pa) (cs : List CV) (g : Pa) (pre post : List Pa) : Hp := ⟨Tr.set (some (.cells cs g)) h.n (kill pre h.t), Tr.set (some (h.n :: b :: post)) g h.g, h.n.succ⟩
def spA : Nat → List CV → List CV → List CV
  | _, [], cs => cs
  | o, d :: ds, cs => spA (o + 1) ds (cs.set o d)
def spV : Nat → List Value → Array Value → Array Value
  | _, [], C => C
  | o, v :: vs, C => spV (o + 1) vs (C.setIfInBounds o v)
section
variable {w0 : Bs} {m : Mp} {h : Hp} {w : World}
theorem spA_length : ∀ (ds : List CV) (o : Nat) (cs : List CV), (spA o ds cs).length = cs.length
  | [], _, _ => rfl
  | d :: ds, o, cs => by simp only [spA, spA_length ds, List.length_set]
theorem spV_size : ∀ (vs : List Value) (o : Nat) (C : Array Value), (spV o vs C).size = C.size
  | [], _, _ => rfl
  | d :: ds, o, cs => by simp only [spV, spV_size ds, Array.size_setIfInBounds]
theorem AR.mono {m' : Mp} (hm : MLe m m') {C : Array Value} {o : Nat} {cs : List CV} (k : AR m C o cs) : AR m' C o cs := ⟨k.1, fun i hi => (k.2 i hi).mono hm⟩
theorem arr_getD_set (C : Array Value) (i j : Nat) (v d : Value) : (C.setIfInBounds i v).getD j d = if i = j ∧ j < C.size then v else C.getD j d := by
  simp only [Array.getD_eq_getD_getElem?, Array.getElem?_setIfInBounds]
  by_cases he : i = j
  · subst he
    by_cases hs : i < C.size
    · simp [hs]
    · simp [hs]
  · simp [he]
theorem AR.set {C : Array Value} {o : Nat} {cs : List CV} (k : AR m C o cs) (j : Nat) (hj : j < cs.length) {v : Value} {c : CV} (hr : Rp m v c) : AR m (C.setIfInBounds (o + j) v) o (cs.set j c) := by
  refine ⟨by simp only [Array.size_setIfInBounds, List.length_set]; exact k.1, fun i hi => ?_⟩
  have hi' : i < cs.length := by simpa using hi
  rw [arr_getD_set]
  have := k.1
  by_cases he : j = i
  · subst he
    rw [if_pos ⟨rfl, by omega⟩]
    simpa [List.getD_eq_getElem?_getD, List.getElem?_set, hj] using hr
  · rw [if_neg (by omega)]
    have := k.2 i hi'
    simpa [List.getD_eq_getElem?_getD, List.getElem?_set, he] using this
theorem AR.splice {o : Nat} : ∀ {vs : List Value} {ds : List CV} {j : Nat} {C : Array Value} {cs : List CV}, AR m C o cs → LR m vs ds → j + ds.length ≤ cs.length → AR m (spV (o + j) vs C) o (spA j ds cs)
  | [], [], j, C, cs, k, _, _ => k
  | v :: vs, d :: ds, j, C, cs, k, hr, hl => by
    simp only [List.length_cons] at hl
    have := AR.splice (vs := vs) (ds := ds) (j := j + 1) (k.set j (by omega) hr.hd.1) hr.hd.2 (by simp; omega)
    simpa only [spV, spA, Nat.add_assoc] using this
  | [], _ :: _, _, _, _, _, hr, _ => by simp [LR] at hr
  | _ :: _, [], _, _, _, _, hr, _ => by simp [LR] at hr
theorem spV_out : ∀ (vs : List Value) (o : Nat) (C : Array Value) (j : Nat) (d : Value), (j < o ∨ o + vs.length ≤ j) → (spV o vs C).getD j d = C.getD j d
  | [], _, _, _, _, _ => rfl
  | v :: vs, o, C, j, d, hj => by
    simp only [List.length_cons] at hj
    rw [spV, spV_out vs (o + 1) _ j d (by omega), arr_getD_set, if_neg (by omega)]
theorem spV_in : ∀ (vs : List Value) (o : Nat) (C : Array Value) (i : Nat) (d : Value), i < vs.length → o + vs.length ≤ C.size → (spV o vs C).getD (o + i) d = vs.getD i d
  | [], _, _, i, _, hi, _ => absurd hi (Nat.not_lt_zero _)
  | v :: vs, o, C, 0, d, _, hl => by
    simp only [List.length_cons] at hl
    rw [spV, spV_out vs (o + 1) _ _ d (.inl (by omega)), arr_getD_set, if_pos ⟨rfl, by omega⟩]
    rfl
  | v :: vs, o, C, i + 1, d, hi, hl => by
    simp only [List.length_cons] at hl hi
    rw [spV, show o + (i + 1) = o + 1 + i by omega, spV_in vs (o + 1) _ i d (by omega) (by simp; omega)]
    simp
theorem setCells_block (r : Nat) : ∀ (vs : List Value) (o : Nat) (w : World) (C : Array Value) (T : TypeId) (fz : Nat × Nat), w.heap[r]? = some (.cells C T fz) → (w.setCells r o vs).heap[r]? = some (.cells (spV o vs C) T fz)
  | [], _, _, _, _, _, hb => hb
  | v :: vs, o, w, C, T, fz, hb => by
    rw [World.setCells]
    refine setCells_block r vs (o + 1) _ (C.setIfInBounds o v) T fz ?_
    simp [World.setCell, Array.getElem?_modify, hb]
theorem setCells_other (r : Nat) : ∀ (vs : List Value) (o : Nat) (w : World) (k : Nat), k ≠ r → (w.setCells r o vs).heap[k]? = w.heap[k]?
  | [], _, _, _, _ => rfl
  | v :: vs, o, w, k, hk => by
    rw [World.setCells, setCells_other r vs (o + 1) _ k hk]
    exact Below.heap_setCell _ _ _ _ hk
theorem setCells_size (r : Nat) : ∀ (vs : List Value) (o : Nat) (w : World), (w.setCells r o vs).heap.size = w.heap.size
  | [], _, _ => rfl
  | v :: vs, o, w => by rw [World.setCells, setCells_size r vs]; simp [World.setCell]
theorem setCells_below {B r : Nat} (hB : B ≤ r) {a : World} : ∀ (vs : List Value) (o : Nat) (w : World), Below B a w → Below B a (w.setCells r o vs)
  | [], _, _, k => k
  | v :: vs, o, w, k => by rw [World.setCells]; exact setCells_below hB vs (o + 1) _ (k.setCell (p := ⟨r, o, none⟩) hB v)
theorem BR.keep {b : Pa} {k : Blk} (hb : BR m w b k) {m' : Mp} {w' : World} (hm : MLe m m') (hw : ∀ p, m b = some p → w'.heap[p.r]? = w.heap[p.r]?) : BR m' w' b k := by
  cases k with
  | cells cs g =>
    obtain ⟨p, C, T, fz, e1, e2, e3, e4, e5⟩ := hb
    exact ⟨p, C, T, fz, hm _ _ e1, (hw p e1).trans e2, e3, e4, e5.mono hm⟩
  | map es bs ck =>
    obtain ⟨p, E, clk, e1, e2, e3, e4, e5, e6⟩ := hb
    exact ⟨p, E, clk, hm _ _ e1, (hw p e1).trans e2, e3, fun i hi => ⟨(e4 i hi).1, (e4 i hi).2.mono hm⟩, e5, e6⟩
  | iter s pos =>
    obtain ⟨p, e1, e0, e2⟩ := hb
    exact ⟨p, hm _ _ e1, e0, (hw p e1).trans e2⟩
  | dfr =>
    obtain ⟨p, e1, e2⟩ := hb
    exact ⟨p, hm _ _ e1, (hw p e1).trans e2⟩
  | loop st pend fr params assign body d =>
    obtain ⟨p, q, fn, tmps, e1, e2, e3, e4⟩ := hb
    exact ⟨p, q, fn, tmps, hm _ _ e1, hm _ _ e2, (hw p e1).trans e3, e4.mono hm⟩
theorem BR.pl {b : Pa} {k : Blk} (hb : BR m w b k) : ∃ p, m b = some p := by
  cases k with
  | cells cs g => obtain ⟨p, _, _, _, e1, _⟩ := hb; exact ⟨p, e1⟩
  | map es bs ck => obtain ⟨p, _, _, e1, _⟩ := hb; exact ⟨p, e1⟩
  | iter s pos => obtain ⟨p, e1, _⟩ := hb; exact ⟨p, e1⟩
  | dfr => obtain ⟨p, e1, _⟩ := hb; exact ⟨p, e1⟩
  | loop st pend fr params assign body d => obtain ⟨p, _, _, _, e1, _⟩ := hb; exact ⟨p, e1⟩
theorem mset_le (s : SR w0 m h w) (p : Pl) : MLe m (mset m h.n p) := fun b q hb => by
  have := (s.dom b q hb).1
  unfold mset
  rw [if_neg (fun e => by rw [e] at this; omega)]
  exact hb
theorem kill_get : ∀ (L : List Pa) (t : Tr Blk) (c : Pa), (kill L t).get c = if c ∈ L then none else t.get c
  | [], t, c => by simp [kill]
  | b :: r, t, c => by
    rw [kill, kill_get r, Tr.get_set]
    by_cases h1 : c ∈ r
    · simp [h1]
    · by_cases h2 : b = c
      · subst h2; simp
      · have h3 : ¬ c = b := fun e => h2 e.symm
        simp [h1, h2, h3]
theorem cutAt_spec {b : Pa} : ∀ {L pre post : List Pa}, cutAt b L = some (pre, post) → L = pre ++ b :: post
  | [], _, _, hc => by simp [cutAt] at hc
  | c :: r, pre, post, hc => by
    simp only [cutAt] at hc
    split at hc
    · rename_i hd
      have hd := of_decide_eq_true hd
      injection hc with hc; injection hc with h1 h2
      subst h1 h2 hd; rfl
    · split at hc
      · rename_i x y hxy
        injection hc with hc; injection hc with h1 h2
        subst h1 h2
        rw [cutAt_spec hxy]; rfl
      · cases hc
theorem SR.later (s : SR w0 m h w) {w' : World} (hb : Below w.heap.size w w') : SR w0 m h w' where
  bel := s.bel.later hb
  dom := fun b p hp => let ⟨h1, h2, h3⟩ := s.dom b p hp; ⟨h1, h2, Nat.lt_of_lt_of_le h3 hb.size⟩
  blk := fun b k hk => (s.blk b k hk).keep (MLe.refl m) (fun p hp => hb.block _ (s.dom b p hp).2.2)
  grl := s.grl
  apart := s.apart
  order := s.order
  lst := s.lst
theorem SR.drew (s : SR w0 m h w) : SR w0 m h w.drew := s.later ⟨rfl, rfl, rfl, Nat.le_refl _, fun _ _ => rfl⟩
theorem SR.fresh (s : SR w0 m h w) : h.t.get h.n = none := by
  cases hq : h.t.get h.n with
  | none => rfl
  | some k => obtain ⟨p, hp⟩ := (s.blk _ _ hq).pl; have := (s.dom _ _ hp).1; omega
theorem SR.newAt (s : SR w0 m h w) (k : Blk) (p : Pl) (hp : ∀ b q, m b = some q → q.r ≠ p.r) (hoff : w0.off p.r) (hp2 : p.r < w.heap.size) (hk : BR (mset m h.n p) w h.n k) (hg : ∀ cs g, k = .cells cs g → g = h.n) : SR w0 (mset m h.n p) (h.new k) w := by
  have hle := mset_le s p
  have hn : mset m h.n p h.n = some p := by simp [mset]
  have hold : ∀ b q, b ≠ h.n → mset m h.n p b = some q → m b = some q := fun b q hne hq => by
    unfold mset at hq; rwa [if_neg hne] at hq
  have hg2 : ∀ b kb, (h.new k).t.get b = some kb → b ≠ h.n → h.t.get b = some kb := fun b kb hb hne => by
    simp only [Hp.new] at hb
    rwa [Tr.get_set_ne _ _ _ _ (Ne.symm hne)] at hb
  have hg3 : ∀ kb, (h.new k).t.get h.n = some kb → kb = k := fun kb hb => by
    simp only [Hp.new, Tr.get_set_eq, Option.some.injEq] at hb; exact hb.symm
  refine ⟨s.bel, fun b q hq => ?_, fun b kb hb => ?_, fun b cs g hb => ?_, fun b c kb kc q1 q2 hb hc h1 h2 he => ?_, fun g L hL => ?_, fun g L hL x hx => ?_⟩
  · simp only [Hp.new, Pa.succ_num]
    by_cases he : b = h.n
    · subst he
      rw [hn] at hq; injection hq with hq; subst hq
      exact ⟨by omega, hoff, hp2⟩
    · obtain ⟨h1, h2, h3⟩ := s.dom b q (hold b q he hq)
      exact ⟨by omega, h2, h3⟩
  · by_cases he : b = h.n
    · subst he; rw [hg3 kb hb]; exact hk
    · exact (s.blk b kb (hg2 b kb hb he)).keep hle (fun _ _ => rfl)
  · simp only [Hp.new, Pa.succ_num]
    by_cases he : b = h.n
    · subst he
      have := hg cs g (hg3 _ hb).symm
      subst this
      exact ⟨by omega, [h.n], Tr.get_set_eq _ _ _, by simp⟩
    · obtain ⟨h1, L, h2, h3⟩ := s.grl b cs g (hg2 _ _ hb he)
      refine ⟨by omega, L, ?_, h3⟩
      rw [Tr.get_set_ne _ _ _ _ (fun e => by rw [← e] at h1; omega)]
      exact h2
  · by_cases hbn : b = h.n
    · by_cases hcn : c = h.n
      · subst hbn; subst hcn; rw [hg3 kb hb, hg3 kc hc]
      · subst hbn
        rw [hn] at h1; injection h1 with h1; subst h1
        exact absurd he.symm (hp c q2 (hold c q2 hcn h2))
    · by_cases hcn : c = h.n
      · subst hcn
        rw [hn] at h2; injection h2 with h2; subst h2
        exact absurd he (hp b q1 (hold b q1 hbn h1))
      · exact s.apart b c kb kc q1 q2 (hg2 _ _ hb hbn) (hg2 _ _ hc hcn) (hold _ _ hbn h1) (hold _ _ hcn h2) he
  · simp only [Hp.new] at hL
    by_cases he : h.n = g
    · subst he
      rw [Tr.get_set_eq] at hL; injection hL with hL; subst hL
      simp
    · rw [Tr.get_set_ne _ _ _ _ he] at hL
      refine (s.order g L hL).imp (fun {y x} ho cs ds q1 q2 hy hx h1 h2 hr => ?_)
      by_cases hyn : y = h.n
      · subst hyn; exact absurd (hg cs g (hg3 _ hy).symm).symm he
      · by_cases hxn : x = h.n
        · subst hxn; exact absurd (hg ds g (hg3 _ hx).symm).symm he
        · exact ho cs ds q1 q2 (hg2 _ _ hy hyn) (hg2 _ _ hx hxn) (hold _ _ hyn h1) (hold _ _ hxn h2) hr
  · simp only [Hp.new, Pa.succ_num] at hL ⊢
    rw [Tr.get_set] at hL
    split at hL
    · injection hL with hL; subst hL
      rw [List.mem_singleton.1 hx]; omega
    · have := s.lst g L hL x hx; omega
theorem SR.new (s : SR w0 m h w) (k : Blk) (p : Pl) {w' : World} (hb : Below w.heap.size w w') (hp : w.heap.size ≤ p.r) (hp2 : p.r < w'.heap.size) (hk : BR (mset m h.n p) w' h.n k) (hg : ∀ cs g, k = .cells cs g → g = h.n) : SR w0 (mset m h.n p) (h.new k) w' :=
  (s.later hb).newAt k p (fun b q hq => by have := (s.dom b q hq).2.2; omega) (s.bel.offAt hp) hp2 hk hg
theorem SR.hide (s : SR w0 m h w) (o : Obj) : SR ⟨w0.w, (w.heap.size, o) :: w0.x⟩ m h (w.alloc o) := by
  have s' := s.later (w' := w.alloc o) ((Below.refl _ w).alloc (Nat.le_refl _) o)
  have ho : (w.alloc o).heap[w.heap.size]? = some o := by show (w.heap.push _)[w.heap.size]? = _; simp
  refine ⟨⟨s'.bel.1, fun y hy => ?_⟩, fun b p hp => ?_, s'.blk, s'.grl, s'.apart, s'.order, s'.lst⟩
  · rcases List.mem_cons.1 hy with rfl | hy
    · exact ho
    · exact s'.bel.2 y hy
  · obtain ⟨h1, h2, h3⟩ := s'.dom b p hp
    refine ⟨h1, ⟨h2.1, fun y hy => ?_⟩, h3⟩
    rcases List.mem_cons.1 hy with rfl | hy
    · have := (s.dom b p hp).2.2
      simp only; omega
    · exact h2.2 y hy
theorem SR.name {x : List (Nat × Obj)} {w1 : World} {r : Nat} {C : Array Value} {T : TypeId} (s : SR ⟨w1, (r, .cells C T) :: x⟩ m h w) (hoff : Bs.off ⟨w1, x⟩ r) {cs : List CV} (hr : AR m C 0 cs) : SR ⟨w1, x⟩ (mset m h.n ⟨r, 0, C.size⟩) (h.new (.cells cs h.n)) w := by
  have hb := s.bel.2 (r, .cells C T) (by simp)
  have s' : SR ⟨w1, x⟩ m h w := ⟨⟨s.bel.1, fun y hy => s.bel.2 y (by simp [hy])⟩, fun b p hp => by
    obtain ⟨h1, h2, h3⟩ := s.dom b p hp
    exact ⟨h1, ⟨h2.1, fun y hy => h2.2 y (by simp [hy])⟩, h3⟩, s.blk, s.grl, s.apart, s.order, s.lst⟩
  refine s'.newAt _ ⟨r, 0, C.size⟩ (fun b q hq => (s.dom b q hq).2.1.2 (r, .cells C T) (by simp)) hoff (some_lt hb) ?_ (fun cs g e => by injection e with _ e2; exact e2.symm)
  exact ⟨_, C, T, (0, 0), by simp [mset]; rfl, hb, rfl, fun i _ hi => by omega, hr.mono (mset_le s _)⟩
theorem SR.new_cells (s : SR w0 m h w) {C : Array Value} {T : TypeId} {cs : List CV} (hr : AR m C 0 cs) : SR w0 (mset m h.n ⟨w.heap.size, 0, C.size⟩) (h.new (.cells cs h.n)) (w.alloc (.cells C T)) := by
  refine s.new _ ⟨w.heap.size, 0, C.size⟩ ((Below.refl _ w).alloc (Nat.le_refl _) _) (Nat.le_refl _) (by show w.heap.size < (w.heap.push _).size; simp) ?_ (fun cs g e => by injection e with _ e2; exact e2.symm)
  refine ⟨_, C, T, (0, 0), by simp [mset]; rfl, ?_, rfl, fun i _ hi => by omega, hr.mono (mset_le s _)⟩
  show (w.heap.push _)[w.heap.size]? = _
  simp
theorem SR.store (s : SR w0 m h w) {b : Pa} {cs : List CV} {g : Pa} (hb : h.t.get b = some (.cells cs g)) {p : Pl} (hp : m b = some p) {j : Nat} {vs : List Value} {ds : List CV} (hd : LR m vs ds) (hj : j + ds.length ≤ cs.length) :
    SR w0 m (h.write b (spA j ds cs) g) (w.setCells p.r (p.o + j) vs) := by
  obtain ⟨hgn, L, hL, hbL⟩ := s.grl b cs g hb
  have hgd : (h.g.get g).getD [] = L := by rw [hL]; rfl
  obtain ⟨p', C, T, fz, e1, e2, e3, e4, e5⟩ := s.blk b _ hb
  rw [hp] at e1; injection e1 with e1; subst e1
  have hget : ∀ c k, (h.write b (spA j ds cs) g).t.get c = some k → c ≠ b → h.t.get c = some k ∧ c ∉ L := fun c k hc hne => by
    simp only [Hp.write, hgd] at hc
    rw [Tr.get_set_ne _ _ _ _ (Ne.symm hne), kill_get] at hc
    split at hc
    · cases hc
    · rename_i hn; exact ⟨hc, hn⟩
  have hgb : ∀ k, (h.write b (spA j ds cs) g).t.get b = some k → k = .cells (spA j ds cs) g := fun k hk => by
    simp only [Hp.write, Tr.get_set_eq, Option.some.injEq] at hk; exact hk.symm
  have hoff : ∀ c k q, h.t.get c = some k → c ∉ L → m c = some q → q.r ≠ p.r := fun c k q hc hn hq he => by
    have := s.apart c b k _ q p hc hb hq hp he
    cases k with
    | cells ds' g' =>
      simp only [grp, Prod.mk.injEq, and_true] at this
      subst this
      obtain ⟨_, L', hL', hm⟩ := s.grl c ds' _ hc
      rw [hL] at hL'; injection hL' with hL'; subst hL'
      exact hn hm
    | _ => simp [grp] at this
  refine ⟨s.bel.turn (setCells_below (s.dom b p hp).2.1.1 vs _ _ (Below.refl _ _)) (s.dom b p hp).2.1 (fun i _ hi => setCells_other _ _ _ _ _ hi), fun c q hq => ?_, fun c k hc => ?_, fun c cs' g' hc => ?_, fun c d kc kd q1 q2 hc hd' h1 h2 he => ?_, fun g' L' hL' => ?_, fun g' L' hL' x hx => ?_⟩
  · obtain ⟨h1, h2, h3⟩ := s.dom c q hq
    exact ⟨h1, h2, by rw [setCells_size]; exact h3⟩
  · by_cases he : c = b
    · subst he
      rw [hgb k hc]
      exact ⟨p, _, T, fz, hp, setCells_block _ _ _ _ _ _ _ e2, by rw [spV_size]; exact e3, fun i hi => e4 i (by rwa [spV_size] at hi), e5.splice hd hj⟩
    · obtain ⟨hc1, hc2⟩ := hget c k hc he
      exact (s.blk c k hc1).keep (MLe.refl m) (fun q hq => setCells_other _ _ _ _ _ (hoff c k q hc1 hc2 hq))
  · by_cases he : c = b
    · subst he
      have := hgb _ hc
      injection this with _ e; subst e
      exact ⟨hgn, [c], Tr.get_set_eq _ _ _, by simp⟩
    · obtain ⟨hc1, hc2⟩ := hget c _ hc he
      obtain ⟨h1, L', h2, h3⟩ := s.grl c cs' g' hc1
      refine ⟨h1, L', ?_, h3⟩
      simp only [Hp.write]
      rw [Tr.get_set_ne _ _ _ _ (fun e => by subst e; rw [hL] at h2; injection h2 with h2; subst h2; exact hc2 h3)]
      exact h2
  · by_cases hcb : c = b
    · by_cases hdb : d = b
      · subst hcb; subst hdb; rw [hgb kc hc, hgb kd hd']
      · subst hcb
        obtain ⟨hd1, hd2⟩ := hget d kd hd' hdb
        rw [hp] at h1; injection h1 with h1; subst h1
        exact absurd he.symm (hoff d kd q2 hd1 hd2 h2)
    · obtain ⟨hc1, hc2⟩ := hget c kc hc hcb
      by_cases hdb : d = b
      · subst hdb
        rw [hp] at h2; injection h2 with h2; subst h2
        exact absurd he (hoff c kc q1 hc1 hc2 h1)
      · obtain ⟨hd1, hd2⟩ := hget d kd hd' hdb
        exact s.apart c d kc kd q1 q2 hc1 hd1 h1 h2 he
  · simp only [Hp.write] at hL'
    by_cases he : g = g'
    · subst he
      rw [Tr.get_set_eq] at hL'; injection hL' with hL'; subst hL'
      simp
    · rw [Tr.get_set_ne _ _ _ _ he] at hL'
      refine (s.order g' L' hL').imp (fun {y x} ho cs1 ds1 q1 q2 hy hx h1 h2 hr => ?_)
      have hyb : y ≠ b := fun e => by subst e; have := hgb _ hy; injection this with _ e2; exact he e2.symm
      have hxb : x ≠ b := fun e => by subst e; have := hgb _ hx; injection this with _ e2; exact he e2.symm
      exact ho cs1 ds1 q1 q2 (hget y _ hy hyb).1 (hget x _ hx hxb).1 h1 h2 hr
  · simp only [Hp.write] at hL' ⊢
    rw [Tr.get_set] at hL'
    split at hL'
    · injection hL' with hL'; subst hL'
      rw [List.mem_singleton.1 hx]; exact (s.dom b p hp).1
    · exact s.lst g' L' hL' x hx
theorem SR.mark (s : SR w0 m h w) {b : Pa} {cs : List CV} {g : Pa} (hb : h.t.get b = some (.cells cs g)) {p : Pl} (hp : m b = some p) {C : Array Value} {T : TypeId} {fz : Nat × Nat} (hw : w.heap[p.r]? = some (.cells C T fz)) : SR w0 m h (w.freeze ⟨p.r, C.size, none⟩ 1) := by
  have hlt := some_lt hw
  obtain ⟨lo, up⟩ := fz
  have hrest : ∀ i, i ≠ p.r → (w.freeze ⟨p.r, C.size, none⟩ 1).heap[i]? = w.heap[i]? := fun i hi => by
    simp only [World.freeze]
    rw [if_neg (by omega)]
    simp only [Array.getElem?_modify]
    rw [if_neg (fun e => hi e.symm)]
  have hat : (w.freeze ⟨p.r, C.size, none⟩ 1).heap[p.r]? = some (.cells C T (if lo == up then (C.size, C.size + 1) else (min lo C.size, max up (C.size + 1)))) := by
    simp only [World.freeze]
    rw [if_neg (by omega)]
    simp only [Array.getElem?_modify, if_pos, hw]
    simp
  have hsz : (w.freeze ⟨p.r, C.size, none⟩ 1).heap.size = w.heap.size := by
    simp only [World.freeze]
    rw [if_neg (by omega)]
    simp
  have hbel : Below w0.w.heap.size w (w.freeze ⟨p.r, C.size, none⟩ 1) := ⟨by simp [World.freeze], by simp [World.freeze], by simp [World.freeze], by omega, fun k hk => hrest k (fun e => by have := (s.dom b p hp).2.1.1; omega)⟩
  refine ⟨s.bel.turn hbel (s.dom b p hp).2.1 (fun i _ hi => hrest i hi), fun c q hq => ?_, fun c k hc => ?_, s.grl, s.apart, s.order, s.lst⟩
  · obtain ⟨h1, h2, h3⟩ := s.dom c q hq
    exact ⟨h1, h2, by omega⟩
  · have hk := s.blk c k hc
    by_cases hq : ∃ q, m c = some q ∧ q.r = p.r
    · obtain ⟨q, hq, hqr⟩ := hq
      cases k with
      | cells ds g' =>
        obtain ⟨q', C', T', fz', e1, e2, e3, e4, e5⟩ := hk
        rw [hq] at e1; injection e1 with e1; subst e1
        rw [hqr, hw] at e2
        injection e2 with e2; injection e2 with e2 e6 e7
        subst e2 e6 e7
        refine ⟨q, C, T, _, hq, by rw [hqr]; exact hat, e3, fun i hi => ?_, e5⟩
        have h1 := e4 i hi
        by_cases hlh : lo = up
        · subst hlh
          simp only [beq_self_eq_true, if_true]
          omega
        · have h0 : C.size ≤ lo := by
            rcases Nat.lt_or_ge lo C.size with q | q
            · exact absurd (e4 lo q) (by simp only; omega)
            · exact q
          rw [if_neg (by simpa using hlh)]
          simp only
          omega
      | map es bs ck => obtain ⟨q', E, clk, e1, e2, _⟩ := hk; rw [hq] at e1; injection e1 with e1; subst e1; rw [hqr, hw] at e2; cases e2
      | iter s' pos => obtain ⟨q', e1, _, e2⟩ := hk; rw [hq] at e1; injection e1 with e1; subst e1; rw [hqr, hw] at e2; cases e2
      | dfr => obtain ⟨q', e1, e2⟩ := hk; rw [hq] at e1; injection e1 with e1; subst e1; rw [hqr, hw] at e2; cases e2
      | loop st pend fr params assign body d => obtain ⟨q', q2, fn, tmps, e1, _, e2, _⟩ := hk; rw [hq] at e1; injection e1 with e1; subst e1; rw [hqr, hw] at e2; cases e2
    · exact hk.keep (MLe.refl m) (fun q hq2 => hrest _ (fun e => hq ⟨q, hq2, e⟩))
theorem SR.push (s : SR w0 m h w) {b : Pa} {cs : List CV} {g : Pa} (hb : h.t.get b = some (.cells cs g)) {p : Pl} (hp : m b = some p) {L pre post : List Pa} (hL : h.g.get g = some L) (hcut : cutAt b L = some (pre, post)) {es : List CV} {w' : World} {p' : Pl}
    (hbel : Below w0.w.heap.size w w') (hsz : w0.off p'.r) (hlt : p'.r < w'.heap.size) (hnew : BR (mset m h.n p') w' h.n (.cells es g))
    (hrest : ∀ r, r < w.heap.size → r ≠ p'.r → w'.heap[r]? = w.heap[r]?)
    (hw : (w.heap.size ≤ p'.r) ∨ (p'.r = p.r ∧ p.o + cs.length ≤ p'.o + es.length ∧ ∀ c ds q, h.t.get c = some (.cells ds g) → m c = some q → q.r = p.r → q.o + ds.length ≤ p.o + cs.length → BR (mset m h.n p') w' c (.cells ds g))) :
    SR w0 (mset m h.n p') (h.push b es g pre post) w' := by
  have hle := mset_le s p'
  have hLe := cutAt_spec hcut
  have hgn := (s.grl b cs g hb).1
  have hn : mset m h.n p' h.n = some p' := by simp [mset]
  have hold : ∀ b q, b ≠ h.n → mset m h.n p' b = some q → m b = some q := fun b q hne hq => by
    unfold mset at hq; rwa [if_neg hne] at hq
  have hget : ∀ c k, (h.push b es g pre post).t.get c = some k → c ≠ h.n → h.t.get c = some k ∧ c ∉ pre := fun c k hc hne => by
    simp only [Hp.push] at hc
    rw [Tr.get_set_ne _ _ _ _ (Ne.symm hne), kill_get] at hc
    split at hc
    · cases hc
    · rename_i hn; exact ⟨hc, hn⟩
  have hgb : ∀ k, (h.push b es g pre post).t.get h.n = some k → k = .cells es g := fun k hk => by
    simp only [Hp.push, Tr.get_set_eq, Option.some.injEq] at hk; exact hk.symm
  have hmono := hbel.size
  have hord := s.order g L hL
  rw [hLe] at hord
  -- who lies in b's row ends no later than b
  have hend : ∀ c ds q, h.t.get c = some (.cells ds g) → c ∉ pre → m c = some q → q.r = p.r → c ∈ b :: post ∧ q.o + ds.length ≤ p.o + cs.length := fun c ds q hc hn hq he => by
    obtain ⟨_, L', hL', hm⟩ := s.grl c ds g hc
    rw [hL] at hL'; injection hL' with hL'; subst hL'
    rw [hLe] at hm
    have hm2 : c ∈ b :: post := by
      rcases List.mem_append.1 hm with h1 | h1
      · exact absurd h1 hn
      · exact h1
    refine ⟨hm2, ?_⟩
    have h2 := (List.pairwise_append.1 hord).2.1
    rcases List.mem_cons.1 hm2 with h3 | h3
    · subst h3
      rw [hb] at hc; injection hc with hc; injection hc with hc _; subst hc
      rw [hp] at hq; injection hq with hq; subst hq
      exact Nat.le_refl _
    · exact (List.pairwise_cons.1 h2).1 c h3 cs ds p q hb hc hp hq he.symm
  refine ⟨s.bel.turn hbel hsz hrest, fun c q hq => ?_, fun c k hc => ?_, fun c cs' g' hc => ?_, fun c d kc kd q1 q2 hc hd' h1 h2 he => ?_, fun g' L' hL' => ?_, fun g' L' hL' x hx => ?_⟩
  · simp only [Hp.push, Pa.succ_num]
    by_cases he : c = h.n
    · subst he
      rw [hn] at hq; injection hq with hq; subst hq
      exact ⟨by omega, hsz, hlt⟩
    · obtain ⟨h1, h2, h3⟩ := s.dom c q (hold c q he hq)
      exact ⟨by omega, h2, by omega⟩
  · by_cases he : c = h.n
    · subst he; rw [hgb k hc]; exact hnew
    · obtain ⟨hc1, hc2⟩ := hget c k hc he
      obtain ⟨q, hq⟩ := (s.blk c k hc1).pl
      have hqlt := (s.dom c q hq).2.2
      by_cases hr : q.r = p'.r
      · rcases hw with hw | ⟨hw1, _, hw2⟩
        · omega
        · have hqp : q.r = p.r := hr.trans hw1
          have hgr := s.apart c b k _ q p hc1 hb hq hp hqp
          cases k with
          | cells ds g' =>
            simp only [grp, Prod.mk.injEq, and_true] at hgr
            subst hgr
            exact hw2 c ds q hc1 hq hqp (hend c ds q hc1 hc2 hq hqp).2
          | _ => simp [grp] at hgr
      · exact (s.blk c k hc1).keep hle (fun q' hq' => by rw [hq] at hq'; injection hq' with hq'; subst hq'; exact hrest _ hqlt hr)
  · simp only [Hp.push, Pa.succ_num]
    by_cases he : c = h.n
    · subst he
      have := hgb _ hc
      injection this with _ e; subst e
      exact ⟨by omega, _, Tr.get_set_eq _ _ _, by simp⟩
    · obtain ⟨hc1, hc2⟩ := hget c _ hc he
      obtain ⟨h1, L', h2, h3⟩ := s.grl c cs' g' hc1
      by_cases hgg : g = g'
      · subst hgg
        rw [hL] at h2; injection h2 with h2; subst h2
        refine ⟨by omega, _, Tr.get_set_eq _ _ _, ?_⟩
        rw [hLe] at h3
        rcases List.mem_append.1 h3 with h4 | h4
        · exact absurd h4 hc2
        · exact List.mem_cons_of_mem _ h4
      · exact ⟨by omega, L', by rw [Tr.get_set_ne _ _ _ _ hgg]; exact h2, h3⟩
  · by_cases hcn : c = h.n
    · by_cases hdn : d = h.n
      · subst hcn; subst hdn; rw [hgb kc hc, hgb kd hd']
      · subst hcn
        rw [hn] at h1; injection h1 with h1; subst h1
        obtain ⟨hd1, hd2⟩ := hget d kd hd' hdn
        have hq2 := hold _ _ hdn h2
        rcases hw with hw | ⟨hw1, _⟩
        · have := (s.dom d q2 hq2).2.2; omega
        · rw [hgb kc hc, ← s.apart b d _ kd p q2 hb hd1 hp hq2 (hw1.symm.trans he)]; rfl
    · obtain ⟨hc1, hc2⟩ := hget c kc hc hcn
      have hq1 := hold _ _ hcn h1
      by_cases hdn : d = h.n
      · subst hdn
        rw [hn] at h2; injection h2 with h2; subst h2
        rcases hw with hw | ⟨hw1, _⟩
        · have := (s.dom c q1 hq1).2.2; omega
        · rw [hgb kd hd', s.apart c b kc _ q1 p hc1 hb hq1 hp (he.trans hw1)]; rfl
      · exact s.apart c d kc kd q1 q2 hc1 (hget d kd hd' hdn).1 hq1 (hold _ _ hdn h2) he
  · simp only [Hp.push] at hL'
    have old : ∀ y x, y ≠ h.n → x ≠ h.n → Ord m h g' y x → Ord (mset m h.n p') (h.push b es g pre post) g' y x := fun y x hy hx ho cs1 ds1 q1 q2 h1 h2 h3 h4 hr =>
      ho cs1 ds1 q1 q2 (hget y _ h1 hy).1 (hget x _ h2 hx).1 (hold _ _ hy h3) (hold _ _ hx h4) hr
    by_cases he : g = g'
    · subst he
      rw [Tr.get_set_eq] at hL'; injection hL' with hL'; subst hL'
      have h2 := (List.pairwise_append.1 hord).2.1
      have hmem : ∀ x, x ∈ b :: post → x ≠ h.n := fun x hx e => by
        have := s.lst g L hL x (by rw [hLe]; exact List.mem_append_right _ hx)
        rw [e] at this; omega
      refine List.pairwise_cons.2 ⟨fun x hx cs1 ds1 q1 q2 h1 h2 h3 h4 hr => ?_, h2.imp_of_mem (fun {y x} hy hx ho => old y x (hmem y hy) (hmem x hx) ho)⟩
      have e := hgb _ h1
      injection e with e _; subst e
      rw [hn] at h3; injection h3 with h3; subst h3
      have hxn := hmem x hx
      obtain ⟨hx1, hx2⟩ := hget x _ h2 hxn
      have hq := hold _ _ hxn h4
      rcases hw with hw | ⟨hw1, hw2, _⟩
      · have := (s.dom x q2 hq).2.2; omega
      · have := (hend x ds1 q2 hx1 hx2 hq (hr.symm.trans hw1)).2
        omega
    · rw [Tr.get_set_ne _ _ _ _ he] at hL'
      refine (s.order g' L' hL').imp (fun {y x} ho cs1 ds1 q1 q2 h1 h2 h3 h4 hr => ?_)
      have hyn : y ≠ h.n := fun e => by subst e; have := hgb _ h1; injection this with _ e2; exact he e2.symm
      have hxn : x ≠ h.n := fun e => by subst e; have := hgb _ h2; injection this with _ e2; exact he e2.symm
      exact old y x hyn hxn ho cs1 ds1 q1 q2 h1 h2 h3 h4 hr
  · simp only [Hp.push, Pa.succ_num] at hL' ⊢
    rw [Tr.get_set] at hL'
    split at hL'
    · injection hL' with hL'; subst hL'
      rcases List.mem_cons.1 hx with h1 | h1
      · rw [h1]; omega
      · have := s.lst g L hL x (by rw [hLe]; exact List.mem_append_right _ h1); omega
    · have := s.lst g' L' hL' x hx; omega
theorem SR.turn (s : SR w0 m h w) {b : Pa} {k k' : Blk} (hb : h.t.get b = some k) (hk : grp b k = (b, false)) (hk' : grp b k' = (b, false)) {p : Pl} (hp : m b = some p) {w' : World} (hbel : Below w0.w.heap.size w w') (hnew : BR m w' b k') (hrest : ∀ r, r ≠ p.r → w'.heap[r]? = w.heap[r]?) :
    SR w0 m { h with t := Tr.set (some k') b h.t } w' := by
  have hget : ∀ c kc, (Tr.set (some k') b h.t).get c = some kc → c ≠ b → h.t.get c = some kc := fun c kc hc hne => by
    rwa [Tr.get_set_ne _ _ _ _ (Ne.symm hne)] at hc
  have hgb : ∀ kc, (Tr.set (some k') b h.t).get b = some kc → kc = k' := fun kc hc => by
    simp only [Tr.get_set_eq, Option.some.injEq] at hc; exact hc.symm
  have hoff : ∀ c kc q, h.t.get c = some kc → c ≠ b → m c = some q → q.r ≠ p.r := fun c kc q hc hne hq he => by
    have := s.apart c b kc k q p hc hb hq hp he
    rw [hk] at this
    cases kc <;> simp [grp] at this <;> exact hne this
  have hncell : ∀ cs g, k' ≠ .cells cs g := fun cs g e => by subst e; simp [grp] at hk'
  refine ⟨s.bel.turn hbel (s.dom b p hp).2.1 (fun i _ hi => hrest i hi), fun c q hq => ?_, fun c kc hc => ?_, fun c cs' g' hc => ?_, fun c d kc kd q1 q2 hc hd' h1 h2 he => ?_, fun g' L' hL' => ?_, s.lst⟩
  · obtain ⟨h1, h2, h3⟩ := s.dom c q hq
    exact ⟨h1, h2, Nat.lt_of_lt_of_le h3 hbel.size⟩
  · by_cases he : c = b
    · subst he; rw [hgb kc hc]; exact hnew
    · exact (s.blk c kc (hget c kc hc he)).keep (MLe.refl m) (fun q hq => hrest _ (hoff c kc q (hget c kc hc he) he hq))
  · by_cases he : c = b
    · subst he; exact absurd (hgb _ hc).symm (hncell _ _)
    · exact s.grl c cs' g' (hget c _ hc he)
  · by_cases hcb : c = b
    · by_cases hdb : d = b
      · subst hcb; subst hdb; rw [hgb kc hc, hgb kd hd']
      · subst hcb
        rw [hp] at h1; injection h1 with h1; subst h1
        exact absurd he.symm (hoff d kd q2 (hget d kd hd' hdb) hdb h2)
    · by_cases hdb : d = b
      · subst hdb
        rw [hp] at h2; injection h2 with h2; subst h2
        exact absurd he (hoff c kc q1 (hget c kc hc hcb) hcb h1)
      · exact s.apart c d kc kd q1 q2 (hget c kc hc hcb) (hget d kd hd' hdb) h1 h2 he
  · refine (s.order g' L' hL').imp (fun {y x} ho cs1 ds1 q1 q2 h1 h2 h3 h4 hr => ?_)
    have hyn : y ≠ b := fun e => by subst e; exact absurd (hgb _ h1).symm (hncell _ _)
    have hxn : x ≠ b := fun e => by subst e; exact absurd (hgb _ h2).symm (hncell _ _)
    exact ho cs1 ds1 q1 q2 (hget y _ h1 hyn) (hget x _ h2 hxn) h3 h4 hr
theorem SR.zero (w : World) : SR ⟨w, []⟩ (fun _ => none) ⟨.lf, .lf, .e⟩ w where
  bel := ⟨Below.refl _ _, fun y hy => by cases hy⟩
  dom := fun b p h => by cases h
  blk := fun b k h => by rw [Tr.get_lf] at h; cases h
  grl := fun b cs g h => by rw [Tr.get_lf] at h; cases h
  apart := fun b c kb kc p q h => by rw [Tr.get_lf] at h; cases h
  order := fun g L h => by rw [Tr.get_lf] at h; cases h
  lst := fun g L h => by rw [Tr.get_lf] at h; cases h
end
end Go.Proofs.YtboopmfjkepilaaGreatDoor.Run
