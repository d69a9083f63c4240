/-
  Texts of one proof, in their order. No condition.
-/
import Derived.Deep.Quiet
import Derived.Deep.MidRow
import Derived.Below
import Derived.Deep.AppendSrc
import Derived.Laws.MakeOwn
import Derived.KernelRfl
namespace Go.Proofs.YtboopmfjkepilaaGreatDoor.Run
open Go.RowKit
set_option linter.unusedVariables false
set_option linter.unusedSimpArgs false
inductive Pa where
  | e
  | l (p : Pa)
  | r (p : Pa)
  deriving DecidableEq
def Pa.num : Pa → Nat
  | .e => 1
  | .l p => 2 * p.num
  | .r p => 2 * p.num + 1
def Pa.succ : Pa → Pa
  | .e => .l .e
  | .l p => .r p
  | .r p => .l p.succ
theorem Pa.succ_num : ∀ p : Pa, p.succ.num = p.num + 1
  | .e => rfl
  | .l p => rfl
  | .r p => by simp only [Pa.succ, Pa.num, Pa.succ_num p]; omega
def Pa.ofF : Nat → Nat → Pa
  | 0, _ => .e
  | f + 1, n => match n with
    | 0 => .e
    | k + 1 => match Nat.beq (k % 2) 0 with
      | true => .l (Pa.ofF f (k / 2))
      | false => .r (Pa.ofF f (k / 2))
def Pa.of (n : Nat) : Pa := Pa.ofF n n
theorem Pa.ofF_num : ∀ f n, n ≤ f → (Pa.ofF f n).num = n + 1
  | 0, n, h => by obtain rfl : n = 0 := by omega
                  rfl
  | f + 1, 0, h => rfl
  | f + 1, k + 1, h => by
    have ih := Pa.ofF_num f (k / 2) (by omega)
    cases hb : Nat.beq (k % 2) 0 with
    | true =>
      have h2 := Nat.eq_of_beq_eq_true hb
      simp only [Pa.ofF, hb, Pa.num, ih]; omega
    | false =>
      have h2 : k % 2 ≠ 0 := fun h0 => by rw [h0] at hb; simp at hb
      simp only [Pa.ofF, hb, Pa.num, ih]; omega
theorem Pa.of_inj {i j : Nat} (h : Pa.of i = Pa.of j) : i = j := by
  have h1 := Pa.ofF_num i i (Nat.le_refl _)
  have h2 := Pa.ofF_num j j (Nat.le_refl _)
  unfold Pa.of at h
  rw [h] at h1
  omega
inductive Tr (α : Type) where
  | lf
  | nd (l : Tr α) (v : Option α) (r : Tr α)
def Tr.left {α : Type} : Tr α → Tr α
  | .lf => .lf
  | .nd l _ _ => l
def Tr.right {α : Type} : Tr α → Tr α
  | .lf => .lf
  | .nd _ _ r => r
def Tr.val {α : Type} : Tr α → Option α
  | .lf => none
  | .nd _ v _ => v
def Tr.get {α : Type} : Pa → Tr α → Option α
  | .e, t => t.val
  | .l p, t => Tr.get p t.left
  | .r p, t => Tr.get p t.right
def Tr.set {α : Type} (x : Option α) : Pa → Tr α → Tr α
  | .e, t => .nd t.left x t.right
  | .l p, t => .nd (Tr.set x p t.left) t.val t.right
  | .r p, t => .nd t.left t.val (Tr.set x p t.right)
theorem Tr.get_set_eq {α : Type} (x : Option α) : ∀ (p : Pa) (t : Tr α), (Tr.set x p t).get p = x
  | .e, t => rfl
  | .l p, t => Tr.get_set_eq x p t.left
  | .r p, t => Tr.get_set_eq x p t.right
theorem Tr.get_set_ne {α : Type} (x : Option α) : ∀ (p q : Pa) (t : Tr α), p ≠ q → (Tr.set x p t).get q = t.get q
  | .e, .e, t, h => absurd rfl h
  | .e, .l q, t, h => rfl
  | .e, .r q, t, h => rfl
  | .l p, .e, t, h => rfl
  | .r p, .e, t, h => rfl
  | .l p, .l q, t, h => Tr.get_set_ne x p q t.left (fun e => h (by rw [e]))
  | .r p, .r q, t, h => Tr.get_set_ne x p q t.right (fun e => h (by rw [e]))
  | .l p, .r q, t, h => rfl
  | .r p, .l q, t, h => rfl
theorem Tr.get_lf {α : Type} : ∀ p : Pa, (Tr.lf : Tr α).get p = none
  | .e => rfl
  | .l p => Tr.get_lf p
  | .r p => Tr.get_lf p
theorem Tr.get_set {α : Type} (x : Option α) (p q : Pa) (t : Tr α) : (Tr.set x p t).get q = if p = q then x else t.get q := by
  by_cases h : p = q
  · subst h; rw [if_pos rfl, Tr.get_set_eq]
  · rw [if_neg h, Tr.get_set_ne _ _ _ _ h]
inductive Ab where
  | rng (k : IntKind) (lo hi : Int)
  | osl (lo hi : Nat)
  deriving DecidableEq
def Ab.holds (v : Value) : Ab → Prop
  | .rng k lo hi => ∃ n, v = .int k n ∧ lo ≤ n ∧ n ≤ hi
  | .osl lo hi => ∃ p n c, v = .slice p n c ∧ lo ≤ n ∧ n ≤ hi
inductive CV where
  | any
  | lit (v : Value)
  | ptr (b : Pa) (o : Nat)
  | sl (b : Pa) (o n sz c : Nat) (x : Bool)
  | mp (b : Pa)
  | fn (f : Fn) (fst cap : List CV)
  | yl (l : Pa)
  | ifc (t : TypeId) (v : CV)
  | agg (cs : List CV)
  | tup (vs : List CV)
  | abs (a : Ab)
  deriving Inhabited
structure Fr where
  e : Tr CV
  n : Nat
inductive Blk where
  | cells (cs : List CV) (g : Pa)
  | map (es : List (Value × CV)) (bs : List Nat) (ck : Nat)
  | iter (s : ByteArray) (pos : Nat)
  | dfr
  | loop (st : LoopState) (pend : Option Code) (fr : Fr) (params : Array Tmp) (assign body : Code) (d : Pa)
def Fr.get (f : Fr) (t : Nat) : CV := match f.e.get (Pa.of t) with | some c => c | none => .any
def Fr.put (f : Fr) (d : Option Tmp) (c : CV) : Fr := match d with
  | some d => match Nat.blt d f.n with | true => { f with e := Tr.set (some c) (Pa.of d) f.e } | false => f
  | none => f
structure Hp where
  t : Tr Blk
  g : Tr (List Pa)
  n : Pa
structure Pl where
  r : Nat
  o : Nat
  N : Nat
abbrev Mp := Pa → Option Pl
inductive Rp (m : Mp) : Value → CV → Prop where
  | any (v : Value) : Rp m v .any
  | lit (v : Value) : Rp m v (.lit v)
  | ptr (b : Pa) (o : Nat) (p : Pl) (h : m b = some p) : Rp m (.pointer (some ⟨p.r, p.o + o, none⟩)) (.ptr b o)
  | sl (b : Pa) (o n sz c : Nat) (x : Bool) (c' q : Nat) (p : Pl) (h : m b = some p) (hn : n ≤ c') (hc : c ≤ c') (hx : x = true → c' = c) (hN : p.o + o + c' * sz ≤ p.N) (hq : q = p.o + o ∨ c' = 0) : Rp m (.slice (some ⟨p.r, q, none⟩) n c') (.sl b o n sz c x)
  | mp (b : Pa) (p : Pl) (h : m b = some p) : Rp m (.map (some p.r)) (.mp b)
  | fn (f : Fn) (us vs : List Value) (fst cap : List CV) (hl : us.length = fst.length) (hr : ∀ i, i < fst.length → Rp m (us.getD i undef) (fst.getD i .any)) (hl2 : vs.length = cap.length) (hr2 : ∀ i, i < cap.length → Rp m (vs.getD i undef) (cap.getD i .any)) : Rp m (.func f us.toArray vs.toArray) (.fn f fst cap)
  | yl (l : Pa) (p : Pl) (h : m l = some p) : Rp m (.func (.yield p.r) #[] #[]) (.yl l)
  | ifc (t : TypeId) (v : Value) (c : CV) (hr : Rp m v c) : Rp m (.iface t v) (.ifc t c)
  | agg (vs : List Value) (cs : List CV) (hl : vs.length = cs.length) (hr : ∀ i, i < cs.length → Rp m (vs.getD i undef) (cs.getD i .any)) : Rp m (.agg vs.toArray) (.agg cs)
  | tup (vs : List Value) (cs : List CV) (hl : vs.length = cs.length) (hr : ∀ i, i < cs.length → Rp m (vs.getD i undef) (cs.getD i .any)) : Rp m (.tuple vs.toArray) (.tup cs)
  | abs (v : Value) (a : Ab) (h : a.holds v) : Rp m v (.abs a)
def MLe (m m' : Mp) : Prop := ∀ b p, m b = some p → m' b = some p
theorem MLe.refl (m : Mp) : MLe m m := fun _ _ h => h
theorem MLe.trans {a b c : Mp} (h : MLe a b) (k : MLe b c) : MLe a c := fun x p hx => k x p (h x p hx)
theorem Rp.mono {m m' : Mp} (hm : MLe m m') {v : Value} {c : CV} (h : Rp m v c) : Rp m' v c := by
  induction h with
  | any v => exact .any v
  | lit v => exact .lit v
  | ptr b o p h => exact .ptr b o p (hm _ _ h)
  | sl b o n sz c x c' q p h hn hc hx hN hq => exact .sl b o n sz c x c' q p (hm _ _ h) hn hc hx hN hq
  | mp b p h => exact .mp b p (hm _ _ h)
  | fn f us vs fst cap hl hr hl2 hr2 ih ih2 => exact .fn f us vs fst cap hl ih hl2 ih2
  | yl l p h => exact .yl l p (hm _ _ h)
  | ifc t v c hr ih => exact .ifc t v c ih
  | agg vs cs hl hr ih => exact .agg vs cs hl ih
  | tup vs cs hl hr ih => exact .tup vs cs hl ih
  | abs v a h => exact .abs v a h
def LR (m : Mp) (vs : List Value) (cs : List CV) : Prop := vs.length = cs.length ∧ ∀ i, i < cs.length → Rp m (vs.getD i undef) (cs.getD i .any)
section
variable {m : Mp}
theorem LR.mono {m' : Mp} (hm : MLe m m') {vs : List Value} {cs : List CV} (h : LR m vs cs) : LR m' vs cs := ⟨h.1, fun i hi => (h.2 i hi).mono hm⟩
theorem LR.nil : LR m [] [] := ⟨rfl, fun i hi => absurd hi (Nat.not_lt_zero _)⟩
theorem LR.cons {v : Value} {c : CV} {vs : List Value} {cs : List CV} (h : Rp m v c) (k : LR m vs cs) : LR m (v :: vs) (c :: cs) := by
  refine ⟨by simp [k.1], fun i hi => ?_⟩
  cases i with
  | zero => exact h
  | succ i => exact k.2 i (by simpa using hi)
theorem LR.hd {v : Value} {c : CV} {vs : List Value} {cs : List CV} (h : LR m (v :: vs) (c :: cs)) : Rp m v c ∧ LR m vs cs :=
  ⟨h.2 0 (by simp), by simpa using h.1, fun i hi => h.2 (i + 1) (by simpa using hi)⟩
theorem LR.at {vs : List Value} {cs : List CV} (h : LR m vs cs) (i : Nat) (d : Value) : Rp m (vs.getD i d) (cs.getD i .any) := by
  by_cases hi : i < cs.length
  · have := h.2 i hi
    rw [List.getD_eq_getElem?_getD, List.getElem?_eq_getElem (by rw [h.1]; exact hi)] at this ⊢
    exact this
  · rw [List.getD_eq_getElem?_getD (l := cs), List.getElem?_eq_none (by omega)]; exact .any _
theorem LR.append {us vs : List Value} {as cs : List CV} (h : LR m us as) (k : LR m vs cs) : LR m (us ++ vs) (as ++ cs) := by
  refine ⟨by simp [h.1, k.1], fun i hi => ?_⟩
  by_cases hi2 : i < as.length
  · have := h.2 i hi2
    simpa [List.getD_eq_getElem?_getD, List.getElem?_append_left hi2, List.getElem?_append_left (show i < us.length by rw [h.1]; exact hi2)] using this
  · have := k.2 (i - as.length) (by simp at hi; omega)
    have e1 := h.1
    simpa [List.getD_eq_getElem?_getD, List.getElem?_append_right (show as.length ≤ i by omega), List.getElem?_append_right (show us.length ≤ i by omega), e1] using this
theorem LR.take {vs : List Value} {cs : List CV} (h : LR m vs cs) (n : Nat) : LR m (vs.take n) (cs.take n) := by
  refine ⟨by simp [h.1], fun i hi => ?_⟩
  have hi2 : i < n ∧ i < cs.length := by simp at hi; omega
  have := h.2 i hi2.2
  simpa [List.getD_eq_getElem?_getD, List.getElem?_take, hi2.1] using this
theorem LR.drop {vs : List Value} {cs : List CV} (h : LR m vs cs) (n : Nat) : LR m (vs.drop n) (cs.drop n) := by
  refine ⟨by simp [h.1], fun i hi => ?_⟩
  have hi2 : n + i < cs.length := by simp at hi; omega
  have := h.2 (n + i) hi2
  simpa [List.getD_eq_getElem?_getD] using this
theorem LR.map_lit (vs : List Value) : LR m vs (vs.map .lit) := by
  refine ⟨by simp, fun i hi => ?_⟩
  have hi' : i < vs.length := by simpa using hi
  rw [List.getD_eq_getElem?_getD, List.getD_eq_getElem?_getD, List.getElem?_eq_getElem hi', List.getElem?_eq_getElem hi]
  simp only [Option.getD_some, List.getElem_map]
  exact .lit _
theorem LR.set {vs : List Value} {cs : List CV} (h : LR m vs cs) (i : Nat) {v : Value} {c : CV} (hr : Rp m v c) : LR m (vs.set i v) (cs.set i c) := by
  refine ⟨by simp [h.1], fun j hj => ?_⟩
  have hj' : j < cs.length := by simpa using hj
  have := h.2 j hj'
  have hv : j < vs.length := by rw [h.1]; exact hj'
  by_cases he : i = j
  · subst he
    simpa [List.getD_eq_getElem?_getD, List.getElem?_set, hj', hv] using hr
  · simpa [List.getD_eq_getElem?_getD, List.getElem?_set, he] using this
end
structure FT (m : Mp) (tmps : Array Value) (f : Fr) : Prop where
  size : tmps.size = f.n
  rep : ∀ t, Rp m (tmps.getD t undef) (f.get t)
theorem FT.mono {m m' : Mp} (hm : MLe m m') {tmps : Array Value} {f : Fr} (h : FT m tmps f) : FT m' tmps f := ⟨h.size, fun t => (h.rep t).mono hm⟩
end Go.Proofs.YtboopmfjkepilaaGreatDoor.Run
