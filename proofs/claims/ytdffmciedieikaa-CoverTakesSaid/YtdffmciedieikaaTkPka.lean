/-
  Texts of one proof, in their order. No condition.
-/
import Derived.Deep.Quiet
import Derived.StillTail
import Derived.Deep.MidRow
import Derived.Lib.QuietBelow
import Derived.Below
import Derived.Maps.Own
import Derived.Maps.OwnSet
import Derived.Laws.MakeOwn
import Derived.Laws.Entries
import Derived.Laws.AppendOwn
import Derived.Laws.Tables
import Derived.Laws.StructEq
import Derived.Shelf.Abstract
import Derived.StringKeys
import Derived.Laws.IdiomStrings
import Derived.Laws.Small
namespace Go.Proofs.Ytdffmciedieikaa.Deep
set_option linter.unusedVariables false
variable {P : Program} {ops : Array Oper} {md : Region.Mode} {C : World → Prop}
def AnyHead (P : Program) (md : Region.Mode) (ops : Array Oper) (C : World → Prop) (n : Nat) (L : Array Bool → Act → Prop) : Nat → Array Bool → Act → Prop
  | 0, seen, a => L seen a
  | f + 1, seen, a => Region.ready md ops seen ≠ [] ∧ ∀ i ∈ Region.ready md ops seen, i < n ∧ qOp P ops C i (AnyHead P md ops C n L f (seen.setIfInBounds i true)) a
theorem AnyHead.wpAny {n g : Nat} {L : Array Bool → Act → Prop} {Q : Exit → Act → World → Prop} (hL : ∀ seen a w, C w → L seen a → wpAny P md ops Q g seen a w) :
    ∀ (f : Nat) (seen : Array Bool) (a : Act) (w : World), C w → AnyHead P md ops C n L f seen a → Go.wpAny P md ops Q (f + g) seen a w
  | 0, seen, a, w, hw, h => by rw [Nat.zero_add]; exact hL _ _ _ hw h
  | f + 1, seen, a, w, hw, h => by
    rw [show f + 1 + g = (f + g) + 1 by omega]
    exact ⟨fun h0 => absurd h0 h.1, fun i hi => wpOp_of_qOp hw (fun a' w' hw' h' => AnyHead.wpAny hL f _ a' w' hw' h') (h.2 i hi).2⟩
theorem AnyHead.first {n i : Nat} {oi : Oper} {v : Value} {L : Array Bool → Act → Prop} (hi : ops[i]? = some oi) (hsel : ∀ (j : Nat) (o : Oper) cs b, ops[j]? = some o → o.op ≠ .select cs b)
    (hs : Region.sinkB md ops n = true) (hc : Region.chainB md ops n = true) (hn : n < ops.size) (hin : i < n) (hend : ∀ seen a, L seen a → ∀ j ∈ Region.ready md ops seen, n ≤ j) :
    ∀ (f : Nat) (seen : Array Bool) (a : Act), HeadInv md ops n seen →
      (∀ j oj, ops[j]? = some oj → j ≠ i → seen.getD j true = false → (∀ e ∈ oj.after, Region.binds md e = true → e.on ≠ i) → oi.apart ops oj = true) →
      i ∈ Region.ready md ops seen → YieldsIn P ops C oi v a →
      AnyHead P md ops C n L f (seen.setIfInBounds i true) (a.put oi.dst v) → AnyHead P md ops C n L (f + 1) seen a := by
  intro f
  induction f with
  | zero =>
    intro seen a inv _ hr hy H
    refine ⟨fun h => by rw [h] at hr; exact absurd hr List.not_mem_nil, fun j hj => ?_⟩
    have hjn : j < n := (Nat.lt_or_ge j n).elim id (fun h => absurd hj (tail_waits hs hc hn inv _ i rfl hin (mem_ready.1 hr).1 j h))
    refine ⟨hjn, ?_⟩
    by_cases hji : j = i
    · subst hji; exact hy.qOp hi H
    · have := hend _ _ H j (ready_mono hj hji); omega
  | succ f ih =>
    intro seen a inv hfree hr hy H
    have hun := (mem_ready.1 hr).1
    refine ⟨fun h => by rw [h] at hr; exact absurd hr List.not_mem_nil, fun j hj => ?_⟩
    have hjn : j < n := (Nat.lt_or_ge j n).elim id (fun h => absurd hj (tail_waits hs hc hn inv _ i rfl hin hun j h))
    refine ⟨hjn, ?_⟩
    by_cases hji : j = i
    · subst hji; exact hy.qOp hi H
    · obtain ⟨hjun, oj, hoj, hall⟩ := mem_ready.1 hj
      have hnot : ∀ e ∈ oj.after, Region.binds md e = true → e.on ≠ i := fun e he hb heq => by
        have h1 := hall e he hb
        rw [heq, getD_both hun] at h1
        cases h1
      have h2 := qOp_put hoj (hfree j oj hoj hji hjun hnot) (fun cs b => hsel i oi cs b hi) (fun cs b => hsel j oj cs b hoj) hy (H.2 j (ready_mono hj hji)).2
      refine qOp_mono (fun a' h3 => ih (seen.setIfInBounds j true) a' (inv.set hj hjn) (fun k ok hk hki hku hno => hfree k ok hk hki ?_ hno) (ready_mono hr (Ne.symm hji)) h3.1 ?_) h2
      · by_cases hjk : j = k
        · subst hjk; exact hjun
        · rwa [getD_set_ne true hjk] at hku
      · rw [Array.setIfInBounds_comm _ _ hji]; exact h3.2
theorem AnyHead.lex {n g : Nat} {K : Act → Prop} (hsel : Region.noSelect ops = true) (hs : Region.sinkB md ops n = true) (hc : Region.chainB md ops n = true) (hn : n < ops.size) :
    ∀ (l : List Oper) (k : Nat) (seen : Array Bool) (a : Act), (∀ j, j < l.length → l[j]? = ops[k + j]?) → k + l.length = n → HeadInv md ops n seen →
      Region.lexHead md ops g l.length k seen = true → wpQuiet P ops C K l a → AnyHead P md ops C n (fun seen' a' => Region.seqB md ops g n seen' = true ∧ K a') l.length seen a
  | [], k, seen, a, _, hk, _, hB, h => by
    obtain rfl : k = n := by simpa using hk
    exact ⟨by simpa [Region.lexHead] using hB, h⟩
  | o :: l, k, seen, a, hl, hk, inv, hB, h => by
    have h0 : ops[k]? = some o := by simpa using (hl 0 (by simp)).symm
    simp only [List.length_cons] at hk
    simp only [List.length_cons, Region.lexHead, Bool.and_eq_true] at hB
    have hr : k ∈ Region.ready md ops seen := by simpa using hB.1.1
    have hq : qOp P ops C k (wpQuiet P ops C K l) a := by unfold qOp; simp only [h0]; exact h
    obtain ⟨v, hy, hK⟩ := yieldsIn_of_qOp h0 hq
    exact AnyHead.first h0 (Region.noSelect_spec hsel) hs hc hn (by omega) (fun seen' a' hL => seqB_ready hL.1) l.length seen a inv (Region.free_spec h0 hB.1.2) hr hy
      (AnyHead.lex hsel hs hc hn l (k + 1) _ _ (fun j hj => by have := hl (j + 1) (by simp; omega); simpa [Nat.add_assoc, Nat.add_comm 1 j] using this) (by omega) (inv.set hr (by omega)) hB.2 hK)
theorem wp_region_head {id : Nat} {Q : Exit → Act → World → Prop} {a : Act} {w : World} (n : Nat) (hm : P.follows .mixedOrders = true) (hB : Region.lexTailB .any ops n = true) (hC : C { w with drawn := w.drawn + 1 })
    (h : wpQuiet P ops C (fun a' => ∀ w', C w' → wpList P ops Q (ops.toList.drop n) a' w') (ops.toList.take n) a) : (Code.region id ops true).wp P Q a w := by
  simp only [Region.lexTailB, Bool.and_eq_true, decide_eq_true_eq] at hB
  obtain ⟨⟨⟨⟨hsel, hn⟩, hs⟩, hc⟩, hlex⟩ := hB
  have hlen : ops.toList.length = ops.size := by simp
  have htl : (ops.toList.take n).length = n := by rw [List.length_take]; omega
  have hdl : (ops.toList.drop n).length = ops.size - n := by rw [List.length_drop]; omega
  have inv0 : HeadInv .any ops n (Array.replicate ops.size false) :=
    ⟨by simp, fun j oj _ hl => absurd hl (by rw [getD_replicate_false]; exact Bool.false_ne_true), fun t _ ht => getD_in (by simpa using ht) (getD_replicate_false _ _)⟩
  have H := AnyHead.lex (C := C) (md := .any) (g := ops.size - n) hsel hs hc hn (ops.toList.take n) 0 _ a (fun j hj => by rw [htl] at hj; simp [hj]) (by simpa using htl) inv0 (by rw [htl]; exact hlex) h
  have H2 := AnyHead.wpAny (C := C) (Q := Q) (g := ops.size - n) (fun seen a' w' hw' hL => by
    have := wpAny_of_seq (md := .any) (Q' := Q) (ops.toList.drop n) n seen a' w' (fun j => by simp [List.getElem?_drop]) (by rw [hdl]; exact hL.1) (hL.2 w' hw')
    rwa [hdl] at this) _ _ _ _ hC H
  refine wp_region_any hm ?_
  rwa [htl, show n + (ops.size - n) = ops.size by omega] at H2
end Go.Proofs.Ytdffmciedieikaa.Deep

namespace Go.Proofs.Ytdffmciedieikaa.Deep
open Go.RowKit
set_option linter.unusedVariables false
inductive PV where
  | any
  | con (v : Value)
  | agg (cs : List PV)
  | tup (vs : List PV)
  | sl (xs : List (List PV))
  | ptr (b off : Nat)
  | ept (cs : List PV) (off : Nat)
  | fn (f : FuncId) (cap : List PV)
  | bm (f : FuncId) (fst : List PV)
  | ifc (t : TypeId) (p : PV)
  | rw (b off n : Nat)
  | row (cs : List PV)
  | own (b : Nat) (e : TypeId) (sz : Nat) (xs : List (List PV))
  | tip
  | mp (b : Nat)
  | mpc (k e : TypeId) (n : Nat) (D : DataW Unit)
  deriving Inhabited
abbrev Heap := List (List PV)
structure Pl where
  at' : Nat
  fr : Nat
  deriving Inhabited
def Shp (w : World) (g : Nat) (e : TypeId) (N : Nat) : Prop := ∃ cs : List Value, w.heap[g]? = some (.cells cs.toArray e (0, 0)) ∧ cs.length = N
inductive Rep (G : Nat → Nat) (m : Nat → Pl) (w : World) : Nat → Value → PV → Prop where
  | any (n : Nat) (v : Value) : Rep G m w n v .any
  | con (n : Nat) (v : Value) : Rep G m w n v (.con v)
  | agg (n : Nat) (vs : List Value) (cs : List PV) (hl : vs.length = cs.length) (hr : ∀ i, i < cs.length → Rep G m w n (vs.getD i undef) (cs.getD i .any)) : Rep G m w n (.agg vs.toArray) (.agg cs)
  | tup (n : Nat) (vs : List Value) (cs : List PV) (hl : vs.length = cs.length) (hr : ∀ i, i < cs.length → Rep G m w n (vs.getD i undef) (cs.getD i .any)) : Rep G m w n (.tuple vs.toArray) (.tup cs)
  | sl (n : Nat) (a : Option Addr) (c sz : Nat) (xs : List (List PV)) (F : Nat → Nat → Value) (hc : xs.length ≤ c) (hm : c ≤ 9223372036854775807) (hz : ∀ i, i < xs.length → (xs.getD i []).length = sz)
      (ha : 0 < xs.length → ∃ g o, a = some ⟨g, o, none⟩ ∧ o + xs.length * sz ≤ G g ∧ ∀ i, i < xs.length → ∀ j, j < sz → w.cell? ⟨g, o + i * sz + j, none⟩ = some (F i j))
      (hr : ∀ i, i < xs.length → ∀ j, j < sz → Rep G m w 0 (F i j) ((xs.getD i []).getD j .any)) : Rep G m w n (.slice a xs.length c) (.sl xs)
  | ptr (n b off : Nat) (hb : b < n) : Rep G m w n (.pointer (some ⟨(m b).at', off, none⟩)) (.ptr b off)
  | ept (n g o off : Nat) (cs : List PV) (F : Nat → Value) (hs : o + cs.length ≤ G g) (hc : ∀ j, j < cs.length → w.cell? ⟨g, o + j, none⟩ = some (F j)) (hr : ∀ j, j < cs.length → Rep G m w 0 (F j) (cs.getD j .any)) :
      Rep G m w n (.pointer (some ⟨g, o + off, none⟩)) (.ept cs off)
  | fn (n : Nat) (f : FuncId) (vs : List Value) (cs : List PV) (hl : vs.length = cs.length) (hr : ∀ i, i < cs.length → Rep G m w n (vs.getD i undef) (cs.getD i .any)) : Rep G m w n (.func (.func f) #[] vs.toArray) (.fn f cs)
  | bm (n : Nat) (f : FuncId) (vs : List Value) (cs : List PV) (hl : vs.length = cs.length) (hr : ∀ i, i < cs.length → Rep G m w n (vs.getD i undef) (cs.getD i .any)) : Rep G m w n (.func (.func f) vs.toArray #[]) (.bm f cs)
  | ifc (n : Nat) (t : TypeId) (v : Value) (p : PV) (hr : Rep G m w 0 v p) : Rep G m w n (.iface t v) (.ifc t p)
  | rw (n0 b off n c : Nat) (hb : b < n0) (hc : n ≤ c) (hm : c ≤ 9223372036854775807) : Rep G m w n0 (.slice (some ⟨(m b).at', off, none⟩) n c) (.rw b off n)
  | own0 (n b : Nat) (e : TypeId) (sz : Nat) (hb : b < n) : Rep G m w n (.slice none 0 0) (.own b e sz [])
  | own1 (n b : Nat) (e : TypeId) (c sz : Nat) (xs : List (List PV)) (F : Nat → Nat → Value) (hb : b < n) (hp : 0 < xs.length) (hc : xs.length ≤ c) (hm : c ≤ 9223372036854775807) (h0 : 0 < sz) (hz : ∀ i, i < xs.length → (xs.getD i []).length = sz)
      (hsh : Shp w (m b).at' e (c * sz)) (hg : xs.length * sz ≤ G (m b).at') (hfr : (m b).fr = xs.length * sz) (hx : ∀ i, i < xs.length → ∀ j, j < sz → w.cell? ⟨(m b).at', i * sz + j, none⟩ = some (F i j))
      (hr : ∀ i, i < xs.length → ∀ j, j < sz → Rep G m w 0 (F i j) ((xs.getD i []).getD j .any)) : Rep G m w n (.slice (some ⟨(m b).at', 0, none⟩) xs.length c) (.own b e sz xs)
  | mp (n b : Nat) (hb : b < n) : Rep G m w n (.map (some (m b).at')) (.mp b)
structure Keeps (G : Nat → Nat) (m : Nat → Pl) (w : World) (n : Nat) (G' : Nat → Nat) (m' : Nat → Pl) (w' : World) : Prop where
  grow : ∀ g, G g ≤ G' g
  cell : ∀ g o, o < G g → w'.cell? ⟨g, o, none⟩ = w.cell? ⟨g, o, none⟩
  shp : ∀ g e N, Shp w g e N → Shp w' g e N
  map : ∀ b, b < n → m' b = m b
theorem Keeps.zero {G : Nat → Nat} {m : Nat → Pl} {w : World} {G' : Nat → Nat} {m' : Nat → Pl} {w' : World} {n : Nat} (k : Keeps G m w n G' m' w') (m2 : Nat → Pl) : Keeps G m w 0 G' m2 w' := ⟨k.grow, k.cell, k.shp, fun b hb => absurd hb (Nat.not_lt_zero _)⟩
theorem row_lt {xs : List (List PV)} {i j sz : Nat} (hi : i < xs.length) (hj : j < sz) : i * sz + j < xs.length * sz := by
  have h1 : i * sz + sz ≤ xs.length * sz := by rw [← Nat.succ_mul]; exact Nat.mul_le_mul_right _ hi
  omega
theorem Rep.keep {G : Nat → Nat} {m : Nat → Pl} {w : World} {G' : Nat → Nat} {m' : Nat → Pl} {w' : World} {n : Nat} {v : Value} {p : PV} (h : Rep G m w n v p) : ∀ {n' : Nat}, n ≤ n' → Keeps G m w n G' m' w' → Rep G' m' w' n' v p := by
  induction h with
  | any n v => intro n' hn k; exact .any _ _
  | con n v => intro n' hn k; exact .con _ _
  | agg n vs cs hl hr ih => intro n' hn k; exact .agg _ _ _ hl (fun i hi => ih i hi hn k)
  | tup n vs cs hl hr ih => intro n' hn k; exact .tup _ _ _ hl (fun i hi => ih i hi hn k)
  | sl n a c sz xs F hc hm hz ha hr ih =>
    intro n' hn k
    refine .sl _ a c sz xs F hc hm hz (fun h0 => ?_) (fun i hi j hj => ih i hi j hj (Nat.le_refl _) (k.zero _))
    obtain ⟨g, o, rfl, hs, hx⟩ := ha h0
    refine ⟨g, o, rfl, Nat.le_trans hs (k.grow g), fun i hi j hj => ?_⟩
    rw [k.cell g _ ?_]
    · exact hx i hi j hj
    · have := row_lt hi hj; omega
  | ptr n b off hb => intro n' hn k; rw [← k.map b hb]; exact .ptr _ _ _ (Nat.lt_of_lt_of_le hb hn)
  | ept n g o off cs F hs hc hr ih =>
    intro n' hn k
    refine .ept _ g o off cs F (Nat.le_trans hs (k.grow g)) (fun j hj => ?_) (fun j hj => ih j hj (Nat.le_refl _) (k.zero _))
    rw [k.cell g _ (by omega)]
    exact hc j hj
  | fn n f vs cs hl hr ih => intro n' hn k; exact .fn _ _ _ _ hl (fun i hi => ih i hi hn k)
  | bm n f vs cs hl hr ih => intro n' hn k; exact .bm _ _ _ _ hl (fun i hi => ih i hi hn k)
  | ifc n t v p hr ih => intro n' hn k; exact .ifc _ _ _ _ (ih (Nat.le_refl _) (k.zero _))
  | rw n0 b off n c hb hc hm => intro n' hn k; rw [← k.map b hb]; exact .rw _ _ _ _ _ (Nat.lt_of_lt_of_le hb hn) hc hm
  | own0 n b e sz hb => intro n' hn k; exact .own0 _ _ _ _ (Nat.lt_of_lt_of_le hb hn)
  | own1 n b e c sz xs F hb hp hc hm h0 hz hsh hg hfr hx hr ih =>
    intro n' hn k
    have hmb := k.map b hb
    have := Rep.own1 (G := G') (m := m') (w := w') n' b e c sz xs F (Nat.lt_of_lt_of_le hb hn) hp hc hm h0 hz (by rw [hmb]; exact k.shp _ _ _ hsh) (by rw [hmb]; exact Nat.le_trans hg (k.grow _)) (by rw [hmb]; exact hfr) (fun i hi j hj => by
      rw [hmb, k.cell _ _ (by have := row_lt hi hj; omega)]; exact hx i hi j hj) (fun i hi j hj => ih i hi j hj (Nat.le_refl _) (k.zero _))
    rwa [hmb] at this
  | mp n b hb => intro n' hn k; rw [← k.map b hb]; exact .mp _ _ (Nat.lt_of_lt_of_le hb hn)
mutual
def PV.under (d : Nat) : PV → Bool
  | .any => true
  | .con _ => true
  | .agg cs => undersL d cs
  | .tup cs => undersL d cs
  | .sl _ => true
  | .ptr b _ => Nat.blt b d
  | .ept _ _ => true
  | .fn _ cs => undersL d cs
  | .bm _ cs => undersL d cs
  | .ifc _ _ => true
  | .rw b _ _ => Nat.blt b d
  | .row _ => true
  | .own b _ _ _ => Nat.blt b d
  | .tip => true
  | .mp b => Nat.blt b d
  | .mpc _ _ _ _ => true
def undersL (d : Nat) : List PV → Bool
  | [] => true
  | c :: cs => PV.under d c && undersL d cs
end
theorem blt_lt {a b : Nat} (h : Nat.blt a b = true) : a < b := Nat.le_of_ble_eq_true h
theorem undersL_at {d : Nat} : ∀ {cs : List PV}, undersL d cs = true → ∀ i, i < cs.length → (cs.getD i .any).under d = true
  | [], _, i, h => absurd h (Nat.not_lt_zero _)
  | c :: cs, h, i, hi => by
    simp only [undersL, Bool.and_eq_true] at h
    cases i with
    | zero => exact h.1
    | succ i => exact undersL_at h.2 i (by simpa using hi)
theorem Rep.lower {G : Nat → Nat} {m : Nat → Pl} {w : World} {n : Nat} {v : Value} {p : PV} (h : Rep G m w n v p) : ∀ {d : Nat}, p.under d = true → Rep G m w d v p := by
  induction h with
  | any n v => intro d hd; exact .any _ _
  | con n v => intro d hd; exact .con _ _
  | agg n vs cs hl hr ih => intro d hd; exact .agg _ _ _ hl (fun i hi => ih i hi (undersL_at (by simpa [PV.under] using hd) i hi))
  | tup n vs cs hl hr ih => intro d hd; exact .tup _ _ _ hl (fun i hi => ih i hi (undersL_at (by simpa [PV.under] using hd) i hi))
  | sl n a c sz xs F hc hm hz ha hr ih => intro d hd; exact .sl _ a c sz xs F hc hm hz ha hr
  | ptr n b off hb => intro d hd; exact .ptr _ _ _ (blt_lt (by simpa [PV.under] using hd))
  | ept n g o off cs F hs hc hr ih => intro d hd; exact .ept _ g o off cs F hs hc hr
  | fn n f vs cs hl hr ih => intro d hd; exact .fn _ _ _ _ hl (fun i hi => ih i hi (undersL_at (by simpa [PV.under] using hd) i hi))
  | bm n f vs cs hl hr ih => intro d hd; exact .bm _ _ _ _ hl (fun i hi => ih i hi (undersL_at (by simpa [PV.under] using hd) i hi))
  | ifc n t v p hr ih => intro d hd; exact .ifc _ _ _ _ hr
  | rw n0 b off n c hb hc hm => intro d hd; exact .rw _ _ _ _ _ (blt_lt (by simpa [PV.under] using hd)) hc hm
  | own0 n b e sz hb => intro d hd; exact .own0 _ _ _ _ (blt_lt (by simpa [PV.under] using hd))
  | own1 n b e c sz xs F hb hp hc hm h0 hz hsh hg hfr hx hr ih => intro d hd; exact .own1 _ b e c sz xs F (blt_lt (by simpa [PV.under] using hd)) hp hc hm h0 hz hsh hg hfr hx hr
  | mp n b hb => intro d hd; exact .mp _ _ (blt_lt (by simpa [PV.under] using hd))
inductive BK where
  | dead
  | tip
  | mpc (k e : TypeId) (n : Nat) (D : DataW Unit)
  | row (cs : List PV)
  | cells
def kind : List PV → BK
  | [] => .dead
  | p :: r => match r with
    | [] => match p with
      | .tip => .tip
      | .mpc k e n D => .mpc k e n D
      | .row cs => .row cs
      | _ => .cells
    | _ :: _ => .cells
def alive (m : Nat → Pl) (h : Heap) (b : Nat) : Prop := match kind (h.getD b []) with
  | .dead => False
  | .tip => (m b).fr ≠ 0
  | _ => True
def Lies (P : Program) (G : Nat → Nat) (m : Nat → Pl) (w : World) (n : Nat) (p : Pl) (l : List PV) : Prop := match kind l with
  | .dead => True
  | .tip => p.fr ≠ 0 → G p.at' = p.fr ∧ ∃ e N, Shp w p.at' e N
  | .mpc k e c D => w.ownsMap P k (plainElem P e) p.at' c D ∧ G p.at' = 0
  | .row l => (∃ (cs : List Value) (T : TypeId), w.heap[p.at']? = some (.cells cs.toArray T (0, 0)) ∧ cs.length = l.length ∧ ∀ j, j < l.length → Rep G m w 0 (cs.getD j undef) (l.getD j .any)) ∧ G p.at' = 0
  | .cells => (∃ (cs : List Value) (T : TypeId), w.heap[p.at']? = some (.cells cs.toArray T (0, 0)) ∧ l.length ≤ cs.length ∧ ∀ j, j < l.length → Rep G m w n (cs.getD j undef) (l.getD j .any)) ∧ G p.at' = 0
structure HS (P : Program) (G : Nat → Nat) (m : Nat → Pl) (w : World) (h : Heap) : Prop where
  blk : ∀ b, b < h.length → Lies P G m w h.length (m b) (h.getD b [])
  inj : ∀ b b', b < h.length → b' < h.length → alive m h b → alive m h b' → (m b).at' = (m b').at' → b = b'
  old : ∀ g, G g ≠ 0 → g < w.heap.size
structure Goes (G : Nat → Nat) (m : Nat → Pl) (w : World) (h : Heap) (G' : Nat → Nat) (m' : Nat → Pl) (w' : World) (h' : Heap) : Prop where
  os : w'.os = w.os
  tape : w'.tape = w.tape
  output : w'.output = w.output
  size : w.heap.size ≤ w'.heap.size
  num : h.length ≤ h'.length
  grow : ∀ g, G g ≤ G' g
  cell : ∀ g o, o < G g → w'.cell? ⟨g, o, none⟩ = w.cell? ⟨g, o, none⟩
  shp : ∀ g e N, Shp w g e N → Shp w' g e N
  map : ∀ b, b < h.length → m' b = m b
  aliv : ∀ b, b < h.length → alive m' h' b → alive m h b
  rest : ∀ k, k < w.heap.size → (∀ b, b < h.length → alive m h b → (m b).at' ≠ k) → w'.heap[k]? = w.heap[k]? ∧ G' k = G k
  new : ∀ b, h.length ≤ b → b < h'.length → alive m' h' b → w.heap.size ≤ (m' b).at' ∨ ∃ b0, b0 < h.length ∧ alive m h b0 ∧ (m' b).at' = (m b0).at'
variable {P : Program} {G : Nat → Nat} {m : Nat → Pl} {w : World} {h : Heap} {G' : Nat → Nat} {m' : Nat → Pl} {w' : World} {h' : Heap}
theorem Goes.refl (G : Nat → Nat) (m : Nat → Pl) (w : World) (h : Heap) : Goes G m w h G m w h :=
  ⟨rfl, rfl, rfl, Nat.le_refl _, Nat.le_refl _, fun _ => Nat.le_refl _, fun _ _ _ => rfl, fun _ _ _ h => h, fun _ _ => rfl, fun _ _ h => h, fun _ _ _ => ⟨rfl, rfl⟩, fun b h1 h2 => absurd h2 (by omega)⟩
theorem Goes.keeps (k : Goes G m w h G' m' w' h') : Keeps G m w h.length G' m' w' := ⟨k.grow, k.cell, k.shp, k.map⟩
theorem Goes.trans {G1 : Nat → Nat} {m1 : Nat → Pl} {w1 : World} {h1 : Heap} {G2 : Nat → Nat} {m2 : Nat → Pl} {w2 : World} {h2 : Heap} (a : Goes G m w h G1 m1 w1 h1) (k : Goes G1 m1 w1 h1 G2 m2 w2 h2) : Goes G m w h G2 m2 w2 h2 where
  os := k.os.trans a.os
  tape := k.tape.trans a.tape
  output := k.output.trans a.output
  size := Nat.le_trans a.size k.size
  num := Nat.le_trans a.num k.num
  grow := fun g => Nat.le_trans (a.grow g) (k.grow g)
  cell := fun g o ho => (k.cell g o (Nat.lt_of_lt_of_le ho (a.grow g))).trans (a.cell g o ho)
  shp := fun g e N hs => k.shp g e N (a.shp g e N hs)
  map := fun b hb => (k.map b (Nat.lt_of_lt_of_le hb a.num)).trans (a.map b hb)
  aliv := fun b hb ha => a.aliv b hb (k.aliv b (Nat.lt_of_lt_of_le hb a.num) ha)
  rest := fun j hj hb => by
    have h1 := a.rest j hj hb
    have h2 := k.rest j (Nat.lt_of_lt_of_le hj a.size) (fun b hb' ha => by
      by_cases hbn : b < h.length
      · rw [a.map b hbn]; exact hb b hbn (a.aliv b hbn ha)
      · rcases a.new b (by omega) hb' ha with hn | ⟨b0, q1, q2, q3⟩
        · omega
        · rw [q3]; exact hb b0 q1 q2)
    exact ⟨h2.1.trans h1.1, h2.2.trans h1.2⟩
  new := fun b hb hb2 ha => by
    by_cases hbn : b < h1.length
    · rw [k.map b hbn]; exact a.new b hb hbn (k.aliv b hbn ha)
    · rcases k.new b (by omega) hb2 ha with hn | ⟨b0, q1, q2, q3⟩
      · left; exact Nat.le_trans a.size hn
      · rw [q3]
        by_cases hb0 : b0 < h.length
        · right; exact ⟨b0, hb0, a.aliv b0 hb0 q2, by rw [a.map b0 hb0]⟩
        · exact a.new b0 (by omega) q1 q2
theorem Goes.below (k : Goes G m w [] G' m' w' h') : Below w.heap.size w w' :=
  ⟨k.os, k.tape, k.output, k.size, fun j hj => (k.rest j hj (fun b hb => absurd hb (Nat.not_lt_zero _))).1⟩
def Args (G : Nat → Nat) (m : Nat → Pl) (w : World) (n : Nat) (vs : Array Value) (ps : List PV) : Prop := vs.size = ps.length ∧ ∀ i, i < ps.length → Rep G m w n (vs.getD i undef) (ps.getD i .any)
def ACalls (P : Program) (f : FuncId) (args : List PV) (h : Heap) (Q : PV → Heap → Prop) : Prop :=
  ∀ (G : Nat → Nat) (m : Nat → Pl) (w : World) (vs : Array Value), HS P G m w h → Args G m w h.length vs args →
    Calls P f vs w fun e w' => ∃ v r h' G' m', e = .returned v ∧ Q r h' ∧ Rep G' m' w' h'.length v r ∧ HS P G' m' w' h' ∧ Goes G m w h G' m' w' h'
def Thrown (P : Program) (H : Value → Prop) (G : Nat → Nat) (m : Nat → Pl) (w : World) (h : Heap) (c : List PanicEntry) (w' : World) : Prop :=
  ∃ v h' G' m', c = [{ v := v, recovered := false }] ∧ H v ∧ HS P G' m' w' h' ∧ Goes G m w h G' m' w' h'
def TCalls (P : Program) (f : FuncId) (args : List PV) (h : Heap) (Q : PV → Heap → Prop) (H : Value → Prop) : Prop :=
  ∀ (G : Nat → Nat) (m : Nat → Pl) (w : World) (vs : Array Value), HS P G m w h → Args G m w h.length vs args →
    Calls P f vs w fun e w' => (∃ v r h' G' m', e = .returned v ∧ Q r h' ∧ Rep G' m' w' h'.length v r ∧ HS P G' m' w' h' ∧ Goes G m w h G' m' w' h') ∨ ∃ c, e = .panicked c ∧ Thrown P H G m w h c w'
def Throws (P : Program) (H : Value → Prop) (Q : Exit → Act → World → Prop) (G : Nat → Nat) (m : Nat → Pl) (w : World) (h : Heap) : Prop := ∀ c a' w', a'.defers = [] → Thrown P H G m w h c w' → Q (.panic c) a' w'
theorem Thrown.from {H : Value → Prop} {c : List PanicEntry} {w2 : World} (g : Goes G m w h G' m' w' h') (t : Thrown P H G' m' w' h' c w2) : Thrown P H G m w h c w2 := by
  obtain ⟨v, h2, G2, m2, e1, e2, e3, e4⟩ := t
  exact ⟨v, h2, G2, m2, e1, e2, e3, g.trans e4⟩
theorem Throws.from {H : Value → Prop} {Q : Exit → Act → World → Prop} (g : Goes G m w h G' m' w' h') (k : Throws P H Q G m w h) : Throws P H Q G' m' w' h' := fun c a w2 hd t => k c a w2 hd (t.from g)
theorem ACalls.t {f : FuncId} {args : List PV} {Q : PV → Heap → Prop} {H : Value → Prop} (k : ACalls P f args h Q) : TCalls P f args h Q H := fun G m w vs hs ha => (k G m w vs hs ha).mono fun e w' q => .inl q
theorem TCalls.a {f : FuncId} {args : List PV} {Q : PV → Heap → Prop} (k : TCalls P f args h Q fun _ => False) : ACalls P f args h Q := fun G m w vs hs ha => (k G m w vs hs ha).mono fun e w' q => by
  rcases q with q | ⟨c, _, v, _, _, _, _, q, _⟩
  · exact q
  · exact q.elim
theorem TCalls.mono {f : FuncId} {args : List PV} {Q Q' : PV → Heap → Prop} {H H' : Value → Prop} (k : TCalls P f args h Q H) (hq : ∀ r h', Q r h' → Q' r h') (hh : ∀ v, H v → H' v) : TCalls P f args h Q' H' := fun G m w vs hs ha =>
  (k G m w vs hs ha).mono fun e w' q => by
    rcases q with ⟨v, r, h', G', m', he, hQ, x⟩ | ⟨c, he, v, h', G', m', e1, e2, x⟩
    · exact .inl ⟨v, r, h', G', m', he, hq _ _ hQ, x⟩
    · exact .inr ⟨c, he, v, h', G', m', e1, hh _ e2, x⟩
def PCalls (P : Program) (f : FuncId) (args : List PV) (Q : PV → Prop) : Prop := ACalls P f args [] fun r _ => Q r ∧ r.under 0 = true
theorem HS.bare (k : HS P G m w h) : HS P G m w [] := ⟨fun b hb => absurd hb (Nat.not_lt_zero _), fun b _ hb => absurd hb (Nat.not_lt_zero _), k.old⟩
theorem ACalls.mono {f : FuncId} {args : List PV} {Q Q' : PV → Heap → Prop} (k : ACalls P f args h Q) (hq : ∀ r h', Q r h' → Q' r h') : ACalls P f args h Q' := fun G m w vs hh ha =>
  (k G m w vs hh ha).mono fun e w' ⟨v, r, h', G', m', he, hQ, x⟩ => ⟨v, r, h', G', m', he, hq _ _ hQ, x⟩
theorem World.ownsMap_of_block {b n : Nat} {k : TypeId} {R : Value → Option (DataW Unit × List MemPlace)} {D : DataW Unit} (hm : w.ownsMap P k R b n D) (e : w'.heap[b]? = w.heap[b]?) : w'.ownsMap P k R b n D := by
  obtain ⟨es, clock, hb, F⟩ := hm
  exact ⟨es, clock, e.trans hb, F⟩
theorem Lies.keep {n n' : Nat} {p : Pl} {l : List PV} (k : Lies P G m w n p l) (ks : Keeps G m w n G' m' w') (hn : n ≤ n') (e : (match kind l with | .dead => False | .tip => p.fr ≠ 0 | _ => True) → w'.heap[p.at']? = w.heap[p.at']? ∧ G' p.at' = G p.at') : Lies P G' m' w' n' p l := by
  unfold Lies at k ⊢
  split
  · trivial
  · rename_i hk
    rw [hk] at k e
    intro h0
    obtain ⟨q1, x, N, q2⟩ := k h0
    exact ⟨by rw [(e h0).2]; exact q1, x, N, ks.shp _ _ _ q2⟩
  · rename_i hk
    rw [hk] at k e
    obtain ⟨e1, e2⟩ := e trivial
    exact ⟨World.ownsMap_of_block k.1 e1, by rw [e2]; exact k.2⟩
  · rename_i hk
    rw [hk] at k e
    obtain ⟨e1, e2⟩ := e trivial
    obtain ⟨⟨cs, T, q1, q2, q3⟩, q4⟩ := k
    exact ⟨⟨cs, T, e1.trans q1, q2, fun j hj => (q3 j hj).keep (Nat.le_refl _) (ks.zero _)⟩, by rw [e2]; exact q4⟩
  · rename_i hk
    rw [hk] at k e
    obtain ⟨e1, e2⟩ := e trivial
    obtain ⟨⟨cs, T, q1, q2, q3⟩, q4⟩ := k
    exact ⟨⟨cs, T, e1.trans q1, q2, fun j hj => (q3 j hj).keep hn ks⟩, by rw [e2]; exact q4⟩
theorem Lies.lt {n : Nat} {p : Pl} {l : List PV} (k : Lies P G m w n p l) (ha : match kind l with | .dead => False | .tip => p.fr ≠ 0 | _ => True) : p.at' < w.heap.size := by
  unfold Lies at k
  split at ha
  · exact ha.elim
  · rename_i hk
    rw [hk] at k
    obtain ⟨_, x, N, cs, q, _⟩ := k ha
    exact (Array.getElem?_eq_some_iff.1 q).1
  · rename_i hk1 hk2
    split at k
    · rename_i hk; exact absurd hk hk1
    · rename_i hk; exact absurd hk hk2
    · exact k.1.lt
    · obtain ⟨⟨cs, T, q1, _⟩, _⟩ := k
      exact (Array.getElem?_eq_some_iff.1 q1).1
    · obtain ⟨⟨cs, T, q1, _⟩, _⟩ := k
      exact (Array.getElem?_eq_some_iff.1 q1).1
theorem HS.lt (k : HS P G m w h) {b : Nat} (hb : b < h.length) (ha : alive m h b) : (m b).at' < w.heap.size := (k.blk b hb).lt ha
theorem HS.over (k : HS P G m w h) {h0 : Heap} (g : Goes G m w [] G' m' w' h0) (ho : ∀ g, G' g ≠ 0 → g < w'.heap.size) : HS P G' m w' h ∧ Goes G m w h G' m w' h := by
  have ks : Keeps G m w h.length G' m w' := ⟨g.grow, g.cell, g.shp, fun _ _ => rfl⟩
  have hr : ∀ k, k < w.heap.size → w'.heap[k]? = w.heap[k]? ∧ G' k = G k := fun k hk => g.rest k hk (fun b hb => absurd hb (Nat.not_lt_zero _))
  exact ⟨⟨fun b hb => (k.blk b hb).keep ks (Nat.le_refl _) (fun ha => hr _ (k.lt hb ha)), k.inj, ho⟩,
    ⟨g.os, g.tape, g.output, g.size, Nat.le_refl _, g.grow, g.cell, g.shp, fun _ _ => rfl, fun _ _ h => h, fun j hj _ => hr j hj, fun b h1 h2 => absurd h2 (by omega)⟩⟩
theorem PCalls.at {f : FuncId} {args : List PV} {Q : PV → Prop} (k : PCalls P f args Q) (hp : undersL 0 args = true) (h : Heap) : ACalls P f args h fun r h' => Q r ∧ h' = h := fun G m w vs hh ha =>
  (k G m w vs hh.bare ⟨ha.1, fun i hi => (ha.2 i hi).lower (undersL_at hp i hi)⟩).mono fun e w' ⟨v, r, h', G', m', he, ⟨hQ, hr⟩, hrep, hs, hg⟩ => by
    obtain ⟨h1, h2⟩ := hh.over hg hs.old
    refine ⟨v, r, h, G', m, he, ⟨hQ, rfl⟩, ?_, h1, h2⟩
    have hr0 : Rep G' m' w' 0 v r := hrep.lower hr
    exact hr0.keep (Nat.zero_le _) ⟨fun _ => Nat.le_refl _, fun _ _ _ => rfl, fun _ _ _ h => h, fun b hb => absurd hb (Nat.not_lt_zero _)⟩
end Go.Proofs.Ytdffmciedieikaa.Deep

namespace Go.Proofs.Ytdffmciedieikaa.Deep
open Go.RowKit
set_option linter.unusedVariables false
variable {P : Program} {G : Nat → Nat} {m : Nat → Pl} {w : World} {h : Heap}
theorem getD_set_ne {α : Type} (l : List α) {i j : Nat} (x d : α) (h : i ≠ j) : (l.set i x).getD j d = l.getD j d := by
  rw [List.getD_eq_getElem?_getD, List.getElem?_set_ne h, ← List.getD_eq_getElem?_getD]
theorem getD_set_eq {α : Type} (l : List α) {i : Nat} (x d : α) (h : i < l.length) : (l.set i x).getD i d = x := by
  rw [List.getD_eq_getElem?_getD, List.getElem?_set_self h]; rfl
def splice : Nat → List PV → List PV → List PV
  | _, [], cs => cs
  | o, p :: ps, cs => splice (o + 1) ps (cs.set o p)
theorem splice_length : ∀ (o : Nat) (ps cs : List PV), (splice o ps cs).length = cs.length
  | _, [], _ => rfl
  | o, p :: ps, cs => by rw [splice, splice_length]; simp
theorem splice_out : ∀ (ps : List PV) (o : Nat) (cs : List PV) (j : Nat), j < o ∨ o + ps.length ≤ j → (splice o ps cs).getD j .any = cs.getD j .any
  | [], _, _, _, _ => rfl
  | p :: ps, o, cs, j, h => by
    simp only [List.length_cons] at h
    rw [splice, splice_out ps (o + 1) _ j (by omega), getD_set_ne _ _ _ (by omega)]
theorem splice_in : ∀ (ps : List PV) (o : Nat) (cs : List PV), o + ps.length ≤ cs.length → ∀ j, j < ps.length → (splice o ps cs).getD (o + j) .any = ps.getD j .any
  | [], _, _, _, j, hj => absurd hj (Nat.not_lt_zero _)
  | p :: ps, o, cs, h, j, hj => by
    rw [splice]
    simp only [List.length_cons] at h
    cases j with
    | zero =>
      rw [splice_out _ _ _ _ (by omega), Nat.add_zero, getD_set_eq _ _ _ (by omega)]; rfl
    | succ j =>
      have := splice_in ps (o + 1) (cs.set o p) (by simp; omega) j (by simpa using hj)
      rw [show o + (j + 1) = o + 1 + j by omega, this]; simp
theorem setCells_heap (b : Nat) : ∀ (vs : List Value) (o : Nat) (w : World) (cs : List Value) (T : TypeId) (fz : Nat × Nat), w.heap[b]? = some (.cells cs.toArray T fz) → o + vs.length ≤ cs.length →
    ∃ cs' : List Value, (w.setCells b o vs).heap[b]? = some (.cells cs'.toArray T fz) ∧ cs'.length = cs.length ∧ (∀ j, j < vs.length → cs'.getD (o + j) undef = vs.getD j undef) ∧ (∀ j, j < o ∨ o + vs.length ≤ j → cs'.getD j undef = cs.getD j undef) ∧
      (∀ k, k ≠ b → (w.setCells b o vs).heap[k]? = w.heap[k]?) ∧ (w.setCells b o vs).heap.size = w.heap.size ∧ (w.setCells b o vs).os = w.os ∧ (w.setCells b o vs).tape = w.tape ∧ (w.setCells b o vs).output = w.output
  | [], o, w, cs, T, fz, h, hl => ⟨cs, h, rfl, fun j hj => absurd hj (Nat.not_lt_zero _), fun _ _ => rfl, fun _ _ => rfl, rfl, rfl, rfl, rfl⟩
  | v :: vs, o, w, cs, T, fz, h, hl => by
    simp only [List.length_cons] at hl
    have h1 : (w.setCell ⟨b, o, none⟩ v).heap[b]? = some (.cells (cs.set o v).toArray T fz) := by
      simp [World.setCell, Array.getElem?_modify, h]
    have h2 : ∀ k, k ≠ b → (w.setCell ⟨b, o, none⟩ v).heap[k]? = w.heap[k]? := fun k hk => by
      simp [World.setCell, Array.getElem?_modify]; intro he; exact absurd he.symm hk
    obtain ⟨cs', g1, g2, g3, g4, g5, g6, g7, g8, g9⟩ := setCells_heap b vs (o + 1) (w.setCell ⟨b, o, none⟩ v) (cs.set o v) T fz h1 (by simp; omega)
    refine ⟨cs', g1, by simpa using g2, fun j hj => ?_, fun j hj => ?_, fun k hk => (g5 k hk).trans (h2 k hk), by rw [World.setCells, g6]; simp [World.setCell], g7, g8, g9⟩
    · cases j with
      | zero =>
        have := g4 o (by omega)
        simp only [Nat.add_zero]
        rw [this, getD_set_eq _ _ _ (by omega)]; rfl
      | succ j =>
        have := g3 j (by simpa using hj)
        rw [show o + (j + 1) = o + 1 + j by omega, this]; simp
    · simp only [List.length_cons] at hj
      rw [g4 j (by omega), getD_set_ne _ _ _ (by omega)]
def updM (m : Nat → Pl) (b : Nat) (p : Pl) : Nat → Pl := fun x => if x = b then p else m x
def updG (G : Nat → Nat) (g s : Nat) : Nat → Nat := fun x => if x = g then s else G x
theorem updM_eq (m : Nat → Pl) (b : Nat) (p : Pl) : updM m b p b = p := if_pos rfl
theorem updM_ne (m : Nat → Pl) {b x : Nat} (p : Pl) (hx : x ≠ b) : updM m b p x = m x := if_neg hx
theorem updG_eq (G : Nat → Nat) (g s : Nat) : updG G g s g = s := if_pos rfl
theorem updG_ne (G : Nat → Nat) {g x : Nat} (s : Nat) (hx : x ≠ g) : updG G g s x = G x := if_neg hx
theorem getD_app_lt (h : Heap) (ps : List PV) {b : Nat} (hb : b < h.length) : (h ++ [ps]).getD b [] = h.getD b [] := by
  rw [List.getD_eq_getElem?_getD, List.getElem?_append_left hb, ← List.getD_eq_getElem?_getD]
theorem getD_app_eq (h : Heap) (ps : List PV) : (h ++ [ps]).getD h.length [] = ps := by
  rw [List.getD_eq_getElem?_getD, List.getElem?_append_right (Nat.le_refl _)]; simp
theorem alive_congr {m m' : Nat → Pl} {h h' : Heap} {b : Nat} (e : h'.getD b [] = h.getD b []) (em : m' b = m b) : alive m' h' b ↔ alive m h b := by unfold alive; rw [e, em]
theorem Shp.lt {g : Nat} {e : TypeId} {N : Nat} (k : Shp w g e N) : g < w.heap.size := by
  obtain ⟨cs, q, _⟩ := k
  exact (Array.getElem?_eq_some_iff.1 q).1
theorem Shp.block {w' : World} {g : Nat} {e : TypeId} {N : Nat} (k : Shp w g e N) (hb : w'.heap[g]? = w.heap[g]?) : Shp w' g e N := by
  obtain ⟨cs, q, x⟩ := k
  exact ⟨cs, hb.trans q, x⟩
theorem cell_block {w' : World} {g : Nat} (o : Nat) (hb : w'.heap[g]? = w.heap[g]?) : w'.cell? ⟨g, o, none⟩ = w.cell? ⟨g, o, none⟩ := by
  unfold World.cell?; simp only; rw [hb]
theorem HS.add (k : HS P G m w h) {W : World} (o : Obj) (hW : W.heap = w.heap.push o) (h1 : W.os = w.os) (h2 : W.tape = w.tape) (h3 : W.output = w.output) (ps : List PV) (s fr : Nat)
    (hl : Lies P (updG G w.heap.size s) (updM m h.length ⟨w.heap.size, fr⟩) W (h.length + 1) ⟨w.heap.size, fr⟩ ps) :
    HS P (updG G w.heap.size s) (updM m h.length ⟨w.heap.size, fr⟩) W (h ++ [ps]) ∧ Goes G m w h (updG G w.heap.size s) (updM m h.length ⟨w.heap.size, fr⟩) W (h ++ [ps]) := by
  have hold : ∀ g, g < w.heap.size → W.heap[g]? = w.heap[g]? := fun g hg => by rw [hW, Array.getElem?_push, if_neg (by omega)]
  have hG0 : G w.heap.size = 0 := by
    apply Classical.byContradiction
    intro hn
    exact absurd (k.old _ hn) (Nat.lt_irrefl _)
  have hm : ∀ b, b < h.length → updM m h.length ⟨w.heap.size, fr⟩ b = m b := fun b hb => updM_ne _ _ (by omega)
  have hcell : ∀ g o, o < G g → W.cell? ⟨g, o, none⟩ = w.cell? ⟨g, o, none⟩ := fun g o ho => cell_block o (hold g (k.old g (by omega)))
  have hgrow : ∀ g, G g ≤ updG G w.heap.size s g := fun g => by
    by_cases he : g = w.heap.size
    · rw [he, hG0]; exact Nat.zero_le _
    · rw [updG_ne _ _ he]; exact Nat.le_refl _
  have hshp : ∀ g e N, Shp w g e N → Shp W g e N := fun g e N hs => hs.block (hold g hs.lt)
  have ks : Keeps G m w h.length (updG G w.heap.size s) (updM m h.length ⟨w.heap.size, fr⟩) W := ⟨hgrow, hcell, hshp, hm⟩
  have hz : W.heap.size = w.heap.size + 1 := by rw [hW]; simp
  have hal : ∀ b, b < h.length → (alive (updM m h.length ⟨w.heap.size, fr⟩) (h ++ [ps]) b ↔ alive m h b) := fun b hb => alive_congr (getD_app_lt h ps hb) (hm b hb)
  refine ⟨⟨fun b hb => ?_, fun b b' hb hb' ha ha' he => ?_, fun g hg => ?_⟩, ⟨h1, h2, h3, by omega, by simp, hgrow, hcell, hshp, hm, fun b hb ha => (hal b hb).1 ha, fun j hj hx => ⟨hold j hj, updG_ne _ _ (by omega)⟩, fun b hb hb2 ha => ?_⟩⟩
  · by_cases hb2 : b < h.length
    · rw [getD_app_lt h ps hb2, hm b hb2]
      refine (k.blk b hb2).keep ks (by simp) (fun ha => ?_)
      have hlt := (k.blk b hb2).lt ha
      exact ⟨hold _ hlt, updG_ne _ _ (by omega)⟩
    · obtain rfl : b = h.length := by simp at hb; omega
      rw [getD_app_eq, updM_eq]
      simpa using hl
  · simp only [List.length_append, List.length_cons, List.length_nil] at hb hb'
    by_cases hb2 : b < h.length <;> by_cases hb3 : b' < h.length
    · rw [hm b hb2, hm b' hb3] at he
      exact k.inj b b' hb2 hb3 ((hal b hb2).1 ha) ((hal b' hb3).1 ha') he
    · obtain rfl : b' = h.length := by omega
      rw [hm b hb2, updM_eq] at he
      have := k.lt hb2 ((hal b hb2).1 ha)
      simp only at he; omega
    · obtain rfl : b = h.length := by omega
      rw [hm b' hb3, updM_eq] at he
      have := k.lt hb3 ((hal b' hb3).1 ha')
      simp only at he; omega
    · omega
  · by_cases he : g = w.heap.size
    · omega
    · rw [updG_ne _ _ he] at hg
      have := k.old g hg; omega
  · simp only [List.length_append, List.length_cons, List.length_nil] at hb2
    obtain rfl : b = h.length := by omega
    left; rw [updM_eq]; exact Nat.le_refl _
theorem HS.push (k : HS P G m w h) (cs : List Value) (ps : List PV) (T : TypeId) (hk : kind ps = .cells ∨ kind ps = .dead) (hl : cs.length = ps.length) (hr : ∀ j, j < cs.length → Rep G m w h.length (cs.getD j undef) (ps.getD j .any)) :
    ∃ G' m', (m' h.length).at' = w.heap.size ∧ HS P G' m' (w.alloc (.cells cs.toArray T)) (h ++ [ps]) ∧ Goes G m w h G' m' (w.alloc (.cells cs.toArray T)) (h ++ [ps]) := by
  have hG0 : G w.heap.size = 0 := by
    apply Classical.byContradiction
    intro hn
    exact absurd (k.old _ hn) (Nat.lt_irrefl _)
  have hW : (w.alloc (.cells cs.toArray T)).heap = w.heap.push (.cells cs.toArray T) := rfl
  have hold : ∀ g, g < w.heap.size → (w.alloc (.cells cs.toArray T)).heap[g]? = w.heap[g]? := fun g hg => by rw [hW, Array.getElem?_push, if_neg (by omega)]
  have ks : Keeps G m w h.length (updG G w.heap.size 0) (updM m h.length ⟨w.heap.size, 0⟩) (w.alloc (.cells cs.toArray T)) := ⟨fun g => by
      by_cases he : g = w.heap.size
      · rw [he, hG0]; exact Nat.zero_le _
      · rw [updG_ne _ _ he]; exact Nat.le_refl _, fun g o ho => cell_block o (hold g (k.old g (by omega))), fun g e N hs => hs.block (hold g hs.lt), fun b hb => updM_ne _ _ (by omega)⟩
  have hl2 : Lies P (updG G w.heap.size 0) (updM m h.length ⟨w.heap.size, 0⟩) (w.alloc (.cells cs.toArray T)) (h.length + 1) ⟨w.heap.size, 0⟩ ps := by
    unfold Lies
    rcases hk with hk | hk <;> rw [hk]
    · refine ⟨⟨cs, T, ?_, by omega, fun j hj => (hr j (by omega)).keep (by omega) ks⟩, updG_eq _ _ _⟩
      rw [hW, Array.getElem?_push, if_pos rfl]
    · trivial
  obtain ⟨q1, q2⟩ := k.add (.cells cs.toArray T) hW rfl rfl rfl ps 0 0 hl2
  exact ⟨_, _, by rw [updM_eq], q1, q2⟩
theorem HS.kill (k : HS P G m w h) (b : Nat) : HS P G m w (h.set b []) ∧ Goes G m w h G m w (h.set b []) := by
  have hal : ∀ b', alive m (h.set b []) b' → alive m h b' := fun b' ha => by
    by_cases he : b = b'
    · subst he
      by_cases hb : b < h.length
      · unfold alive at ha; rw [getD_set_eq _ _ _ hb] at ha; exact ha.elim
      · rwa [List.set_eq_of_length_le (by omega)] at ha
    · exact (alive_congr (getD_set_ne _ _ _ he) rfl).1 ha
  refine ⟨⟨fun b' hb' => ?_, fun x y hx hy ha ha' he => k.inj x y (by simpa using hx) (by simpa using hy) (hal x ha) (hal y ha') he, k.old⟩, ⟨rfl, rfl, rfl, Nat.le_refl _, by simp, fun _ => Nat.le_refl _, fun _ _ _ => rfl, fun _ _ _ h => h, fun _ _ => rfl, fun b' _ ha => hal b' ha, fun _ _ _ => ⟨rfl, rfl⟩, fun x h1 h2 => absurd h2 (by simp; omega)⟩⟩
  have hb2 : b' < h.length := by simpa using hb'
  by_cases he : b = b'
  · subst he
    rw [getD_set_eq _ _ _ hb2]
    unfold Lies kind
    trivial
  · rw [getD_set_ne _ _ _ he]
    simpa using k.blk b' hb2
theorem kind_two {l : List PV} (hl : 2 ≤ l.length) : kind l = .cells := by
  match l with
  | [] => simp at hl
  | [p] => simp at hl
  | p :: q :: r => rfl
def PV.mark : PV → Bool
  | .tip => true
  | .mpc _ _ _ _ => true
  | .row _ => true
  | _ => false
theorem kind_one {p : PV} (hp : p.mark = false) : kind [p] = .cells := by
  cases p <;> first | rfl | simp [PV.mark] at hp
theorem kind_splice {l ps : List PV} {o : Nat} (hk : kind l = .cells) (hp : ∀ p ∈ ps, p.mark = false) (ho : o + ps.length ≤ l.length) : kind (splice o ps l) = .cells := by
  by_cases hl : 2 ≤ l.length
  · exact kind_two (by rw [splice_length]; exact hl)
  · match l, hl with
    | [], _ => simp [kind] at hk
    | [x], _ =>
      match ps with
      | [] => exact hk
      | [p] =>
        obtain rfl : o = 0 := by simp at ho; omega
        exact kind_one (hp p (by simp))
      | p :: q :: r => simp at ho; omega
    | x :: y :: r, hl => simp at hl
theorem HS.write (k : HS P G m w h) (b o : Nat) (hb : b < h.length) (hk : kind (h.getD b []) = .cells) (vs : List Value) (ps : List PV) (hl : vs.length = ps.length) (ho : o + ps.length ≤ (h.getD b []).length) (hpm : ∀ p ∈ ps, p.mark = false)
    (hr : ∀ j, j < vs.length → Rep G m w h.length (vs.getD j undef) (ps.getD j .any)) :
    w.there (m b).at' o vs.length ∧ HS P G m (w.setCells (m b).at' o vs) (h.set b (splice o ps (h.getD b []))) ∧ Goes G m w h G m (w.setCells (m b).at' o vs) (h.set b (splice o ps (h.getD b []))) := by
  have hL := k.blk b hb
  unfold Lies at hL
  rw [hk] at hL
  obtain ⟨⟨cs, T, h1, h2, h3⟩, hG0⟩ := hL
  obtain ⟨cs', g1, g2, g3, g4, g5, g6, g7, g8, g9⟩ := setCells_heap (m b).at' vs o w cs T (0, 0) h1 (by omega)
  have hcell : ∀ g x, x < G g → (w.setCells (m b).at' o vs).cell? ⟨g, x, none⟩ = w.cell? ⟨g, x, none⟩ := fun g x hx => by
    have hne : g ≠ (m b).at' := fun he => by rw [he, hG0] at hx; omega
    exact cell_block x (g5 g hne)
  have hshp : ∀ g e N, Shp w g e N → Shp (w.setCells (m b).at' o vs) g e N := fun g e N hs => by
    by_cases he : g = (m b).at'
    · subst he
      obtain ⟨cs2, q1, q2⟩ := hs
      rw [h1] at q1
      simp only [Option.some.injEq, Obj.cells.injEq] at q1
      obtain ⟨q3, rfl, _⟩ := q1
      have : cs.length = cs2.length := by have := congrArg Array.size q3; simpa using this
      exact ⟨cs', g1, by omega⟩
    · exact hs.block (g5 g he)
  have ks : Keeps G m w h.length G m (w.setCells (m b).at' o vs) := ⟨fun _ => Nat.le_refl _, hcell, hshp, fun _ _ => rfl⟩
  have hks := kind_splice hk hpm ho
  have hal : ∀ x, alive m (h.set b (splice o ps (h.getD b []))) x ↔ alive m h x := fun x => by
    by_cases he : b = x
    · subst he
      unfold alive
      rw [getD_set_eq _ _ _ hb, hks, hk]
    · exact alive_congr (getD_set_ne _ _ _ he) rfl
  have hbal : alive m h b := by unfold alive; rw [hk]; trivial
  refine ⟨fun j hj => ?_, ⟨fun b' hb' => ?_, fun x y hx hy ha ha' he => k.inj x y (by simpa using hx) (by simpa using hy) ((hal x).1 ha) ((hal y).1 ha') he, fun g hg => by rw [g6]; exact k.old g hg⟩,
    ⟨g7, g8, g9, by omega, by simp, fun _ => Nat.le_refl _, hcell, hshp, fun _ _ => rfl, fun x _ ha => (hal x).1 ha, fun j hj hx => ⟨g5 j (fun he => hx b hb hbal he.symm), rfl⟩, fun x hx hx2 => absurd hx2 (by simp; omega)⟩⟩
  · constructor
    · simp [World.cell?, h1]; omega
    · simp [World.frozen?, h1]
  · have hb'' : b' < h.length := by simpa using hb'
    simp only [List.length_set]
    by_cases he : b = b'
    · subst he
      rw [getD_set_eq _ _ _ hb'']
      unfold Lies
      rw [hks]
      refine ⟨⟨cs', T, g1, by rw [splice_length]; omega, fun j hj => ?_⟩, hG0⟩
      rw [splice_length] at hj
      by_cases hj2 : j < o ∨ o + vs.length ≤ j
      · rw [g4 j hj2, splice_out _ _ _ _ (by omega)]
        exact (h3 j (by omega)).keep (Nat.le_refl _) ks
      · obtain ⟨i, rfl⟩ : ∃ i, j = o + i := ⟨j - o, by omega⟩
        rw [g3 i (by omega), splice_in _ _ _ ho i (by omega)]
        exact (hr i (by omega)).keep (Nat.le_refl _) ks
    · rw [getD_set_ne _ _ _ he]
      refine (k.blk b' hb'').keep ks (Nat.le_refl _) (fun ha => ⟨g5 _ (fun he2 => he ?_), rfl⟩)
      exact (k.inj _ _ hb'' hb ha hbal he2).symm
theorem HS.pushRow (k : HS P G m w h) (cs : List Value) (ps : List PV) (T : TypeId) (hl : cs.length = ps.length) (hr : ∀ j, j < cs.length → Rep G m w 0 (cs.getD j undef) (ps.getD j .any)) :
    ∃ G' m', (m' h.length).at' = w.heap.size ∧ HS P G' m' (w.alloc (.cells cs.toArray T)) (h ++ [[.row ps]]) ∧ Goes G m w h G' m' (w.alloc (.cells cs.toArray T)) (h ++ [[.row ps]]) := by
  have hG0 : G w.heap.size = 0 := by
    apply Classical.byContradiction
    intro hn
    exact absurd (k.old _ hn) (Nat.lt_irrefl _)
  have hW : (w.alloc (.cells cs.toArray T)).heap = w.heap.push (.cells cs.toArray T) := rfl
  have hold : ∀ g, g < w.heap.size → (w.alloc (.cells cs.toArray T)).heap[g]? = w.heap[g]? := fun g hg => by rw [hW, Array.getElem?_push, if_neg (by omega)]
  have ks : Keeps G m w 0 (updG G w.heap.size 0) (updM m h.length ⟨w.heap.size, 0⟩) (w.alloc (.cells cs.toArray T)) := ⟨fun g => by
      by_cases he : g = w.heap.size
      · rw [he, hG0]; exact Nat.zero_le _
      · rw [updG_ne _ _ he]; exact Nat.le_refl _, fun g o ho => cell_block o (hold g (k.old g (by omega))), fun g e N hs => hs.block (hold g hs.lt), fun b hb => absurd hb (Nat.not_lt_zero _)⟩
  have hl2 : Lies P (updG G w.heap.size 0) (updM m h.length ⟨w.heap.size, 0⟩) (w.alloc (.cells cs.toArray T)) (h.length + 1) ⟨w.heap.size, 0⟩ [.row ps] := by
    unfold Lies kind
    refine ⟨⟨cs, T, ?_, hl, fun j hj => (hr j (by omega)).keep (Nat.le_refl _) ks⟩, updG_eq _ _ _⟩
    rw [hW, Array.getElem?_push, if_pos rfl]
  obtain ⟨q1, q2⟩ := k.add (.cells cs.toArray T) hW rfl rfl rfl [.row ps] 0 0 hl2
  exact ⟨_, _, by rw [updM_eq], q1, q2⟩
theorem HS.writeRow (k : HS P G m w h) (b o : Nat) (l : List PV) (hb : b < h.length) (hk : h.getD b [] = [.row l]) (vs : List Value) (ps : List PV) (hl : vs.length = ps.length) (ho : o + ps.length ≤ l.length)
    (hr : ∀ j, j < vs.length → Rep G m w 0 (vs.getD j undef) (ps.getD j .any)) :
    w.there (m b).at' o vs.length ∧ HS P G m (w.setCells (m b).at' o vs) (h.set b [.row (splice o ps l)]) ∧ Goes G m w h G m (w.setCells (m b).at' o vs) (h.set b [.row (splice o ps l)]) := by
  have hL := k.blk b hb
  unfold Lies at hL
  rw [hk] at hL
  simp only [kind] at hL
  obtain ⟨⟨cs, T, h1, h2, h3⟩, hG0⟩ := hL
  obtain ⟨cs', g1, g2, g3, g4, g5, g6, g7, g8, g9⟩ := setCells_heap (m b).at' vs o w cs T (0, 0) h1 (by omega)
  have hcell : ∀ g x, x < G g → (w.setCells (m b).at' o vs).cell? ⟨g, x, none⟩ = w.cell? ⟨g, x, none⟩ := fun g x hx => by
    have hne : g ≠ (m b).at' := fun he => by rw [he, hG0] at hx; omega
    exact cell_block x (g5 g hne)
  have hshp : ∀ g e N, Shp w g e N → Shp (w.setCells (m b).at' o vs) g e N := fun g e N hs => by
    by_cases he : g = (m b).at'
    · subst he
      obtain ⟨cs2, q1, q2⟩ := hs
      rw [h1] at q1
      simp only [Option.some.injEq, Obj.cells.injEq] at q1
      obtain ⟨q3, rfl, _⟩ := q1
      have : cs.length = cs2.length := by have := congrArg Array.size q3; simpa using this
      exact ⟨cs', g1, by omega⟩
    · exact hs.block (g5 g he)
  have ks : Keeps G m w h.length G m (w.setCells (m b).at' o vs) := ⟨fun _ => Nat.le_refl _, hcell, hshp, fun _ _ => rfl⟩
  have hal : ∀ x, alive m (h.set b [.row (splice o ps l)]) x ↔ alive m h x := fun x => by
    by_cases he : b = x
    · subst he
      unfold alive
      rw [getD_set_eq _ _ _ hb, hk]
      exact Iff.rfl
    · exact alive_congr (getD_set_ne _ _ _ he) rfl
  have hbal : alive m h b := by unfold alive; rw [hk]; trivial
  refine ⟨fun j hj => ?_, ⟨fun b' hb' => ?_, fun x y hx hy ha ha' he => k.inj x y (by simpa using hx) (by simpa using hy) ((hal x).1 ha) ((hal y).1 ha') he, fun g hg => by rw [g6]; exact k.old g hg⟩,
    ⟨g7, g8, g9, by omega, by simp, fun _ => Nat.le_refl _, hcell, hshp, fun _ _ => rfl, fun x _ ha => (hal x).1 ha, fun j hj hx => ⟨g5 j (fun he => hx b hb hbal he.symm), rfl⟩, fun x hx hx2 => absurd hx2 (by simp; omega)⟩⟩
  · constructor
    · simp [World.cell?, h1]; omega
    · simp [World.frozen?, h1]
  · have hb'' : b' < h.length := by simpa using hb'
    simp only [List.length_set]
    by_cases he : b = b'
    · subst he
      rw [getD_set_eq _ _ _ hb'']
      unfold Lies kind
      refine ⟨⟨cs', T, g1, by rw [splice_length]; omega, fun j hj => ?_⟩, hG0⟩
      rw [splice_length] at hj
      by_cases hj2 : j < o ∨ o + vs.length ≤ j
      · rw [g4 j hj2, splice_out _ _ _ _ (by omega)]
        exact (h3 j (by omega)).keep (Nat.le_refl _) (ks.zero _)
      · obtain ⟨i, rfl⟩ : ∃ i, j = o + i := ⟨j - o, by omega⟩
        rw [g3 i (by omega), splice_in _ _ _ ho i (by omega)]
        exact (hr i (by omega)).keep (Nat.le_refl _) (ks.zero _)
    · rw [getD_set_ne _ _ _ he]
      refine (k.blk b' hb'').keep ks (Nat.le_refl _) (fun ha => ⟨g5 _ (fun he2 => he ?_), rfl⟩)
      exact (k.inj _ _ hb'' hb ha hbal he2).symm
theorem HS.regrow (k : HS P G m w h) {b : Nat} (hb : b < h.length) (hk : kind (h.getD b []) = .tip) (h0 : (m b).fr ≠ 0) {e : TypeId} {cur cur' : Array Value} (hg : w.heap[(m b).at']? = some (.cells cur e (0, 0))) (hsz : cur'.size = cur.size)
    (hsame : ∀ j, j < (m b).fr → cur'[j]? = cur[j]?) (fr : Nat) (hfr : (m b).fr ≤ fr) :
    HS P (updG G (m b).at' fr) (updM m h.length ⟨(m b).at', fr⟩) (w.setRow (m b).at' cur') (h.set b [] ++ [[.tip]]) ∧ Goes G m w h (updG G (m b).at' fr) (updM m h.length ⟨(m b).at', fr⟩) (w.setRow (m b).at' cur') (h.set b [] ++ [[.tip]]) := by
  have hL := k.blk b hb
  unfold Lies at hL
  rw [hk] at hL
  obtain ⟨hGb, _⟩ := hL h0
  have hbal : alive m h b := by unfold alive; rw [hk]; exact h0
  have s1 := setRow_heap w (m b).at' cur cur' e (0, 0) hg
  have s2 : ∀ g, g ≠ (m b).at' → (w.setRow (m b).at' cur').heap[g]? = w.heap[g]? := fun g hne => setRow_other w (m b).at' g cur' hne
  have s3 : (w.setRow (m b).at' cur').heap.size = w.heap.size := by simp [World.setRow]
  have hm : ∀ x, x < h.length → updM m h.length ⟨(m b).at', fr⟩ x = m x := fun x hx => updM_ne _ _ (by omega)
  have hcell : ∀ g o, o < G g → (w.setRow (m b).at' cur').cell? ⟨g, o, none⟩ = w.cell? ⟨g, o, none⟩ := fun g o ho => by
    by_cases he : g = (m b).at'
    · subst he
      rw [cell_of_row _ _ o cur' e (0, 0) s1, cell_of_row _ _ o cur e (0, 0) hg]
      exact hsame o (by omega)
    · exact cell_block o (s2 g he)
  have hgrow : ∀ g, G g ≤ updG G (m b).at' fr g := fun g => by
    by_cases he : g = (m b).at'
    · rw [he, updG_eq]; omega
    · rw [updG_ne _ _ he]; exact Nat.le_refl _
  have hshp : ∀ g e N, Shp w g e N → Shp (w.setRow (m b).at' cur') g e N := fun g e2 N hs => by
    by_cases he : g = (m b).at'
    · subst he
      obtain ⟨cs2, q1, q2⟩ := hs
      rw [hg] at q1
      simp only [Option.some.injEq, Obj.cells.injEq] at q1
      obtain ⟨q3, rfl, _⟩ := q1
      refine ⟨cur'.toList, by simpa using s1, ?_⟩
      have := congrArg Array.size q3
      simp at this ⊢; omega
    · exact hs.block (s2 g he)
  have ks : Keeps G m w h.length (updG G (m b).at' fr) (updM m h.length ⟨(m b).at', fr⟩) (w.setRow (m b).at' cur') := ⟨hgrow, hcell, hshp, hm⟩
  have hlen : (h.set b []).length = h.length := by simp
  have hget : ∀ x, x < h.length → (h.set b [] ++ [[PV.tip]]).getD x [] = if x = b then [] else h.getD x [] := fun x hx => by
    rw [getD_app_lt _ _ (by omega)]
    by_cases he : b = x
    · subst he; rw [getD_set_eq _ _ _ hx, if_pos rfl]
    · rw [getD_set_ne _ _ _ he, if_neg (fun e => he e.symm)]
  have hgetn : (h.set b [] ++ [[PV.tip]]).getD h.length [] = [.tip] := by
    have := getD_app_eq (h.set b []) [.tip]
    rwa [hlen] at this
  have hal : ∀ x, x < h.length → alive (updM m h.length ⟨(m b).at', fr⟩) (h.set b [] ++ [[.tip]]) x → x ≠ b ∧ alive m h x := fun x hx ha => by
    unfold alive at ha
    rw [hget x hx, hm x hx] at ha
    by_cases he : x = b
    · rw [if_pos he] at ha; exact ha.elim
    · rw [if_neg he] at ha; exact ⟨he, ha⟩
  refine ⟨⟨fun x hx => ?_, fun x y hx hy ha ha' he => ?_, fun g hg2 => ?_⟩, ⟨rfl, rfl, rfl, by omega, by simp, hgrow, hcell, hshp, hm, fun x hx ha => (hal x hx ha).2, fun j hj hx => ⟨s2 j (fun he => hx b hb hbal he.symm), updG_ne _ _ (fun he => hx b hb hbal he.symm)⟩, fun x hx hx2 ha => ?_⟩⟩
  · by_cases hx2 : x < h.length
    · rw [hget x hx2, hm x hx2]
      by_cases he : x = b
      · rw [if_pos he]; unfold Lies kind; trivial
      · rw [if_neg he]
        refine (k.blk x hx2).keep ks (by simp) (fun ha => ?_)
        have hne : (m x).at' ≠ (m b).at' := fun e2 => he (k.inj x b hx2 hb ha hbal e2)
        exact ⟨s2 _ hne, updG_ne _ _ hne⟩
    · obtain rfl : x = h.length := by simp at hx; omega
      rw [hgetn, updM_eq]
      unfold Lies kind
      exact fun _ => ⟨updG_eq _ _ _, e, cur'.size, cur'.toList, by simpa using s1, by simp⟩
  · simp only [List.length_append, List.length_cons, List.length_nil, List.length_set] at hx hy
    by_cases hx2 : x < h.length <;> by_cases hy2 : y < h.length
    · rw [hm x hx2, hm y hy2] at he
      exact k.inj x y hx2 hy2 (hal x hx2 ha).2 (hal y hy2 ha').2 he
    · obtain rfl : y = h.length := by omega
      rw [hm x hx2, updM_eq] at he
      obtain ⟨q1, q2⟩ := hal x hx2 ha
      exact absurd (k.inj x b hx2 hb q2 hbal he) q1
    · obtain rfl : x = h.length := by omega
      rw [hm y hy2, updM_eq] at he
      obtain ⟨q1, q2⟩ := hal y hy2 ha'
      exact absurd (k.inj y b hy2 hb q2 hbal he.symm) q1
    · omega
  · by_cases he : g = (m b).at'
    · rw [s3, he]; exact k.lt hb hbal
    · rw [updG_ne _ _ he] at hg2
      rw [s3]; exact k.old g hg2
  · simp only [List.length_append, List.length_cons, List.length_nil, List.length_set] at hx2
    obtain rfl : x = h.length := by omega
    right; exact ⟨b, hb, hbal, by rw [updM_eq]⟩
end Go.Proofs.Ytdffmciedieikaa.Deep

namespace Go.Proofs.Ytdffmciedieikaa.Deep
open Go.RowKit
set_option linter.unusedVariables false
def conP : Value → PV
  | .agg cs => .agg (cs.toList.map .con)
  | v => .con v
def weakV : Value → PV
  | .slice none 0 0 => .sl []
  | v => .con v
mutual
def weak : PV → PV
  | .own _ _ _ xs => .sl xs
  | .con v => weakV v
  | .agg l => .agg (weakL l)
  | .tup l => .tup (weakL l)
  | .fn f l => .fn f (weakL l)
  | .bm f l => .bm f (weakL l)
  | .ifc t p => .ifc t p
  | .rw b o n => .rw b o n
  | .row cs => .row cs
  | .any => .any
  | .sl xs => .sl xs
  | .ptr b o => .ptr b o
  | .ept l o => .ept l o
  | .tip => .tip
  | .mp b => .mp b
  | .mpc k e n D => .mpc k e n D
def weakL : List PV → List PV
  | [] => []
  | p :: ps => weak p :: weakL ps
end
mutual
def ren (σ : Nat → Nat) : PV → PV
  | .own b e sz xs => .own (σ b) e sz xs
  | .ptr b o => .ptr (σ b) o
  | .mp b => .mp (σ b)
  | .agg l => .agg (renL σ l)
  | .tup l => .tup (renL σ l)
  | .fn f l => .fn f (renL σ l)
  | .bm f l => .bm f (renL σ l)
  | .ifc t p => .ifc t p
  | .rw b o n => .rw (σ b) o n
  | .row cs => .row cs
  | .con v => .con v
  | .any => .any
  | .sl xs => .sl xs
  | .ept l o => .ept l o
  | .tip => .tip
  | .mpc k e n D => .mpc k e n D
def renL (σ : Nat → Nat) : List PV → List PV
  | [] => []
  | p :: ps => ren σ p :: renL σ ps
end
structure Env where
  n : Nat
  l : List (Nat × PV)
  d : PV
def lookE (d : PV) (t : Nat) : List (Nat × PV) → PV
  | [] => d
  | (k, v) :: r => match Nat.beq t k with | true => v | false => lookE d t r
def Env.get (e : Env) (t : Nat) : PV := match Nat.blt t e.n with | true => lookE e.d t e.l | false => .any
def Env.put (e : Env) (t : Nat) (p : PV) : Env := ⟨e.n, (t, p) :: e.l, e.d⟩
def numE : Nat → List PV → List (Nat × PV)
  | _, [] => []
  | i, p :: ps => (i, p) :: numE (i + 1) ps
def aev (env : Env) : Operand → PV
  | .tmp t => env.get t
  | .const v => conP v
  | .global _ => .any
  | .func f => .fn f []
structure TI where
  has : Bool
  size : Nat
  agg : Bool
  isSl : Bool
  elem : TypeId
  isStr : Bool
  isBool : Bool
  flds : List (Nat × TypeId)
  isStruct : Bool
  zero : Option (List PV)
  bytes : Nat
  mapKE : Option (TypeId × TypeId)
  intK : Option IntKind
def infoP (P : Program) (t : TypeId) : TI where
  has := (P.info? t).isSome
  size := P.cellsOf t
  agg := match P.underlying t with | some (.struct _) => true | some (.array _ _) => true | _ => false
  isSl := match P.underlying t with | some (.slice _) => true | _ => false
  elem := match P.underlying t with | some (.slice e) => e | _ => 0
  isStr := match P.underlying t with | some .string => true | _ => false
  isBool := match P.underlying t with | some .bool => true | _ => false
  flds := match P.underlying t with | some (.struct fs) => fs.toList.map (fun f => (f.offset, f.type)) | _ => []
  isStruct := match P.underlying t with | some (.struct _) => true | _ => false
  zero := (P.info? t).bind fun i => i.zero.map fun z => z.cells.toList.map .con
  bytes := match P.info? t with | some i => i.bytes | none => 0
  mapKE := match P.underlying t with | some (.map k e) => some (k, e) | _ => none
  intK := match P.underlying t with
    | some (.int q) => match (P.info? t).bind (fun i => i.zero) with
      | some (.int q' n) => match decide (q = q' ∧ n = 0) with | true => some q | false => none
      | _ => none
    | _ => none
inductive Sh where
  | int (k : IntKind)
  | bool
  | str
  | list
  | fn (f : FuncId)
  | own (b : Nat) (e : TypeId) (sz : Nat)
  | ptr (b off : Nat)
  | mp (b : Nat)
  | mpc (k e : TypeId)
  | ifc
  | rw (b off : Nat)
  | row
inductive RSh where
  | cell (s : Sh)
  | agg (l : List Sh)
def Sh.V : Sh → Type
  | .int _ => Int
  | .bool => Bool
  | .str => ByteArray
  | .list => List (List PV)
  | .fn _ => Unit
  | .own _ _ _ => List (List PV)
  | .ptr _ _ => Unit
  | .mp _ => Unit
  | .mpc _ _ => Nat × DataW Unit
  | .ifc => TypeId × PV
  | .rw _ _ => Nat
  | .row => List PV
def Sh.mk : (s : Sh) → s.V → PV
  | .int k, n => .con (.int k n)
  | .bool, x => .con (.bool x)
  | .str, x => .con (.string x)
  | .list, x => .sl x
  | .fn f, _ => .fn f []
  | .own b e sz, x => .own b e sz x
  | .ptr b off, _ => .ptr b off
  | .mp b, _ => .mp b
  | .mpc k e, x => .mpc k e x.1 x.2
  | .ifc, x => .ifc x.1 x.2
  | .rw b off, n => .rw b off n
  | .row, cs => .row cs
def getInt (k : IntKind) : PV → Option Int
  | .con (.int k' n) => match decide (k = k') with | true => some n | false => none
  | _ => none
def getBool : PV → Option Bool
  | .con (.bool x) => some x
  | _ => none
def getStr : PV → Option ByteArray
  | .con (.string x) => some x
  | _ => none
def getList : PV → Option (List (List PV))
  | .sl x => some x
  | .own _ _ _ x => some x
  | .con v => match weakV v with | .sl x => some x | _ => none
  | _ => none
def isNil : Value → Bool
  | .slice none 0 0 => true
  | _ => false
def getOwn (e : TypeId) (sz : Nat) : PV → Option (List (List PV))
  | .own _ e' sz' x => match Nat.beq e e' && Nat.beq sz sz' with | true => some x | false => none
  | .con v => match isNil v with | true => some [] | false => none
  | _ => none
def getPtr (off : Nat) : PV → Option Unit
  | .ptr _ off' => match Nat.beq off off' with | true => some () | false => none
  | _ => none
def getMp : PV → Option Unit
  | .mp _ => some ()
  | _ => none
def getMpc (k e : TypeId) : PV → Option (Nat × DataW Unit)
  | .mpc k' e' n D => match Nat.beq k k' && Nat.beq e e' with | true => some (n, D) | false => none
  | _ => none
def getIfc : PV → Option (TypeId × PV)
  | .ifc t p => some (t, p)
  | _ => none
def getRw (off : Nat) : PV → Option Nat
  | .rw _ off' n => match Nat.beq off off' with | true => some n | false => none
  | _ => none
def getRow : PV → Option (List PV)
  | .row cs => some cs
  | _ => none
def Sh.get : (s : Sh) → PV → Option s.V
  | .int k => getInt k
  | .bool => getBool
  | .str => getStr
  | .list => getList
  | .fn _ => fun _ => none
  | .own _ e sz => getOwn e sz
  | .ptr _ off => getPtr off
  | .mp _ => getMp
  | .mpc k e => getMpc k e
  | .ifc => getIfc
  | .rw _ off => getRw off
  | .row => getRow
def shOf : PV → Option Sh
  | .con (.int k _) => some (.int k)
  | .con (.bool _) => some .bool
  | .con (.string _) => some .str
  | .con (.slice none 0 0) => some .list
  | .sl _ => some .list
  | .con .nilIface => some .ifc
  | _ => none
def shsOf : List PV → Option (List Sh)
  | [] => some []
  | c :: cs => match shOf c with
    | some s => match shsOf cs with | some r => some (s :: r) | none => none
    | none => none
def exF : Sh → (PV → Prop) → Prop
  | .fn f, K => K (.fn f [])
  | .int k, K => ∃ v : Int, K (.con (.int k v))
  | .bool, K => ∃ v : Bool, K (.con (.bool v))
  | .str, K => ∃ v : ByteArray, K (.con (.string v))
  | .list, K => ∃ v : List (List PV), K (.sl v)
  | .own b e sz, K => ∃ v : List (List PV), K (.own b e sz v)
  | .ptr b off, K => K (.ptr b off)
  | .mp b, K => K (.mp b)
  | .mpc k e, K => ∃ n : Nat, ∃ D : DataW Unit, K (.mpc k e n D)
  | .ifc, K => ∃ t : TypeId, ∃ q : PV, K (.ifc t q)
  | .rw b off, K => ∃ n : Nat, K (.rw b off n)
  | .row, K => ∃ cs : List PV, K (.row cs)
def exC : List Sh → List PV → (List PV → Prop) → Prop
  | [], acc, K => K acc
  | s :: r, acc, K => exF s fun p => exC r (acc ++ [p]) K
def exR : List RSh → List PV → (List PV → Prop) → Prop
  | [], acc, K => K acc
  | .cell s :: r, acc, K => exF s fun p => exR r (acc ++ [p]) K
  | .agg l :: r, acc, K => exC l [] fun cs => exR r (acc ++ [.agg cs]) K
inductive BT where
  | keep
  | dead
  | tip
  | cells (l : List Sh)
inductive AM where
  | weak
  | sh (s : Sh)
  | fp (b off : Nat)
  | pa (b : Nat)
  | asis
inductive Sg where
  | pure (alts : List (List RSh))
  | eff (ams : List AM) (pre : List BT) (res : List RSh) (post : List BT)
  | thr (ams : List AM) (pre : List BT) (res : List RSh) (post : List BT)
def exB : List BT → List (List PV) → Heap → (Heap → Prop) → Prop
  | [], _, acc, K => K acc
  | .keep :: r, old, acc, K => exB r old.tail (acc ++ [old.headD []]) K
  | .dead :: r, old, acc, K => exB r old.tail (acc ++ [[]]) K
  | .tip :: r, old, acc, K => exB r old.tail (acc ++ [[.tip]]) K
  | .cells l :: r, old, acc, K => exC l [] fun cs => exB r old.tail (acc ++ [cs]) K
def orR : List (List RSh) → (List PV → Prop) → Prop
  | [], _ => False
  | [r], K => exR r [] K
  | r :: rs, K => exR r [] K ∨ orR rs K
def packR : List PV → PV
  | [p] => p
  | ps => .tup ps
def br (b : Bool) (X Y : Prop) : Prop := match b with | true => X | false => Y
theorem br_out {b : Bool} {X Y : Prop} (h : br b X Y) : (b = true → X) ∧ (b = false → Y) := by
  cases b
  · exact ⟨(fun hh => by cases hh), (fun _ => h)⟩
  · exact ⟨(fun _ => h), (fun hh => by cases hh)⟩
inductive IdxN (xs : List (List PV)) (i : Int) (cs : List PV) (X : Prop) : Prop where
  | mk (h0 : 0 ≤ i) (hx : xs[i.toNat]? = some cs) (hk : X) : IdxN xs i cs X
inductive StrN (s : ByteArray) (i : Int) (b : UInt8) (X : Prop) : Prop where
  | mk (h0 : 0 ≤ i) (hx : s[i.toNat]? = some b) (hk : X) : StrN s i b X
inductive CatN (s t : ByteArray) (X : Prop) : Prop where
  | mk (hz : s.size + t.size ≤ 9223372036854775807) (hk : X) : CatN s t X
inductive CallF (P : Program) (f : FuncId) (args : List PV) (h : Heap) (r : PV) (h' : Heap) (X : Prop) : Prop where
  | mk (he : Enters P f) (hc : ACalls P f args h fun r' h2 => r' = r ∧ h2 = h') (hk : X) : CallF P f args h r h' X
inductive AppN (xs ys : List (List PV)) (sz bytes : Nat) (one : PV → Bool) (X : Prop) : Prop where
  | mk (hl : (xs.length + ys.length) * bytes ≤ 140737488355328) (hy : ∀ y ∈ ys, y.length = sz ∧ ∀ p ∈ y, one p = true) (hk : X) : AppN xs ys sz bytes one X
inductive MapN (D : DataW Unit) (s : ByteArray) (q : IntKind) (c : Int) (X : Prop) : Prop where
  | mk (hs : s.size ≤ maxLen) (hc : D.atKey (.string s.data.toList) (.lit (.int q 0)) = .lit (.int q c)) (hk : X) : MapN D s q c X
inductive MapO (D : DataW Unit) (s : ByteArray) (q : IntKind) (c : Int) (ok : Bool) (X : Prop) : Prop where
  | mk (hs : s.size ≤ maxLen) (hc : D.atKey (.string s.data.toList) (.lit (.int q 0)) = .lit (.int q c)) (ho : Maps.has D (.string s.data.toList) = ok) (hk : X) : MapO D s q c ok X
inductive MapU (n : Nat) (s : ByteArray) (q : IntKind) (a : Int) (X : Prop) : Prop where
  | mk (hn : n < maxLen) (hs : s.size ≤ maxLen) (hw : (Lit.int q a).wf = true) (hk : X) : MapU n s q a X
inductive MapD (s : ByteArray) (X : Prop) : Prop where
  | mk (hs : s.size ≤ maxLen) (hk : X) : MapD s X
inductive CallT (P : Program) (H : Value → Prop) (pre : Prop) (f : FuncId) (args : List PV) (h : Heap) (r : PV) (h' : Heap) (g X : Prop) : Prop where
  | mk (he : Enters P f) (hc : pre → TCalls P f args h (fun r' h2 => g ∧ r' = r ∧ h2 = h') H) (hk : X) : CallT P H pre f args h r h' g X
inductive CutN (xs : List (List PV)) (sz n : Nat) (i : Int) (X : Prop) : Prop where
  | mk (hi : i = n) (hn : n ≤ xs.length) (hy : ∀ y ∈ xs, y.length = sz) (hk : X) : CutN xs sz n i X
inductive RowN (cs : List PV) (off : Nat) (ps : List PV) (X : Prop) : Prop where
  | mk (hx : (cs.drop off).take ps.length = ps) (hk : X) : RowN cs off ps X
inductive RowW (off n N : Nat) (X : Prop) : Prop where
  | mk (hn : off + n ≤ N) (hk : X) : RowW off n N X
inductive IdxR (n : Nat) (i : Int) (X : Prop) : Prop where
  | mk (h0 : 0 ≤ i) (h1 : i.toNat < n) (hk : X) : IdxR n i X
inductive MakeN (n c : Int) (sz bytes : Nat) (X : Prop) : Prop where
  | mk (h0 : 0 ≤ n) (hc : c = n) (hs : n.toNat * sz ≤ 16777216) (hb : (bytes : Int) * n ≤ 281474976710656) (hm : n ≤ 9223372036854775807) (hk : X) : MakeN n c sz bytes X
inductive OpnN (q p : PV) (X : Prop) : Prop where
  | mk (hq : q = p) (hk : X) : OpnN q p X
def MethOk (P : Program) (t : TypeId) (name : String) (f : FuncId) : Option (Nat × Nat) → Prop
  | none => ∀ (v : Value) (args : Array Value) (w : World), (invoke (.fn (.method name) #[]) (#[.iface t v] ++ args)).run P w = .ok (.enter f (#[v] ++ args)) w
  | some (o, n) => ∀ vs : List Value, vs.length = n → ∀ (args : Array Value) (w : World), (invoke (.fn (.method name) #[]) (#[.iface t (.agg vs.toArray)] ++ args)).run P w = .ok (.enter f (#[vs.getD o undef] ++ args)) w
inductive MethN (P : Program) (t : TypeId) (name : String) (f : FuncId) (o : Option (Nat × Nat)) (X : Prop) : Prop where
  | mk (hm : MethOk P t name f o) (hk : X) : MethN P t name f o X
inductive CallN (P : Program) (f : FuncId) (args : List PV) (h : Heap) (r : PV) (X : Prop) : Prop where
  | mk (he : Enters P f) (hc : ACalls P f args h fun r' h' => r' = r ∧ h' = h) (hk : X) : CallN P f args h r X
def minI (x y : Int) : Int := if y < x then y else x
def maxI (x y : Int) : Int := if x < y then y else x
def cellsOf : PV → Option (List PV)
  | .agg cs => some cs
  | .any => none
  | .tup _ => none
  | .con (.agg _) => none
  | .con (.tuple _) => none
  | .tip => none
  | .mpc _ _ _ _ => none
  | .row _ => none
  | p => some [p]
def PV.one : PV → Bool
  | .con v => v.oneCell'
  | .any => false
  | .agg _ => false
  | .tup _ => false
  | .tip => false
  | .mpc _ _ _ _ => false
  | .row _ => false
  | _ => true
def zeroOk (ei : TI) : Bool := match ei.zero with | some z => Nat.beq z.length ei.size | none => false
def isCells (l : List PV) : Bool := match kind l with | .cells => true | _ => false
def isTip (l : List PV) : Bool := match kind l with | .tip => true | _ => false
def noMark (l : List PV) : Bool := match kind l with | .cells => true | .dead => true | _ => false
def loadA (ti : TI) (cells : List PV) : Option PV := match ti.agg with
  | true => match Nat.ble ti.size cells.length with | true => some (.agg (cells.take ti.size)) | false => none
  | false => match cells with | c :: _ => some c | [] => none
def bitsI (op : BinOp) (k : IntKind) (x y : Int) : Int := k.wrap (match op with
  | .and => (BitVec.ofInt k.bits x &&& BitVec.ofInt k.bits y).toNat
  | .or => (BitVec.ofInt k.bits x ||| BitVec.ofInt k.bits y).toNat
  | .xor => (BitVec.ofInt k.bits x ^^^ BitVec.ofInt k.bits y).toNat
  | _ => (BitVec.ofInt k.bits x &&& ~~~(BitVec.ofInt k.bits y)).toNat : Nat)
def shlI (k : IntKind) (a b : Int) : Int := k.wrap (a * 2 ^ (min b.toNat k.bits))
def shrI (k : IntKind) (a b : Int) : Int := a.fdiv (2 ^ (min b.toNat k.bits))
inductive ShN (b : Int) (X : Prop) : Prop where
  | mk (h : 0 ≤ b) (hk : X) : ShN b X
inductive QuoN (b : Int) (X : Prop) : Prop where
  | mk (h : b ≠ 0) (hk : X) : QuoN b X
inductive PieceN (n : Nat) (i j : Int) (X : Prop) : Prop where
  | mk (h0 : 0 ≤ i) (h1 : i ≤ j) (h2 : j ≤ n) (hk : X) : PieceN n i j X
inductive SizN (xs : List (List PV)) (sz : Nat) (X : Prop) : Prop where
  | mk (hy : ∀ y ∈ xs, y.length = sz) (hk : X) : SizN xs sz X
def cmpA (op : BinOp) (k : IntKind) (a b : Int) : Option Value := match op with
  | .add => some (.int k (k.wrap (a + b)))
  | .sub => some (.int k (k.wrap (a - b)))
  | .mul => some (.int k (k.wrap (a * b)))
  | .eql => some (.bool (a == b))
  | .neq => some (.bool (a != b))
  | .lss => some (.bool (decide (a < b)))
  | .leq => some (.bool (decide (a ≤ b)))
  | .gtr => some (.bool (decide (a > b)))
  | .geq => some (.bool (decide (a ≥ b)))
  | .and => some (.int k (bitsI .and k a b))
  | .or => some (.int k (bitsI .or k a b))
  | .xor => some (.int k (bitsI .xor k a b))
  | .andNot => some (.int k (bitsI .andNot k a b))
  | .rem => match b with | .ofNat (n + 1) => some (.int k (a.tmod (.ofNat (n + 1)))) | _ => none
  | .quo => match b with | .ofNat (n + 1) => some (.int k (k.wrap (a.tdiv (.ofNat (n + 1))))) | _ => none
  | _ => none
def binA (op : BinOp) (isBool : Bool) : Value → Value → Option Value
  | .int k a, .int k' b => match decide (k = k') with | true => cmpA op k a b | false => none
  | .string a, .string b => match op with
    | .eql => some (.bool (a.toList == b.toList))
    | .neq => some (.bool !(a.toList == b.toList))
    | _ => none
  | .bool a, .bool b => match isBool with
    | true => match op with
      | .eql => some (.bool (a == b))
      | .neq => some (.bool !(a == b))
      | _ => none
    | false => none
  | _, _ => none
def unA (op : UnOp) : Value → Option Value
  | .int k n => match op with | .neg => some (.int k (k.wrap (0 - n))) | _ => none
  | .bool b => match op with | .not => some (.bool !b) | _ => none
  | _ => none
def spliceA : Nat → List PV → List PV → List PV
  | _, [], cs => cs
  | o, p :: ps, cs => spliceA (o + 1) ps (cs.set o p)
def fillA (T : TypeId → Option TI) (flds : List (Nat × TypeId)) (ev : Operand → PV) (cells : List PV) : List (Nat × Operand) → Option (List PV)
  | [] => some cells
  | (i, x) :: r => match flds[i]? with
    | some (o, ft) => match T ft with
      | some fi => match cellsOf (ev x) with
        | some cs => match Nat.beq cs.length fi.size && Nat.ble (o + cs.length) cells.length with
          | true => fillA T flds ev (spliceA o cs cells) r
          | false => none
        | none => none
      | none => none
    | none => none
def intFields (P : Program) (t : TypeId) : Bool := (P.fieldsOf t).toList.all fun f => (match P.underlying f.type with | some (.int _) => true | _ => false) && decide (f.name ≠ "_")
def eqF (T : TypeId → Option TI) : List (Nat × TypeId) → List PV → List PV → Option Bool
  | [], _, _ => some true
  | (o, ft) :: fs, us, vs => match T ft with
    | some fi => match loadA fi (us.drop o) with
      | some (.con (.int k a)) => match loadA fi (vs.drop o) with
        | some (.con (.int k' b)) => match decide (k = k') with
          | true => match eqF T fs us vs with | some r => some ((a == b) && r) | none => none
          | false => none
        | _ => none
      | _ => none
    | none => none
def intFields2 (P : Program) (t : TypeId) : Bool := (P.fieldsOf t).toList.all fun f => (match P.underlying f.type with | some (.int _) => true | some (.struct _) => intFields P f.type && !(P.stoodInHeld f.type) | _ => false) && decide (f.name ≠ "_")
def eqF2 (T : TypeId → Option TI) : List (Nat × TypeId) → List PV → List PV → Option Bool
  | [], _, _ => some true
  | (o, ft) :: fs, us, vs => match T ft with
    | some fi => match loadA fi (us.drop o) with
      | some (.con (.int k a)) => match loadA fi (vs.drop o) with
        | some (.con (.int k' b)) => match decide (k = k') && !fi.isStruct with
          | true => match eqF2 T fs us vs with | some r => some ((a == b) && r) | none => none
          | false => none
        | _ => none
      | some (.agg us') => match loadA fi (vs.drop o) with
        | some (.agg vs') => match fi.isStruct with
          | true => match eqF T fi.flds us' vs' with
            | some q => match eqF2 T fs us vs with | some r => some (q && r) | none => none
            | none => none
          | false => none
        | _ => none
      | _ => none
    | none => none
inductive EqN (P : Program) (t : TypeId) (X : Prop) : Prop where
  | mk (h1 : P.stoodInHeld t = false) (h2 : P.eqGuardType P.depth t = false) (h3 : intFields2 P t = true) (hk : X)
inductive BytesN (P : Program) (src dst : TypeId) (xs : List (List PV)) (l : List UInt8) (X : Prop) : Prop where
  | mk (h1 : ∃ e, P.underlying src = some (.slice e) ∧ P.underlying e = some (.int .u8)) (h2 : P.underlying dst = some .string) (hx : xs = l.map fun b => [.con (.int .u8 (b.toNat : Int))]) (hk : X)
abbrev Bd := List (Nat × Option Nat)
def lookB (b : Nat) : Bd → Option (Option Nat)
  | [] => none
  | (k, t) :: r => match Nat.beq b k with | true => some t | false => lookB b r
def tokS : Sh → PV → Bd
  | .own b _ _, .own t _ _ _ => [(b, some t)]
  | .own b _ _, _ => [(b, none)]
  | .ptr b _, .ptr t _ => [(b, some t)]
  | .mp b, .mp t => [(b, some t)]
  | .rw b _, .rw t _ _ => [(b, some t)]
  | _, _ => []
def tokL : List Sh → List PV → Bd
  | s :: r, p :: ps => tokS s p ++ tokL r ps
  | _, _ => []
def canS (s : Sh) (p : PV) : Option PV := match s.get p with | some v => some (s.mk v) | none => none
def canL : List Sh → List PV → Option (List PV)
  | [], [] => some []
  | s :: r, p :: ps => match canS s p with
    | some q => match canL r ps with | some qs => some (q :: qs) | none => none
    | none => none
  | _, _ => none
def tokB : BT → List PV → Bd
  | .cells l, ps => tokL l ps
  | _, _ => []
def canB (d : Nat) : BT → List PV → Option (List PV)
  | .keep, l => match undersL d l with | true => some l | false => none
  | .dead, _ => some []
  | .tip, l => match isTip l with | true => some [.tip] | false => none
  | .cells ss, l => match kind l with
    | .dead => none
    | .tip => none
    | _ => canL ss l
def tokR : RSh → PV → Bd
  | .cell s, p => tokS s p
  | .agg l, .agg ps => tokL l ps
  | _, _ => []
def canR : RSh → PV → Option PV
  | .cell s, p => canS s p
  | .agg l, .agg ps => match canL l ps with | some qs => some (.agg qs) | none => none
  | _, _ => none
def tokRs : List RSh → List PV → Bd
  | s :: r, p :: ps => tokR s p ++ tokRs r ps
  | _, _ => []
def canRs : List RSh → List PV → Option (List PV)
  | [], [] => some []
  | s :: r, p :: ps => match canR s p with
    | some q => match canRs r ps with | some qs => some (q :: qs) | none => none
    | none => none
  | _, _ => none
def tokF (b : Nat) : PV → Bd
  | .bm _ [.ptr t _] => [(b, some t)]
  | .fn _ [.ptr t _] => [(b, some t)]
  | _ => []
def canF (b off : Nat) : PV → Option PV
  | .bm f [.ptr _ off'] => match Nat.beq off off' with | true => some (.bm f [.ptr b off]) | false => none
  | .fn f [.ptr _ off'] => match Nat.beq off off' with | true => some (.fn f [.ptr b off]) | false => none
  | _ => none
def tokP (b : Nat) : PV → Bd
  | .ptr t _ => [(b, some t)]
  | _ => []
def canP (b : Nat) : PV → Option PV
  | .ptr _ off => some (.ptr b off)
  | _ => none
def tokA : List AM → List PV → Bd
  | .weak :: r, _ :: ps => tokA r ps
  | .sh s :: r, p :: ps => tokS s p ++ tokA r ps
  | .fp b _ :: r, p :: ps => tokF b p ++ tokA r ps
  | .pa b :: r, p :: ps => tokP b p ++ tokA r ps
  | .asis :: r, _ :: ps => tokA r ps
  | _, _ => []
def canA : List AM → List PV → Option (List PV)
  | [], [] => some []
  | .weak :: r, p :: ps => match undersL 0 [weak p] with
    | true => match canA r ps with | some qs => some (weak p :: qs) | none => none
    | false => none
  | .sh s :: r, p :: ps => match canS s p with
    | some q => match canA r ps with | some qs => some (q :: qs) | none => none
    | none => none
  | .asis :: r, p :: ps => match undersL 0 [p] with
    | true => match canA r ps with | some qs => some (p :: qs) | none => none
    | false => none
  | .pa b :: r, p :: ps => match canP b p with
    | some q => match canA r ps with | some qs => some (q :: qs) | none => none
    | none => none
  | .fp b off :: r, p :: ps => match canF b off p with
    | some q => match canA r ps with | some qs => some (q :: qs) | none => none
    | none => none
  | _, _ => none
def bindBs (h : Heap) : List BT → Nat → Bd → Bd
  | [], _, ps => ps
  | t :: r, i, ps => match lookB i ps with
    | some (some x) => bindBs h r (i + 1) (ps ++ tokB t (h.getD x []))
    | _ => bindBs h r (i + 1) ps
def nameOf (base : Nat) (ps : Bd) (n0 : Nat) (i : Nat) : Nat := match Nat.blt i n0 with
  | true => match lookB i ps with | some (some t) => t | _ => base + i
  | false => base + i
def canBs (h : Heap) (σ : Nat → Nat) : List BT → Nat → Option Heap
  | [], _ => some []
  | t :: r, i => match canB 0 t (h.getD (σ i) []) with
    | some l => match canBs h σ r (i + 1) with | some ls => some (l :: ls) | none => none
    | none => none
def okT (ρ : Nat → Nat) (n0 : Nat) : Bd → Bool
  | [] => true
  | (b, some t) :: r => Nat.blt b n0 && Nat.beq (ρ b) t && okT ρ n0 r
  | (b, none) :: r => Nat.blt b n0 && okT ρ n0 r
def blkToks (h : Heap) (ρ : Nat → Nat) : List BT → Nat → Bd
  | [], _ => []
  | t :: r, i => tokB t (h.getD (ρ i) []) ++ blkToks h ρ r (i + 1)
def nodupN : List Nat → Bool
  | [] => true
  | x :: r => !(r.any (Nat.beq x)) && nodupN r
def upTo : Nat → List Nat
  | 0 => []
  | n + 1 => upTo n ++ [n]
def setAll (σ : Nat → Nat) : List (List PV) → Nat → Nat → Heap → Heap
  | l :: r, i, n0, h => match Nat.blt i n0 with
    | true => setAll σ r (i + 1) n0 (h.set (σ i) (renL σ l))
    | false => setAll σ r (i + 1) n0 (h ++ [renL σ l])
  | [], _, _, h => h
def voids : Nat → Heap
  | 0 => []
  | n + 1 => voids n ++ [[.tip]]
def fixL : List PV → Option (List Value)
  | [] => some []
  | .con v :: r => match fixL r with | some vs => some (v :: vs) | none => none
  | _ :: _ => none
def fixV : PV → Option Value
  | .con v => some v
  | .agg cs => match fixL cs with | some vs => some (.agg vs.toArray) | none => none
  | .ifc t q => match fixV q with | some v => some (.iface t v) | none => none
  | _ => none
def fnOf : PV → Option (FuncId × List PV × List PV)
  | .fn f cap => some (f, [], cap)
  | .bm f fst => some (f, fst, [])
  | _ => none
def argsOf (fst args cap : List PV) : List PV := fst ++ (args ++ cap)
def isIface (P : Program) (t : TypeId) : Bool := match P.underlying t with | some (.interface _) => true | _ => false
variable (P : Program) (T : TypeId → Option TI) (S : FuncId → Option Sg) (L : Nat → Option (List Nat × List (Nat × Sh)))
def valA (ev : Operand → PV) (h : Heap) (K : PV → Prop) : Op → Prop
  | .move x => K (ev x)
  | .assign x => K (ev x)
  | .pick c a b => match ev c with | .con (.bool t) => br t (K (ev a)) (K (ev b)) | _ => False
  | .nilCheck x => match ev x with
    | .ptr b o => K (.ptr b o)
    | .ept cs o => K (.ept cs o)
    | .fn f cs => K (.fn f cs)
    | .bm f cs => K (.bm f cs)
    | _ => False
  | .load t a => match T t with
    | some ti => match ev a with
      | .ptr b off => match isCells (h.getD b []) with
        | true => match loadA ti ((h.getD b []).drop off) with | some r => K r | none => False
        | false => match h.getD b [] with
          | [.row cs] => match ti.zero with
            | some z => match shsOf z with
              | some shs => exC shs [] fun ps => match loadA ti ps with | some r => RowN cs off ps (K r) | none => False
              | none => False
            | none => False
          | _ => False
      | .ept cs off => match loadA ti (cs.drop off) with | some r => K r | none => False
      | _ => False
    | none => False
  | .fieldAddr s x f => match T s with
    | some ti => match ti.flds[f]? with
      | some (o, ft) => match T ft with
        | some fi => match fi.size with
          | 0 => False
          | _ + 1 => match ev x with
            | .ptr b off => K (.ptr b (off + o))
            | .ept cs off => K (.ept cs (off + o))
            | _ => False
        | none => False
      | none => False
    | none => False
  | .field s x f => match T s with
    | some ti => match ti.flds[f]? with
      | some (o, ft) => match T ft with
        | some fi => match ev x with
          | .agg cs => match loadA fi (cs.drop o) with | some r => K r | none => False
          | _ => False
        | none => False
      | none => False
    | none => False
  | .indexAddr t x ix => match T t with
    | some ti => match ti.isSl with
      | true => match T ti.elem with
        | some ei => match weak (ev x) with
          | .sl xs => match ev ix with
            | .con (.int k i) => match ei.zero with
              | some z => match shsOf z with
                | some shs => match Nat.beq shs.length ei.size with
                  | true => exC shs [] fun cs => IdxN xs i cs (K (.ept cs 0))
                  | false => False
                | none => False
              | none => False
            | _ => False
          | .rw b off n => match ev ix with
            | .con (.int k i) => match Nat.blt 0 ei.size with
              | true => IdxR n i (K (.ptr b (off + i.toNat * ei.size)))
              | false => False
            | _ => False
          | _ => False
        | none => False
      | false => False
    | none => False
  | .index t x ix => match T t with
    | some ti => match ti.isStr with
      | true => match ev x with
        | .con (.string s) => match ev ix with
          | .con (.int k i) => ∃ b : UInt8, StrN s i b (K (.con (.int .u8 b.toNat)))
          | _ => False
        | _ => False
      | false => False
    | none => False
  | .binOp op xt x y yt => match T xt with
    | some ti => match ev x with
      | .con u => match ev y with
        | .con v => match op, u, v with
          | .add, .string s, .string t => CatN s t (K (.con (.string (s ++ t))))
          | .shl, .int k a, .int _ b => ShN b (K (.con (.int k (shlI k a b))))
          | .shr, .int k a, .int _ b => ShN b (K (.con (.int k (shrI k a b))))
          | .quo, .int k a, .int k' b => match decide (k = k') with | true => QuoN b (K (.con (.int k (k.wrap (a.tdiv b))))) | false => False
          | .rem, .int k a, .int k' b => match decide (k = k') with | true => QuoN b (K (.con (.int k (a.tmod b)))) | false => False
          | op, u, v => match binA op ti.isBool u v with | some r => K (.con r) | none => False
        | _ => False
      | .agg us => match ev y with
        | .agg vs => match ti.isStruct with
          | true => match eqF2 T ti.flds us vs with
            | some b => match op with
              | .eql => EqN P xt (K (.con (.bool b)))
              | .neq => EqN P xt (K (.con (.bool (!b))))
              | _ => False
            | none => False
          | false => False
        | _ => False
      | _ => False
    | none => False
  | .lookup t x ix false => match T t with
    | some ti => match ti.mapKE with
      | some (k, e) => match T k with
        | some tk => match tk.isStr with
          | true => match T e with
            | some te => match te.intK with
              | some q => match ev x with
                | .mp b => match h.getD b [] with
                  | [.mpc k' e' n D] => match Nat.beq k k' && Nat.beq e e' with
                    | true => match ev ix with
                      | .con (.string s) => ∃ c : Int, MapN D s q c (K (.con (.int q c)))
                      | _ => False
                    | false => False
                  | _ => False
                | _ => False
              | none => False
            | none => False
          | false => False
        | none => False
      | none => False
    | none => False
  | .lookup t x ix true => match T t with
    | some ti => match ti.mapKE with
      | some (k, e) => match T k with
        | some tk => match tk.isStr with
          | true => match T e with
            | some te => match te.intK with
              | some q => match ev x with
                | .mp b => match h.getD b [] with
                  | [.mpc k' e' n D] => match Nat.beq k k' && Nat.beq e e' with
                    | true => match ev ix with
                      | .con (.string s) => ∃ c : Int, ∃ ok : Bool, MapO D s q c ok (K (.tup [.con (.int q c), .con (.bool ok)]))
                      | _ => False
                    | false => False
                  | _ => False
                | _ => False
              | none => False
            | none => False
          | false => False
        | none => False
      | none => False
    | none => False
  | .convert src dst x => match weak (ev x) with
    | .sl xs => ∃ l : List UInt8, BytesN P src dst xs l (K (.con (.string ⟨l.toArray⟩)))
    | .con (.int _ n) => match T src with
      | some _ => match T dst with
        | some ti => match ti.intK with
          | some q => K (.con (.int q (q.wrap n)))
          | none => False
        | none => False
      | none => False
    | _ => False
  | .makeInterface t x => match T t with
    | some _ => match isIface P t with
      | false => match PV.under 0 (weak (ev x)) with
        | true => K (.ifc t (weak (ev x)))
        | false => False
      | true => False
    | none => False
  | .typeAssert x _ t ok => match T t with
    | some ti => match isIface P t with
      | false => match ev x with
        | .ifc u q => match ti.zero with
          | some z => match shsOf z with
            | some shs => br (Nat.beq u t) (exC shs [] fun cs => match loadA ti cs with | some p => OpnN q p (K (match ok with | true => .tup [p, .con (.bool true)] | false => p)) | none => False) (match ok with | true => K (.tup [.any, .con (.bool false)]) | false => False)
            | none => False
          | none => False
        | _ => False
      | true => False
    | none => False
  | .slice t x low (some hi) none => match T t with
    | some ti => match ti.isStr with
      | true => match ev x with
        | .con (.string s) => match ev hi with
          | .con (.int _ j) => match low with
            | some lo => match ev lo with
              | .con (.int _ i) => PieceN s.size i j (K (.con (.string (s.extract i.toNat j.toNat))))
              | _ => False
            | none => PieceN s.size 0 j (K (.con (.string (s.extract 0 j.toNat))))
          | _ => False
        | _ => False
      | false => match ti.isSl with
        | true => match T ti.elem with
          | some ei => match weak (ev x) with
            | .sl xs => match ev hi with
              | .con (.int _ j) => match low with
                | some lo => match ev lo with
                  | .con (.int _ i) => PieceN xs.length i j (SizN xs ei.size (K (.sl ((xs.take j.toNat).drop i.toNat))))
                  | _ => False
                | none => PieceN xs.length 0 j (SizN xs ei.size (K (.sl (xs.take j.toNat))))
              | _ => False
            | _ => False
          | none => False
        | false => False
    | none => False
  | .slice t x low none none => match T t with
    | some ti => match ti.isStr with
     | true => match ev x with
      | .con (.string s) => match low with
        | some lo => match ev lo with
          | .con (.int _ i) => PieceN s.size i s.size (K (.con (.string (s.extract i.toNat s.size))))
          | _ => False
        | none => K (.con (.string s))
      | _ => False
     | false => match ti.isSl with
      | true => match T ti.elem with
        | some ei => match weak (ev x) with
          | .sl xs => match low with
            | some lo => match ev lo with
              | .con (.int _ i) => ∃ n : Nat, CutN xs ei.size n i (K (.sl (xs.drop n)))
              | _ => False
            | none => False
          | _ => False
        | none => False
      | false => False
    | none => False
  | .unOp op xt x => match ev x with
    | .con u => match unA op u with | some r => K (.con r) | none => False
    | _ => False
  | .extract t ix => match ev t with
    | .tup vs => match vs[ix]? with | some v => K v | none => False
    | _ => False
  | .makeFunc fn first cap => match fn with
    | .func f => match first.toList with
      | [] => K (.fn f (cap.toList.map ev))
      | x :: r => match cap.toList with
        | [] => K (.bm f ((x :: r).map ev))
        | _ => False
    | _ => False
  | .call c => match c.callee with
    | .builtin .len => match c.argTypes.toList with
      | t :: _ => match T t with
        | some ti => match c.args.toList with
          | [x] => match weak (ev x) with
            | .sl xs => match ti.isSl with | true => K (.con (.int .i64 xs.length)) | false => False
            | .rw _ _ n => match ti.isSl with | true => K (.con (.int .i64 n)) | false => False
            | .con (.string s) => match ti.isStr with | true => K (.con (.int .i64 s.size)) | false => False
            | _ => False
          | _ => False
        | none => False
      | _ => False
    | .builtin .min => match c.args.toList with
      | [x, y] => match ev x with
        | .con (.int k a) => match ev y with
          | .con (.int _ b) => K (.con (.int k (minI a b)))
          | _ => False
        | _ => False
      | [x, y, z] => match ev x with
        | .con (.int k a) => match ev y with
          | .con (.int _ b) => match ev z with
            | .con (.int _ c) => K (.con (.int k (minI (minI a b) c)))
            | _ => False
          | _ => False
        | _ => False
      | _ => False
    | .builtin .max => match c.args.toList with
      | [x, y] => match ev x with
        | .con (.int k a) => match ev y with
          | .con (.int _ b) => K (.con (.int k (maxI a b)))
          | _ => False
        | _ => False
      | [x, y, z] => match ev x with
        | .con (.int k a) => match ev y with
          | .con (.int _ b) => match ev z with
            | .con (.int _ c) => K (.con (.int k (maxI (maxI a b) c)))
            | _ => False
          | _ => False
        | _ => False
      | _ => False
    | _ => False
  | .build t parts => match T t with
    | some ti => match ti.isStruct with
      | true => match ti.zero with
        | some z => match ti.flds.all (fun f => (T f.2).isSome) with
          | true => match fillA T ti.flds ev z parts.toList with
            | some cs => K (.agg cs)
            | none => False
          | false => False
        | none => False
      | false => False
    | none => False
  | _ => False
def partsA (ev : Operand → PV) (sz : Nat) : Nat → List (Nat × Operand) → Option (List (List PV))
  | _, [] => some []
  | i, (j, x) :: r => match Nat.beq i j with
    | true => match cellsOf (weak (ev x)) with
      | some cs => match Nat.beq cs.length sz && undersL 0 cs && cs.all PV.one with
        | true => match partsA ev sz (i + 1) r with | some l => some (cs :: l) | none => none
        | false => none
      | none => none
    | false => none
def effB (fid : FuncId) (ams : List AM) (pre : List BT) (res : List RSh) (post : List BT) (args : List PV) (h1 : Heap) (ρ : Nat → Nat) (base : Nat) (K : PV → Heap → Prop) : Prop :=
  match canA ams args with
  | none => False
  | some args0 => match canBs h1 ρ pre 0 with
    | none => False
    | some h0 => match okT ρ pre.length (tokA ams args ++ blkToks h1 ρ pre 0) && nodupN ((upTo pre.length).map ρ) && (upTo pre.length).all (fun i => Nat.blt (ρ i) (base + pre.length)) with
      | true => exR res [] fun rs => exB post h0 [] fun h0' => CallF P fid args0 h0 (packR rs) h0' (K (ren ρ (packR rs)) (setAll ρ h0' 0 pre.length h1))
      | false => False
def effA (fid : FuncId) (ams : List AM) (pre : List BT) (res : List RSh) (post : List BT) (args : List PV) (h : Heap) (K : PV → Heap → Prop) : Prop :=
  effB P fid ams pre res post args (h ++ voids pre.length) (nameOf h.length (bindBs h pre 0 (tokA ams args)) pre.length) h.length K
def thrB (H : Value → Prop) (pr : Prop) (fid : FuncId) (ams : List AM) (pre : List BT) (res : List RSh) (post : List BT) (args : List PV) (h1 : Heap) (ρ : Nat → Nat) (base : Nat) (K : Prop → PV → Heap → Prop) : Prop :=
  match canA ams args with
  | none => False
  | some args0 => match canBs h1 ρ pre 0 with
    | none => False
    | some h0 => match okT ρ pre.length (tokA ams args ++ blkToks h1 ρ pre 0) && nodupN ((upTo pre.length).map ρ) && (upTo pre.length).all (fun i => Nat.blt (ρ i) (base + pre.length)) with
      | true => exR res [] fun rs => exB post h0 [] fun h0' => ∃ g : Prop, CallT P H pr fid args0 h0 (packR rs) h0' g (K g (ren ρ (packR rs)) (setAll ρ h0' 0 pre.length h1))
      | false => False
def thrA (H : Value → Prop) (pr : Prop) (fid : FuncId) (ams : List AM) (pre : List BT) (res : List RSh) (post : List BT) (args : List PV) (h : Heap) (K : Prop → PV → Heap → Prop) : Prop :=
  thrB P H pr fid ams pre res post args (h ++ voids pre.length) (nameOf h.length (bindBs h pre 0 (tokA ams args)) pre.length) h.length K
variable (H : Value → Prop)
def callA (fid : FuncId) (args : List PV) (h : Heap) (K : PV → Heap → Prop) : Prop := match S fid with
  | some (.pure shr) => orR shr fun rs => CallN P fid (weakL args) h (packR rs) (K (packR rs) h)
  | some (.eff ams pre res post) => effA P fid ams pre res post args h K
  | some (.thr ams pre res post) => thrA P H True fid ams pre res post args h (fun g p h' => g → K p h')
  | none => False
def dispA (name : String) (u : TypeId) (q : PV) (K : FuncId → PV → Prop) : List (List RSh) → Prop
  | [.cell (.ptr t f)] :: r => br (Nat.beq u t) (match T t with
    | some ti => match ti.zero with
      | some z => match shsOf z with
        | some shs => exC shs [] fun cs => match loadA ti cs with
          | some p => OpnN q p (MethN P t name f none (K f p))
          | none => False
        | none => False
      | none => False
    | none => False) (dispA name u q K r)
  | [.cell (.ptr t f), .cell (.ptr o _)] :: r => br (Nat.beq u t) (match T t with
    | some ti => match ti.zero with
      | some z => match shsOf z with
        | some shs => exC shs [] fun cs => OpnN q (.agg cs) (MethN P t name f (some (o, cs.length)) (K f (cs.getD o .any)))
        | none => False
      | none => False
    | none => False) (dispA name u q K r)
  | _ => False
def opA (ev : Operand → PV) (h : Heap) (K : PV → Heap → Prop) : Op → Prop
  | .alloc t => match T t with
    | some ti => match ti.zero with
      | some z => K (.ptr h.length 0) (h ++ [z])
      | none => False
    | none => False
  | .box t x => match cellsOf (ev x) with
    | some cs => match noMark cs with
      | true => K (.ptr h.length 0) (h ++ [cs])
      | false => False
    | none => False
  | .buildSlice t len parts => match T t with
    | some ti => match ti.isSl with
      | true => match T ti.elem with
        | some ei => match partsA ev ei.size 0 parts.toList with
          | some css => match Nat.beq css.length len && Nat.ble (len * ei.size) 16777216 && Nat.blt 0 (len * ei.size) && zeroOk ei with
            | true => K (.own h.length ti.elem ei.size css) (h ++ [[.tip]])
            | false => False
          | none => False
        | none => False
      | false => False
    | none => False
  | .makeSlice t l c => match T t with
    | some ti => match ti.isSl with
      | true => match T ti.elem with
        | some ei => match ei.zero with
          | some z => match ev l with
            | .con (.int _ n) => match ev c with
              | .con (.int _ n') => match Nat.blt 0 ei.size && zeroOk ei with
                | true => MakeN n n' ei.size ei.bytes (K (.rw h.length 0 n.toNat) (h ++ [[.row (List.replicate n.toNat z).flatten]]))
                | false => False
              | _ => False
            | _ => False
          | none => False
        | none => False
      | false => False
    | none => False
  | .makeMap t none => match T t with
    | some ti => match ti.mapKE with
      | some (k, e) => K (.mp h.length) (h ++ [[.mpc k e 0 (.map [])]])
      | none => False
    | none => False
  | .mapUpdate t x ix v => match T t with
    | some ti => match ti.mapKE with
      | some (k, e) => match T k with
        | some tk => match tk.isStr with
          | true => match T e with
            | some te => match te.intK with
              | some q => match ev x with
                | .mp b => match h.getD b [] with
                  | [.mpc k' e' n D] => match Nat.beq k k' && Nat.beq e e' && Nat.blt b h.length with
                    | true => match ev ix with
                      | .con (.string s) => match ev v with
                        | .con (.int q' a) => match decide (q = q') with
                          | true => MapU n s q a (K (.con undef) (h.set b [.mpc k e (n + 1) (D.put (.string s.data.toList) (.lit (.int q a)))]))
                          | false => False
                        | _ => False
                      | _ => False
                    | false => False
                  | _ => False
                | _ => False
              | none => False
            | none => False
          | false => False
        | none => False
      | none => False
    | none => False
  | .store t a x => match T t with
    | some ti => match ev a with
      | .ptr b off => match h.getD b [] with
       | [.row l] => match cellsOf (weak (ev x)) with
        | some cs => match Nat.beq cs.length ti.size && Nat.blt b h.length && cs.all PV.one && undersL 0 cs with
          | true => RowW off cs.length l.length (K (.con undef) (h.set b [.row (splice off cs l)]))
          | false => False
        | none => False
       | _ => match cellsOf (ev x) with
        | some cs => match Nat.beq cs.length ti.size && Nat.ble (off + cs.length) (h.getD b []).length && Nat.blt b h.length && isCells (h.getD b []) && cs.all PV.one with
          | true => K (.con undef) (h.set b (splice off cs (h.getD b [])))
          | false => False
        | none => False
      | _ => False
    | none => False
  | .call c => match c.callee with
    | .value f => match fnOf (ev f) with
      | some (fid, fst, cap) => match S fid with
        | some (.pure shr) => orR shr fun rs => CallN P fid (weakL (argsOf fst (c.args.toList.map ev) cap)) h (packR rs) (K (packR rs) h)
        | some (.eff ams pre res post) => effA P fid ams pre res post (argsOf fst (c.args.toList.map ev) cap) h K
        | some (.thr ams pre res post) => thrA P H True fid ams pre res post (argsOf fst (c.args.toList.map ev) cap) h (fun g p h' => g → K p h')
        | none => False
      | none => False
    | .invoke r name => match ev r with
      | .ifc u q => match S (1000000 + name.length) with
        | some (.pure l) => dispA P T name u q (fun f p => callA P S H f (p :: c.args.toList.map ev) h K) l
        | _ => False
      | _ => False
    | .builtin .append => match c.argTypes.toList with
      | [t, t'] => match Nat.beq t t' with
        | true => match T t with
          | some ti => match ti.isSl with
            | true => match T ti.elem with
              | some ei => match Nat.blt 0 ei.size && Nat.blt 0 ei.bytes && zeroOk ei with
                | true => match c.args.toList with
                  | [s, x] => match weak (ev x) with
                    | .sl ys => match ev s with
                      | .con v => match isNil v with
                        | true => AppN [] ys ei.size ei.bytes PV.one (K (.own (h.length + 1) ti.elem ei.size ys) (h ++ [[], [.tip]]))
                        | false => False
                      | .own b e sz xs => match Nat.beq e ti.elem && Nat.beq sz ei.size && isTip (h.getD b []) with
                        | true => AppN xs ys ei.size ei.bytes PV.one (K (.own h.length ti.elem ei.size (xs ++ ys)) (h.set b [] ++ [[.tip]]))
                        | false => False
                      | _ => False
                    | _ => False
                  | _ => False
                | false => False
              | none => False
            | false => False
          | none => False
        | false => False
      | _ => False
    | .builtin .delete => match c.argTypes.toList with
      | [t, k2] => match T t with
        | some ti => match ti.mapKE with
          | some (k, e) => match T k with
            | some tk => match tk.isStr && Nat.beq k k2 with
              | true => match c.args.toList with
                | [x, ix] => match ev x with
                  | .mp b => match h.getD b [] with
                    | [.mpc k' e' n D] => match Nat.beq k k' && Nat.beq e e' && Nat.blt b h.length with
                      | true => match ev ix with
                        | .con (.string s) => MapD s (K (.con undef) (h.set b [.mpc k e n (D.del (.string s.data.toList))]))
                        | _ => False
                      | false => False
                    | _ => False
                  | _ => False
                | _ => False
              | false => False
            | none => False
          | none => False
        | none => False
      | _ => False
    | _ => valA P T ev h (fun p => K p h) (.call c)
  | .panic x => match ev x with
    | .con (.iface t v) => H (.iface t v)
    | _ => False
  | o => valA P T ev h (fun p => K p h) o
def putE (env : Env) (dst : Option Tmp) (p : PV) : Env := match dst with | some d => env.put d p | none => env
def gvA (ops : List Oper) (env : Env) (j : Nat) : PV := match ops[j]? with
  | some o => match o.dst with | some d => env.get d | none => .any
  | none => .any
def litE (env : Env) (d : Option Tmp) (b : Bool) : Env := putE env d (.con (.bool b))
def dstOf (ops : List Oper) (j : Nat) : Option Tmp := match ops[j]? with | some o => o.dst | none => none
mutual
def substV (b : Nat) (cs : List PV) : PV → PV
  | .ptr b' off => match Nat.beq b' b with | true => .ept cs off | false => .ptr b' off
  | .agg l => .agg (substL b cs l)
  | .tup l => .tup (substL b cs l)
  | .fn f l => .fn f (substL b cs l)
  | .bm f l => .bm f (substL b cs l)
  | .ifc t p => .ifc t p
  | .rw b o n => .rw b o n
  | .row cs => .row cs
  | .any => .any
  | .con v => .con v
  | .sl xs => .sl xs
  | .ept l off => .ept l off
  | .own b e sz xs => .own b e sz xs
  | .tip => .tip
  | .mp b => .mp b
  | .mpc k e n D => .mpc k e n D
def substL (b : Nat) (cs : List PV) : List PV → List PV
  | [] => []
  | p :: ps => substV b cs p :: substL b cs ps
end
def substP (b : Nat) (cs : List PV) : List (Nat × PV) → List (Nat × PV)
  | [] => []
  | (k, p) :: r => (k, substV b cs p) :: substP b cs r
def substE (b : Nat) (cs : List PV) (e : Env) : Env := ⟨e.n, substP b cs e.l, substV b cs e.d⟩
def sealOne (b : Nat) (env : Env) (h : Heap) : Env × Heap := match isCells (h.getD b []) && undersL 0 (weakL (h.getD b [])) with
  | true => (substE b (weakL (h.getD b [])) env, (h.set b []).map (substL b (weakL (h.getD b []))))
  | false => (env, h)
def sealAll : List Nat → Env → Heap → Env × Heap
  | [], env, h => (env, h)
  | b :: bs, env, h => sealAll bs (sealOne b env h).1 (sealOne b env h).2
mutual
def reachV (h : Heap) : Nat → PV → List Nat
  | 0, _ => []
  | n + 1, .ptr b _ => reachL h n (h.getD b []) ++ [b]
  | n + 1, .agg l => reachL h n l
  | n + 1, .tup l => reachL h n l
  | n + 1, .fn _ l => reachL h n l
  | n + 1, .bm _ l => reachL h n l
  | _ + 1, _ => []
def reachL (h : Heap) : Nat → List PV → List Nat
  | 0, _ => []
  | _ + 1, [] => []
  | n + 1, p :: ps => reachV h n p ++ reachL h n ps
end
def pickW : List AM → List PV → List PV
  | .weak :: r, p :: ps => p :: pickW r ps
  | _ :: r, _ :: ps => pickW r ps
  | _, _ => []
def modesOf (f : PV) : Option (List AM) := match fnOf f with
  | some (fid, _, _) => match S fid with
    | some (.eff ams _ _ _) => some ams
    | some (.thr ams _ _ _) => some ams
    | _ => none
  | none => none
def allArgs (f : PV) (args : List PV) : List PV := match fnOf f with
  | some (_, fst, cap) => argsOf fst args cap
  | none => args
def preA (o : Op) (env : Env) (h : Heap) : Env × Heap := match o with
  | .call c => match c.callee with
    | .value f => match modesOf S (aev env f) with
      | some ams => sealAll (reachL h 40 (pickW ams (allArgs (aev env f) (c.args.toList.map (aev env))))) env h
      | none => sealAll (reachL h 40 (c.args.toList.map (aev env) ++ [aev env f])) env h
    | _ => (env, h)
  | _ => (env, h)
def opsA (ops : List Oper) (K : Env → Heap → Prop) : List Oper → Env → Heap → Prop
  | [], env, h => K env h
  | o :: rest, env, h => match o.guard with
    | none => opA P T S H (aev (preA S o.op env h).1) (preA S o.op env h).2 (fun p h' => opsA ops K rest (putE (preA S o.op env h).1 o.dst p) h') o.op
    | some (j, want) => match gvA ops env j with
      | .con (.bool b) => match want with
        | true => br b
            (opA P T S H (aev (preA S o.op (litE env (dstOf ops j) true) h).1) (preA S o.op (litE env (dstOf ops j) true) h).2 (fun p h' => opsA ops K rest (putE (preA S o.op (litE env (dstOf ops j) true) h).1 o.dst p) h') o.op)
            (opsA ops K rest (putE (litE env (dstOf ops j) false) o.dst (.con undef)) h)
        | false => br b
            (opsA ops K rest (putE (litE env (dstOf ops j) true) o.dst (.con undef)) h)
            (opA P T S H (aev (preA S o.op (litE env (dstOf ops j) false) h).1) (preA S o.op (litE env (dstOf ops j) false) h).2 (fun p h' => opsA ops K rest (putE (preA S o.op (litE env (dstOf ops j) false) h).1 o.dst p) h') o.op)
      | .con (.tuple _) => opsA ops K rest (putE env o.dst (.con undef)) h
      | _ => False
def quietA (ops : List Oper) (h : Heap) (K : Env → Prop) : List Oper → Env → Prop
  | [], env => K env
  | o :: rest, env =>
    match o.guard with
    | none => quietO o env (fun p => quietA ops h K rest (putE env o.dst p))
    | some (j, want) => match gvA ops env j with
      | .con (.bool b) => match want with
        | true => br b (quietO o (litE env (dstOf ops j) true) (fun p => quietA ops h K rest (putE (litE env (dstOf ops j) true) o.dst p))) (quietA ops h K rest (putE (litE env (dstOf ops j) false) o.dst (.con undef)))
        | false => br b (quietA ops h K rest (putE (litE env (dstOf ops j) true) o.dst (.con undef))) (quietO o (litE env (dstOf ops j) false) (fun p => quietA ops h K rest (putE (litE env (dstOf ops j) false) o.dst p)))
      | .con (.tuple _) => quietA ops h K rest (putE env o.dst (.con undef))
      | _ => False
where
  quietO (o : Oper) (env : Env) (K : PV → Prop) : Prop := match o.op with
    | .call c => match c.callee with
      | .value f => match fnOf (aev env f) with
        | some (fid, fst, cap) => match S fid with
          | some (.pure alts) => match undersL 0 (weakL (argsOf fst (c.args.toList.map (aev env)) cap)) with
            | true => orR alts fun rs => match fixV (packR rs) with
              | some _ => CallN P fid (weakL (argsOf fst (c.args.toList.map (aev env)) cap)) [] (packR rs) (K (packR rs))
              | none => False
            | false => False
          | _ => False
        | none => False
      | _ => valA P T (aev env) h K o.op
    | _ => valA P T (aev env) h K o.op
def Vars : List (Nat × Sh) → Type
  | [] => Unit
  | (_, s) :: r => s.V × Vars r
def getC (k : Nat) (h : Heap) : PV := (h.getD ((k - 1000000) / 1000) []).getD ((k - 1000000) % 1000) .any
def setC (k : Nat) (p : PV) (h : Heap) : Heap := h.set ((k - 1000000) / 1000) ((h.getD ((k - 1000000) / 1000) []).set ((k - 1000000) % 1000) p)
def getL (k : Nat) (e : Env) (h : Heap) : PV := match Nat.blt k 1000000 with | true => e.get k | false => getC k h
def getVs : (p : List (Nat × Sh)) → Env → Heap → Option (Vars p)
  | [], _, _ => some ()
  | (k, s) :: r, e, h => match s.get (getL k e h) with
    | some v => match getVs r e h with | some vs => some (v, vs) | none => none
    | none => none
def setVs : (p : List (Nat × Sh)) → Vars p → Env → Env
  | [], _, e => e
  | (k, s) :: r, v, e => match Nat.blt k 1000000 with | true => (setVs r v.2 e).put k (s.mk v.1) | false => setVs r v.2 e
def setHs : (p : List (Nat × Sh)) → Vars p → Heap → Heap
  | [], _, h => h
  | (k, s) :: r, v, h => match Nat.blt k 1000000 with | true => setHs r v.2 h | false => setC k (s.mk v.1) (setHs r v.2 h)
def keepF (n : Nat) : List Nat → Env → Env
  | [], _ => ⟨n, [], .any⟩
  | k :: r, e => (keepF n r e).put k (e.get k)
def undersP (d : Nat) : List (Nat × PV) → Bool
  | [] => true
  | (_, p) :: r => PV.under d p && undersP d r
def underE (d : Nat) (e : Env) : Bool := undersP d e.l && PV.under d e.d
def agreeF : List Nat → Env → Env → Prop
  | [], _, _ => True
  | k :: r, e, e' => e'.get k = e.get k ∧ agreeF r e e'
def toksP : (p : List (Nat × Sh)) → Env → Heap → Bd
  | [], _, _ => []
  | (k, s) :: r, e, h => tokS s (getL k e h) ++ toksP r e h
def headN (base : Nat) (ps : Bd) (b : Nat) : Option Nat := match Nat.blt b base with
  | true => some b
  | false => match lookB b ps with | some (some t) => some t | _ => none
def nOwn : List (Nat × Sh) → Nat
  | [] => 0
  | (_, .own _ _ _) :: r => nOwn r + 1
  | _ :: r => nOwn r
def okB (base top : Nat) (h : Heap) : Bd → List Nat → Bool
  | [], _ => true
  | (b, some t) :: r, seen => (match Nat.blt b base with
    | true => Nat.beq b t
    | false => Nat.blt b top && isTip (h.getD t []) && !(seen.any (Nat.beq t))) && okB base top h r (t :: seen)
  | (b, none) :: r, seen => Nat.ble base b && Nat.blt b top && okB base top h r seen
def keysB : Bd → List Nat
  | [] => []
  | (b, _) :: r => b :: keysB r
def killB (base : Nat) : Bd → Heap → Heap
  | [], h => h
  | (b, some t) :: r, h => match Nat.blt b base with
    | true => killB base r h
    | false => killB base r (h.set t [])
  | (_, none) :: r, h => killB base r h
def allPast (base : Nat) : Bd → Bool
  | [] => true
  | (b, some t) :: r => (Nat.blt b base || Nat.ble base t) && allPast base r
  | (_, none) :: r => allPast base r
def relS (base : Nat) : List (Nat × Sh) → List (Nat × Sh)
  | [] => []
  | (k, .own i e sz) :: r => (k, .own (base + i) e sz) :: relS base r
  | (k, s) :: r => (k, s) :: relS base r
def sealsOf : List Nat → List Nat
  | [] => []
  | k :: r => match Nat.blt k 2000000 with | true => sealsOf r | false => (k - 2000000) :: sealsOf r
def loopE (fx : List Nat) (p : List (Nat × Sh)) (B : (Exit → Env → Heap → Prop) → Env → Heap → Prop) (Q : Exit → Env → Heap → Prop) (env : Env) (h : Heap) : Prop :=
  match getVs p env h with
  | some v0 => match underE h.length (keepF env.n fx env) && h.all (undersL h.length) && nodupN ((keysB (toksP p env h)).filter (Nat.ble h.length)) && okB h.length (h.length + nOwn p) h (toksP p env h) [] with
    | true => ∃ I : Nat → Vars p → Prop, (∃ n, I n v0) ∧ ∀ n v, I n v → B (fun x e' h' => match x with
        | .normal => match getVs p e' h' with
          | some v' => match Nat.beq e'.n env.n && okB h.length (h.length + nOwn p) h' (toksP p e' h') [] && nodupN ((keysB (toksP p e' h')).filter (Nat.ble h.length)) && allPast h.length (toksP p e' h') && Nat.ble h.length h'.length with
            | true => agreeF fx env e' ∧ setHs p v' (h'.take h.length) = setHs p v' (killB h.length (toksP p env h) h) ∧ ∃ k, k < n ∧ I k v'
            | false => False
          | none => False
        | x => Q x e' h') (setVs p v (keepF env.n fx env)) (setHs p v (killB h.length (toksP p env h) h) ++ voids (nOwn p))
    | false => False
  | none => False
def regOf : Code → Option Nat
  | .region id _ _ => some id
  | .seq a b => match regOf a with | some x => some x | none => regOf b
  | .block _ b => regOf b
  | .loop b => regOf b
  | .scope b => regOf b
  | .cond _ a b => match regOf a with | some x => some x | none => regOf b
  | _ => none
def loudAt : List Oper → Option Nat
  | [] => none
  | o :: l => match o.op with
    | .alloc .. => some 0
    | .box .. => some 0
    | .store .. => some 0
    | .buildSlice .. => some 0
    | .makeMap .. => some 0
    | .mapUpdate .. => some 0
    | .panic .. => some 0
    | .call c => match c.callee with
      | .builtin .append => some 0
      | .builtin .delete => some 0
      | _ => match loudAt l with | some n => some (n + 1) | none => none
    | _ => match loudAt l with | some n => some (n + 1) | none => none
def loudAt2 : List Oper → Option Nat
  | [] => none
  | o :: l => match o.op with
    | .box .. => some 0
    | .store .. => some 0
    | .buildSlice .. => some 0
    | .makeMap .. => some 0
    | .mapUpdate .. => some 0
    | .panic .. => some 0
    | .call c => match c.callee with
      | .builtin .append => some 0
      | .builtin .delete => some 0
      | _ => match loudAt2 l with | some n => some (n + 1) | none => none
    | _ => match loudAt2 l with | some n => some (n + 1) | none => none
def loud2 (ops : Array Oper) : Nat := match loudAt2 ops.toList with | some n => n | none => ops.size
def loudAt3 : List Oper → Option Nat
  | [] => none
  | o :: l => match o.op with
    | .box .. => some 0
    | .store .. => some 0
    | .makeMap .. => some 0
    | .mapUpdate .. => some 0
    | .panic .. => some 0
    | .call c => match c.callee with
      | .builtin .append => some 0
      | .builtin .delete => some 0
      | _ => match loudAt3 l with | some n => some (n + 1) | none => none
    | _ => match loudAt3 l with | some n => some (n + 1) | none => none
def loud3 (ops : Array Oper) : Nat := match loudAt3 ops.toList with | some n => n | none => ops.size
def loudAt4 : List Oper → Option Nat
  | [] => none
  | o :: l => match o.op with
    | .box .. => some 0
    | .store .. => some 0
    | .makeMap .. => some 0
    | .mapUpdate .. => some 0
    | .panic .. => some 0
    | .call c => match c.callee with
      | .builtin .delete => some 0
      | _ => match loudAt4 l with | some n => some (n + 1) | none => none
    | _ => match loudAt4 l with | some n => some (n + 1) | none => none
def loud4 (ops : Array Oper) : Nat := match loudAt4 ops.toList with | some n => n | none => ops.size
def tmpsL : List Operand → List Nat
  | [] => []
  | .tmp t :: r => t :: tmpsL r
  | _ :: r => tmpsL r
def onlyL (e : Env) : List Nat → List (Nat × PV)
  | [] => []
  | t :: r => (t, e.get t) :: onlyL e r
def onlyE (ts : List Nat) (e : Env) : Env := ⟨e.n, onlyL e ts, .any⟩
def findDst (t : Nat) : List Oper → Nat → Option Nat
  | [], _ => none
  | o :: r, i => match o.dst with
    | some d => match Nat.beq t d with | true => some i | false => findDst t r (i + 1)
    | none => findDst t r (i + 1)
def belowB (j : Nat) : List Edge → Bool
  | [] => true
  | e :: r => (!(Region.binds .any e) || Nat.blt e.on j) && belowB j r
def waitsL (i : Nat) : List Edge → Bool
  | [] => false
  | e :: r => (Region.binds .any e && Nat.beq e.on i) || waitsL i r
def waitsH (hd : List Oper) (i j : Nat) : Bool := match hd[i]? with | some o => waitsL j o.after.toList | none => false
def slotsOk (hd : List Oper) (j : Nat) (af : List Edge) : List Nat → Bool
  | [] => true
  | t :: r => (match findDst t hd 0 with | some i => (Nat.blt i j && waitsL i af) || (Nat.blt j i && waitsH hd i j) | none => true) && slotsOk hd j af r
def readsO (hd : List Oper) (o : Oper) : List Nat := match o.guard with
  | none => tmpsL o.op.operands.toList
  | some (i, _) => match dstOf hd i with | some t => t :: tmpsL o.op.operands.toList | none => tmpsL o.op.operands.toList
def guardOk (hd : List Oper) (o : Oper) (j : Nat) : Bool := match o.guard with
  | none => true
  | some (i, _) => Nat.blt i j && (match dstOf hd i with | some _ => true | none => false)
def calmL (hd : List Oper) : List Oper → Nat → Bool
  | [], _ => true
  | o :: r, j => guardOk hd o j && belowB j o.after.toList && slotsOk hd j o.after.toList (readsO hd o) &&
      (match o.dst with | some d => (match findDst d r 0 with | none => true | some _ => false) | none => true) && calmL hd r (j + 1)
def headSeen (size n : Nat) : Array Bool := ((List.range size).map fun i => Nat.blt i n).toArray
def calmOk (ops : Array Oper) (n : Nat) : Bool := calmL (ops.toList.take n) (ops.toList.take n) 0 && Nat.ble n ops.size && (match Nat.beq n ops.size with
  | true => (Region.ready .any ops (headSeen ops.size n)).isEmpty
  | false => Region.sinkB .any ops n && Region.chainB .any ops n && Region.seqB .any ops (ops.size - n) n (headSeen ops.size n))
def guardE : Option Prop → Prop → Prop
  | none, X => X
  | some g, X => g → X
def andE (a : Option Prop) : Option Prop → Option Prop
  | none => a
  | some g => match a with | none => some g | some b => some (b ∧ g)
def preE : Option Prop → Prop
  | none => True
  | some g => g
inductive AppNG (pre : Prop) (xs ys : List (List PV)) (sz bytes : Nat) (one : PV → Bool) (X : Prop) : Prop where
  | mk (hc : pre → (xs.length + ys.length) * bytes ≤ 140737488355328 ∧ ∀ y ∈ ys, y.length = sz ∧ ∀ p ∈ y, one p = true) (hk : X) : AppNG pre xs ys sz bytes one X
def appA (ev : Operand → PV) (h : Heap) (K : List (List PV) → List (List PV) → Nat → Nat → PV → Heap → Prop) (c : Call) : Prop := match c.argTypes.toList with
      | [t, t'] => match Nat.beq t t' with
        | true => match T t with
          | some ti => match ti.isSl with
            | true => match T ti.elem with
              | some ei => match Nat.blt 0 ei.size && Nat.blt 0 ei.bytes && zeroOk ei with
                | true => match c.args.toList with
                  | [s, x] => match weak (ev x) with
                    | .sl ys => match ev s with
                      | .con v => match isNil v with
                        | true => K [] ys ei.size ei.bytes (.own (h.length + 1) ti.elem ei.size ys) (h ++ [[], [.tip]])
                        | false => False
                      | .own b e sz xs => match Nat.beq e ti.elem && Nat.beq sz ei.size && isTip (h.getD b []) with
                        | true => K xs ys ei.size ei.bytes (.own h.length ti.elem ei.size (xs ++ ys)) (h.set b [] ++ [[.tip]])
                        | false => False
                      | _ => False
                    | _ => False
                  | _ => False
                | false => False
              | none => False
            | false => False
          | none => False
        | false => False
      | _ => False
def appN (ev : Operand → PV) (c : Call) : List Nat := match c.args.toList with
  | s :: _ => match ev s with | .own b _ _ _ => [b] | _ => []
  | [] => []
def calmO (gs : Option Prop) (ev : Operand → PV) (h : Heap) (K : Option Prop → PV → Heap → Prop) (op : Op) : Prop := match op with
  | .call c => match c.callee with
    | .value f => match fnOf (ev f) with
      | some (fid, fst, cap) => match S fid with
        | some (.pure alts) => orR alts fun rs => CallN P fid (weakL (argsOf fst (c.args.toList.map ev) cap)) h (packR rs) (K none (packR rs) h)
        | some (.eff ams pre res post) => effA P fid ams pre res post (argsOf fst (c.args.toList.map ev) cap) h (K none)
        | some (.thr ams pre res post) => thrA P H (preE gs) fid ams pre res post (argsOf fst (c.args.toList.map ev) cap) h (fun g => K (some g))
        | none => False
      | none => False
    | .builtin .append => appA T ev h (fun xs ys sz by' p h' => AppNG (preE gs) xs ys sz by' PV.one (K none p h')) c
    | _ => valA P T ev h (fun p => K none p h) (.call c)
  | .alloc t => match T t with
    | some ti => match ti.zero with
      | some z => K none (.ptr h.length 0) (h ++ [z])
      | none => False
    | none => False
  | .buildSlice t len parts => match T t with
    | some ti => match ti.isSl with
      | true => match T ti.elem with
        | some ei => match partsA ev ei.size 0 parts.toList with
          | some css => match Nat.beq css.length len && Nat.ble (len * ei.size) 16777216 && Nat.blt 0 (len * ei.size) && zeroOk ei with
            | true => K none (.own h.length ti.elem ei.size css) (h ++ [[.tip]])
            | false => False
          | none => False
        | none => False
      | false => False
    | none => False
  | op => valA P T ev h (fun p => K none p h) op
def infoO (ev : Operand → PV) (h : Heap) (op : Op) : Bool × List Nat := match op with
  | .load _ a => match ev a with | .ptr b _ => (false, [b]) | _ => (false, [])
  | .lookup _ x _ _ => match ev x with | .mp b => (false, [b]) | _ => (false, [])
  | .alloc _ => (true, [])
  | .buildSlice .. => (true, [])
  | .call c => match c.callee with
    | .value f => match fnOf (ev f) with
      | some (fid, fst, cap) => match S fid with
        | some (.pure _) => (true, [])
        | some (.eff ams pre _ _) => (true, (upTo pre.length).map (nameOf h.length (bindBs h pre 0 (tokA ams (argsOf fst (c.args.toList.map ev) cap))) pre.length))
        | some (.thr ams pre _ _) => (true, (upTo pre.length).map (nameOf h.length (bindBs h pre 0 (tokA ams (argsOf fst (c.args.toList.map ev) cap))) pre.length))
        | none => (false, [])
      | none => (false, [])
    | .builtin .append => (true, appN ev c)
    | _ => (false, [])
  | _ => (false, [])
abbrev Infos := List (Bool × List Nat)
def onsL : List Edge → List Nat
  | [] => []
  | e :: r => match Region.binds .any e with | true => e.on :: onsL r | false => onsL r
def onsO (hd : List Oper) (k : Nat) : List Nat := match hd[k]? with | some o => onsL o.after.toList | none => []
def downTo (hd : List Oper) : Nat → Nat → List Nat → List Nat
  | 0, _, ms => ms
  | f + 1, k, ms => match ms.any (Nat.beq k) with | true => downTo hd f (k - 1) (onsO hd k ++ ms) | false => downTo hd f (k - 1) ms
def waitsO (hd : List Oper) (j i : Nat) : Bool := (downTo hd (j - i) j [j]).any (Nat.beq i)
def chainOk (hd : List Oper) : Infos → Nat → Option Nat → Bool
  | [], _, _ => true
  | (true, _) :: r, j, some i => waitsO hd j i && chainOk hd r (j + 1) (some j)
  | (true, _) :: r, j, none => chainOk hd r (j + 1) (some j)
  | (false, _) :: r, j, x => chainOk hd r (j + 1) x
def isEff (acc : Infos) (i : Nat) : Bool := match acc[i]? with | some (b, _) => b | none => false
def namesAt (acc : Infos) (i : Nat) : List Nat := match acc[i]? with | some (_, l) => l | none => []
def floatOk (hd : List Oper) (base : Nat) (acc : Infos) : Bool := chainOk hd acc 0 none && (upTo acc.length).all fun j => isEff acc j || (upTo acc.length).all fun e => !(isEff acc e) || (Nat.blt e j && waitsO hd j e) || (Nat.blt j e && waitsO hd e j) || (namesAt acc j).all (fun b => Nat.blt b base && !((namesAt acc e).any (Nat.beq b)))
def skipI (op : Op) : Bool × List Nat := match op with
  | .alloc _ => (true, [])
  | .buildSlice .. => (true, [])
  | .call c => match c.callee with | .value _ => (true, []) | .builtin .append => (true, []) | _ => (false, [])
  | _ => (false, [])
def calmRun (hd : List Oper) (o : Oper) (env : Env) (h : Heap) (acc : Infos) (gs : Option Prop) (N : Option Prop → Env → Heap → Infos → Prop) : Prop := calmO P T S H gs (aev (onlyE (readsO hd o) env)) h (fun g p h' => N g (putE env o.dst p) h' (acc ++ [infoO S (aev (onlyE (readsO hd o) env)) h o.op])) o.op
def calmSkip (o : Oper) (env : Env) (h : Heap) (acc : Infos) (N : Option Prop → Env → Heap → Infos → Prop) : Prop := N none (putE env o.dst (.con undef)) h (acc ++ [skipI o.op])
def calmG (hd : List Oper) (o : Oper) (env : Env) (h : Heap) (acc : Infos) (gs : Option Prop) (N : Option Prop → Env → Heap → Infos → Prop) : Prop := match o.guard with
  | none => calmRun P T S H hd o env h acc gs N
  | some (j, want) => match gvA hd env j with
    | .con (.bool b) => match want with
      | true => br b (calmRun P T S H hd o (litE env (dstOf hd j) true) h acc gs N) (calmSkip o (litE env (dstOf hd j) false) h acc N)
      | false => br b (calmSkip o (litE env (dstOf hd j) true) h acc N) (calmRun P T S H hd o (litE env (dstOf hd j) false) h acc gs N)
    | .con (.tuple _) => calmSkip o env h acc N
    | _ => False
def calmA (hd : List Oper) (ok : Infos → Bool) (K : Env → Heap → Prop) : List Oper → Env → Heap → Infos → Option Prop → Prop
  | [], env, h, acc, gs => match ok acc with | true => guardE gs (K env h) | false => False
  | o :: r, env, h, acc, gs => calmG P T S H hd o env h acc gs (fun g e' h' acc' => calmA hd ok K r e' h' acc' (andE gs g))
def slotOf : Operand → Option Tmp
  | .tmp t => some t
  | _ => none
def codeA : Code → (Exit → Env → Heap → Prop) → Env → Heap → Prop
  | .skip, Q, e, h => Q .normal e h
  | .seq a b, Q, e, h => codeA a (fun x e' h' => match x with | .normal => codeA b Q e' h' | x => Q x e' h') e h
  | .cond c x y, Q, e, h => match aev e c with
    | .con (.bool b) => br b (codeA x Q (litE e (slotOf c) true) h) (codeA y Q (litE e (slotOf c) false) h)
    | _ => False
  | .block id b, Q, e, h => codeA b (fun x e' h' => match x with
    | .exit i => match Nat.beq i id with | true => Q .normal e' h' | false => Q (.exit i) e' h'
    | x => Q x e' h') e h
  | .exit id, Q, e, h => Q (.exit id) e h
  | .ret, Q, e, h => Q .ret e h
  | .label _, Q, e, h => Q .normal e h
  | .region _ ops true, Q, e, h => match calmOk ops (match loudAt ops.toList with | some n => n | none => ops.size) with
    | true => calmA P T S H (ops.toList.take (match loudAt ops.toList with | some n => n | none => ops.size)) (floatOk (ops.toList.take (match loudAt ops.toList with | some n => n | none => ops.size)) h.length) (fun e' h' => opsA P T S H ops.toList (fun e2 h2 => Q .normal e2 h2) (ops.toList.drop (match loudAt ops.toList with | some n => n | none => ops.size)) e' h') (ops.toList.take (match loudAt ops.toList with | some n => n | none => ops.size)) e h [] none
    | false => match loudAt ops.toList with
    | some n => match Region.lexTailB .any ops n with
      | true => quietA P T S ops.toList h (fun e' => opsA P T S H ops.toList (fun e2 h2 => Q .normal e2 h2) (ops.toList.drop n) e' h) (ops.toList.take n) e
      | false => match calmOk ops (loud2 ops) with
        | true => calmA P T S H (ops.toList.take (loud2 ops)) (floatOk (ops.toList.take (loud2 ops)) h.length) (fun e' h' => opsA P T S H ops.toList (fun e2 h2 => Q .normal e2 h2) (ops.toList.drop (loud2 ops)) e' h') (ops.toList.take (loud2 ops)) e h [] none
        | false => match calmOk ops (loud3 ops) with
          | true => calmA P T S H (ops.toList.take (loud3 ops)) (floatOk (ops.toList.take (loud3 ops)) h.length) (fun e' h' => opsA P T S H ops.toList (fun e2 h2 => Q .normal e2 h2) (ops.toList.drop (loud3 ops)) e' h') (ops.toList.take (loud3 ops)) e h [] none
          | false => match calmOk ops (loud4 ops) with
            | true => calmA P T S H (ops.toList.take (loud4 ops)) (floatOk (ops.toList.take (loud4 ops)) h.length) (fun e' h' => opsA P T S H ops.toList (fun e2 h2 => Q .normal e2 h2) (ops.toList.drop (loud4 ops)) e' h') (ops.toList.take (loud4 ops)) e h [] none
            | false => False
    | none => match Region.lexB .any ops with
      | true => quietA P T S ops.toList h (fun e' => Q .normal e' h) ops.toList e
      | false => False
  | .region _ ops false, Q, e, h => opsA P T S H ops.toList (fun e' h' => Q .normal e' h') ops.toList e h
  | .loop b, Q, e, h => match regOf b with
    | some id => match L id with
      | some (fx, p) => loopE (fx.filter (fun k => Nat.blt k 2000000)) (relS h.length p) (codeA b) Q (sealAll (sealsOf fx) e h).1 (sealAll (sealsOf fx) e h).2
      | none => False
    | none => False
  | _, _, _, _ => False
end Go.Proofs.Ytdffmciedieikaa.Deep

namespace Go.Proofs.Ytdffmciedieikaa.Deep
open Go.RowKit
set_option linter.unusedVariables false
set_option linter.unusedSimpArgs false
variable {P : Program} {T : TypeId → Option TI} {G : Nat → Nat} {m : Nat → Pl} {w : World}
def Tok (P : Program) (T : TypeId → Option TI) : Prop := ∀ t ti, T t = some ti → infoP P t = ti ∧ (P.underlying t).isSome = true
theorem Rep.getD {n : Nat} {vs : List Value} {cs : List PV} (hl : vs.length = cs.length) (hr : ∀ i, i < cs.length → Rep G m w n (vs.getD i undef) (cs.getD i .any)) (i : Nat) (d : Value) : Rep G m w n (vs.getD i d) (cs.getD i .any) := by
  by_cases hi : i < cs.length
  · have := hr i hi
    rw [List.getD_eq_getElem?_getD, List.getElem?_eq_getElem (by omega)] at this ⊢
    exact this
  · rw [List.getD_eq_getElem?_getD (l := cs), List.getElem?_eq_none (by omega)]; exact .any _ _
theorem rep_mapP1 (n : Nat) (vs : List Value) : ∀ i, i < (vs.map PV.con).length → Rep G m w n (vs.getD i undef) ((vs.map PV.con).getD i .any) := fun i hi => by
  have hi' : i < vs.length := by simpa using hi
  rw [List.getD_eq_getElem?_getD, List.getD_eq_getElem?_getD, List.getElem?_eq_getElem hi', List.getElem?_eq_getElem hi]
  simp only [Option.getD_some, List.getElem_map]
  exact .con n _
theorem rep_conP (n : Nat) (v : Value) : Rep G m w n v (conP v) := by
  unfold conP
  split
  · rename_i cs
    have := Rep.agg (G := G) (m := m) (w := w) n cs.toList (cs.toList.map PV.con) (by simp) (rep_mapP1 n cs.toList)
    simpa using this
  · exact .con _ _
theorem weakL_length : ∀ l : List PV, (weakL l).length = l.length
  | [] => rfl
  | p :: ps => by simp [weakL, weakL_length ps]
theorem weakL_getD : ∀ (l : List PV) (i : Nat), (weakL l).getD i .any = weak (l.getD i .any)
  | [], i => by simp [weakL, weak]
  | p :: ps, 0 => by simp [weakL]
  | p :: ps, i + 1 => by simpa [weakL] using weakL_getD ps i
theorem rep_nil (n : Nat) : Rep G m w n (.slice none 0 0) (.sl []) := .sl n none 0 0 [] (fun _ _ => undef) (by simp) (by simp) (by simp) (by simp) (by simp)
theorem Rep.weak {n : Nat} {v : Value} {p : PV} (h : Rep G m w n v p) : Rep G m w n v (weak p) := by
  induction h with
  | any n v => exact .any _ _
  | con n v =>
    unfold Deep.weak weakV
    split
    · exact rep_nil n
    · exact .con _ _
  | agg n vs cs hl hr ih => exact .agg _ _ _ (by rw [weakL_length]; exact hl) (fun i hi => by rw [weakL_getD]; exact ih i (by rwa [weakL_length] at hi))
  | tup n vs cs hl hr ih => exact .tup _ _ _ (by rw [weakL_length]; exact hl) (fun i hi => by rw [weakL_getD]; exact ih i (by rwa [weakL_length] at hi))
  | sl n a c sz xs F h1 h2 h3 h4 h5 ih => exact .sl n a c sz xs F h1 h2 h3 h4 h5
  | ptr n b off hb => exact .ptr _ _ _ hb
  | ept n g o off l F h1 h2 h3 ih => exact .ept n g o off l F h1 h2 h3
  | fn n f vs l hl hr ih => exact .fn _ _ _ _ (by rw [weakL_length]; exact hl) (fun i hi => by rw [weakL_getD]; exact ih i (by rwa [weakL_length] at hi))
  | bm n f vs l hl hr ih => exact .bm _ _ _ _ (by rw [weakL_length]; exact hl) (fun i hi => by rw [weakL_getD]; exact ih i (by rwa [weakL_length] at hi))
  | ifc n t v p hr ih => exact .ifc _ _ _ _ hr
  | rw n0 b off n c hb hc hm => exact .rw _ _ _ _ _ hb hc hm
  | own0 n b e sz hb => exact rep_nil n
  | own1 n b e c sz xs F hb hp hc hm h0 hz hsh hg hfr hx hr ih =>
    exact .sl n _ c sz xs F hc hm hz (fun _ => ⟨(m b).at', 0, rfl, by omega, fun i hi j hj => by rw [Nat.zero_add]; exact hx i hi j hj⟩) hr
  | mp n b hb => exact .mp _ _ hb
def Lie (G : Nat → Nat) (m : Nat → Pl) (w : World) (n g o : Nat) (cells : List PV) : Prop := ∃ F : Nat → Value, (∀ j, j < cells.length → w.cell? ⟨g, o + j, none⟩ = some (F j)) ∧ ∀ j, j < cells.length → Rep G m w n (F j) (cells.getD j .any)
theorem Lie.drop {n g o : Nat} {cells : List PV} (h : Lie G m w n g o cells) (k : Nat) : Lie G m w n g (o + k) (cells.drop k) := by
  obtain ⟨F, h1, h2⟩ := h
  refine ⟨fun j => F (k + j), fun j hj => ?_, fun j hj => ?_⟩
  · simp only [List.length_drop] at hj; have := h1 (k + j) (by omega); rwa [← Nat.add_assoc] at this
  · simp only [List.length_drop] at hj
    have := h2 (k + j) (by omega)
    simpa [List.getD_eq_getElem?_getD] using this
theorem Lie.lift {g o n n' : Nat} {cells : List PV} (h : Lie G m w n g o cells) (hn : n ≤ n') : Lie G m w n' g o cells := by
  obtain ⟨F, h1, h2⟩ := h
  exact ⟨F, h1, fun j hj => (h2 j hj).keep hn ⟨fun _ => Nat.le_refl _, fun _ _ _ => rfl, fun _ _ _ h => h, fun _ _ => rfl⟩⟩
theorem isCells_kind {l : List PV} (h : isCells l = true) : kind l = .cells := by
  unfold isCells at h
  split at h
  · assumption
  · cases h
theorem HS.lie {h : Heap} (k : HS P G m w h) (b off : Nat) (hb : b < h.length) (hc : isCells (h.getD b []) = true) : Lie G m w h.length (m b).at' off ((h.getD b []).drop off) := by
  have hL := k.blk b hb
  unfold Lies at hL
  rw [isCells_kind hc] at hL
  obtain ⟨⟨cs, X, h1, h2, h3⟩, _⟩ := hL
  have : Lie G m w h.length (m b).at' 0 (h.getD b []) := by
    refine ⟨fun j => cs.getD j undef, fun j hj => ?_, fun j hj => h3 j hj⟩
    simp only [World.cell?, h1, Nat.zero_add, List.getElem?_toArray]
    simp [List.getElem?_eq_getElem (show j < cs.length by omega), List.getD_eq_getElem?_getD]
  have := this.drop off
  rwa [Nat.zero_add] at this
theorem Lie.take {n g o : Nat} {cells : List PV} (h : Lie G m w n g o cells) (k : Nat) : Lie G m w n g o (cells.take k) := by
  obtain ⟨F, h1, h2⟩ := h
  refine ⟨F, fun j hj => h1 j (by simp at hj; omega), fun j hj => ?_⟩
  have hj' : j < k ∧ j < cells.length := by simp at hj; omega
  have := h2 j hj'.2
  simpa [List.getD_eq_getElem?_getD, List.getElem?_take, hj'.1] using this
theorem HS.lieRow {h : Heap} (k : HS P G m w h) (b off : Nat) (l : List PV) (hb : b < h.length) (hc : h.getD b [] = [.row l]) : Lie G m w 0 (m b).at' off (l.drop off) := by
  have hL := k.blk b hb
  unfold Lies at hL
  rw [hc] at hL
  simp only [kind] at hL
  obtain ⟨⟨cs, X, h1, h2, h3⟩, _⟩ := hL
  have : Lie G m w 0 (m b).at' 0 l := by
    refine ⟨fun j => cs.getD j undef, fun j hj => ?_, fun j hj => h3 j hj⟩
    simp only [World.cell?, h1, Nat.zero_add, List.getElem?_toArray]
    simp [List.getElem?_eq_getElem (show j < cs.length by omega), List.getD_eq_getElem?_getD]
  have := this.drop off
  rwa [Nat.zero_add] at this
theorem HS.at_ltRow {h : Heap} (k : HS P G m w h) (b : Nat) (l : List PV) (hb : b < h.length) (hc : h.getD b [] = [.row l]) : (m b).at' < w.heap.size :=
  k.lt hb (by unfold alive; rw [hc]; trivial)
theorem HS.at_lt {h : Heap} (k : HS P G m w h) (b : Nat) (hb : b < h.length) (hc : isCells (h.getD b []) = true) : (m b).at' < w.heap.size :=
  k.lt hb (by unfold alive; rw [isCells_kind hc]; trivial)
theorem und_info {t : TypeId} {d : TypeDesc} (h : P.underlying t = some d) : ∃ i, P.info? t = some i ∧ i.size = P.cellsOf t := by
  unfold Program.underlying at h
  unfold Program.cellsOf
  split at h
  · rename_i u z hq; exact ⟨_, hq, by rw [hq]; rfl⟩
  · rename_i i hi hq; exact ⟨i, hq, by rw [hq]; rfl⟩
  · simp at h
theorem isAgg_run {t : TypeId} {ti : TI} (hi : infoP P t = ti) (hs : (P.underlying t).isSome = true) : (isAgg t).run P w = .ok ti.agg w := by
  obtain ⟨d, hd⟩ := Option.isSome_iff_exists.1 hs
  subst hi
  unfold isAgg infoP
  rw [Sem.run_bind, run_underlying hd w, hd]
  cases d <;> rfl
theorem sizeOf_run {t : TypeId} {ti : TI} (hi : infoP P t = ti) (hs : (P.underlying t).isSome = true) : (Go.sizeOf t).run P w = .ok ti.size w := by
  obtain ⟨d, hd⟩ := Option.isSome_iff_exists.1 hs
  obtain ⟨i, h1, h2⟩ := und_info hd
  subst hi
  simp [Go.sizeOf, typeInfo, h1, infoP, h2]
theorem loadA_run {t : TypeId} {ti : TI} (hi : infoP P t = ti) (hs : (P.underlying t).isSome = true) {n g o : Nat} {cells : List PV} (hl : Lie G m w n g o cells) {r : PV} (h : loadA ti cells = some r) : ∃ v, Rep G m w n v r ∧ ∀ w', (∀ j, j < cells.length → w'.cell? ⟨g, o + j, none⟩ = w.cell? ⟨g, o + j, none⟩) → (loadVar t ⟨g, o, none⟩).run P w' = .ok v w' := by
  obtain ⟨F, h1, h2⟩ := hl
  have ha := fun w' => isAgg_run (w := w') hi hs
  unfold loadA at h
  cases hq : ti.agg with
  | true =>
    rw [hq] at h ha
    simp only at h
    split at h
    · rename_i hle
      have hle' : ti.size ≤ cells.length := Nat.le_of_ble_eq_true hle
      injection h with h
      subst h
      refine ⟨.agg ((List.range ti.size).map F).toArray, ?_, fun w' hw' => ?_⟩
      rotate_left
      · have := run_loadCells_list (P := P) w' ⟨g, o, none⟩ ((List.range ti.size).map F) (fun j v hv => by
          have hj : j < ti.size := by have := (List.getElem?_eq_some_iff.1 hv).1; simpa using this
          rw [Addr.add_mid, hw' j (by omega), h1 j (by omega)]
          rw [List.getElem?_map, List.getElem?_range hj] at hv
          simpa using hv)
        simp only [List.length_map, List.length_range] at this
        simp only [loadVar, Sem.run_bind, ha, Result.andThen_ok, if_true, sizeOf_run hi hs, this, Sem.run_pure]
      · refine .agg _ _ _ (by simp [Nat.min_eq_left hle']) (fun i hi' => ?_)
        have hi2 : i < ti.size := by simp at hi'; omega
        have := h2 i (by omega)
        simpa [List.getD_eq_getElem?_getD, List.getElem?_take, hi2] using this
    · cases h
  | false =>
    rw [hq] at h ha
    simp only at h
    cases cells with
    | nil => cases h
    | cons c cs =>
      injection h with h
      subst h
      refine ⟨F 0, by simpa using h2 0 (by simp), fun w' hw' => ?_⟩
      have := (hw' 0 (by simp)).trans (h1 0 (by simp))
      simp only [Nat.add_zero] at this
      simp [loadVar, ha, this]
theorem part_run {t : TypeId} {ti : TI} (hi : infoP P t = ti) (hs : (P.underlying t).isSome = true) {n o : Nat} {vs : List Value} {cs : List PV} (hl : vs.length = cs.length) (hr : ∀ i, i < cs.length → Rep G m w n (vs.getD i undef) (cs.getD i .any)) {r : PV} (h : loadA ti (cs.drop o) = some r) : ∃ v, Rep G m w n v r ∧ ∀ w', (part t vs.toArray o).run P w' = .ok v w' := by
  have ha := fun w' => isAgg_run (w := w') hi hs
  unfold loadA at h
  cases hq : ti.agg with
  | true =>
    rw [hq] at h ha
    simp only at h
    split at h
    · rename_i hle
      have hle' : ti.size ≤ (cs.drop o).length := Nat.le_of_ble_eq_true hle
      injection h with h
      subst h
      simp only [List.length_drop] at hle'
      refine ⟨.agg ((vs.drop o).take ti.size).toArray, ?_, fun w' => ?_⟩
      rotate_left
      · simp only [part, Sem.run_bind, ha, Result.andThen_ok, if_true, sizeOf_run hi hs, Sem.run_pure]
        simp [List.extract_eq_take_drop, List.extract_toArray]
      · refine .agg _ _ _ (by simp; omega) (fun i hi' => ?_)
        have hi2 : i < ti.size := by simp at hi'; omega
        have := hr (o + i) (by omega)
        simpa [List.getD_eq_getElem?_getD, List.getElem?_take, hi2] using this
    · cases h
  | false =>
    rw [hq] at h ha
    simp only at h
    have hlt : o < cs.length := by
      apply Classical.byContradiction
      intro hn
      rw [List.drop_eq_nil_of_le (by omega)] at h
      cases h
    rw [List.drop_eq_getElem_cons hlt] at h
    injection h with h
    subst h
    refine ⟨vs[o]'(by omega), ?_, fun w' => ?_⟩
    rotate_left
    · simp [part, ha, List.getElem?_eq_getElem (show o < vs.length by omega)]
    · have := hr o hlt
      simpa [List.getD_eq_getElem?_getD, List.getElem?_eq_getElem hlt, List.getElem?_eq_getElem (show o < vs.length by omega)] using this
end Go.Proofs.Ytdffmciedieikaa.Deep

namespace Go.Proofs.Ytdffmciedieikaa.Deep
open Go.RowKit
set_option linter.unusedVariables false
set_option linter.unusedSimpArgs false
variable {P : Program} {T : TypeId → Option TI} {G : Nat → Nat} {m : Nat → Pl} {w : World}
theorem Rep.con_eq {n : Nat} {v u : Value} (h : Rep G m w n v (.con u)) : v = u := by cases h; rfl
theorem field_run {s f : Nat} {ti fi : TI} {o ft k : Nat} (hs : infoP P s = ti) (hf : ti.flds[f]? = some (o, ft)) (hi : infoP P ft = fi) (hu : (P.underlying ft).isSome = true) (hz : fi.size = k + 1) (g x : Nat) :
    (Instr.fieldAt s (.pointer (some ⟨g, x, none⟩)) f).run P w = .ok (.pointer (some ⟨g, x + o, none⟩)) w := by
  subst hs
  unfold infoP at hf
  simp only at hf
  split at hf
  · rename_i fs hfs
    rw [List.getElem?_map] at hf
    cases hq : fs.toList[f]? with
    | none => rw [hq] at hf; simp at hf
    | some fd =>
      rw [hq] at hf
      simp only [Option.map_some, Option.some.injEq, Prod.mk.injEq] at hf
      obtain ⟨rfl, rfl⟩ := hf
      have hsz := sizeOf_run (w := w) hi hu
      have hq' : fs[f]? = some fd := by simpa using hq
      have hne : fi.size ≠ 0 := by omega
      simp [Instr.fieldAt, run_underlying hfs, hq', Instr.sureAddr, fieldPlace, hsz, hne, Addr.add_mid]
  · simp at hf
theorem fieldV_run {s f : Nat} {ti fi : TI} {o ft : Nat} (hs : infoP P s = ti) (hf : ti.flds[f]? = some (o, ft)) (hi : infoP P ft = fi) (hu : (P.underlying ft).isSome = true) {n : Nat} {vs : List Value} {cs : List PV} (hl : vs.length = cs.length) (hr : ∀ i, i < cs.length → Rep G m w n (vs.getD i undef) (cs.getD i .any)) {r : PV} (h : loadA fi (cs.drop o) = some r) :
    ∃ v, Rep G m w n v r ∧ ∀ w', (Instr.field s (.agg vs.toArray) f).run P w' = .ok v w' := by
  subst hs
  unfold infoP at hf
  simp only at hf
  split at hf
  · rename_i fs hfs
    rw [List.getElem?_map] at hf
    cases hq : fs.toList[f]? with
    | none => rw [hq] at hf; simp at hf
    | some fd =>
      rw [hq] at hf
      simp only [Option.map_some, Option.some.injEq, Prod.mk.injEq] at hf
      obtain ⟨rfl, rfl⟩ := hf
      obtain ⟨v, h2, h1⟩ := part_run (w := w) hi hu hl hr h
      have hq' : fs[f]? = some fd := by simpa using hq
      exact ⟨v, h2, fun w' => by simp [Instr.field, run_underlying hfs, hq', asAgg, h1]⟩
  · simp at hf
def spliceV : Nat → List Value → List Value → List Value
  | _, [], cs => cs
  | o, p :: ps, cs => spliceV (o + 1) ps (cs.set o p)
theorem slice_und {t : TypeId} {ti : TI} (hi : infoP P t = ti) (hs : ti.isSl = true) : P.underlying t = some (.slice ti.elem) := by
  subst hi
  unfold infoP at hs ⊢
  simp only at hs ⊢
  split at hs
  · rename_i e he; rw [he]
  · simp at hs
theorem str_und {t : TypeId} {ti : TI} (hi : infoP P t = ti) (hs : ti.isStr = true) : P.underlying t = some .string := by
  subst hi
  unfold infoP at hs
  simp only at hs
  split at hs
  · rename_i he; exact he
  · simp at hs
theorem bool_und {t : TypeId} {ti : TI} (hi : infoP P t = ti) (hs : ti.isBool = true) : P.underlying t = some .bool := by
  subst hi
  unfold infoP at hs
  simp only at hs
  split at hs
  · rename_i he; exact he
  · simp at hs
theorem index_run {t : TypeId} {ti ei : TI} (hi : infoP P t = ti) (hs : ti.isSl = true) (he : infoP P ti.elem = ei) (hu : (P.underlying ti.elem).isSome = true) {n : Nat} {v : Value} {xs : List (List PV)} (hr : Rep G m w n v (.sl xs)) (k : IntKind) (i : Int) (h0 : 0 ≤ i) {cs : List PV} (hx : xs[i.toNat]? = some cs) (hl : cs.length = ei.size) :
    ∃ u, Rep G m w n u (.ept cs 0) ∧ ∀ w', (Instr.indexAt t v (.int k i)).run P w' = .ok u w' := by
  cases hr with
  | sl _ a c sz _ F hc hm hz ha hr =>
    have hlt : i.toNat < xs.length := (List.getElem?_eq_some_iff.1 hx).1
    obtain ⟨g, o, rfl, hG, hcell⟩ := ha (by omega)
    have hcs : xs.getD i.toNat [] = cs := by rw [List.getD_eq_getElem?_getD, hx]; rfl
    have hsz : sz = ei.size := by rw [← hz _ hlt, hcs, hl]
    have hlt' : i < xs.length := by omega
    have hmul : i.toNat * sz + sz ≤ xs.length * sz := by rw [← Nat.succ_mul]; exact Nat.mul_le_mul_right _ hlt
    refine ⟨.pointer (some ⟨g, o + i.toNat * sz + 0, none⟩), .ept _ g (o + i.toNat * sz) 0 cs (F i.toNat) (by omega) (fun j hj => hcell _ hlt j (by omega)) (fun j hj => ?_), fun w' => ?_⟩
    rotate_left
    · have hsl := slice_und hi hs
      have hsize := sizeOf_run (w := w') he hu
      simp [Instr.indexAt, asIntOf, run_underlying hsl, h0, hlt', hsize, Addr.add_mid, ← hsz]
    · have := hr _ hlt j (by omega)
      rwa [hcs] at this
theorem exF_out {K : PV → Prop} : ∀ (x : Sh), exF x K → ∃ p, K p
  | .fn f, h => ⟨_, h⟩
  | .int k, ⟨v, h⟩ => ⟨_, h⟩
  | .bool, ⟨v, h⟩ => ⟨_, h⟩
  | .str, ⟨v, h⟩ => ⟨_, h⟩
  | .list, ⟨v, h⟩ => ⟨_, h⟩
  | .own b e sz, ⟨v, h⟩ => ⟨_, h⟩
  | .ptr b off, h => ⟨_, h⟩
  | .mp b, h => ⟨_, h⟩
  | .mpc k e, ⟨n, D, h⟩ => ⟨_, h⟩
  | .ifc, ⟨t, q, h⟩ => ⟨_, h⟩
  | .rw b off, ⟨n, h⟩ => ⟨_, h⟩
  | .row, ⟨cs, h⟩ => ⟨_, h⟩
theorem exC_out {K : List PV → Prop} : ∀ (shs : List Sh) (acc : List PV), exC shs acc K → ∃ cs : List PV, cs.length = acc.length + shs.length ∧ K cs
  | [], acc, h => ⟨acc, by simp, h⟩
  | x :: r, acc, h => by
    obtain ⟨p, h⟩ := exF_out x h
    obtain ⟨cs, h1, h2⟩ := exC_out r _ h
    exact ⟨cs, by simp at h1 ⊢; omega, h2⟩
theorem exR_out {K : List PV → Prop} : ∀ (shs : List RSh) (acc : List PV), exR shs acc K → ∃ cs : List PV, K cs
  | [], acc, h => ⟨acc, h⟩
  | .cell x :: r, acc, h => by
    obtain ⟨p, h⟩ := exF_out x h
    exact exR_out r _ h
  | .agg l :: r, acc, h => by
    obtain ⟨cs, _, h2⟩ := exC_out l [] h
    exact exR_out r _ h2
theorem orR_out {K : List PV → Prop} : ∀ (rs : List (List RSh)), orR rs K → ∃ cs : List PV, K cs
  | [], h => h.elim
  | [r], h => exR_out r [] h
  | r :: q :: rs, h => by
    rcases h with h | h
    · exact exR_out r [] h
    · exact orR_out (q :: rs) h
theorem splice_fold (vs : List Value) : ∀ (k o : Nat) (cs : Array Value), (vs.zipIdx k).foldl (fun (cs : Array Value) x => cs.setIfInBounds (o + x.2) x.1) cs = (spliceV (o + k) vs cs.toList).toArray := by
  induction vs with
  | nil => intro k o cs; simp [spliceV]
  | cons v vs ih =>
    intro k o cs
    rw [List.zipIdx_cons, List.foldl_cons, ih]
    simp only [spliceV]
    rw [Array.toList_setIfInBounds, Nat.add_assoc]
theorem spliceV_rep {n : Nat} : ∀ (vs : List Value) (ps : List PV) (o : Nat) (us : List Value) (cs : List PV), vs.length = ps.length → us.length = cs.length → (∀ i, i < ps.length → Rep G m w n (vs.getD i undef) (ps.getD i .any)) → (∀ i, i < cs.length → Rep G m w n (us.getD i undef) (cs.getD i .any)) →
    (spliceV o vs us).length = (spliceA o ps cs).length ∧ ∀ i, i < (spliceA o ps cs).length → Rep G m w n ((spliceV o vs us).getD i undef) ((spliceA o ps cs).getD i .any)
  | [], [], o, us, cs, _, hl, _, hr => ⟨hl, hr⟩
  | v :: vs, p :: ps, o, us, cs, hl, hl2, hr, hr2 => by
    refine spliceV_rep vs ps (o + 1) (us.set o v) (cs.set o p) (by simpa using hl) (by simpa using hl2) (fun i hi => by simpa using hr (i + 1) (by simpa using hi)) (fun i hi => ?_)
    simp only [List.length_set] at hi
    by_cases he : o = i
    · subst he
      rw [getD_set_eq _ _ _ hi, getD_set_eq _ _ _ (by omega)]
      exact hr 0 (by simp)
    · rw [getD_set_ne _ _ _ he, getD_set_ne _ _ _ he]; exact hr2 i hi
  | [], _ :: _, _, _, _, h, _, _, _ => by simp at h
  | _ :: _, [], _, _, _, h, _, _, _ => by simp at h
theorem cmp_run (op : BinOp) (k : IntKind) (a b : Int) (xt : TypeId) (x y : Operand) {r : Value} (h : cmpA op k a b = some r) :
    (do eqGuard op xt x y (.int k a) (.int k b); binOp op xt (.int k a) (.int k b) : Sem Value).run P w = .ok r w := by
  cases op <;> simp only [cmpA, Option.some.injEq] at h <;> first | contradiction | (subst h; simp [eqGuard, binOp, Op.intArith, Op.intCmp]; done) | (subst h; simp [eqGuard, binOp, Op.intBits, bitsI]; done) | skip
  all_goals
    split at h
    · injection h with h; subst h
      rename_i n
      have hn : ¬ ((n : Int) + 1 = 0) := by omega
      simp [eqGuard, binOp, Op.intArith, Op.intDiv, hn]
    · cases h
theorem bin_run (op : BinOp) {xt : TypeId} {ti : TI} (hi : infoP P xt = ti) (hs : (P.underlying xt).isSome = true) (x y : Operand) {u v r : Value} (h : binA op ti.isBool u v = some r) :
    (do eqGuard op xt x y u v; binOp op xt u v : Sem Value).run P w = .ok r w := by
  unfold binA at h
  split at h
  · rename_i k a k' b
    by_cases hk : k = k'
    · subst hk; simp only [decide_true] at h; exact cmp_run op k a b xt x y h
    · simp [hk] at h
  · split at h <;> first | contradiction | (injection h with h; subst h; simp [eqGuard, binOp, Op.stringOp])
  · split at h
    · rename_i hb
      have hbu := bool_und hi hb
      split at h <;> first | contradiction | (injection h with h; subst h; simp [eqGuard, binOp, run_equal_bool _ _ _ _ hbu])
    · cases h
  · cases h
theorem cat_run (xt : TypeId) (x y : Operand) (s t : ByteArray) (h : s.size + t.size ≤ 9223372036854775807) :
    (do eqGuard .add xt x y (.string s) (.string t); binOp .add xt (.string s) (.string t) : Sem Value).run P w = .ok (.string (s ++ t)) w := by
  simp [eqGuard, binOp, Op.stringOp]
  omega
theorem un_run (op : UnOp) {u r : Value} (h : unA op u = some r) : (Op.unary op u).run P w = .ok r w := by
  unfold unA at h
  split at h
  · split at h
    · injection h with h; subst h; simp [Op.unary, Op.intArith]
    · cases h
  · split at h
    · injection h with h; subst h; simp [Op.unary]
    · cases h
  · cases h
theorem len_run_sl {t : TypeId} {ti : TI} (hi : infoP P t = ti) (hs : ti.isSl = true) (ts : Array TypeId) (rest : List TypeId) (hts : ts.toList = t :: rest) (ty : TypeId) (a : Option Addr) (n c : Nat) : (Builtin.len_ ts ty #[.slice a n c]).run P w = .ok (.int .i64 n) w := by
  have h0 : ts[0]? = some t := by rw [← Array.getElem?_toList, hts]; rfl
  simp [Builtin.len_, h0, run_underlying (slice_und hi hs), goInt]
theorem len_run_str {t : TypeId} {ti : TI} (hi : infoP P t = ti) (hs : ti.isStr = true) (ts : Array TypeId) (rest : List TypeId) (hts : ts.toList = t :: rest) (ty : TypeId) (s : ByteArray) : (Builtin.len_ ts ty #[.string s]).run P w = .ok (.int .i64 s.size) w := by
  have h0 : ts[0]? = some t := by rw [← Array.getElem?_toList, hts]; rfl
  simp [Builtin.len_, h0, run_underlying (str_und hi hs), goInt]
theorem rep_listmap {n : Nat} {ρ : Operand → Value} {ev : Operand → PV} (hev : ∀ x, Rep G m w n (ρ x) (ev x)) (xs : List Operand) : ∀ i, i < (xs.map ev).length → Rep G m w n ((xs.map ρ).getD i undef) ((xs.map ev).getD i .any) := fun i hi => by
  have hi' : i < xs.length := by simpa using hi
  rw [List.getD_eq_getElem?_getD, List.getD_eq_getElem?_getD, List.getElem?_map, List.getElem?_map, List.getElem?_eq_getElem hi']
  exact hev _
theorem cells_rep {n : Nat} {v : Value} {p : PV} (hr : Rep G m w n v p) {cs : List PV} (hc : cellsOf p = some cs) : v.cells.toList.length = cs.length ∧ ∀ j, j < cs.length → Rep G m w n (v.cells.toList.getD j undef) (cs.getD j .any) := by
  cases hr with
  | any => simp [cellsOf] at hc
  | con _ u =>
    have h1 : cs = [.con v] ∧ v.cells = #[v] := by
      cases v <;> simp [cellsOf] at hc <;> exact ⟨hc.symm, rfl⟩
    obtain ⟨rfl, h2⟩ := h1
    rw [h2]
    refine ⟨rfl, fun j hj => ?_⟩
    obtain rfl : j = 0 := by simpa using hj
    exact .con _ _
  | agg _ vs cs' hl hr =>
    simp only [cellsOf, Option.some.injEq] at hc
    subst hc
    exact ⟨by simpa [Value.cells] using hl, fun j hj => by simpa [Value.cells] using hr j hj⟩
  | tup => simp [cellsOf] at hc
  | sl _ a c sz xs F h1 h2 h3 h4 h5 =>
    simp only [cellsOf, Option.some.injEq] at hc
    subst hc
    refine ⟨rfl, fun j hj => ?_⟩
    obtain rfl : j = 0 := by simpa using hj
    exact .sl _ a c sz xs F h1 h2 h3 h4 h5
  | ptr _ b off hb =>
    simp only [cellsOf, Option.some.injEq] at hc
    subst hc
    refine ⟨rfl, fun j hj => ?_⟩
    obtain rfl : j = 0 := by simpa using hj
    exact .ptr _ b off hb
  | ept _ g o off cs' F h1 h2 h3 =>
    simp only [cellsOf, Option.some.injEq] at hc
    subst hc
    refine ⟨rfl, fun j hj => ?_⟩
    obtain rfl : j = 0 := by simpa using hj
    exact .ept _ g o off cs' F h1 h2 h3
  | fn _ f vs cs' hl hr =>
    simp only [cellsOf, Option.some.injEq] at hc
    subst hc
    refine ⟨rfl, fun j hj => ?_⟩
    obtain rfl : j = 0 := by simpa using hj
    exact .fn _ f vs cs' hl hr
  | bm _ f vs cs' hl hr =>
    simp only [cellsOf, Option.some.injEq] at hc
    subst hc
    refine ⟨rfl, fun j hj => ?_⟩
    obtain rfl : j = 0 := by simpa using hj
    exact .bm _ f vs cs' hl hr
  | ifc _ t v q hr =>
    simp only [cellsOf, Option.some.injEq] at hc
    subst hc
    refine ⟨rfl, fun j hj => ?_⟩
    obtain rfl : j = 0 := by simpa using hj
    exact .ifc _ t v q hr
  | rw _ b off n c hb hcc hm =>
    simp only [cellsOf, Option.some.injEq] at hc
    subst hc
    refine ⟨rfl, fun j hj => ?_⟩
    obtain rfl : j = 0 := by simpa using hj
    exact .rw _ b off n c hb hcc hm
  | own0 _ b e sz hb =>
    simp only [cellsOf, Option.some.injEq] at hc
    subst hc
    refine ⟨rfl, fun j hj => ?_⟩
    obtain rfl : j = 0 := by simpa using hj
    exact .own0 _ b e sz hb
  | own1 _ b e c sz xs F hb hp h1 h2 h0 hz hsh hg hfr hx hr =>
    simp only [cellsOf, Option.some.injEq] at hc
    subst hc
    refine ⟨rfl, fun j hj => ?_⟩
    obtain rfl : j = 0 := by simpa using hj
    exact .own1 _ b e c sz xs F hb hp h1 h2 h0 hz hsh hg hfr hx hr
  | mp _ b hb =>
    simp only [cellsOf, Option.some.injEq] at hc
    subst hc
    refine ⟨rfl, fun j hj => ?_⟩
    obtain rfl : j = 0 := by simpa using hj
    exact .mp _ b hb
theorem places_of (hT : Tok P T) : ∀ (fs : List Field), ((fs.map fun f => (f.offset, f.type)).all fun f => (T f.2).isSome) = true → fs.mapM (fun f => (P.info? f.type).map fun i => (f.offset, i.size)) = some (fs.map fun f => (f.offset, P.cellsOf f.type))
  | [], _ => rfl
  | f :: fs, h => by
    simp only [List.map_cons, List.all_cons, Bool.and_eq_true] at h
    obtain ⟨x, hx⟩ := Option.isSome_iff_exists.1 h.1
    obtain ⟨d, hd⟩ := Option.isSome_iff_exists.1 (hT _ _ hx).2
    obtain ⟨i, h1, h2⟩ := und_info hd
    rw [List.mapM_cons, places_of hT fs h.2]
    simp [h1, h2]
theorem fill_run (hT : Tok P T) {n : Nat} {ρ : Operand → Value} {ev : Operand → PV} (hev : ∀ x, Rep G m w n (ρ x) (ev x)) (flds : List (Nat × TypeId)) : ∀ (parts : List (Nat × Operand)) (us : List Value) (cells cs : List PV), us.length = cells.length → (∀ i, i < cells.length → Rep G m w n (us.getD i undef) (cells.getD i .any)) → fillA T flds ev cells parts = some cs →
    ∃ vs : List Value, Instr.fill (((flds.map fun f => (f.1, P.cellsOf f.2)).toArray)[·]?) us.toArray (parts.map fun x => (x.1, ρ x.2)) = some vs.toArray ∧ vs.length = cs.length ∧ ∀ i, i < cs.length → Rep G m w n (vs.getD i undef) (cs.getD i .any)
  | [], us, cells, cs, hl, hr, h => by
    simp only [fillA, Option.some.injEq] at h
    subst h
    exact ⟨us, rfl, hl, hr⟩
  | (i, x) :: r, us, cells, cs, hl, hr, h => by
    simp only [fillA] at h
    split at h
    case h_2 => cases h
    rename_i o ft hf
    split at h
    case h_2 => cases h
    rename_i fi hfi
    obtain ⟨hi2, hu2⟩ := hT _ _ hfi
    split at h
    case h_2 => cases h
    rename_i ps hps
    split at h
    case h_2 => cases h
    rename_i hck
    simp only [Bool.and_eq_true] at hck
    have c1 : ps.length = fi.size := Nat.eq_of_beq_eq_true hck.1
    have c2 : o + ps.length ≤ cells.length := Nat.le_of_ble_eq_true hck.2
    obtain ⟨k1, k2⟩ := cells_rep (hev x) hps
    obtain ⟨q1, q2⟩ := spliceV_rep (ρ x).cells.toList ps o us cells k1 hl k2 hr
    obtain ⟨vs, e1, e2, e3⟩ := fill_run hT hev flds r _ _ cs q1 q2 h
    refine ⟨vs, ?_, e2, e3⟩
    have hsz : P.cellsOf ft = fi.size := by rw [← hi2]; rfl
    have hk1 : (ρ x).cells.size = ps.length := by simpa using k1
    have hplace : ((flds.map fun f => (f.1, P.cellsOf f.2)).toArray)[i]? = some (o, fi.size) := by
      simp [hf, hsz]
    simp only [List.map_cons, Instr.fill, hplace]
    rw [if_neg (by simp [hk1, c1]; omega)]
    have := splice_fold (ρ x).cells.toList 0 o us.toArray
    simp only [Nat.add_zero] at this
    rw [← this] at e1
    rw [← e1]
    congr 1
    rw [← Array.foldl_toList]
    simp
theorem build_run (hT : Tok P T) {t : TypeId} {ti : TI} (hi : infoP P t = ti) (hst : ti.isStruct = true) {z : List PV} (hz : ti.zero = some z) (hall : (ti.flds.all fun f => (T f.2).isSome) = true) {n : Nat} {ρ : Operand → Value} {ev : Operand → PV} (hev : ∀ x, Rep G m w n (ρ x) (ev x)) {parts : Array (Nat × Operand)} {cs : List PV} (h : fillA T ti.flds ev z parts.toList = some cs) :
    ∃ vs : List Value, P.built t (parts.map fun (i, x) => (i, ρ x)).toList = some vs.toArray ∧ vs.length = cs.length ∧ ∀ i, i < cs.length → Rep G m w n (vs.getD i undef) (cs.getD i .any) := by
  subst hi
  unfold infoP at hst hz hall h
  simp only at hst hz hall h
  split at hst
  case h_2 => simp at hst
  rename_i fs hfs
  rw [hfs] at hall h
  simp only at hall h
  cases hq : P.info? t with
  | none => rw [hq] at hz; simp at hz
  | some i =>
    rw [hq] at hz
    simp only [Option.bind_some] at hz
    cases hqz : i.zero with
    | none => rw [hqz] at hz; simp at hz
    | some zv =>
      rw [hqz] at hz
      simp only [Option.map_some, Option.some.injEq] at hz
      subst hz
      obtain ⟨vs, e1, e2, e3⟩ := fill_run hT hev _ parts.toList zv.cells.toList (zv.cells.toList.map PV.con) cs (by simp) (rep_mapP1 _ _) h
      refine ⟨vs, ?_, e2, e3⟩
      unfold Program.built
      rw [hq, hfs]
      simp only [hqz, places_of hT fs.toList hall]
      simpa [List.map_map, Function.comp_def] using e1
set_option maxHeartbeats 2000000 in
theorem eqFields_run (hT : Tok P T) {n : Nat} {us vs : List Value} {cs ds : List PV} (hl : us.length = cs.length) (hr : ∀ i, i < cs.length → Rep G m w n (us.getD i undef) (cs.getD i .any)) (hl' : vs.length = ds.length) (hr' : ∀ i, i < ds.length → Rep G m w n (vs.getD i undef) (ds.getD i .any)) (d : Nat) :
    ∀ (fs : List Field) (b : Bool), (∀ f ∈ fs, (∃ k, P.underlying f.type = some (.int k)) ∧ f.name ≠ "_") → eqF T (fs.map fun f => (f.offset, f.type)) cs ds = some b → ∀ w', (Op.eqFields (d + 1) us.toArray vs.toArray fs).run P w' = .ok b w'
  | [], b, _, h, w' => by
    simp only [List.map_nil, eqF, Option.some.injEq] at h
    subst h; rfl
  | f :: fs, b, hf, h, w' => by
    obtain ⟨⟨k0, hk0⟩, hname⟩ := hf f (by simp)
    simp only [List.map_cons, eqF] at h
    split at h
    case h_2 => cases h
    rename_i fi hfi
    obtain ⟨hi, hu⟩ := hT _ _ hfi
    split at h
    case h_2 => cases h
    rename_i k a ha
    split at h
    case h_2 => cases h
    rename_i k' c hc
    split at h
    case h_2 => cases h
    rename_i hkk
    have hkk : k = k' := of_decide_eq_true hkk
    subst hkk
    split at h
    case h_2 => cases h
    rename_i r hr2
    injection h with h
    subst h
    obtain ⟨v1, e1, q1⟩ := part_run hi hu hl hr ha
    obtain ⟨v2, e2, q2⟩ := part_run hi hu hl' hr' hc
    obtain rfl := e1.con_eq
    obtain rfl := e2.con_eq
    have ih := eqFields_run hT hl hr hl' hr' d fs r (fun g hg => hf g (by simp [hg])) hr2 w'
    simp only [Op.eqFields, if_pos hname, Sem.run_bind, q1, q2, Result.andThen_ok, run_equalIn_int w' d f.type k k0 a c hk0]
    cases hac : (a == c) with
    | true => simp only [Bool.not_true, Bool.false_eq_true, if_false, Bool.true_and]; exact ih
    | false => simp
theorem flds_of {xt : TypeId} {ti : TI} (hi : infoP P xt = ti) (hst : ti.isStruct = true) : P.underlying xt = some (.struct (P.fieldsOf xt)) ∧ ti.flds = (P.fieldsOf xt).toList.map (fun f => (f.offset, f.type)) := by
  subst hi
  unfold infoP at hst
  dsimp only at hst
  cases hd : P.underlying xt with
  | none => rw [hd] at hst; exact absurd hst Bool.false_ne_true
  | some t =>
    rw [hd] at hst
    cases t <;> first | (exact absurd hst Bool.false_ne_true) | skip
    rename_i fs
    have hq : P.fieldsOf xt = fs := by unfold Program.fieldsOf; rw [hd]
    rw [hq]
    refine ⟨rfl, ?_⟩
    unfold infoP
    dsimp only
    rw [hd]
theorem ints_of {xt : TypeId} (h4 : intFields P xt = true) : ∀ f ∈ (P.fieldsOf xt).toList, (∃ k, P.underlying f.type = some (.int k)) ∧ f.name ≠ "_" := fun f hf => by
  have := List.all_eq_true.1 h4 f hf
  rw [Bool.and_eq_true] at this
  refine ⟨?_, of_decide_eq_true this.2⟩
  have h5 := this.1
  split at h5
  · exact ⟨_, by assumption⟩
  · cases h5
theorem ints_of2 {xt : TypeId} (h4 : intFields2 P xt = true) : ∀ f ∈ (P.fieldsOf xt).toList, ((∃ k, P.underlying f.type = some (.int k)) ∨ (∃ q, P.underlying f.type = some (.struct q)) ∧ intFields P f.type = true ∧ P.stoodInHeld f.type = false) ∧ f.name ≠ "_" := fun f hf => by
  have := List.all_eq_true.1 h4 f hf
  rw [Bool.and_eq_true] at this
  refine ⟨?_, of_decide_eq_true this.2⟩
  have h5 := this.1
  split at h5
  · exact .inl ⟨_, by assumption⟩
  · rw [Bool.and_eq_true] at h5
    exact .inr ⟨⟨_, by assumption⟩, h5.1, by simpa using h5.2⟩
  · cases h5
theorem int_not {xt : TypeId} {ti : TI} (hi : infoP P xt = ti) {k : IntKind} (hk : P.underlying xt = some (.int k)) : ti.isStruct = false := by
  rw [← hi]; unfold infoP; dsimp only; rw [hk]
theorem struct_is {xt : TypeId} {ti : TI} (hi : infoP P xt = ti) {q : Array Field} (hk : P.underlying xt = some (.struct q)) : ti.isStruct = true := by
  rw [← hi]; unfold infoP; dsimp only; rw [hk]
set_option maxHeartbeats 2000000 in
theorem eqFields_run2 (hT : Tok P T) {n : Nat} {us vs : List Value} {cs ds : List PV} (hl : us.length = cs.length) (hr : ∀ i, i < cs.length → Rep G m w n (us.getD i undef) (cs.getD i .any)) (hl' : vs.length = ds.length) (hr' : ∀ i, i < ds.length → Rep G m w n (vs.getD i undef) (ds.getD i .any)) (d : Nat) :
    ∀ (fs : List Field) (b : Bool), (∀ f ∈ fs, ((∃ k, P.underlying f.type = some (.int k)) ∨ (∃ q, P.underlying f.type = some (.struct q)) ∧ intFields P f.type = true ∧ P.stoodInHeld f.type = false) ∧ f.name ≠ "_") → eqF2 T (fs.map fun f => (f.offset, f.type)) cs ds = some b → ∀ w', (Op.eqFields (d + 2) us.toArray vs.toArray fs).run P w' = .ok b w'
  | [], b, _, h, w' => by
    simp only [List.map_nil, eqF2, Option.some.injEq] at h
    subst h; rfl
  | f :: fs, b, hf, h, w' => by
    obtain ⟨hk, hname⟩ := hf f (by simp)
    simp only [List.map_cons, eqF2] at h
    split at h
    case h_2 => cases h
    rename_i fi hfi
    obtain ⟨hi, hu⟩ := hT _ _ hfi
    split at h
    · rename_i k a ha
      split at h
      case h_2 => cases h
      rename_i k' c hc
      split at h
      case h_2 => cases h
      rename_i hkk
      rw [Bool.and_eq_true] at hkk
      obtain ⟨hkk, hns⟩ := hkk
      have hkk : k = k' := of_decide_eq_true hkk
      subst hkk
      split at h
      case h_2 => cases h
      rename_i r hr2
      injection h with h
      subst h
      obtain ⟨v1, e1, q1⟩ := part_run hi hu hl hr ha
      obtain ⟨v2, e2, q2⟩ := part_run hi hu hl' hr' hc
      obtain rfl := e1.con_eq
      obtain rfl := e2.con_eq
      have ih := eqFields_run2 hT hl hr hl' hr' d fs r (fun g hg => hf g (by simp [hg])) hr2 w'
      rcases hk with ⟨k0, hk0⟩ | ⟨⟨q0, hq0⟩, _, hsh⟩
      · simp only [Op.eqFields, if_pos hname, Sem.run_bind, q1, q2, Result.andThen_ok, run_equalIn_int w' (d + 1) f.type k k0 a c hk0]
        cases hac : (a == c) with
        | true => simp only [Bool.not_true, Bool.false_eq_true, if_false, Bool.true_and]; exact ih
        | false => simp
      · rw [struct_is hi hq0] at hns; cases hns
    · rename_i us' ha
      split at h
      case h_2 => cases h
      rename_i vs' hc
      split at h
      case h_2 => cases h
      rename_i hst
      split at h
      case h_2 => cases h
      rename_i q hq
      split at h
      case h_2 => cases h
      rename_i r hr2
      injection h with h
      subst h
      obtain ⟨v1, e1, q1⟩ := part_run hi hu hl hr ha
      obtain ⟨v2, e2, q2⟩ := part_run hi hu hl' hr' hc
      have ih := eqFields_run2 hT hl hr hl' hr' d fs r (fun g hg => hf g (by simp [hg])) hr2 w'
      rcases hk with ⟨k0, hk0⟩ | ⟨_, hin, hsh⟩
      · rw [int_not hi hk0] at hst; cases hst
      obtain ⟨g1, g2⟩ := flds_of hi hst
      cases e1 with
      | agg _ ua _ hla hra =>
      cases e2 with
      | agg _ va _ hlb hrb =>
      rw [g2] at hq
      have hin2 := eqFields_run hT hla hra hlb hrb d _ q (ints_of hin) hq w'
      simp only [Op.eqFields, if_pos hname, Sem.run_bind, q1, q2, Result.andThen_ok, run_equalIn_struct w' (d + 1) f.type _ _ g1 hsh, hin2]
      cases q with
      | true => simp only [Bool.not_true, Bool.false_eq_true, if_false, Bool.true_and]; exact ih
      | false => simp
    · cases h
theorem eqS_run (hT : Tok P T) {xt : TypeId} {ti : TI} (hi : infoP P xt = ti) (hst : ti.isStruct = true) {n : Nat} {u v : Value} {cs ds : List PV} (hu : Rep G m w n u (.agg cs)) (hv : Rep G m w n v (.agg ds)) {b : Bool} (h : eqF2 T ti.flds cs ds = some b) (h2 : P.stoodInHeld xt = false) (h3 : P.eqGuardType P.depth xt = false) (h4 : intFields2 P xt = true) (x y : Operand) (w' : World) :
    (do eqGuard .eql xt x y u v; binOp .eql xt u v : Sem Value).run P w' = .ok (.bool b) w' ∧ (do eqGuard .neq xt x y u v; binOp .neq xt u v : Sem Value).run P w' = .ok (.bool (!b)) w' := by
  cases hu with
  | agg _ us _ hl hr =>
  cases hv with
  | agg _ vs _ hl' hr' =>
  have hfs := flds_of hi hst
  have hall := ints_of2 h4
  rw [hfs.2] at h
  have hrun := eqFields_run2 hT hl hr hl' hr' 9997 _ b hall h w'
  constructor
  · rw [Sem.run_bind, run_eqGuard_agg _ _ _ _ _ _ _ h3, Result.andThen_ok, run_eql_struct, run_equalIn_struct _ _ _ _ _ hfs.1 h2, hrun]; rfl
  · rw [Sem.run_bind, run_eqGuard_agg _ _ _ _ _ _ _ h3, Result.andThen_ok, run_neq_struct, run_equalIn_struct _ _ _ _ _ hfs.1 h2, hrun]; rfl
theorem conv_run {n : Nat} {v : Value} {l : List UInt8} (hr : Rep G m w n v (.sl (l.map fun b => [.con (.int .u8 (b.toNat : Int))]))) {src dst e : TypeId} (hs : P.underlying src = some (.slice e)) (he : P.underlying e = some (.int .u8)) (hd : P.underlying dst = some .string)
    (hG : ∀ g, G g ≠ 0 → g < w.heap.size) (w' : World) (hw : ∀ g x, g < w.heap.size → w'.cell? ⟨g, x, none⟩ = w.cell? ⟨g, x, none⟩) : (convert src dst v).run P w' = .ok (.string ⟨l.toArray⟩) w' := by
  generalize hxs : (l.map fun b => [PV.con (.int .u8 (b.toNat : Int))]) = xs at hr
  cases hr with
  | sl _ a c sz _ F hc hm hz ha hrr =>
  have hlen : xs.length = l.length := by rw [← hxs, List.length_map]
  by_cases h0 : 0 < xs.length
  · obtain ⟨g, o, rfl, hs2, hcell⟩ := ha h0
    have hget : ∀ j (hj : j < l.length), xs.getD j [] = [PV.con (.int .u8 (l[j].toNat : Int))] := fun j hj => by
      rw [← hxs, List.getD_eq_getElem?_getD, List.getElem?_map, List.getElem?_eq_getElem hj]; rfl
    have hsz : sz = 1 := by rw [← hz 0 h0, hget 0 (by omega)]; rfl
    subst hsz
    rw [hlen]
    refine run_convert_bytes_back w' src dst e ⟨g, o, none⟩ c l hs he hd (fun j hj => ?_)
    have h1 := hcell j (by omega) 0 (by omega)
    have h2 := hrr j (by omega) 0 (by omega)
    rw [hget j hj] at h2
    have h3 := h2.con_eq
    rw [h3] at h1
    have hadd : (⟨g, o, none⟩ : Addr).add j = ⟨g, o + j, none⟩ := by unfold Addr.add; split <;> simp_all
    rw [hadd, hw g _ (hG g (by omega))]
    simpa using h1
  · have hl0 : l = [] := List.length_eq_zero_iff.1 (by omega)
    subst hl0
    have hx0 : xs.length = 0 := by omega
    rw [hx0, run_convert_bytes_string w' src dst e a 0 c hs he hd]
    cases a <;> simp [Conv.bytesToString, loadCells]
    all_goals rfl
theorem map_und {t k e : TypeId} {ti : TI} (hi : infoP P t = ti) (hs : ti.mapKE = some (k, e)) : P.underlying t = some (.map k e) := by
  subst hi
  unfold infoP at hs
  simp only at hs
  split at hs
  · rename_i a b he; simp only [Option.some.injEq, Prod.mk.injEq] at hs; obtain ⟨rfl, rfl⟩ := hs; exact he
  · cases hs
theorem int_und {t : TypeId} {q : IntKind} {ti : TI} (hi : infoP P t = ti) (hs : ti.intK = some q) : P.underlying t = some (.int q) ∧ ∀ w', (zeroValue t).run P w' = .ok (.int q 0) w' := by
  subst hi
  unfold infoP at hs
  simp only at hs
  split at hs
  case h_2 => cases hs
  rename_i a he
  split at hs
  case h_2 => cases hs
  rename_i q' n hz
  split at hs
  case h_2 => cases hs
  rename_i hd
  have hd := of_decide_eq_true hd
  obtain ⟨rfl, rfl⟩ := hd
  simp only [Option.some.injEq] at hs
  subst hs
  refine ⟨he, fun w' => ?_⟩
  cases hq : P.info? t with
  | none => rw [hq] at hz; cases hz
  | some i =>
    rw [hq] at hz
    have hz' : i.zero = some (.int a 0) := hz
    simp [zeroValue, typeInfo, hq, hz']
theorem lookup_int_ok {P : Program} {w : World} {k e t : TypeId} {q : IntKind} {b n : Nat} {D : DataW Unit} (h : w.ownsMap P k (plainElem P e) b n D) (K : Maps.Keyed P k) (ht : P.underlying t = some (.map k e)) (he : P.underlying e = some (.int q)) (hz : (zeroValue e).run P w = .ok (.int q 0) w)
    {key : Value} {kl : Lit} (hkey : keyOf P k key = some kl) : ∃ c, (Instr.lookup t (.map (some b)) key true).run P w = .ok (.tuple #[.int q c, .bool (Maps.has D kl)]) w ∧ D.atKey kl (.lit (.int q 0)) = .lit (.int q c) := by
  have hw0 : (Lit.int q 0).wf = true := by cases q <;> decide
  obtain ⟨v, ps, hrun, hv⟩ := h.look_ok K ht hz (plainElem_int he hw0) hkey
  obtain ⟨c, rfl, hc, _⟩ := plainElem_int_inv he hv
  simp only [Prod.mk.injEq] at hc
  exact ⟨c, hrun, hc.1⟩
theorem fixL_rep {n : Nat} : ∀ {cs : List PV} {vs : List Value}, fixL cs = some vs → vs.length = cs.length ∧ (∀ i, i < cs.length → Rep G m w n (vs.getD i undef) (cs.getD i .any)) ∧ ∀ us : List Value, us.length = cs.length → (∀ i, i < cs.length → Rep G m w n (us.getD i undef) (cs.getD i .any)) → us = vs
  | [], vs, h => by
    simp only [fixL, Option.some.injEq] at h
    subst h
    exact ⟨rfl, fun i hi => absurd hi (Nat.not_lt_zero _), fun us hl _ => List.eq_nil_of_length_eq_zero hl⟩
  | c :: cs, vs, h => by
    cases c with
    | con v =>
      simp only [fixL] at h
      split at h
      case h_2 => cases h
      rename_i vs' hvs
      injection h with h
      subst h
      obtain ⟨h1, h2, h3⟩ := fixL_rep (n := n) hvs
      refine ⟨by simp [h1], fun i hi => ?_, fun us hl hr => ?_⟩
      · cases i with
        | zero => exact .con _ _
        | succ i => exact h2 i (by simpa using hi)
      · cases us with
        | nil => simp at hl
        | cons u us =>
          have h0 := hr 0 (by simp)
          have e : u = v := h0.con_eq
          subst e
          rw [h3 us (by simpa using hl) (fun i hi => by simpa using hr (i + 1) (by simpa using hi))]
    | _ => simp [fixL] at h
theorem rep_fix {n : Nat} {p : PV} {u : Value} (h : fixV p = some u) : Rep G m w n u p := by
  cases p with
  | con v => simp only [fixV, Option.some.injEq] at h; subst h; exact .con _ _
  | agg cs =>
    simp only [fixV] at h
    split at h
    case h_2 => cases h
    rename_i vs hvs
    injection h with h
    subst h
    obtain ⟨h1, h2, _⟩ := fixL_rep (G := G) (m := m) (w := w) (n := n) hvs
    exact .agg _ _ _ h1 h2
  | ifc t q =>
    simp only [fixV] at h
    split at h
    case h_2 => cases h
    rename_i u' hu'
    injection h with h
    subst h
    exact .ifc _ _ _ _ (rep_fix hu')
  | _ => simp [fixV] at h
theorem fix_rep {n : Nat} {v : Value} {p : PV} {u : Value} (h : fixV p = some u) (hr : Rep G m w n v p) : v = u := by
  induction hr generalizing u with
  | con _ v => simp only [fixV, Option.some.injEq] at h; exact h
  | agg n' us cs hl hrr _ =>
    simp only [fixV] at h
    split at h
    case h_2 => cases h
    rename_i vs hvs
    injection h with h
    subst h
    obtain ⟨_, _, h3⟩ := fixL_rep (G := G) (m := m) (w := w) (n := n') hvs
    rw [h3 us hl hrr]
  | ifc _ t v q hq ih =>
    simp only [fixV] at h
    split at h
    case h_2 => cases h
    rename_i u' hu'
    injection h with h
    subst h
    rw [ih hu']
  | _ => simp [fixV] at h
theorem Rep.up {n : Nat} {v : Value} {p : PV} (h : Rep G m w 0 v p) : Rep G m w n v p := h.keep (Nat.zero_le _) ⟨fun _ => Nat.le_refl _, fun _ _ _ => rfl, fun _ _ _ h => h, fun _ _ => rfl⟩
theorem rep_pair {n : Nat} {a b : Value} {p q : PV} (h1 : Rep G m w n a p) (h2 : Rep G m w n b q) : Rep G m w n (.tuple #[a, b]) (.tup [p, q]) :=
  .tup n [a, b] [p, q] rfl (fun i hi => by
    match i, hi with
    | 0, _ => exact h1
    | 1, _ => exact h2)
theorem assert_yes {t xt : TypeId} {d : TypeDesc} (hd : P.underlying t = some d) (hif : isIface P t = false) (v : Value) (ok : Bool) (w : World) : (Instr.typeAssert (.iface t v) xt t ok).run P w = .ok (match ok with | true => .tuple #[v, .bool true] | false => v) w := by
  unfold isIface at hif
  rw [hd] at hif
  unfold Instr.typeAssert
  cases d <;> cases ok <;> simp_all [run_underlying hd]
theorem zero_info {t : TypeId} {ti : TI} {z : List PV} (hi : infoP P t = ti) (hz : ti.zero = some z) : ∃ i zv, P.info? t = some i ∧ i.zero = some zv := by
  subst hi
  unfold infoP at hz
  simp only at hz
  cases hq : P.info? t with
  | none => rw [hq] at hz; simp at hz
  | some i =>
    rw [hq] at hz
    simp only [Option.bind_some] at hz
    cases hqz : i.zero with
    | none => rw [hqz] at hz; simp at hz
    | some zv => exact ⟨i, zv, rfl, hqz⟩
theorem assert_no {t xt u : TypeId} {d : TypeDesc} {i : TypeInfo} {zv : Value} (hd : P.underlying t = some d) (hif : isIface P t = false) (h1 : P.info? t = some i) (h2 : i.zero = some zv) (hne : u ≠ t) (v : Value) (w : World) : (Instr.typeAssert (.iface u v) xt t true).run P w = .ok (.tuple #[zv, .bool false]) w := by
  unfold isIface at hif
  rw [hd] at hif
  unfold Instr.typeAssert
  cases d <;> simp_all [run_underlying hd, zeroValue, typeInfo]
theorem cut_rep {n : Nat} {v : Value} {a0 : Option Addr} {c0 z : Nat} {xs : List (List PV)} (hr : Rep G m w n v (.sl xs)) (hv : v = .slice a0 xs.length c0) {k : Nat} (hk : k ≤ xs.length) (hy : ∀ y ∈ xs, y.length = z) : Rep G m w n (.slice (if c0 = k then a0 else a0.map (·.add (k * z))) (xs.length - k) (c0 - k)) (.sl (xs.drop k)) := by
  cases hr with
  | sl _ a c sz _ F hc hm hz ha hr =>
    injection hv with e1 e2 e3
    subst e1 e3
    have hd : (xs.drop k).length = xs.length - k := by simp
    have hg : ∀ i, (xs.drop k).getD i [] = xs.getD (k + i) [] := fun i => by simp [List.getD_eq_getElem?_getD]
    have := Rep.sl (G := G) (m := m) (w := w) n (if c = k then a else a.map (·.add (k * z))) (c - k) sz (xs.drop k) (fun i j => F (k + i) j) (by omega) (by omega) (fun i hi' => by rw [hg]; exact hz _ (by omega))
      (fun h0 => by
        obtain ⟨g, o, rfl, hG, hcell⟩ := ha (by omega)
        have hse : sz = z := by
          have h00 : 0 < xs.length := by omega
          rw [← hz 0 h00]
          exact hy _ (by rw [List.getD_eq_getElem?_getD, List.getElem?_eq_getElem h00]; exact List.getElem_mem h00)
        have hmul : k * sz + (xs.length - k) * sz = xs.length * sz := by rw [← Nat.add_mul, Nat.add_sub_cancel' hk]
        refine ⟨g, o + k * sz, ?_, by rw [hd, Nat.add_assoc, hmul]; exact hG, fun i hi' j hj => ?_⟩
        · have hck : ¬ c = k := fun he => by rw [hd] at h0; omega
          rw [if_neg hck, ← hse]
          simp [Addr.add]
        · have := hcell (k + i) (by omega) j hj
          rw [Nat.add_mul] at this
          rw [← this]
          rw [Nat.add_assoc o, Nat.add_assoc o, Nat.add_assoc (k * sz)])
      (fun i hi' j hj => by rw [hg]; exact hr (k + i) (by omega) j hj)
    rwa [hd] at this
theorem take_rep {n : Nat} {v : Value} {a0 : Option Addr} {c0 j : Nat} {xs : List (List PV)} (hr : Rep G m w n v (.sl xs)) (hv : v = .slice a0 xs.length c0) (hj : j ≤ xs.length) : Rep G m w n (.slice a0 (xs.take j).length c0) (.sl (xs.take j)) := by
  cases hr with
  | sl _ a c sz _ F hc hm hz ha hr =>
    injection hv with e1 e2 e3
    subst e1 e3
    have hl : (xs.take j).length = j := by simp; omega
    have hg : ∀ i, i < j → (xs.take j).getD i [] = xs.getD i [] := fun i hi => by simp [List.getD_eq_getElem?_getD, List.getElem?_take, hi]
    refine .sl n a c sz (xs.take j) F (by omega) hm (fun i hi => by rw [hg i (by omega)]; exact hz _ (by omega)) (fun h0 => ?_) (fun i hi q hq => by rw [hg i (by omega)]; exact hr i (by omega) q hq)
    obtain ⟨g, o, rfl, hG, hcell⟩ := ha (by omega)
    refine ⟨g, o, rfl, ?_, fun i hi q hq => hcell i (by omega) q hq⟩
    have : (xs.take j).length * sz ≤ xs.length * sz := Nat.mul_le_mul_right _ (by omega)
    omega
theorem sl_len {n : Nat} {v : Value} {xs : List (List PV)} (hr : Rep G m w n v (.sl xs)) : ∃ a c, v = .slice a xs.length c ∧ xs.length ≤ c := by
  cases hr with
  | sl _ a c sz _ F hc hm hz ha hr => exact ⟨a, c, rfl, hc⟩
theorem cut_run {t : TypeId} {ti ei : TI} (hi : infoP P t = ti) (hs : ti.isSl = true) (he : infoP P ti.elem = ei) (hu : (P.underlying ti.elem).isSome = true) {n : Nat} {v : Value} {xs : List (List PV)} (hr : Rep G m w n v (.sl xs)) {k : Nat} (hk : k ≤ xs.length) (hy : ∀ y ∈ xs, y.length = ei.size) :
    ∃ u, Rep G m w n u (.sl (xs.drop k)) ∧ ∀ (q : IntKind) (w' : World), (Instr.sliceAt t v (some (.int q (k : Int))) none none).run P w' = .ok u w' := by
  obtain ⟨a, c, rfl, hc⟩ := sl_len hr
  refine ⟨_, cut_rep hr rfl hk hy, fun q w' => ?_⟩
  have hsl := slice_und hi hs
  have hsize := sizeOf_run (w := w') he hu
  simp [Instr.sliceAt, Instr.slice, Instr.sliceBounds, Instr.sliceBound, asIntOf, run_underlying hsl, hsize, hk]
theorem piece_run {t : TypeId} {ti ei : TI} (hi : infoP P t = ti) (hs : ti.isSl = true) (he : infoP P ti.elem = ei) (hu : (P.underlying ti.elem).isSome = true) {n : Nat} {v : Value} {xs : List (List PV)} (hr : Rep G m w n v (.sl xs)) {i j : Int} (h0 : 0 ≤ i) (h1 : i ≤ j) (h2 : j ≤ xs.length) (hy : ∀ y ∈ xs, y.length = ei.size) :
    ∃ u, Rep G m w n u (.sl ((xs.take j.toNat).drop i.toNat)) ∧ (∀ (q q' : IntKind) (w' : World), (Instr.sliceAt t v (some (.int q i)) (some (.int q' j)) none).run P w' = .ok u w') ∧ (i = 0 → ∀ (q' : IntKind) (w' : World), (Instr.sliceAt t v none (some (.int q' j)) none).run P w' = .ok u w') := by
  obtain ⟨a, c, rfl, hc⟩ := sl_len hr
  have hl : (xs.take j.toNat).length = j.toNat := by simp; omega
  have r1 := take_rep hr rfl (j := j.toNat) (by omega)
  have r2 := cut_rep r1 rfl (k := i.toNat) (by omega) (fun y h => hy y (List.mem_of_mem_take h))
  rw [hl] at r2
  have hsl := slice_und hi hs
  refine ⟨_, r2, fun q q' w' => ?_, fun hi0 q' w' => ?_⟩
  · have hsize := sizeOf_run (w := w') he hu
    have e1 : i ≤ (c : Int) := by omega
    have e2 : j ≤ (c : Int) := by omega
    have e3 : (0 : Int) ≤ j := by omega
    simp [Instr.sliceAt, Instr.slice, Instr.sliceBounds, Instr.sliceBound, asIntOf, run_underlying hsl, hsize, h0, h1, e1, e2, e3, Int.max_eq_left e3, Int.not_lt.2 h1]
  · have hsize := sizeOf_run (w := w') he hu
    subst hi0
    have e2 : j ≤ (c : Int) := by omega
    simp [Instr.sliceAt, Instr.slice, Instr.sliceBounds, Instr.sliceBound, asIntOf, run_underlying hsl, hsize, h1, e2]
theorem textPiece_run {t : TypeId} {ti : TI} (hi : infoP P t = ti) (hs : ti.isStr = true) {s : ByteArray} {i j : Int} (h0 : 0 ≤ i) (h1 : i ≤ j) (h2 : j ≤ s.size) :
    (∀ (q q' : IntKind) (w' : World), (Instr.sliceAt t (.string s) (some (.int q i)) (some (.int q' j)) none).run P w' = .ok (.string (s.extract i.toNat j.toNat)) w') ∧
    (i = 0 → ∀ (q' : IntKind) (w' : World), (Instr.sliceAt t (.string s) none (some (.int q' j)) none).run P w' = .ok (.string (s.extract 0 j.toNat)) w') ∧
    (j = s.size → ∀ (q : IntKind) (w' : World), (Instr.sliceAt t (.string s) (some (.int q i)) none none).run P w' = .ok (.string (s.extract i.toNat s.size)) w') := by
  have hsu := str_und hi hs
  have e3 : (0 : Int) ≤ j := by omega
  have e1 : i ≤ (s.size : Int) := by omega
  refine ⟨fun q q' w' => ?_, fun hi0 q' w' => ?_, fun hj q w' => ?_⟩
  · simp [Instr.sliceAt, Instr.slice, Instr.sliceBounds, Instr.sliceBound, asIntOf, run_underlying hsu, h0, h1, h2, e1, e3, Int.max_eq_left e3, Int.not_lt.2 h1]
  · subst hi0
    simp [Instr.sliceAt, Instr.slice, Instr.sliceBounds, Instr.sliceBound, asIntOf, run_underlying hsu, h1, h2]
  · subst hj
    simp [Instr.sliceAt, Instr.slice, Instr.sliceBounds, Instr.sliceBound, asIntOf, run_underlying hsu, h0, h1]
theorem textAll_run {t : TypeId} {ti : TI} (hi : infoP P t = ti) (hs : ti.isStr = true) (s : ByteArray) (w' : World) : (Instr.sliceAt t (.string s) none none none).run P w' = .ok (.string s) w' := by
  have hsu := str_und hi hs
  simp [Instr.sliceAt, Instr.slice, Instr.sliceBounds, Instr.sliceBound, run_underlying hsu]
theorem shift_run {k yk : IntKind} {a b : Int} (xt : TypeId) (x y : Operand) (h : 0 ≤ b) : (do eqGuard .shl xt x y (.int k a) (.int yk b); binOp .shl xt (.int k a) (.int yk b) : Sem Value).run P w = .ok (.int k (shlI k a b)) w ∧ (do eqGuard .shr xt x y (.int k a) (.int yk b); binOp .shr xt (.int k a) (.int yk b) : Sem Value).run P w = .ok (.int k (shrI k a b)) w := by
  have hb : ¬ b < 0 := by omega
  constructor <;> simp [eqGuard, binOp, Op.shift, hb, shlI, shrI]
theorem quo_run {k : IntKind} {a b : Int} (xt : TypeId) (x y : Operand) (h : b ≠ 0) : (do eqGuard .quo xt x y (.int k a) (.int k b); binOp .quo xt (.int k a) (.int k b) : Sem Value).run P w = .ok (.int k (k.wrap (a.tdiv b))) w ∧ (do eqGuard .rem xt x y (.int k a) (.int k b); binOp .rem xt (.int k a) (.int k b) : Sem Value).run P w = .ok (.int k (a.tmod b)) w := by
  constructor <;> simp [eqGuard, binOp, Op.intArith, Op.intDiv, h]
theorem valA_run (hT : Tok P T) {h : Heap} (hs : HS P G m w h) {ρ : Operand → Value} {ev : Operand → PV} (hev : ∀ x, Rep G m w h.length (ρ x) (ev x)) {K : PV → Prop} (o : Oper) (op : Op) (ho : o.op = op) (hv : valA P T ev h K op) :
    ∃ p v, K p ∧ Rep G m w h.length v p ∧ ∀ w', (∀ g, g < w.heap.size → w'.heap[g]? = w.heap[g]?) → (execOp ρ o).run P w' = .ok (.value v) w' := by
  unfold valA at hv
  unfold execOp
  rw [ho]
  split at hv
  · rename_i x; exact ⟨_, _, hv, hev x, fun _ _ => rfl⟩
  · rename_i x; exact ⟨_, _, hv, hev x, fun _ _ => rfl⟩
  · rename_i c a b
    split at hv
    · rename_i t ht
      have hc := hev c
      rw [ht] at hc
      have e := hc.con_eq
      obtain ⟨hv1, hv2⟩ := br_out hv
      cases t
      · have hv := hv2 rfl
        exact ⟨_, _, hv, hev b, fun w' hw' => by simp [e, asBool]⟩
      · have hv := hv1 rfl
        exact ⟨_, _, hv, hev a, fun w' hw' => by simp [e, asBool]⟩
    · exact hv.elim
  · rename_i x
    have hx := hev x
    split at hv
    · rename_i b o' hq; rw [hq] at hx; generalize hρ : ρ x = v at hx; cases hx with | ptr _ _ _ hb => exact ⟨_, _, hv, .ptr _ _ _ hb, fun w' hw' => by simp [hρ]⟩
    · rename_i cs o' hq; rw [hq] at hx; generalize hρ : ρ x = v at hx; cases hx with | ept _ g o2 _ _ F h1 h2 h3 => exact ⟨_, _, hv, .ept _ g o2 _ _ F h1 h2 h3, fun w' hw' => by simp [hρ]⟩
    · rename_i f cs hq; rw [hq] at hx; generalize hρ : ρ x = v at hx; cases hx with | fn _ _ vs _ hl hr => exact ⟨_, _, hv, .fn _ _ vs _ hl hr, fun w' hw' => by simp [hρ]⟩
    · rename_i f cs hq; rw [hq] at hx; generalize hρ : ρ x = v at hx; cases hx with | bm _ _ vs _ hl hr => exact ⟨_, _, hv, .bm _ _ vs _ hl hr, fun w' hw' => by simp [hρ]⟩
    · exact hv.elim
  · rename_i t a
    split at hv
    · rename_i ti hti
      obtain ⟨hi, hu⟩ := hT _ _ hti
      have hx := hev a
      split at hv
      · rename_i b off hq
        rw [hq] at hx
        split at hv
        case h_2 =>
          split at hv
          case h_2 => exact hv.elim
          rename_i l hrow
          split at hv
          case h_2 => exact hv.elim
          rename_i z hz
          split at hv
          case h_2 => exact hv.elim
          rename_i shs hshs
          obtain ⟨ps, _, hv⟩ := exC_out _ _ hv
          split at hv
          case h_2 => exact hv.elim
          rename_i r hr
          obtain ⟨hps, hv⟩ := hv
          generalize hρ : ρ a = v at hx
          cases hx with
          | ptr _ _ _ hb =>
            have hl : Lie G m w 0 (m b).at' off ps := by
              have := (hs.lieRow b off l hb hrow).take ps.length
              rwa [hps] at this
            obtain ⟨v, h2, h1⟩ := loadA_run hi hu (hl.lift (Nat.zero_le h.length)) hr
            have hlt := hs.at_ltRow b l hb hrow
            exact ⟨_, v, hv, h2, fun w' hw' => by simp [hρ, Instr.loadAt, Instr.sureAddr, h1 w' (fun j hj => cell_block _ (hw' _ hlt))]⟩
        rename_i hisc
        split at hv
        · rename_i r hr
          generalize hρ : ρ a = v at hx
          cases hx with
          | ptr _ _ _ hb =>
            obtain ⟨v, h2, h1⟩ := loadA_run hi hu (hs.lie b off hb hisc) hr
            have hlt := hs.at_lt b hb hisc
            exact ⟨_, v, hv, h2, fun w' hw' => by simp [hρ, Instr.loadAt, Instr.sureAddr, h1 w' (fun j hj => cell_block _ (hw' _ hlt))]⟩
        · exact hv.elim
      · rename_i cs off hq
        rw [hq] at hx
        split at hv
        · rename_i r hr
          generalize hρ : ρ a = v at hx
          cases hx with
          | ept _ g o2 _ _ F h1 h2 h3 =>
            have hl : Lie G m w 0 g o2 cs := ⟨F, h2, h3⟩
            obtain ⟨v, k2, k1⟩ := loadA_run hi hu ((hl.drop off).lift (Nat.zero_le h.length)) hr
            exact ⟨_, v, hv, k2, fun w' hw' => by simp [hρ, Instr.loadAt, Instr.sureAddr, k1 w' (fun j hj => cell_block _ (hw' _ (hs.old _ (by simp only [List.length_drop] at hj; omega))))]⟩
        · exact hv.elim
      · exact hv.elim
    · exact hv.elim
  · rename_i s x f
    split at hv
    · rename_i ti hti
      obtain ⟨hi, hu⟩ := hT _ _ hti
      split at hv
      · rename_i o' ft hf
        split at hv
        · rename_i fi hfi
          obtain ⟨hi2, hu2⟩ := hT _ _ hfi
          split at hv
          · exact hv.elim
          · rename_i k hk
            have hx := hev x
            split at hv
            · rename_i b off hq
              rw [hq] at hx
              generalize hρ : ρ x = v at hx
              cases hx with
              | ptr _ _ _ hb => exact ⟨_, _, hv, .ptr _ _ _ hb, fun w' hw' => by simp [hρ, field_run hi hf hi2 hu2 hk]⟩
            · rename_i cs off hq
              rw [hq] at hx
              generalize hρ : ρ x = v at hx
              cases hx with
              | ept _ g o2 _ _ F h1 h2 h3 => exact ⟨_, _, hv, .ept _ g o2 (off + o') _ F h1 h2 h3, fun w' hw' => by simp [hρ, field_run hi hf hi2 hu2 hk, Nat.add_assoc]⟩
            · exact hv.elim
        · exact hv.elim
      · exact hv.elim
    · exact hv.elim
  · rename_i s x f
    split at hv
    · rename_i ti hti
      obtain ⟨hi, hu⟩ := hT _ _ hti
      split at hv
      · rename_i o' ft hf
        split at hv
        · rename_i fi hfi
          obtain ⟨hi2, hu2⟩ := hT _ _ hfi
          have hx := hev x
          split at hv
          · rename_i cs hq
            rw [hq] at hx
            split at hv
            · rename_i r hr
              generalize hρ : ρ x = v at hx
              cases hx with
              | agg _ vs _ hl hrr =>
                obtain ⟨v, k2, k1⟩ := fieldV_run hi hf hi2 hu2 hl hrr hr
                exact ⟨_, v, hv, k2, fun w' hw' => by simp [hρ, k1]⟩
            · exact hv.elim
          · exact hv.elim
        · exact hv.elim
      · exact hv.elim
    · exact hv.elim
  · rename_i t x ix
    split at hv
    · rename_i ti hti
      obtain ⟨hi, hu⟩ := hT _ _ hti
      split at hv
      · rename_i hsl
        split at hv
        · rename_i ei hei
          obtain ⟨hi2, hu2⟩ := hT _ _ hei
          have hx := (hev x).weak
          have hix := hev ix
          split at hv
          · rename_i xs hq
            rw [hq] at hx
            split at hv
            · rename_i k i hqi
              rw [hqi] at hix
              split at hv
              · split at hv
                · rename_i shs hshs
                  split at hv
                  · rename_i hlen
                    obtain ⟨cs, hl, h0, hg, hK⟩ := exC_out _ _ hv
                    have hl2 : cs.length = ei.size := by
                      have := Nat.eq_of_beq_eq_true hlen
                      simp only [List.length_nil] at hl
                      omega
                    obtain ⟨u, k2, k1⟩ := index_run hi hsl hi2 hu2 hx k i h0 hg hl2
                    have e := hix.con_eq
                    exact ⟨_, u, hK, k2, fun w' hw' => by simp [e, k1]⟩
                  · exact hv.elim
                · exact hv.elim
              · exact hv.elim
            · exact hv.elim
          · rename_i b off n hq
            rw [hq] at hx
            split at hv
            case h_2 => exact hv.elim
            rename_i k i hqi
            rw [hqi] at hix
            split at hv
            case h_2 => exact hv.elim
            obtain ⟨h0, h1, hv⟩ := hv
            have e := hix.con_eq
            have hslu := slice_und hi hsl
            have h1' : i < n := by omega
            generalize hρ : ρ x = v at hx
            cases hx with
            | rw _ _ _ _ c hb hc hm =>
              exact ⟨_, _, hv, .ptr _ _ _ hb, fun w' hw' => by simp [hρ, e, Instr.indexAt, asIntOf, run_underlying hslu, h0, h1', sizeOf_run (w := w') hi2 hu2, Addr.add_mid]⟩
          · exact hv.elim
        · exact hv.elim
      · exact hv.elim
    · exact hv.elim
  · rename_i t x ix
    split at hv
    · rename_i ti hti
      obtain ⟨hi, hu⟩ := hT _ _ hti
      split at hv
      · rename_i hst
        have hx := hev x
        have hix := hev ix
        split at hv
        · rename_i s hq
          rw [hq] at hx
          split at hv
          · rename_i k i hqi
            rw [hqi] at hix
            obtain ⟨b, h0, hg, hK⟩ := hv
            have e := hix.con_eq
            have e2 := hx.con_eq
            exact ⟨_, _, hK, .con _ _, fun w' hw' => by simp [e, e2, Instr.index, asIntOf, run_underlying (str_und hi hst), h0, hg]⟩
          · exact hv.elim
        · exact hv.elim
      · exact hv.elim
    · exact hv.elim
  · rename_i op xt x y yt
    split at hv
    · rename_i ti hti
      obtain ⟨hi, hu⟩ := hT _ _ hti
      have hx := hev x
      have hy := hev y
      split at hv
      · rename_i u hqu
        rw [hqu] at hx
        split at hv
        · rename_i v hqv
          rw [hqv] at hy
          have e := hx.con_eq
          have e2 := hy.con_eq
          split at hv
          · rename_i s t
            have hc := fun w' => cat_run (P := P) (w := w') xt x y s t (by cases hv; assumption)
            obtain ⟨hv1, hv2⟩ := hv
            exact ⟨_, _, hv2, .con _ _, fun w' hw' => by simp only [e, e2]; rw [Sem.run_bind, hc]; rfl⟩
          · rename_i k a yk b
            obtain ⟨hb, hv⟩ := hv
            have hc := fun w' => (shift_run (P := P) (w := w') (k := k) (yk := yk) (a := a) xt x y hb).1
            exact ⟨_, _, hv, .con _ _, fun w' hw' => by simp only [e, e2]; rw [Sem.run_bind, hc]; rfl⟩
          · rename_i k a yk b
            obtain ⟨hb, hv⟩ := hv
            have hc := fun w' => (shift_run (P := P) (w := w') (k := k) (yk := yk) (a := a) xt x y hb).2
            exact ⟨_, _, hv, .con _ _, fun w' hw' => by simp only [e, e2]; rw [Sem.run_bind, hc]; rfl⟩
          · rename_i k a k' b
            split at hv
            case h_2 => exact hv.elim
            rename_i hk
            obtain rfl := of_decide_eq_true hk
            obtain ⟨hb, hv⟩ := hv
            have hc := fun w' => (quo_run (P := P) (w := w') (k := k) (a := a) xt x y hb).1
            exact ⟨_, _, hv, .con _ _, fun w' hw' => by simp only [e, e2]; rw [Sem.run_bind, hc]; rfl⟩
          · rename_i k a k' b
            split at hv
            case h_2 => exact hv.elim
            rename_i hk
            obtain rfl := of_decide_eq_true hk
            obtain ⟨hb, hv⟩ := hv
            have hc := fun w' => (quo_run (P := P) (w := w') (k := k) (a := a) xt x y hb).2
            exact ⟨_, _, hv, .con _ _, fun w' hw' => by simp only [e, e2]; rw [Sem.run_bind, hc]; rfl⟩
          · split at hv
            · rename_i r hr
              have hc := fun w' => bin_run (w := w') op hi hu x y hr
              exact ⟨_, _, hv, .con _ _, fun w' hw' => by simp only [e, e2]; rw [Sem.run_bind, hc]; rfl⟩
            · exact hv.elim
        · exact hv.elim
      · rename_i us hqu
        rw [hqu] at hx
        split at hv
        · rename_i vs hqv
          rw [hqv] at hy
          split at hv
          · rename_i hst
            split at hv
            · rename_i b hb
              split at hv
              · obtain ⟨g1, g2, g3, hk⟩ := hv
                have hc := fun w' => (eqS_run hT hi hst hx hy hb g1 g2 g3 x y w').1
                exact ⟨_, _, hk, .con _ _, fun w' hw' => by dsimp only; rw [Sem.run_bind, hc]; rfl⟩
              · obtain ⟨g1, g2, g3, hk⟩ := hv
                have hc := fun w' => (eqS_run hT hi hst hx hy hb g1 g2 g3 x y w').2
                exact ⟨_, _, hk, .con _ _, fun w' hw' => by dsimp only; rw [Sem.run_bind, hc]; rfl⟩
              · exact hv.elim
            · exact hv.elim
          · exact hv.elim
        · exact hv.elim
      · exact hv.elim
    · exact hv.elim
  · rename_i t x ix
    split at hv
    case h_2 => exact hv.elim
    rename_i ti hti
    obtain ⟨hi, hu⟩ := hT _ _ hti
    split at hv
    case h_2 => exact hv.elim
    rename_i k e hke
    split at hv
    case h_2 => exact hv.elim
    rename_i tk htk
    obtain ⟨hik, huk⟩ := hT _ _ htk
    split at hv
    case h_2 => exact hv.elim
    rename_i hstr
    split at hv
    case h_2 => exact hv.elim
    rename_i te hte
    obtain ⟨hie, hue⟩ := hT _ _ hte
    split at hv
    case h_2 => exact hv.elim
    rename_i q hq
    have hx := hev x
    split at hv
    case h_2 => exact hv.elim
    rename_i b hqx
    rw [hqx] at hx
    split at hv
    case h_2 => exact hv.elim
    rename_i k' e' n D hblk
    split at hv
    case h_2 => exact hv.elim
    rename_i hkk
    rw [Bool.and_eq_true] at hkk
    obtain rfl := Nat.eq_of_beq_eq_true hkk.1
    obtain rfl := Nat.eq_of_beq_eq_true hkk.2
    have hix := hev ix
    split at hv
    case h_2 => exact hv.elim
    rename_i s hqi
    rw [hqi] at hix
    obtain ⟨c, hss, hc, hK⟩ := hv
    have e1 := hix.con_eq
    generalize hρ : ρ x = v at hx
    cases hx with
    | mp _ _ hb =>
      have hL := hs.blk b hb
      unfold Lies at hL
      rw [hblk] at hL
      have hown : w.ownsMap P k (plainElem P e) (m b).at' n D := hL.1
      have hmap := map_und hi hke
      obtain ⟨hie2, hzr⟩ := int_und hie hq
      refine ⟨_, .int q c, hK, .con _ _, fun w' hw' => ?_⟩
      have hown' := World.ownsMap_of_block (w' := w') hown (hw' _ hown.lt)
      obtain ⟨c', q1, q2, q3⟩ := hown'.lookup_int (t := t) (Maps.string_keyed (str_und hik hstr)) hmap hie2 (hzr w') (Go.WideMaps.keyOf_string_mk (str_und hik hstr) hss)
      rw [hc] at q2
      simp only [DataW.lit.injEq, Lit.int.injEq, true_and] at q2
      subst q2
      simp [hρ, e1, q1]
  · rename_i t x ix
    split at hv
    case h_2 => exact hv.elim
    rename_i ti hti
    obtain ⟨hi, hu⟩ := hT _ _ hti
    split at hv
    case h_2 => exact hv.elim
    rename_i k e hke
    split at hv
    case h_2 => exact hv.elim
    rename_i tk htk
    obtain ⟨hik, huk⟩ := hT _ _ htk
    split at hv
    case h_2 => exact hv.elim
    rename_i hstr
    split at hv
    case h_2 => exact hv.elim
    rename_i te hte
    obtain ⟨hie, hue⟩ := hT _ _ hte
    split at hv
    case h_2 => exact hv.elim
    rename_i q hq
    have hx := hev x
    split at hv
    case h_2 => exact hv.elim
    rename_i b hqx
    rw [hqx] at hx
    split at hv
    case h_2 => exact hv.elim
    rename_i k' e' n D hblk
    split at hv
    case h_2 => exact hv.elim
    rename_i hkk
    rw [Bool.and_eq_true] at hkk
    obtain rfl := Nat.eq_of_beq_eq_true hkk.1
    obtain rfl := Nat.eq_of_beq_eq_true hkk.2
    have hix := hev ix
    split at hv
    case h_2 => exact hv.elim
    rename_i s hqi
    rw [hqi] at hix
    obtain ⟨c, ok, hss, hc, ho, hK⟩ := hv
    have e1 := hix.con_eq
    generalize hρ : ρ x = v at hx
    cases hx with
    | mp _ _ hb =>
      have hL := hs.blk b hb
      unfold Lies at hL
      rw [hblk] at hL
      have hown : w.ownsMap P k (plainElem P e) (m b).at' n D := hL.1
      have hmap := map_und hi hke
      obtain ⟨hie2, hzr⟩ := int_und hie hq
      refine ⟨_, .tuple #[.int q c, .bool ok], hK, .tup _ [.int q c, .bool ok] _ rfl (fun i hi => ?_), fun w' hw' => ?_⟩
      · match i, hi with
        | 0, _ => exact .con _ _
        | 1, _ => exact .con _ _
      have hown' := World.ownsMap_of_block (w' := w') hown (hw' _ hown.lt)
      obtain ⟨c', q1, q2⟩ := lookup_int_ok (t := t) hown' (Maps.string_keyed (str_und hik hstr)) hmap hie2 (hzr w') (Go.WideMaps.keyOf_string_mk (str_und hik hstr) hss)
      rw [hc] at q2
      simp only [DataW.lit.injEq, Lit.int.injEq, true_and] at q2
      subst q2
      rw [ho] at q1
      simp [hρ, e1, q1]
  · rename_i src dst x
    have hx := (hev x).weak
    split at hv
    · rename_i xs hq
      rw [hq] at hx
      obtain ⟨l, ⟨e, q1, q2⟩, h2, rfl, hk⟩ := hv
      exact ⟨_, _, hk, .con _ _, fun w' hw' => by dsimp only; rw [Sem.run_bind, conv_run hx q1 q2 h2 hs.old w' (fun g x hg => cell_block _ (hw' g hg))]; rfl⟩
    · rename_i k n hq
      rw [hq] at hx
      split at hv
      case h_2 => exact hv.elim
      rename_i si hsi
      obtain ⟨_, hus⟩ := hT _ _ hsi
      split at hv
      case h_2 => exact hv.elim
      rename_i ti hti
      obtain ⟨hi, hu⟩ := hT _ _ hti
      split at hv
      case h_2 => exact hv.elim
      rename_i q hq2
      have e := hx.con_eq
      obtain ⟨hud, _⟩ := int_und hi hq2
      obtain ⟨sd, hsd⟩ := Option.isSome_iff_exists.1 hus
      exact ⟨_, _, hv, .con _ _, fun w' hw' => by dsimp only; simp [e, convert, run_underlying hud, run_underlying hsd, Conv.intToInt]⟩
    · exact hv.elim
  · rename_i t x
    split at hv
    case h_2 => exact hv.elim
    rename_i ti hti
    obtain ⟨_, hu⟩ := hT _ _ hti
    split at hv
    case h_2 => exact hv.elim
    rename_i hif
    obtain ⟨d, hd⟩ := Option.isSome_iff_exists.1 hu
    split at hv
    case h_2 => exact hv.elim
    rename_i hun
    refine ⟨_, _, hv, .ifc _ _ _ _ ((hev x).weak.lower hun), fun w' hw' => ?_⟩
    unfold isIface at hif
    rw [hd] at hif
    cases d <;> simp_all [Instr.makeInterface, run_underlying hd]
  · rename_i x xt t ok
    split at hv
    case h_2 => exact hv.elim
    rename_i ti hti
    obtain ⟨hi, hu⟩ := hT _ _ hti
    split at hv
    case h_2 => exact hv.elim
    rename_i hif
    have hx := hev x
    split at hv
    case h_2 => exact hv.elim
    rename_i u q hq
    rw [hq] at hx
    split at hv
    case h_2 => exact hv.elim
    rename_i z hz
    split at hv
    case h_2 => exact hv.elim
    rename_i shs hshs
    obtain ⟨hv1, hv2⟩ := br_out hv
    obtain ⟨d, hd⟩ := Option.isSome_iff_exists.1 hu
    generalize hρ : ρ x = v at hx
    cases hx with
    | ifc _ _ v _ hr =>
      cases hb : Nat.beq u t with
      | true =>
        obtain rfl := Nat.eq_of_beq_eq_true hb
        obtain ⟨cs, _, hK⟩ := exC_out _ _ (hv1 hb)
        split at hK
        case h_2 => exact hK.elim
        rename_i p hp
        obtain ⟨hqp, hK⟩ := hK
        subst hqp
        cases ok with
        | true => exact ⟨_, .tuple #[v, .bool true], hK, rep_pair hr.up (.con _ _), fun w' hw' => by simp [hρ, assert_yes hd hif]⟩
        | false => exact ⟨_, v, hK, hr.up, fun w' hw' => by simp [hρ, assert_yes hd hif]⟩
      | false =>
        have hne : u ≠ t := fun h => by subst h; simp at hb
        have hv := hv2 hb
        cases ok with
        | true =>
          obtain ⟨i, zv, h1, h2⟩ := zero_info hi hz
          exact ⟨_, .tuple #[zv, .bool false], hv, rep_pair (.any _ _) (.con _ _), fun w' hw' => by simp [hρ, assert_no hd hif h1 h2 hne]⟩
        | false => exact hv.elim
  · rename_i t x low hi'
    split at hv
    case h_2 => exact hv.elim
    rename_i ti hti
    obtain ⟨hi, hu⟩ := hT _ _ hti
    split at hv
    · rename_i hst
      have hx := hev x
      split at hv
      case h_2 => exact hv.elim
      rename_i s hq
      rw [hq] at hx
      have ex := hx.con_eq
      have hh := hev hi'
      split at hv
      case h_2 => exact hv.elim
      rename_i q j hq2
      rw [hq2] at hh
      have eh := hh.con_eq
      split at hv
      · rename_i lo
        have hlo := hev lo
        split at hv
        case h_2 => exact hv.elim
        rename_i q' i hq3
        rw [hq3] at hlo
        have el := hlo.con_eq
        obtain ⟨h0, h1, h2, hv⟩ := hv
        have hr := (textPiece_run (P := P) hi hst h0 h1 h2).1
        exact ⟨_, _, hv, .con _ _, fun w' hw' => by simp [ex, eh, el, hr]⟩
      · obtain ⟨h0, h1, h2, hv⟩ := hv
        have hr := (textPiece_run (P := P) hi hst (Int.le_refl 0) h1 h2).2.1 rfl
        exact ⟨_, _, hv, .con _ _, fun w' hw' => by simp [ex, eh, hr]⟩
    · split at hv
      case h_2 => exact hv.elim
      rename_i hsl
      split at hv
      case h_2 => exact hv.elim
      rename_i ei hei
      obtain ⟨hie, hue⟩ := hT _ _ hei
      have hx := (hev x).weak
      split at hv
      case h_2 => exact hv.elim
      rename_i xs hq
      rw [hq] at hx
      have hh := hev hi'
      split at hv
      case h_2 => exact hv.elim
      rename_i q j hq2
      rw [hq2] at hh
      have eh := hh.con_eq
      split at hv
      · rename_i lo
        have hlo := hev lo
        split at hv
        case h_2 => exact hv.elim
        rename_i q' i hq3
        rw [hq3] at hlo
        have el := hlo.con_eq
        obtain ⟨h0, h1, h2, hy, hv⟩ := hv
        obtain ⟨u, k1, k2, _⟩ := piece_run hi hsl hie hue hx h0 h1 h2 hy
        exact ⟨_, u, hv, k1, fun w' hw' => by simp [eh, el, k2]⟩
      · obtain ⟨h0, h1, h2, hy, hv⟩ := hv
        obtain ⟨u, k1, _, k2⟩ := piece_run hi hsl hie hue hx (Int.le_refl 0) h1 h2 hy
        have k3 := k2 rfl
        exact ⟨_, u, hv, k1, fun w' hw' => by simp [eh, k3]⟩
  · rename_i t x low
    split at hv
    case h_2 => exact hv.elim
    rename_i ti hti
    obtain ⟨hi, hu⟩ := hT _ _ hti
    split at hv
    · rename_i hst
      have hx := hev x
      split at hv
      case h_2 => exact hv.elim
      rename_i s hq
      rw [hq] at hx
      have ex := hx.con_eq
      split at hv
      · rename_i lo
        have hlo := hev lo
        split at hv
        case h_2 => exact hv.elim
        rename_i q' i hq3
        rw [hq3] at hlo
        have el := hlo.con_eq
        obtain ⟨h0, h1, h2, hv⟩ := hv
        have hr := (textPiece_run (P := P) hi hst h0 h1 (Int.le_refl _)).2.2 rfl
        exact ⟨_, _, hv, .con _ _, fun w' hw' => by simp [ex, el, hr]⟩
      · have hr := fun w' => textAll_run (P := P) hi hst s w'
        exact ⟨_, _, hv, .con _ _, fun w' hw' => by simp [ex, hr]⟩
    · split at hv
      case h_2 => exact hv.elim
      rename_i hsl
      split at hv
      case h_2 => exact hv.elim
      rename_i ei hei
      obtain ⟨hie, hue⟩ := hT _ _ hei
      have hx := (hev x).weak
      split at hv
      case h_2 => exact hv.elim
      rename_i xs hq
      rw [hq] at hx
      split at hv
      case h_2 => exact hv.elim
      rename_i lo
      have hlo := hev lo
      split at hv
      case h_2 => exact hv.elim
      rename_i k i hq2
      rw [hq2] at hlo
      obtain ⟨n, hin, hn, hy, hk⟩ := hv
      have e := hlo.con_eq
      obtain ⟨u, k1, k2⟩ := cut_run hi hsl hie hue hx hn hy
      refine ⟨_, u, hk, k1, fun w' hw' => ?_⟩
      simp [e, hin, k2]
  · rename_i op xt x
    have hx := hev x
    split at hv
    · rename_i u hq
      rw [hq] at hx
      split at hv
      · rename_i r hr
        have e := hx.con_eq
        exact ⟨_, _, hv, .con _ _, fun w' hw' => by simp [e, un_run op hr]⟩
      · exact hv.elim
    · exact hv.elim
  · rename_i t ix
    have hx := hev t
    split at hv
    · rename_i vs hq
      rw [hq] at hx
      split at hv
      · rename_i p hp
        generalize hρ : ρ t = v at hx
        cases hx with
        | tup _ us _ hl hr =>
          have hlt : ix < vs.length := (List.getElem?_eq_some_iff.1 hp).1
          have := hr ix hlt
          rw [List.getD_eq_getElem?_getD (l := vs), hp, List.getD_eq_getElem?_getD, List.getElem?_eq_getElem (by omega)] at this
          exact ⟨_, _, hv, this, fun w' hw' => by simp [hρ, Instr.extract, List.getElem?_eq_getElem (show ix < us.length by omega)]⟩
      · exact hv.elim
    · exact hv.elim
  · rename_i fn first cap
    split at hv
    · rename_i f
      split at hv
      · rename_i hf
        have hf' : first = #[] := by simpa using hf
        subst hf'
        refine ⟨_, .func (.func f) #[] (cap.toList.map ρ).toArray, hv, .fn _ f (cap.toList.map ρ) _ (by simp) (rep_listmap hev _), ?_⟩
        have e : Array.map ρ cap = (cap.toList.map ρ).toArray := by rw [← Array.toList_map]
        simp [Instr.makeFunc, e]
      · rename_i x r hf
        split at hv
        case h_2 => exact hv.elim
        rename_i hc
        have hc' : cap = #[] := by simpa using hc
        subst hc'
        refine ⟨_, .func (.func f) ((x :: r).map ρ).toArray #[], hv, .bm _ f ((x :: r).map ρ) _ (by simp) (rep_listmap hev _), ?_⟩
        have e : Array.map ρ first = ((x :: r).map ρ).toArray := by rw [← hf, ← Array.toList_map]
        simp [Instr.makeFunc, e]
    · exact hv.elim
  · rename_i c
    split at hv
    · rename_i hb
      split at hv
      · rename_i t rest hts
        split at hv
        · rename_i ti hti
          obtain ⟨hi, hu⟩ := hT _ _ hti
          split at hv
          · rename_i x hxs
            have hargs : c.args = #[x] := by rw [← Array.toArray_toList (xs := c.args), hxs]
            have hx := (hev x).weak
            split at hv
            · rename_i xs hq
              rw [hq] at hx
              split at hv
              · rename_i hsl
                generalize hρ : ρ x = v at hx
                cases hx with
                | sl _ a cc sz _ F hc hm hz ha hr =>
                  have := fun w' => len_run_sl (w := w') hi hsl c.argTypes rest hts o.type a xs.length cc
                  exact ⟨_, _, hv, .con _ _, fun w' hw' => by simp [resolve, hb, hargs, invoke, builtin, hρ, this]⟩
              · exact hv.elim
            · rename_i b off n hq
              rw [hq] at hx
              split at hv
              · rename_i hsl
                generalize hρ : ρ x = v at hx
                cases hx with
                | rw _ _ _ _ cc hb2 hc hm =>
                  have := fun w' => len_run_sl (w := w') hi hsl c.argTypes rest hts o.type (some ⟨(m b).at', off, none⟩) n cc
                  exact ⟨_, _, hv, .con _ _, fun w' hw' => by simp [resolve, hb, hargs, invoke, builtin, hρ, this]⟩
              · exact hv.elim
            · rename_i s hq
              rw [hq] at hx
              split at hv
              · rename_i hst
                have e := hx.con_eq
                have := fun w' => len_run_str (w := w') hi hst c.argTypes rest hts o.type s
                exact ⟨_, _, hv, .con _ _, fun w' hw' => by simp [resolve, hb, hargs, invoke, builtin, e, this]⟩
              · exact hv.elim
            · exact hv.elim
          · exact hv.elim
        · exact hv.elim
      · exact hv.elim
    · rename_i hb
      split at hv
      · rename_i x y hxs
        have hargs : c.args = #[x, y] := by rw [← Array.toArray_toList (xs := c.args), hxs]
        have hx := hev x
        have hy := hev y
        split at hv
        · rename_i k a hq
          rw [hq] at hx
          split at hv
          · rename_i k2 b hq2
            rw [hq2] at hy
            have e := hx.con_eq
            have e2 := hy.con_eq
            exact ⟨_, _, hv, .con _ _, fun w' hw' => by simp [resolve, hb, hargs, invoke, builtin, e, e2, Builtin.min_, Builtin.min2, minI]⟩
          · exact hv.elim
        · exact hv.elim
      · rename_i x y z hxs
        have hargs : c.args = #[x, y, z] := by rw [← Array.toArray_toList (xs := c.args), hxs]
        have hx := hev x
        have hy := hev y
        have hz := hev z
        split at hv
        · rename_i k a hq
          rw [hq] at hx
          split at hv
          · rename_i k2 b hq2
            rw [hq2] at hy
            split at hv
            · rename_i k3 d hq3
              rw [hq3] at hz
              have e := hx.con_eq
              have e2 := hy.con_eq
              have e3 := hz.con_eq
              have m2 : ∀ (p q : Int) (q' : IntKind), Builtin.min2 (.int k p) (.int q' q) = pure (.int k (minI p q)) := fun _ _ _ => rfl
              exact ⟨_, _, hv, .con _ _, fun w' hw' => by simp [resolve, hb, hargs, invoke, builtin, e, e2, e3, Builtin.min_, m2]⟩
            · exact hv.elim
          · exact hv.elim
        · exact hv.elim
      · exact hv.elim
    · rename_i hb
      split at hv
      · rename_i x y hxs
        have hargs : c.args = #[x, y] := by rw [← Array.toArray_toList (xs := c.args), hxs]
        have hx := hev x
        have hy := hev y
        split at hv
        · rename_i k a hq
          rw [hq] at hx
          split at hv
          · rename_i k2 b hq2
            rw [hq2] at hy
            have e := hx.con_eq
            have e2 := hy.con_eq
            exact ⟨_, _, hv, .con _ _, fun w' hw' => by simp [resolve, hb, hargs, invoke, builtin, e, e2, Builtin.max_, Builtin.max2, maxI]⟩
          · exact hv.elim
        · exact hv.elim
      · rename_i x y z hxs
        have hargs : c.args = #[x, y, z] := by rw [← Array.toArray_toList (xs := c.args), hxs]
        have hx := hev x
        have hy := hev y
        have hz := hev z
        split at hv
        · rename_i k a hq
          rw [hq] at hx
          split at hv
          · rename_i k2 b hq2
            rw [hq2] at hy
            split at hv
            · rename_i k3 d hq3
              rw [hq3] at hz
              have e := hx.con_eq
              have e2 := hy.con_eq
              have e3 := hz.con_eq
              have m2 : ∀ (p q : Int) (q' : IntKind), Builtin.max2 (.int k p) (.int q' q) = pure (.int k (maxI p q)) := fun _ _ _ => rfl
              exact ⟨_, _, hv, .con _ _, fun w' hw' => by simp [resolve, hb, hargs, invoke, builtin, e, e2, e3, Builtin.max_, m2]⟩
            · exact hv.elim
          · exact hv.elim
        · exact hv.elim
      · exact hv.elim
    · exact hv.elim
  · rename_i t parts
    split at hv
    case h_2 => exact hv.elim
    rename_i ti hti
    obtain ⟨hi, hu⟩ := hT _ _ hti
    split at hv
    case h_2 => exact hv.elim
    rename_i hst
    split at hv
    case h_2 => exact hv.elim
    rename_i z hz
    split at hv
    case h_2 => exact hv.elim
    rename_i hall
    split at hv
    case h_2 => exact hv.elim
    rename_i cs hcs
    obtain ⟨vs, k1, k2, k3⟩ := build_run hT hi hst hz hall hev hcs
    exact ⟨_, _, hv, .agg _ vs cs k2 k3, fun w' hw' => by simp [run_build w' t _ vs.toArray k1]⟩
  · exact hv.elim
end Go.Proofs.Ytdffmciedieikaa.Deep

namespace Go.Proofs.Ytdffmciedieikaa.Deep
open Go.RowKit
set_option linter.unusedVariables false
set_option linter.unusedSimpArgs false
variable {P : Program} {G : Nat → Nat} {m : Nat → Pl} {w : World} {h : Heap}
def mvia (m : Nat → Pl) (σ : Nat → Option Nat) : Nat → Pl := fun b => match σ b with | some t => m t | none => ⟨0, 0⟩
theorem mvia_some {σ : Nat → Option Nat} {b t : Nat} (h : σ b = some t) : mvia m σ b = m t := by unfold mvia; rw [h]
theorem mvia_none {σ : Nat → Option Nat} {b : Nat} (h : σ b = none) : mvia m σ b = ⟨0, 0⟩ := by unfold mvia; rw [h]
def SeenAs (σ : Nat → Option Nat) (n : Nat) (p q : PV) : Prop := ∀ (G : Nat → Nat) (m : Nat → Pl) (w : World) (n0 : Nat) (v : Value), Rep G m w n0 v p → Rep G (mvia m σ) w n v q
theorem SeenAs.same {σ : Nat → Option Nat} {d n : Nat} {p : PV} (hu : p.under d = true) (hσ : ∀ b, b < d → σ b = some b) (hn : d ≤ n) : SeenAs σ n p p := fun G m w n0 v hr =>
  (hr.lower hu).keep hn ⟨fun _ => Nat.le_refl _, fun _ _ _ => rfl, fun _ _ _ h => h, fun b hb => mvia_some (hσ b hb)⟩
theorem SeenAs.weak {σ : Nat → Option Nat} {n : Nat} {p : PV} (hu : (weak p).under 0 = true) : SeenAs σ n p (weak p) := fun G m w n0 v hr =>
  (hr.weak.lower hu).keep (Nat.zero_le _) ⟨fun _ => Nat.le_refl _, fun _ _ _ => rfl, fun _ _ _ h => h, fun b hb => absurd hb (Nat.not_lt_zero _)⟩
def Bound (σ : Nat → Option Nat) (n : Nat) (ps : Bd) : Prop := ∀ b t, (b, t) ∈ ps → b < n ∧ ∀ x, t = some x → σ b = some x
theorem Bound.app {σ : Nat → Option Nat} {n : Nat} {ps qs : Bd} (h : Bound σ n (ps ++ qs)) : Bound σ n ps ∧ Bound σ n qs :=
  ⟨fun b t hb => h b t (List.mem_append_left _ hb), fun b t hb => h b t (List.mem_append_right _ hb)⟩
theorem isNil_eq {v : Value} (h : isNil v = true) : v = .slice none 0 0 := by
  unfold isNil at h
  split at h
  · rfl
  · cases h
theorem canS_seen {σ : Nat → Option Nat} {n : Nat} {s : Sh} {p q : PV} (hc : canS s p = some q) (hb : Bound σ n (tokS s p)) : SeenAs σ n p q := by
  unfold canS at hc
  split at hc
  case h_2 => cases hc
  rename_i v hv
  injection hc with hc
  subst hc
  intro G m w n0 u hr
  cases s with
  | int k =>
    replace hv : getInt k p = some v := hv
    unfold getInt at hv
    split at hv
    case h_2 => cases hv
    split at hv
    case h_2 => cases hv
    rename_i hk
    have hk := of_decide_eq_true hk
    subst hk
    injection hv with hv
    subst hv
    have e := hr.con_eq
    subst e
    exact .con _ _
  | bool =>
    replace hv : getBool p = some v := hv
    unfold getBool at hv
    split at hv
    case h_2 => cases hv
    injection hv with hv
    subst hv
    have e := hr.con_eq
    subst e
    exact .con _ _
  | str =>
    replace hv : getStr p = some v := hv
    unfold getStr at hv
    split at hv
    case h_2 => cases hv
    injection hv with hv
    subst hv
    have e := hr.con_eq
    subst e
    exact .con _ _
  | list =>
    have key : weak p = .sl v := by
      replace hv : getList p = some v := hv
      unfold getList at hv
      split at hv
      · injection hv with hv; subst hv; rfl
      · injection hv with hv; subst hv; rfl
      · split at hv
        · rename_i hw; injection hv with hv; subst hv; exact hw
        · cases hv
      · cases hv
    have := SeenAs.weak (σ := σ) (n := n) (p := p) (by rw [key]; rfl) G m w n0 u hr
    rw [key] at this
    exact this
  | fn f => unfold Sh.get at hv; cases hv
  | ifc =>
    replace hv : getIfc p = some v := hv
    unfold getIfc at hv
    split at hv
    case h_2 => cases hv
    rename_i t q
    injection hv with hv
    subst hv
    cases hr with
    | ifc _ _ v _ hq => exact .ifc _ _ _ _ (hq.keep (Nat.le_refl _) ⟨fun _ => Nat.le_refl _, fun _ _ _ => rfl, fun _ _ _ h => h, fun b hb => absurd hb (Nat.not_lt_zero _)⟩)
  | own b e sz =>
    replace hv : getOwn e sz p = some v := hv
    unfold getOwn at hv
    split at hv
    · rename_i t e' sz' x
      split at hv
      case h_2 => cases hv
      rename_i hk
      rw [Bool.and_eq_true] at hk
      obtain rfl := Nat.eq_of_beq_eq_true hk.1
      obtain rfl := Nat.eq_of_beq_eq_true hk.2
      injection hv with hv
      subst hv
      obtain ⟨h1, h2⟩ := hb b (some t) (by simp [tokS])
      have em : mvia m σ b = m t := mvia_some (h2 t rfl)
      cases hr with
      | own0 _ _ _ _ hlt => exact .own0 _ _ _ _ h1
      | own1 _ _ _ c _ _ F q1 q2 q3 q4 q5 q6 q7 q8 q9 q10 q11 =>
        have hz := fun (i : Nat) (hi : i < x.length) (j : Nat) (hj : j < sz) => (q11 i hi j hj).keep (G' := G) (m' := mvia m σ) (w' := w) (Nat.le_refl 0) ⟨fun _ => Nat.le_refl _, fun _ _ _ => rfl, fun _ _ _ h => h, fun b hb => absurd hb (Nat.not_lt_zero _)⟩
        have := Rep.own1 (G := G) (m := mvia m σ) (w := w) n b e c sz x F h1 q2 q3 q4 q5 q6 (by rw [em]; exact q7) (by rw [em]; exact q8) (by rw [em]; exact q9) (by rw [em]; exact q10) hz
        rw [em] at this
        exact this
    · rename_i u'
      split at hv
      case h_2 => cases hv
      rename_i hn
      injection hv with hv
      subst hv
      have e1 := hr.con_eq
      have e2 := isNil_eq hn
      subst e1
      rw [e2]
      exact .own0 _ _ _ _ (hb b none (by simp [tokS])).1
    · cases hv
  | ptr b off =>
    replace hv : getPtr off p = some v := hv
    unfold getPtr at hv
    split at hv
    case h_2 => cases hv
    rename_i t off'
    split at hv
    case h_2 => cases hv
    rename_i hk
    obtain rfl := Nat.eq_of_beq_eq_true hk
    obtain ⟨h1, h2⟩ := hb b (some t) (by simp [tokS])
    cases hr with
    | ptr _ _ _ hlt =>
      have := Rep.ptr (G := G) (m := mvia m σ) (w := w) n b off h1
      rw [mvia_some (h2 t rfl)] at this
      exact this
  | mp b =>
    replace hv : getMp p = some v := hv
    unfold getMp at hv
    split at hv
    case h_2 => cases hv
    rename_i t
    obtain ⟨h1, h2⟩ := hb b (some t) (by simp [tokS])
    cases hr with
    | mp _ _ hlt =>
      have := Rep.mp (G := G) (m := mvia m σ) (w := w) n b h1
      rw [mvia_some (h2 t rfl)] at this
      exact this
  | rw b off =>
    replace hv : getRw off p = some v := hv
    unfold getRw at hv
    split at hv
    case h_2 => cases hv
    rename_i t off' n2
    split at hv
    case h_2 => cases hv
    rename_i hbe
    obtain rfl := Nat.eq_of_beq_eq_true hbe
    injection hv with hv
    subst hv
    obtain ⟨h1, h2⟩ := hb b (some t) (by simp [tokS])
    cases hr with
    | rw _ _ _ _ c hlt hc hm =>
      have := Rep.rw (G := G) (m := mvia m σ) (w := w) n b off n2 c h1 hc hm
      rw [mvia_some (h2 t rfl)] at this
      exact this
  | row =>
    replace hv : getRow p = some v := hv
    unfold getRow at hv
    split at hv
    case h_2 => cases hv
    cases hr
  | mpc k e =>
    replace hv : getMpc k e p = some v := hv
    unfold getMpc at hv
    split at hv
    case h_2 => cases hv
    cases hr
theorem canL_seen {σ : Nat → Option Nat} {n : Nat} : ∀ {ss : List Sh} {ps qs : List PV}, canL ss ps = some qs → Bound σ n (tokL ss ps) → ps.length = qs.length ∧ ∀ j, j < qs.length → SeenAs σ n (ps.getD j .any) (qs.getD j .any)
  | [], [], qs, hc, _ => by
    simp only [canL, Option.some.injEq] at hc
    subst hc
    exact ⟨rfl, fun j hj => absurd hj (Nat.not_lt_zero _)⟩
  | [], _ :: _, qs, hc, _ => by simp [canL] at hc
  | _ :: _, [], qs, hc, _ => by simp [canL] at hc
  | s :: ss, p :: ps, qs, hc, hb => by
    simp only [canL] at hc
    split at hc
    case h_2 => cases hc
    rename_i q hq
    split at hc
    case h_2 => cases hc
    rename_i qs' hqs
    injection hc with hc
    subst hc
    obtain ⟨h1, h2⟩ := Bound.app (ps := tokS s p) (qs := tokL ss ps) hb
    obtain ⟨k1, k2⟩ := canL_seen hqs h2
    refine ⟨by simp [k1], fun j hj => ?_⟩
    cases j with
    | zero => exact canS_seen hq h1
    | succ j => exact k2 j (by simpa using hj)
theorem canS_mark {s : Sh} {p q : PV} (hc : canS s p = some q) : (p.mark = q.mark) ∧ (q.mark = true → p = q) := by
  unfold canS at hc
  split at hc
  case h_2 => cases hc
  rename_i v hv
  injection hc with hc
  subst hc
  cases s with
  | mpc k e =>
    replace hv : getMpc k e p = some v := hv
    unfold getMpc at hv
    split at hv
    case h_2 => cases hv
    split at hv
    case h_2 => cases hv
    rename_i hk
    rw [Bool.and_eq_true] at hk
    obtain rfl := Nat.eq_of_beq_eq_true hk.1
    obtain rfl := Nat.eq_of_beq_eq_true hk.2
    injection hv with hv
    subst hv
    exact ⟨rfl, fun _ => rfl⟩
  | row =>
    replace hv : getRow p = some v := hv
    unfold getRow at hv
    split at hv
    case h_2 => cases hv
    injection hv with hv
    subst hv
    exact ⟨rfl, fun _ => rfl⟩
  | _ =>
    refine ⟨?_, fun hm => absurd hm (by simp [Sh.mk, PV.mark])⟩
    cases p <;> first | rfl | (simp [Sh.get, getInt, getBool, getStr, getList, getOwn, getPtr, getMp, getIfc, getRw] at hv)
theorem kind_mark {p q : PV} (hm : p.mark = q.mark) (he : q.mark = true → p = q) : kind [p] = kind [q] := by
  cases hq : q.mark with
  | true => rw [he hq]
  | false => rw [kind_one hq, kind_one (by rw [hm, hq])]
def SeenB (σ : Nat → Option Nat) (n : Nat) (old new : List PV) : Prop := kind old = kind new ∧ (kind new = .cells → old.length = new.length ∧ ∀ j, j < new.length → SeenAs σ n (old.getD j .any) (new.getD j .any))
structure Norm (σ : Nat → Option Nat) (h2 h' : Heap) : Prop where
  blk : ∀ b, b < h'.length → kind (h'.getD b []) = .dead ∨ (kind (h'.getD b []) = .tip ∧ σ b = none) ∨ ∃ t, σ b = some t ∧ t < h2.length ∧ SeenB σ h'.length (h2.getD t []) (h'.getD b [])
  inj : ∀ b b' t, b < h'.length → b' < h'.length → kind (h'.getD b []) ≠ .dead → kind (h'.getD b' []) ≠ .dead → σ b = some t → σ b' = some t → b = b'
theorem Norm.alive {σ : Nat → Option Nat} {h2 h' : Heap} (N : Norm σ h2 h') {b : Nat} (hb : b < h'.length) (ha : alive (mvia m σ) h' b) : kind (h'.getD b []) ≠ .dead ∧ ∃ t, σ b = some t ∧ t < h2.length ∧ Deep.alive m h2 t := by
  have hnd : kind (h'.getD b []) ≠ .dead := fun he => by unfold Deep.alive at ha; rw [he] at ha; exact ha
  refine ⟨hnd, ?_⟩
  rcases N.blk b hb with q | ⟨q1, q2⟩ | ⟨t, q1, q2, q3, _⟩
  · exact absurd q hnd
  · unfold Deep.alive at ha
    rw [q1, mvia_none q2] at ha
    exact absurd rfl ha
  · refine ⟨t, q1, q2, ?_⟩
    unfold Deep.alive at ha ⊢
    rw [mvia_some q1] at ha
    rw [q3]; exact ha
theorem HS.norm {h2 h' : Heap} (k : HS P G m w h2) {σ : Nat → Option Nat} (N : Norm σ h2 h') : HS P G (mvia m σ) w h' := by
  refine ⟨fun b hb => ?_, fun b b' hb hb' ha ha' he => ?_, k.old⟩
  · rcases N.blk b hb with q | ⟨q1, q2⟩ | ⟨t, q1, q2, q3, q4⟩
    · unfold Lies; rw [q]; trivial
    · unfold Lies; rw [q1, mvia_none q2]; exact fun h0 => absurd rfl h0
    · have hL := k.blk t q2
      rw [mvia_some q1]
      unfold Lies at hL ⊢
      rw [q3] at hL
      split
      · trivial
      · rename_i hk; rw [hk] at hL; exact hL
      · rename_i hk; rw [hk] at hL; exact hL
      · rename_i hk
        rw [hk] at hL
        obtain ⟨⟨cs, T, c1, c2, c3⟩, c4⟩ := hL
        exact ⟨⟨cs, T, c1, c2, fun j hj => (c3 j hj).keep (Nat.le_refl _) ⟨fun _ => Nat.le_refl _, fun _ _ _ => rfl, fun _ _ _ h => h, fun b hb => absurd hb (Nat.not_lt_zero _)⟩⟩, c4⟩
      · rename_i hk
        rw [hk] at hL
        obtain ⟨e1, e2⟩ := q4 hk
        obtain ⟨⟨cs, T, c1, c2, c3⟩, c4⟩ := hL
        exact ⟨⟨cs, T, c1, by omega, fun j hj => e2 j hj G m w _ _ (c3 j (by omega))⟩, c4⟩
  · obtain ⟨n1, t, e1, e2, e3⟩ := N.alive hb ha
    obtain ⟨n2, t', f1, f2, f3⟩ := N.alive hb' ha'
    rw [mvia_some e1, mvia_some f1] at he
    have := k.inj t t' e2 f2 e3 f3 he
    subst this
    exact N.inj b b' t hb hb' n1 n2 e1 f1
theorem Goes.norm {G0 : Nat → Nat} {m0 : Nat → Pl} {w0 : World} {h0 h2 h' : Heap} (g : Goes G0 m0 w0 h0 G m w h2) {σ : Nat → Option Nat} (N : Norm σ h2 h') (hid : ∀ b, b < h0.length → σ b = some b) (hn : h0.length ≤ h'.length) : Goes G0 m0 w0 h0 G (mvia m σ) w h' where
  os := g.os
  tape := g.tape
  output := g.output
  size := g.size
  num := hn
  grow := g.grow
  cell := g.cell
  shp := g.shp
  map := fun b hb => by rw [mvia_some (hid b hb)]; exact g.map b hb
  aliv := fun b hb ha => by
    obtain ⟨_, t, e1, e2, e3⟩ := N.alive (by omega) ha
    rw [hid b hb] at e1
    injection e1 with e1
    subst e1
    exact g.aliv b hb e3
  rest := g.rest
  new := fun b hb hb2 ha => by
    obtain ⟨_, t, e1, e2, e3⟩ := N.alive hb2 ha
    rw [mvia_some e1]
    by_cases ht : t < h0.length
    · right; exact ⟨t, ht, g.aliv t ht e3, by rw [g.map t ht]⟩
    · exact g.new t (by omega) e2 e3
theorem HS.void (k : HS P G m w h) : HS P G (updM m h.length ⟨0, 0⟩) w (h ++ [[.tip]]) ∧ Goes G m w h G (updM m h.length ⟨0, 0⟩) w (h ++ [[.tip]]) := by
  have hm : ∀ b, b < h.length → updM m h.length ⟨0, 0⟩ b = m b := fun b hb => updM_ne _ _ (by omega)
  have ks : Keeps G m w h.length G (updM m h.length ⟨0, 0⟩) w := ⟨fun _ => Nat.le_refl _, fun _ _ _ => rfl, fun _ _ _ h => h, hm⟩
  have hal : ∀ b, b < (h ++ [[PV.tip]]).length → alive (updM m h.length ⟨0, 0⟩) (h ++ [[.tip]]) b → b < h.length ∧ alive m h b := fun b hb ha => by
    by_cases hb2 : b < h.length
    · exact ⟨hb2, (alive_congr (getD_app_lt h [.tip] hb2) (hm b hb2)).1 ha⟩
    · obtain rfl : b = h.length := by simp at hb; omega
      unfold alive at ha
      rw [getD_app_eq, updM_eq] at ha
      exact absurd rfl ha
  refine ⟨⟨fun b hb => ?_, fun b b' hb hb' ha ha' he => ?_, k.old⟩, ⟨rfl, rfl, rfl, Nat.le_refl _, by simp, fun _ => Nat.le_refl _, fun _ _ _ => rfl, fun _ _ _ h => h, hm, fun b hb ha => (hal b (by simp; omega) ha).2, fun _ _ _ => ⟨rfl, rfl⟩, fun b hb hb2 ha => absurd (hal b hb2 ha).1 (by omega)⟩⟩
  · by_cases hb2 : b < h.length
    · rw [getD_app_lt h _ hb2, hm b hb2]
      exact (k.blk b hb2).keep ks (by simp) (fun _ => ⟨rfl, rfl⟩)
    · obtain rfl : b = h.length := by simp at hb; omega
      rw [getD_app_eq, updM_eq]
      unfold Lies kind
      exact fun h0 => absurd rfl h0
  · obtain ⟨a1, a2⟩ := hal b hb ha
    obtain ⟨b1, b2⟩ := hal b' hb' ha'
    rw [hm b a1, hm b' b1] at he
    exact k.inj b b' a1 b1 a2 b2 he
theorem voids_length : ∀ n, (voids n).length = n
  | 0 => rfl
  | n + 1 => by simp [voids, voids_length n]
theorem HS.voids (k : HS P G m w h) : ∀ n, ∃ m', HS P G m' w (h ++ voids n) ∧ Goes G m w h G m' w (h ++ voids n)
  | 0 => ⟨m, by simpa [Deep.voids] using k, by simpa [Deep.voids] using Goes.refl G m w h⟩
  | n + 1 => by
    obtain ⟨m', k1, g1⟩ := HS.voids k n
    obtain ⟨k2, g2⟩ := k1.void
    rw [Deep.voids, ← List.append_assoc]
    exact ⟨_, k2, g1.trans g2⟩
theorem renL_length (ρ : Nat → Nat) : ∀ l : List PV, (renL ρ l).length = l.length
  | [] => rfl
  | p :: ps => by simp [renL, renL_length ρ ps]
theorem renL_getD (ρ : Nat → Nat) : ∀ (l : List PV) (i : Nat), (renL ρ l).getD i .any = ren ρ (l.getD i .any)
  | [], i => by simp [renL, ren]
  | p :: ps, 0 => by simp [renL]
  | p :: ps, i + 1 => by simpa [renL] using renL_getD ρ ps i
theorem Rep.ren {m' : Nat → Pl} {n' n : Nat} {ρ : Nat → Nat} {v : Value} {q : PV} (h : Rep G m' w n' v q) : (∀ b, b < n' → m (ρ b) = m' b ∧ ρ b < n) → Rep G m w n v (ren ρ q) := by
  induction h with
  | any n v => intro _; exact .any _ _
  | con n v => intro _; exact .con _ _
  | agg n vs l hl hr ih => intro hρ; exact .agg _ _ _ (by rw [renL_length]; exact hl) (fun i hi => by rw [renL_getD]; exact ih i (by rwa [renL_length] at hi) hρ)
  | tup n vs l hl hr ih => intro hρ; exact .tup _ _ _ (by rw [renL_length]; exact hl) (fun i hi => by rw [renL_getD]; exact ih i (by rwa [renL_length] at hi) hρ)
  | sl n' a c sz xs F h1 h2 h3 h4 h5 ih => intro hρ; exact .sl _ a c sz xs F h1 h2 h3 h4 (fun i hi j hj => (h5 i hi j hj).keep (Nat.le_refl _) ⟨fun _ => Nat.le_refl _, fun _ _ _ => rfl, fun _ _ _ h => h, fun b hb => absurd hb (Nat.not_lt_zero _)⟩)
  | ptr n b off hb => intro hρ; rw [← (hρ b hb).1]; exact .ptr _ _ _ (hρ b hb).2
  | ept n g o off l F h1 h2 h3 ih => intro hρ; exact .ept _ g o off l F h1 h2 (fun j hj => (h3 j hj).keep (Nat.le_refl _) ⟨fun _ => Nat.le_refl _, fun _ _ _ => rfl, fun _ _ _ h => h, fun b hb => absurd hb (Nat.not_lt_zero _)⟩)
  | fn n f vs l hl hr ih => intro hρ; exact .fn _ _ _ _ (by rw [renL_length]; exact hl) (fun i hi => by rw [renL_getD]; exact ih i (by rwa [renL_length] at hi) hρ)
  | bm n f vs l hl hr ih => intro hρ; exact .bm _ _ _ _ (by rw [renL_length]; exact hl) (fun i hi => by rw [renL_getD]; exact ih i (by rwa [renL_length] at hi) hρ)
  | ifc n t v p hr ih => intro hρ; exact .ifc _ _ _ _ (hr.keep (Nat.le_refl _) ⟨fun _ => Nat.le_refl _, fun _ _ _ => rfl, fun _ _ _ h => h, fun b hb => absurd hb (Nat.not_lt_zero _)⟩)
  | rw n0 b off n c hb hc hm => intro hρ; rw [← (hρ b hb).1]; exact .rw _ _ _ _ _ (hρ b hb).2 hc hm
  | own0 n b e sz hb => intro hρ; exact .own0 _ _ _ _ (hρ b hb).2
  | own1 n b e c sz xs F hb hp hc hm h0 hz hsh hg hfr hx hr ih =>
    intro hρ
    obtain ⟨e1, e2⟩ := hρ b hb
    have hz' := fun (i : Nat) (hi : i < xs.length) (j : Nat) (hj : j < sz) => (hr i hi j hj).keep (G' := G) (m' := m) (w' := w) (Nat.le_refl 0) ⟨fun _ => Nat.le_refl _, fun _ _ _ => rfl, fun _ _ _ h => h, fun b hb => absurd hb (Nat.not_lt_zero _)⟩
    rw [← e1] at hsh hg hfr hx ⊢
    exact .own1 _ (ρ b) e c sz xs F e2 hp hc hm h0 hz hsh hg hfr hx hz'
  | mp n b hb => intro hρ; rw [← (hρ b hb).1]; exact .mp _ _ (hρ b hb).2
theorem mark_ren (ρ : Nat → Nat) (p : PV) : (ren ρ p).mark = p.mark := by cases p <;> rfl
theorem kind_ren (ρ : Nat → Nat) (l : List PV) : kind (renL ρ l) = kind l := by
  match l with
  | [] => rfl
  | [p] =>
    cases hp : p.mark with
    | false => rw [kind_one hp]; exact kind_one (by rw [mark_ren]; exact hp)
    | true => cases p <;> first | rfl | simp [PV.mark] at hp
  | p :: q :: r => rfl
theorem Lies.ren {G' : Nat → Nat} {m' m2 : Nat → Pl} {w' : World} {n' n : Nat} {ρ : Nat → Nat} {p : Pl} {l : List PV} (k : Lies P G' m' w' n' p l) (hρ : ∀ b, b < n' → m2 (ρ b) = m' b ∧ ρ b < n) : Lies P G' m2 w' n p (renL ρ l) := by
  unfold Lies at k ⊢
  rw [kind_ren]
  split
  · trivial
  · rename_i hk; rw [hk] at k; exact k
  · rename_i hk; rw [hk] at k; exact k
  · rename_i hk
    rw [hk] at k
    obtain ⟨⟨cs, T, c1, c2, c3⟩, c4⟩ := k
    exact ⟨⟨cs, T, c1, c2, fun j hj => (c3 j hj).keep (Nat.le_refl _) ⟨fun _ => Nat.le_refl _, fun _ _ _ => rfl, fun _ _ _ h => h, fun b hb => absurd hb (Nat.not_lt_zero _)⟩⟩, c4⟩
  · rename_i hk
    rw [hk] at k
    obtain ⟨⟨cs, T, c1, c2, c3⟩, c4⟩ := k
    exact ⟨⟨cs, T, c1, by rw [renL_length]; exact c2, fun j hj => by rw [renL_getD]; exact (c3 j (by rwa [renL_length] at hj)).ren hρ⟩, c4⟩
theorem setAll_spec (ρ : Nat → Nat) (n0 H : Nat) : ∀ (ls : List (List PV)) (i : Nat) (h : Heap), h.length = H + (i - n0) → (∀ k, i ≤ k → k < n0 → ρ k < H) → (∀ k k', k < n0 → k' < n0 → ρ k = ρ k' → k = k') → (∀ k, n0 ≤ k → ρ k = H + (k - n0)) →
    (setAll ρ ls i n0 h).length = max h.length (H + (i + ls.length - n0)) ∧ (∀ k, k < ls.length → (setAll ρ ls i n0 h).getD (ρ (i + k)) [] = renL ρ (ls.getD k [])) ∧ ∀ b, b < h.length → (∀ k, i ≤ k → k < n0 → k < i + ls.length → ρ k ≠ b) → (setAll ρ ls i n0 h).getD b [] = h.getD b []
  | [], i, h, hl, h1, h2, h3 => ⟨by simp only [setAll, List.length_nil]; omega, fun k hk => absurd hk (Nat.not_lt_zero _), fun b hb _ => rfl⟩
  | l :: r, i, h, hl, h1, h2, h3 => by
    simp only [setAll]
    split
    · rename_i hb
      have hi : i < n0 := Nat.le_of_ble_eq_true hb
      obtain ⟨q1, q2, q3⟩ := setAll_spec ρ n0 H r (i + 1) (h.set (ρ i) (renL ρ l)) (by simp; omega) (fun k a b => h1 k (by omega) b) h2 h3
      have hρi := h1 i (Nat.le_refl _) hi
      refine ⟨by rw [q1]; simp only [List.length_set, List.length_cons]; omega, fun k hk => ?_, fun b hb hk => ?_⟩
      · cases k with
        | zero =>
          rw [show i + 0 = i from rfl, q3 (ρ i) (by simp; omega) (fun k a b c e => by have := h2 k i b hi e; omega)]
          rw [getD_set_eq _ _ _ (by omega)]; rfl
        | succ k =>
          have := q2 k (by simpa using hk)
          rw [show i + 1 + k = i + (k + 1) by omega] at this
          rw [this]; rfl
      · rw [q3 b (by simpa using hb) (fun k a c d => hk k (by omega) c (by simp; omega))]
        exact getD_set_ne _ _ _ (fun e => hk i (Nat.le_refl _) hi (by simp) e)
    · rename_i hb
      have hi : ¬ i < n0 := fun hlt => by
        have : Nat.blt i n0 = true := Nat.ble_eq_true_of_le hlt
        rw [this] at hb; cases hb
      obtain ⟨q1, q2, q3⟩ := setAll_spec ρ n0 H r (i + 1) (h ++ [renL ρ l]) (by simp; omega) (fun k a b => absurd b (by omega)) h2 h3
      refine ⟨by rw [q1]; simp only [List.length_append, List.length_cons, List.length_nil]; omega, fun k hk => ?_, fun b hb hk => ?_⟩
      · cases k with
        | zero =>
          have e : ρ (i + 0) = h.length := by rw [Nat.add_zero, h3 i (by omega)]; omega
          rw [e, q3 h.length (by simp) (fun k a b => absurd b (by omega)), getD_app_eq]; rfl
        | succ k =>
          have := q2 k (by simpa using hk)
          rw [show i + 1 + k = i + (k + 1) by omega] at this
          rw [this]; rfl
      · rw [q3 b (by simp; omega) (fun k a c => absurd c (by omega))]
        exact getD_app_lt _ _ hb
theorem frame_ret {G' : Nat → Nat} {h0 h1 h0' : Heap} {r0 : PV} {v : Value} {w' : World} {m0' : Nat → Pl} (ρ : Nat → Nat) (N : Norm (fun b => if b < h0.length then some (ρ b) else none) h1 h0)
    (hρ : ∀ i, i < h0.length → ρ i < h1.length) (hinj : ∀ i i', i < h0.length → i' < h0.length → ρ i = ρ i' → i = i') (hnew : ∀ i, h0.length ≤ i → ρ i = h1.length + (i - h0.length))
    (hs : HS P G m w h1) (hrep : Rep G' m0' w' h0'.length v r0) (hs' : HS P G' m0' w' h0') (hg : Goes G (mvia m fun b => if b < h0.length then some (ρ b) else none) w h0 G' m0' w' h0') :
    ∃ m2, Rep G' m2 w' (setAll ρ h0' 0 h0.length h1).length v (ren ρ r0) ∧ HS P G' m2 w' (setAll ρ h0' 0 h0.length h1) ∧ Goes G m w h1 G' m2 w' (setAll ρ h0' 0 h0.length h1) := by
  obtain ⟨σ, hσ⟩ : ∃ σ, σ = fun b => if b < h0.length then some (ρ b) else none := ⟨_, rfl⟩
  rw [← hσ] at N hg
  have hσi : ∀ i, i < h0.length → σ i = some (ρ i) := fun i hi => by rw [hσ]; exact if_pos hi
  have hnum := hg.num
  obtain ⟨q1, q2, q3⟩ := setAll_spec ρ h0.length h1.length h0' 0 h1 (by omega) (fun k _ b => hρ k b) hinj hnew
  have q2' : ∀ i, i < h0'.length → (setAll ρ h0' 0 h0.length h1).getD (ρ i) [] = renL ρ (h0'.getD i []) := fun i hi => by simpa using q2 i hi
  obtain ⟨H, hH⟩ : ∃ H, H = setAll ρ h0' 0 h0.length h1 := ⟨_, rfl⟩
  rw [← hH] at q1 q2' q3
  have hHl : H.length = h1.length + (h0'.length - h0.length) := by rw [q1]; omega
  let m2 : Nat → Pl := fun b => if b < h1.length then m b else m0' (b - h1.length + h0.length)
  have hm2 : ∀ i, i < h0'.length → m2 (ρ i) = m0' i ∧ ρ i < H.length := fun i hi => by
    by_cases h3 : i < h0.length
    · have e1 := hg.map i h3
      rw [mvia_some (hσi i h3)] at e1
      refine ⟨?_, by have := hρ i h3; omega⟩
      show (if ρ i < h1.length then m (ρ i) else _) = _
      rw [if_pos (hρ i h3), e1]
    · have e1 := hnew i (by omega)
      refine ⟨?_, by omega⟩
      show (if ρ i < h1.length then m (ρ i) else m0' (ρ i - h1.length + h0.length)) = _
      rw [if_neg (by omega), e1]
      congr 1; omega
  have hm2b : ∀ b, b < h1.length → m2 b = m b := fun b hb => if_pos hb
  have ks : Keeps G m w h1.length G' m2 w' := ⟨hg.grow, hg.cell, hg.shp, hm2b⟩
  -- each name is one that was handed in, or new, or another
  have cases3 : ∀ b, b < H.length → (∃ i, i < h0'.length ∧ b = ρ i) ∨ (b < h1.length ∧ ∀ i, i < h0.length → ρ i ≠ b) := fun b hb => by
    by_cases hb1 : b < h1.length
    · by_cases hx : ∃ i, i < h0.length ∧ b = ρ i
      · obtain ⟨i, i1, i2⟩ := hx
        exact .inl ⟨i, by omega, i2⟩
      · exact .inr ⟨hb1, fun i hi he => hx ⟨i, hi, he.symm⟩⟩
    · left
      refine ⟨b - h1.length + h0.length, by omega, ?_⟩
      rw [hnew _ (by omega)]; omega
  have hother : ∀ b, b < h1.length → (∀ i, i < h0.length → ρ i ≠ b) → H.getD b [] = h1.getD b [] := fun b hb hx => q3 b hb (fun k _ hk _ => hx k hk)
  have halive : ∀ i, i < h0.length → alive (mvia m σ) h0 i → alive m h1 (ρ i) := fun i hi ha => by
    obtain ⟨_, t, e1, _, e3⟩ := N.alive hi ha
    rw [hσi i hi] at e1
    injection e1 with e1
    rw [e1]; exact e3
  have halH : ∀ i, i < h0'.length → (alive m2 H (ρ i) ↔ alive m0' h0' i) := fun i hi => by
    unfold alive
    rw [q2' i hi, kind_ren, (hm2 i hi).1]
  have hprot : ∀ b, b < h1.length → (∀ i, i < h0.length → ρ i ≠ b) → alive m h1 b → w'.heap[(m b).at']? = w.heap[(m b).at']? ∧ G' (m b).at' = G (m b).at' := fun b hb hx ha =>
    hg.rest _ (hs.lt hb ha) (fun i hi hai hat => by
      have := halive i hi hai
      rw [mvia_some (hσi i hi)] at hat
      exact hx i hi (hs.inj (ρ i) b (hρ i hi) hb this ha hat))
  have hnewat : ∀ i, h0.length ≤ i → i < h0'.length → alive m0' h0' i → w.heap.size ≤ (m0' i).at' ∨ ∃ j, j < h0.length ∧ alive m h1 (ρ j) ∧ (m0' i).at' = (m (ρ j)).at' := fun i hi hi2 hai => by
    rcases hg.new i hi hi2 hai with q | ⟨j, j1, j2, j3⟩
    · exact .inl q
    · rw [mvia_some (hσi j j1)] at j3
      exact .inr ⟨j, j1, halive j j1 j2, j3⟩
  rw [← hH]
  refine ⟨m2, hrep.ren (fun b hb => hm2 b hb), ⟨fun b hb => ?_, fun b b' hb hb' ha ha' he => ?_, hs'.old⟩, ⟨hg.os, hg.tape, hg.output, hg.size, by omega, hg.grow, hg.cell, hg.shp, hm2b, fun b hb ha => ?_, fun j hj hx => ?_, fun b hb hb2 ha => ?_⟩⟩
  · rcases cases3 b hb with ⟨i, i1, rfl⟩ | ⟨b1, b2⟩
    · rw [q2' i i1, (hm2 i i1).1]
      exact (hs'.blk i i1).ren (fun b hb => hm2 b hb)
    · rw [hother b b1 b2, hm2b b b1]
      exact (hs.blk b b1).keep ks (by omega) (fun ha => hprot b b1 b2 ha)
  · -- no two lie at one place
    have key : ∀ i b', i < h0'.length → b' < h1.length → (∀ i, i < h0.length → ρ i ≠ b') → alive m0' h0' i → alive m h1 b' → (m0' i).at' ≠ (m b').at' := fun i b' hi hb' hx hai hab he => by
      by_cases h3 : i < h0.length
      · have e1 := hg.map i h3
        rw [mvia_some (hσi i h3)] at e1
        rw [e1] at he
        exact hx i h3 (hs.inj (ρ i) b' (hρ i h3) hb' (halive i h3 (hg.aliv i h3 hai)) hab he)
      · rcases hnewat i (by omega) hi hai with q | ⟨j, j1, j2, j3⟩
        · have := hs.lt hb' hab; omega
        · rw [j3] at he
          exact hx j j1 (hs.inj (ρ j) b' (hρ j j1) hb' j2 hab he)
    rcases cases3 b hb with ⟨i, i1, rfl⟩ | ⟨b1, b2⟩ <;> rcases cases3 b' hb' with ⟨i', i1', rfl⟩ | ⟨b1', b2'⟩
    · rw [(hm2 i i1).1, (hm2 i' i1').1] at he
      rw [hs'.inj i i' i1 i1' ((halH i i1).1 ha) ((halH i' i1').1 ha') he]
    · rw [(hm2 i i1).1, hm2b b' b1'] at he
      exact absurd he (key i b' i1 b1' b2' ((halH i i1).1 ha) ((alive_congr (hother b' b1' b2') (hm2b b' b1')).1 ha'))
    · rw [(hm2 i' i1').1, hm2b b b1] at he
      exact absurd he.symm (key i' b i1' b1 b2 ((halH i' i1').1 ha') ((alive_congr (hother b b1 b2) (hm2b b b1)).1 ha))
    · rw [hm2b b b1, hm2b b' b1'] at he
      exact hs.inj b b' b1 b1' ((alive_congr (hother b b1 b2) (hm2b b b1)).1 ha) ((alive_congr (hother b' b1' b2') (hm2b b' b1')).1 ha') he
  · rcases cases3 b (by omega) with ⟨i, i1, rfl⟩ | ⟨b1, b2⟩
    · by_cases h3 : i < h0.length
      · exact halive i h3 (hg.aliv i h3 ((halH i i1).1 ha))
      · have := hnew i (by omega); omega
    · exact (alive_congr (hother b b1 b2) (hm2b b b1)).1 ha
  · exact hg.rest j hj (fun i hi hai hat => hx (ρ i) (hρ i hi) (halive i hi hai) (by rw [mvia_some (hσi i hi)] at hat; exact hat))
  · rcases cases3 b hb2 with ⟨i, i1, rfl⟩ | ⟨b1, b2⟩
    · by_cases h3 : i < h0.length
      · have := hρ i h3; omega
      · rw [(hm2 i i1).1]
        rcases hnewat i (by omega) i1 ((halH i i1).1 ha) with q | ⟨j, j1, j2, j3⟩
        · exact .inl q
        · exact .inr ⟨ρ j, hρ j j1, j2, j3⟩
    · omega
def deadH (n : Nat) : Heap := List.replicate n []
theorem deadH_getD (n b : Nat) : (deadH n).getD b [] = [] := by
  unfold deadH
  rw [List.getD_eq_getElem?_getD, List.getElem?_replicate]
  split <;> rfl
theorem deadH_alive (n b : Nat) : ¬ alive m (deadH n) b := by
  unfold alive; rw [deadH_getD]; exact fun h => h
theorem frame_thr {H : Value → Prop} {h0 h1 : Heap} {c : List PanicEntry} {w' : World} (ρ : Nat → Nat) (N : Norm (fun b => if b < h0.length then some (ρ b) else none) h1 h0) (hρ : ∀ i, i < h0.length → ρ i < h1.length)
    (t : Thrown P H G (mvia m fun b => if b < h0.length then some (ρ b) else none) w h0 c w') : Thrown P H G m w h1 c w' := by
  obtain ⟨v, h', G', m', e1, e2, e3, g⟩ := t
  refine ⟨v, deadH h1.length, G', m, e1, e2, ⟨fun b hb => ?_, fun b b' _ _ ha => absurd ha (deadH_alive _ _), e3.old⟩, ⟨g.os, g.tape, g.output, g.size, by simp [deadH], g.grow, g.cell, g.shp, fun _ _ => rfl, fun b _ ha => absurd ha (deadH_alive _ _), fun k hk hx => ?_, fun b h1' h2' => absurd h2' (by simp [deadH]; omega)⟩⟩
  · rw [deadH_getD]; unfold Lies kind; trivial
  · refine g.rest k hk (fun b hb ha he => ?_)
    obtain ⟨_, t, q1, q2, q3⟩ := N.alive hb ha
    rw [mvia_some q1] at he
    exact hx t q2 q3 he
theorem TCalls.frame {f : FuncId} {args0 args : List PV} {h0 h1 : Heap} {Q0 : PV → Heap → Prop} {H : Value → Prop} (hc : TCalls P f args0 h0 Q0 H) (ρ : Nat → Nat) (N : Norm (fun b => if b < h0.length then some (ρ b) else none) h1 h0)
    (hA : args.length = args0.length ∧ ∀ i, i < args0.length → SeenAs (fun b => if b < h0.length then some (ρ b) else none) h0.length (args.getD i .any) (args0.getD i .any))
    (hρ : ∀ i, i < h0.length → ρ i < h1.length) (hinj : ∀ i i', i < h0.length → i' < h0.length → ρ i = ρ i' → i = i') (hnew : ∀ i, h0.length ≤ i → ρ i = h1.length + (i - h0.length)) :
    TCalls P f args h1 (fun r h' => ∃ r0 h0', Q0 r0 h0' ∧ r = ren ρ r0 ∧ h' = setAll ρ h0' 0 h0.length h1) H := by
  intro G m w vs hs ha
  refine (hc G _ w vs (hs.norm N) ⟨ha.1.trans hA.1, fun i hi => hA.2 i hi G m w _ _ (ha.2 i (by omega))⟩).mono ?_
  rintro e w' (⟨v, r0, h0', G', m0', rfl, hQ, hrep, hs', hg⟩ | ⟨c, rfl, ht⟩)
  · obtain ⟨m2, k1, k2, k3⟩ := frame_ret ρ N hρ hinj hnew hs hrep hs' hg
    exact .inl ⟨v, ren ρ r0, _, G', m2, rfl, ⟨r0, h0', hQ, rfl, rfl⟩, k1, k2, k3⟩
  · exact .inr ⟨c, rfl, frame_thr ρ N hρ ht⟩
theorem ACalls.frame {f : FuncId} {args0 args : List PV} {h0 h1 : Heap} {Q0 : PV → Heap → Prop} (hc : ACalls P f args0 h0 Q0) (ρ : Nat → Nat) (N : Norm (fun b => if b < h0.length then some (ρ b) else none) h1 h0)
    (hA : args.length = args0.length ∧ ∀ i, i < args0.length → SeenAs (fun b => if b < h0.length then some (ρ b) else none) h0.length (args.getD i .any) (args0.getD i .any))
    (hρ : ∀ i, i < h0.length → ρ i < h1.length) (hinj : ∀ i i', i < h0.length → i' < h0.length → ρ i = ρ i' → i = i') (hnew : ∀ i, h0.length ≤ i → ρ i = h1.length + (i - h0.length)) :
    ACalls P f args h1 fun r h' => ∃ r0 h0', Q0 r0 h0' ∧ r = ren ρ r0 ∧ h' = setAll ρ h0' 0 h0.length h1 := (TCalls.frame hc.t ρ N hA hρ hinj hnew).a
end Go.Proofs.Ytdffmciedieikaa.Deep
