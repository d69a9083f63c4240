/-
  Texts of one proof, in their order. No condition.
-/
import Derived.Deep.Quiet
import Derived.StillTail
import Derived.Deep.MidRow
import Derived.Lib.QuietBelow
import Derived.Below
import Derived.Maps.Own
import Derived.Maps.OwnSet
import Derived.Laws.MakeOwn
import Derived.Laws.Entries
import Derived.Laws.AppendOwn
import Derived.Laws.Tables
import Derived.Laws.StructEq
import Derived.Shelf.Abstract
import Derived.StringKeys
import Derived.Laws.Pointers
namespace Go.Proofs.YtboopmfjkepilaaGreatDoor.Deep
set_option linter.unusedVariables false
variable {P : Program} {ops : Array Oper} {md : Region.Mode} {C : World → Prop}
def AnyHead (P : Program) (md : Region.Mode) (ops : Array Oper) (C : World → Prop) (n : Nat) (L : Array Bool → Act → Prop) : Nat → Array Bool → Act → Prop
  | 0, seen, a => L seen a
  | f + 1, seen, a => Region.ready md ops seen ≠ [] ∧ ∀ i ∈ Region.ready md ops seen, i < n ∧ qOp P ops C i (AnyHead P md ops C n L f (seen.setIfInBounds i true)) a
theorem AnyHead.wpAny {n g : Nat} {L : Array Bool → Act → Prop} {Q : Exit → Act → World → Prop} (hL : ∀ seen a w, C w → L seen a → wpAny P md ops Q g seen a w) :
    ∀ (f : Nat) (seen : Array Bool) (a : Act) (w : World), C w → AnyHead P md ops C n L f seen a → Go.wpAny P md ops Q (f + g) seen a w
  | 0, seen, a, w, hw, h => by rw [Nat.zero_add]; exact hL _ _ _ hw h
  | f + 1, seen, a, w, hw, h => by
    rw [show f + 1 + g = (f + g) + 1 by omega]
    exact ⟨fun h0 => absurd h0 h.1, fun i hi => wpOp_of_qOp hw (fun a' w' hw' h' => AnyHead.wpAny hL f _ a' w' hw' h') (h.2 i hi).2⟩
theorem AnyHead.first {n i : Nat} {oi : Oper} {v : Value} {L : Array Bool → Act → Prop} (hi : ops[i]? = some oi) (hsel : ∀ (j : Nat) (o : Oper) cs b, ops[j]? = some o → o.op ≠ .select cs b)
    (hs : Region.sinkB md ops n = true) (hc : Region.chainB md ops n = true) (hn : n < ops.size) (hin : i < n) (hend : ∀ seen a, L seen a → ∀ j ∈ Region.ready md ops seen, n ≤ j) :
    ∀ (f : Nat) (seen : Array Bool) (a : Act), HeadInv md ops n seen →
      (∀ j oj, ops[j]? = some oj → j ≠ i → seen.getD j true = false → (∀ e ∈ oj.after, Region.binds md e = true → e.on ≠ i) → oi.apart ops oj = true) →
      i ∈ Region.ready md ops seen → YieldsIn P ops C oi v a →
      AnyHead P md ops C n L f (seen.setIfInBounds i true) (a.put oi.dst v) → AnyHead P md ops C n L (f + 1) seen a := by
  intro f
  induction f with
  | zero =>
    intro seen a inv _ hr hy H
    refine ⟨fun h => by rw [h] at hr; exact absurd hr List.not_mem_nil, fun j hj => ?_⟩
    have hjn : j < n := (Nat.lt_or_ge j n).elim id (fun h => absurd hj (tail_waits hs hc hn inv _ i rfl hin (mem_ready.1 hr).1 j h))
    refine ⟨hjn, ?_⟩
    by_cases hji : j = i
    · subst hji; exact hy.qOp hi H
    · have := hend _ _ H j (ready_mono hj hji); omega
  | succ f ih =>
    intro seen a inv hfree hr hy H
    have hun := (mem_ready.1 hr).1
    refine ⟨fun h => by rw [h] at hr; exact absurd hr List.not_mem_nil, fun j hj => ?_⟩
    have hjn : j < n := (Nat.lt_or_ge j n).elim id (fun h => absurd hj (tail_waits hs hc hn inv _ i rfl hin hun j h))
    refine ⟨hjn, ?_⟩
    by_cases hji : j = i
    · subst hji; exact hy.qOp hi H
    · obtain ⟨hjun, oj, hoj, hall⟩ := mem_ready.1 hj
      have hnot : ∀ e ∈ oj.after, Region.binds md e = true → e.on ≠ i := fun e he hb heq => by
        have h1 := hall e he hb
        rw [heq, getD_both hun] at h1
        cases h1
      have h2 := qOp_put hoj (hfree j oj hoj hji hjun hnot) (fun cs b => hsel i oi cs b hi) (fun cs b => hsel j oj cs b hoj) hy (H.2 j (ready_mono hj hji)).2
      refine qOp_mono (fun a' h3 => ih (seen.setIfInBounds j true) a' (inv.set hj hjn) (fun k ok hk hki hku hno => hfree k ok hk hki ?_ hno) (ready_mono hr (Ne.symm hji)) h3.1 ?_) h2
      · by_cases hjk : j = k
        · subst hjk; exact hjun
        · rwa [getD_set_ne true hjk] at hku
      · rw [Array.setIfInBounds_comm _ _ hji]; exact h3.2
theorem AnyHead.lex {n g : Nat} {K : Act → Prop} (hsel : Region.noSelect ops = true) (hs : Region.sinkB md ops n = true) (hc : Region.chainB md ops n = true) (hn : n < ops.size) :
    ∀ (l : List Oper) (k : Nat) (seen : Array Bool) (a : Act), (∀ j, j < l.length → l[j]? = ops[k + j]?) → k + l.length = n → HeadInv md ops n seen →
      Region.lexHead md ops g l.length k seen = true → wpQuiet P ops C K l a → AnyHead P md ops C n (fun seen' a' => Region.seqB md ops g n seen' = true ∧ K a') l.length seen a
  | [], k, seen, a, _, hk, _, hB, h => by
    obtain rfl : k = n := by simpa using hk
    exact ⟨by simpa [Region.lexHead] using hB, h⟩
  | o :: l, k, seen, a, hl, hk, inv, hB, h => by
    have h0 : ops[k]? = some o := by simpa using (hl 0 (by simp)).symm
    simp only [List.length_cons] at hk
    simp only [List.length_cons, Region.lexHead, Bool.and_eq_true] at hB
    have hr : k ∈ Region.ready md ops seen := by simpa using hB.1.1
    have hq : qOp P ops C k (wpQuiet P ops C K l) a := by unfold qOp; simp only [h0]; exact h
    obtain ⟨v, hy, hK⟩ := yieldsIn_of_qOp h0 hq
    exact AnyHead.first h0 (Region.noSelect_spec hsel) hs hc hn (by omega) (fun seen' a' hL => seqB_ready hL.1) l.length seen a inv (Region.free_spec h0 hB.1.2) hr hy
      (AnyHead.lex hsel hs hc hn l (k + 1) _ _ (fun j hj => by have := hl (j + 1) (by simp; omega); simpa [Nat.add_assoc, Nat.add_comm 1 j] using this) (by omega) (inv.set hr (by omega)) hB.2 hK)
theorem wp_region_head {id : Nat} {Q : Exit → Act → World → Prop} {a : Act} {w : World} (n : Nat) (hm : P.follows .mixedOrders = true) (hB : Region.lexTailB .any ops n = true) (hC : C { w with drawn := w.drawn + 1 })
    (h : wpQuiet P ops C (fun a' => ∀ w', C w' → wpList P ops Q (ops.toList.drop n) a' w') (ops.toList.take n) a) : (Code.region id ops true).wp P Q a w := by
  simp only [Region.lexTailB, Bool.and_eq_true, decide_eq_true_eq] at hB
  obtain ⟨⟨⟨⟨hsel, hn⟩, hs⟩, hc⟩, hlex⟩ := hB
  have hlen : ops.toList.length = ops.size := by simp
  have htl : (ops.toList.take n).length = n := by rw [List.length_take]; omega
  have hdl : (ops.toList.drop n).length = ops.size - n := by rw [List.length_drop]; omega
  have inv0 : HeadInv .any ops n (Array.replicate ops.size false) :=
    ⟨by simp, fun j oj _ hl => absurd hl (by rw [getD_replicate_false]; exact Bool.false_ne_true), fun t _ ht => getD_in (by simpa using ht) (getD_replicate_false _ _)⟩
  have H := AnyHead.lex (C := C) (md := .any) (g := ops.size - n) hsel hs hc hn (ops.toList.take n) 0 _ a (fun j hj => by rw [htl] at hj; simp [hj]) (by simpa using htl) inv0 (by rw [htl]; exact hlex) h
  have H2 := AnyHead.wpAny (C := C) (Q := Q) (g := ops.size - n) (fun seen a' w' hw' hL => by
    have := wpAny_of_seq (md := .any) (Q' := Q) (ops.toList.drop n) n seen a' w' (fun j => by simp [List.getElem?_drop]) (by rw [hdl]; exact hL.1) (hL.2 w' hw')
    rwa [hdl] at this) _ _ _ _ hC H
  refine wp_region_any hm ?_
  rwa [htl, show n + (ops.size - n) = ops.size by omega] at H2
end Go.Proofs.YtboopmfjkepilaaGreatDoor.Deep

namespace Go.Proofs.YtboopmfjkepilaaGreatDoor.Deep
open Go.RowKit
set_option linter.unusedVariables false
inductive PV where
  | any
  | con (v : Value)
  | agg (cs : List PV)
  | tup (vs : List PV)
  | sl (xs : List (List PV))
  | ptr (b off : Nat)
  | ept (cs : List PV) (off : Nat)
  | fn (f : FuncId) (cap : List PV)
  | bm (f : FuncId) (fst : List PV)
  | ifc (t : TypeId) (p : PV)
  | rw (b off n : Nat) (e : TypeId) (sz : Nat)
  | row (cs : List PV)
  | own (b : Nat) (e : TypeId) (sz : Nat) (xs : List (List PV))
  | tip
  | mp (b : Nat)
  | mpc (k e : TypeId) (n : Nat) (D : DataW Unit)
  deriving Inhabited
abbrev Heap := List (List PV)
structure Pl where
  at' : Nat
  fr : Nat
  deriving Inhabited
def Shp (w : World) (g : Nat) (e : TypeId) (N : Nat) : Prop := ∃ cs : List Value, w.heap[g]? = some (.cells cs.toArray e (0, 0)) ∧ cs.length = N
inductive Rep (G : Nat → Nat) (m : Nat → Pl) (w : World) : Nat → Value → PV → Prop where
  | any (n : Nat) (v : Value) : Rep G m w n v .any
  | con (n : Nat) (v : Value) : Rep G m w n v (.con v)
  | agg (n : Nat) (vs : List Value) (cs : List PV) (hl : vs.length = cs.length) (hr : ∀ i, i < cs.length → Rep G m w n (vs.getD i undef) (cs.getD i .any)) : Rep G m w n (.agg vs.toArray) (.agg cs)
  | tup (n : Nat) (vs : List Value) (cs : List PV) (hl : vs.length = cs.length) (hr : ∀ i, i < cs.length → Rep G m w n (vs.getD i undef) (cs.getD i .any)) : Rep G m w n (.tuple vs.toArray) (.tup cs)
  | sl (n : Nat) (a : Option Addr) (c sz : Nat) (xs : List (List PV)) (F : Nat → Nat → Value) (hc : xs.length ≤ c) (hm : c ≤ 9223372036854775807) (hz : ∀ i, i < xs.length → (xs.getD i []).length = sz)
      (ha : 0 < xs.length → ∃ g o, a = some ⟨g, o, none⟩ ∧ o + xs.length * sz ≤ G g ∧ ∀ i, i < xs.length → ∀ j, j < sz → w.cell? ⟨g, o + i * sz + j, none⟩ = some (F i j))
      (hr : ∀ i, i < xs.length → ∀ j, j < sz → Rep G m w 0 (F i j) ((xs.getD i []).getD j .any)) : Rep G m w n (.slice a xs.length c) (.sl xs)
  | ptr (n b off : Nat) (hb : b < n) : Rep G m w n (.pointer (some ⟨(m b).at', off, none⟩)) (.ptr b off)
  | ept (n g o off : Nat) (cs : List PV) (F : Nat → Value) (hs : o + cs.length ≤ G g) (hc : ∀ j, j < cs.length → w.cell? ⟨g, o + j, none⟩ = some (F j)) (hr : ∀ j, j < cs.length → Rep G m w 0 (F j) (cs.getD j .any)) :
      Rep G m w n (.pointer (some ⟨g, o + off, none⟩)) (.ept cs off)
  | fn (n : Nat) (f : FuncId) (vs : List Value) (cs : List PV) (hl : vs.length = cs.length) (hr : ∀ i, i < cs.length → Rep G m w n (vs.getD i undef) (cs.getD i .any)) : Rep G m w n (.func (.func f) #[] vs.toArray) (.fn f cs)
  | bm (n : Nat) (f : FuncId) (vs : List Value) (cs : List PV) (hl : vs.length = cs.length) (hr : ∀ i, i < cs.length → Rep G m w n (vs.getD i undef) (cs.getD i .any)) : Rep G m w n (.func (.func f) vs.toArray #[]) (.bm f cs)
  | ifc (n : Nat) (t : TypeId) (v : Value) (p : PV) (hr : Rep G m w 0 v p) : Rep G m w n (.iface t v) (.ifc t p)
  | rw0 (n0 b : Nat) (e : TypeId) (sz : Nat) (hb : b < n0) : Rep G m w n0 (.slice none 0 0) (.rw b 0 0 e sz)
  | rw (n0 b off n c q N : Nat) (e : TypeId) (sz : Nat) (hb : b < n0) (hc : n ≤ c) (hm : c ≤ 9223372036854775807) (hq : q = off ∨ c = 0) (hN : off + c * sz ≤ N) (hsh : ∃ e', Shp w (m b).at' e' N) (hf : (m b).fr ≠ 0) : Rep G m w n0 (.slice (some ⟨(m b).at', q, none⟩) n c) (.rw b off n e sz)
  | own0 (n b : Nat) (e : TypeId) (sz : Nat) (hb : b < n) : Rep G m w n (.slice none 0 0) (.own b e sz [])
  | own1 (n b : Nat) (e : TypeId) (c sz : Nat) (xs : List (List PV)) (F : Nat → Nat → Value) (hb : b < n) (hp : 0 < xs.length) (hc : xs.length ≤ c) (hm : c ≤ 9223372036854775807) (h0 : 0 < sz) (hz : ∀ i, i < xs.length → (xs.getD i []).length = sz)
      (hsh : Shp w (m b).at' e (c * sz)) (hg : xs.length * sz ≤ G (m b).at') (hfr : (m b).fr = xs.length * sz) (hx : ∀ i, i < xs.length → ∀ j, j < sz → w.cell? ⟨(m b).at', i * sz + j, none⟩ = some (F i j))
      (hr : ∀ i, i < xs.length → ∀ j, j < sz → Rep G m w 0 (F i j) ((xs.getD i []).getD j .any)) : Rep G m w n (.slice (some ⟨(m b).at', 0, none⟩) xs.length c) (.own b e sz xs)
  | mp (n b : Nat) (hb : b < n) : Rep G m w n (.map (some (m b).at')) (.mp b)
structure Keeps (G : Nat → Nat) (m : Nat → Pl) (w : World) (n : Nat) (G' : Nat → Nat) (m' : Nat → Pl) (w' : World) : Prop where
  grow : ∀ g, G g ≤ G' g
  cell : ∀ g o, o < G g → w'.cell? ⟨g, o, none⟩ = w.cell? ⟨g, o, none⟩
  shp : ∀ g e N, Shp w g e N → Shp w' g e N
  map : ∀ b, b < n → m' b = m b
theorem Keeps.zero {G : Nat → Nat} {m : Nat → Pl} {w : World} {G' : Nat → Nat} {m' : Nat → Pl} {w' : World} {n : Nat} (k : Keeps G m w n G' m' w') (m2 : Nat → Pl) : Keeps G m w 0 G' m2 w' := ⟨k.grow, k.cell, k.shp, fun b hb => absurd hb (Nat.not_lt_zero _)⟩
theorem row_lt {xs : List (List PV)} {i j sz : Nat} (hi : i < xs.length) (hj : j < sz) : i * sz + j < xs.length * sz := by
  have h1 : i * sz + sz ≤ xs.length * sz := by rw [← Nat.succ_mul]; exact Nat.mul_le_mul_right _ hi
  omega
theorem Rep.keep {G : Nat → Nat} {m : Nat → Pl} {w : World} {G' : Nat → Nat} {m' : Nat → Pl} {w' : World} {n : Nat} {v : Value} {p : PV} (h : Rep G m w n v p) : ∀ {n' : Nat}, n ≤ n' → Keeps G m w n G' m' w' → Rep G' m' w' n' v p := by
  induction h with
  | any n v => intro n' hn k; exact .any _ _
  | con n v => intro n' hn k; exact .con _ _
  | agg n vs cs hl hr ih => intro n' hn k; exact .agg _ _ _ hl (fun i hi => ih i hi hn k)
  | tup n vs cs hl hr ih => intro n' hn k; exact .tup _ _ _ hl (fun i hi => ih i hi hn k)
  | sl n a c sz xs F hc hm hz ha hr ih =>
    intro n' hn k
    refine .sl _ a c sz xs F hc hm hz (fun h0 => ?_) (fun i hi j hj => ih i hi j hj (Nat.le_refl _) (k.zero _))
    obtain ⟨g, o, rfl, hs, hx⟩ := ha h0
    refine ⟨g, o, rfl, Nat.le_trans hs (k.grow g), fun i hi j hj => ?_⟩
    rw [k.cell g _ ?_]
    · exact hx i hi j hj
    · have := row_lt hi hj; omega
  | ptr n b off hb => intro n' hn k; rw [← k.map b hb]; exact .ptr _ _ _ (Nat.lt_of_lt_of_le hb hn)
  | ept n g o off cs F hs hc hr ih =>
    intro n' hn k
    refine .ept _ g o off cs F (Nat.le_trans hs (k.grow g)) (fun j hj => ?_) (fun j hj => ih j hj (Nat.le_refl _) (k.zero _))
    rw [k.cell g _ (by omega)]
    exact hc j hj
  | fn n f vs cs hl hr ih => intro n' hn k; exact .fn _ _ _ _ hl (fun i hi => ih i hi hn k)
  | bm n f vs cs hl hr ih => intro n' hn k; exact .bm _ _ _ _ hl (fun i hi => ih i hi hn k)
  | ifc n t v p hr ih => intro n' hn k; exact .ifc _ _ _ _ (ih (Nat.le_refl _) (k.zero _))
  | rw0 n0 b e sz hb => intro n' hn k; exact .rw0 _ _ _ _ (Nat.lt_of_lt_of_le hb hn)
  | rw n0 b off n c q N e sz hb hc hm hq hN hsh hf =>
    intro n' hn k
    have hmb := k.map b hb
    have := Rep.rw (G := G') (m := m') (w := w') n' b off n c q N e sz (Nat.lt_of_lt_of_le hb hn) hc hm hq hN (by rw [hmb]; exact hsh.imp fun _ q => k.shp _ _ _ q) (by rw [hmb]; exact hf)
    rwa [hmb] at this
  | own0 n b e sz hb => intro n' hn k; exact .own0 _ _ _ _ (Nat.lt_of_lt_of_le hb hn)
  | own1 n b e c sz xs F hb hp hc hm h0 hz hsh hg hfr hx hr ih =>
    intro n' hn k
    have hmb := k.map b hb
    have := Rep.own1 (G := G') (m := m') (w := w') n' b e c sz xs F (Nat.lt_of_lt_of_le hb hn) hp hc hm h0 hz (by rw [hmb]; exact k.shp _ _ _ hsh) (by rw [hmb]; exact Nat.le_trans hg (k.grow _)) (by rw [hmb]; exact hfr) (fun i hi j hj => by
      rw [hmb, k.cell _ _ (by have := row_lt hi hj; omega)]; exact hx i hi j hj) (fun i hi j hj => ih i hi j hj (Nat.le_refl _) (k.zero _))
    rwa [hmb] at this
  | mp n b hb => intro n' hn k; rw [← k.map b hb]; exact .mp _ _ (Nat.lt_of_lt_of_le hb hn)
mutual
def PV.under (d : Nat) : PV → Bool
  | .any => true
  | .con _ => true
  | .agg cs => undersL d cs
  | .tup cs => undersL d cs
  | .sl _ => true
  | .ptr b _ => Nat.blt b d
  | .ept _ _ => true
  | .fn _ cs => undersL d cs
  | .bm _ cs => undersL d cs
  | .ifc _ _ => true
  | .rw b _ _ _ _ => Nat.blt b d
  | .row _ => true
  | .own b _ _ _ => Nat.blt b d
  | .tip => true
  | .mp b => Nat.blt b d
  | .mpc _ _ _ _ => true
def undersL (d : Nat) : List PV → Bool
  | [] => true
  | c :: cs => PV.under d c && undersL d cs
end
theorem blt_lt {a b : Nat} (h : Nat.blt a b = true) : a < b := Nat.le_of_ble_eq_true h
theorem undersL_at {d : Nat} : ∀ {cs : List PV}, undersL d cs = true → ∀ i, i < cs.length → (cs.getD i .any).under d = true
  | [], _, i, h => absurd h (Nat.not_lt_zero _)
  | c :: cs, h, i, hi => by
    simp only [undersL, Bool.and_eq_true] at h
    cases i with
    | zero => exact h.1
    | succ i => exact undersL_at h.2 i (by simpa using hi)
theorem Rep.lower {G : Nat → Nat} {m : Nat → Pl} {w : World} {n : Nat} {v : Value} {p : PV} (h : Rep G m w n v p) : ∀ {d : Nat}, p.under d = true → Rep G m w d v p := by
  induction h with
  | any n v => intro d hd; exact .any _ _
  | con n v => intro d hd; exact .con _ _
  | agg n vs cs hl hr ih => intro d hd; exact .agg _ _ _ hl (fun i hi => ih i hi (undersL_at (by simpa [PV.under] using hd) i hi))
  | tup n vs cs hl hr ih => intro d hd; exact .tup _ _ _ hl (fun i hi => ih i hi (undersL_at (by simpa [PV.under] using hd) i hi))
  | sl n a c sz xs F hc hm hz ha hr ih => intro d hd; exact .sl _ a c sz xs F hc hm hz ha hr
  | ptr n b off hb => intro d hd; exact .ptr _ _ _ (blt_lt (by simpa [PV.under] using hd))
  | ept n g o off cs F hs hc hr ih => intro d hd; exact .ept _ g o off cs F hs hc hr
  | fn n f vs cs hl hr ih => intro d hd; exact .fn _ _ _ _ hl (fun i hi => ih i hi (undersL_at (by simpa [PV.under] using hd) i hi))
  | bm n f vs cs hl hr ih => intro d hd; exact .bm _ _ _ _ hl (fun i hi => ih i hi (undersL_at (by simpa [PV.under] using hd) i hi))
  | ifc n t v p hr ih => intro d hd; exact .ifc _ _ _ _ hr
  | rw0 n0 b e sz hb => intro d hd; exact .rw0 _ _ _ _ (blt_lt (by simpa [PV.under] using hd))
  | rw n0 b off n c q N e sz hb hc hm hq hN hsh hf => intro d hd; exact .rw _ _ _ _ _ _ N _ _ (blt_lt (by simpa [PV.under] using hd)) hc hm hq hN hsh hf
  | own0 n b e sz hb => intro d hd; exact .own0 _ _ _ _ (blt_lt (by simpa [PV.under] using hd))
  | own1 n b e c sz xs F hb hp hc hm h0 hz hsh hg hfr hx hr ih => intro d hd; exact .own1 _ b e c sz xs F (blt_lt (by simpa [PV.under] using hd)) hp hc hm h0 hz hsh hg hfr hx hr
  | mp n b hb => intro d hd; exact .mp _ _ (blt_lt (by simpa [PV.under] using hd))
inductive BK where
  | dead
  | tip
  | mpc (k e : TypeId) (n : Nat) (D : DataW Unit)
  | row (cs : List PV)
  | cells
def kind : List PV → BK
  | [] => .dead
  | p :: r => match r with
    | [] => match p with
      | .tip => .tip
      | .mpc k e n D => .mpc k e n D
      | .row cs => .row cs
      | _ => .cells
    | _ :: _ => .cells
def alive (m : Nat → Pl) (h : Heap) (b : Nat) : Prop := match kind (h.getD b []) with
  | .dead => False
  | .tip => (m b).fr ≠ 0
  | .row _ => (m b).fr ≠ 0
  | _ => True
def Lies (P : Program) (G : Nat → Nat) (m : Nat → Pl) (w : World) (n : Nat) (p : Pl) (l : List PV) : Prop := match kind l with
  | .dead => True
  | .tip => p.fr ≠ 0 → G p.at' = p.fr ∧ ∃ e N, Shp w p.at' e N
  | .mpc k e c D => w.ownsMap P k (plainElem P e) p.at' c D ∧ G p.at' = 0
  | .row l => (p.fr ≠ 0 → (∃ (cs : List Value) (T : TypeId), w.heap[p.at']? = some (.cells cs.toArray T (0, 0)) ∧ l.length ≤ cs.length ∧ ∀ j, j < l.length → Rep G m w 0 (cs.getD j undef) (l.getD j .any)) ∧ G p.at' = 0) ∧ (p.fr = 0 → l = [])
  | .cells => (∃ (cs : List Value) (T : TypeId), w.heap[p.at']? = some (.cells cs.toArray T (0, 0)) ∧ l.length ≤ cs.length ∧ ∀ j, j < l.length → Rep G m w n (cs.getD j undef) (l.getD j .any)) ∧ G p.at' = 0
structure HS (P : Program) (G : Nat → Nat) (m : Nat → Pl) (w : World) (h : Heap) : Prop where
  blk : ∀ b, b < h.length → Lies P G m w h.length (m b) (h.getD b [])
  inj : ∀ b b', b < h.length → b' < h.length → alive m h b → alive m h b' → (m b).at' = (m b').at' → b = b'
  old : ∀ g, G g ≠ 0 → g < w.heap.size
structure Goes (G : Nat → Nat) (m : Nat → Pl) (w : World) (h : Heap) (G' : Nat → Nat) (m' : Nat → Pl) (w' : World) (h' : Heap) : Prop where
  os : w'.os = w.os
  tape : w'.tape = w.tape
  output : w'.output = w.output
  size : w.heap.size ≤ w'.heap.size
  num : h.length ≤ h'.length
  grow : ∀ g, G g ≤ G' g
  cell : ∀ g o, o < G g → w'.cell? ⟨g, o, none⟩ = w.cell? ⟨g, o, none⟩
  shp : ∀ g e N, Shp w g e N → Shp w' g e N
  map : ∀ b, b < h.length → m' b = m b
  aliv : ∀ b, b < h.length → alive m' h' b → alive m h b
  rest : ∀ k, k < w.heap.size → (∀ b, b < h.length → alive m h b → (m b).at' ≠ k) → w'.heap[k]? = w.heap[k]? ∧ G' k = G k
  new : ∀ b, h.length ≤ b → b < h'.length → alive m' h' b → w.heap.size ≤ (m' b).at' ∨ ∃ b0, b0 < h.length ∧ alive m h b0 ∧ (m' b).at' = (m b0).at'
variable {P : Program} {G : Nat → Nat} {m : Nat → Pl} {w : World} {h : Heap} {G' : Nat → Nat} {m' : Nat → Pl} {w' : World} {h' : Heap}
theorem Goes.refl (G : Nat → Nat) (m : Nat → Pl) (w : World) (h : Heap) : Goes G m w h G m w h :=
  ⟨rfl, rfl, rfl, Nat.le_refl _, Nat.le_refl _, fun _ => Nat.le_refl _, fun _ _ _ => rfl, fun _ _ _ h => h, fun _ _ => rfl, fun _ _ h => h, fun _ _ _ => ⟨rfl, rfl⟩, fun b h1 h2 => absurd h2 (by omega)⟩
theorem Goes.keeps (k : Goes G m w h G' m' w' h') : Keeps G m w h.length G' m' w' := ⟨k.grow, k.cell, k.shp, k.map⟩
theorem Goes.trans {G1 : Nat → Nat} {m1 : Nat → Pl} {w1 : World} {h1 : Heap} {G2 : Nat → Nat} {m2 : Nat → Pl} {w2 : World} {h2 : Heap} (a : Goes G m w h G1 m1 w1 h1) (k : Goes G1 m1 w1 h1 G2 m2 w2 h2) : Goes G m w h G2 m2 w2 h2 where
  os := k.os.trans a.os
  tape := k.tape.trans a.tape
  output := k.output.trans a.output
  size := Nat.le_trans a.size k.size
  num := Nat.le_trans a.num k.num
  grow := fun g => Nat.le_trans (a.grow g) (k.grow g)
  cell := fun g o ho => (k.cell g o (Nat.lt_of_lt_of_le ho (a.grow g))).trans (a.cell g o ho)
  shp := fun g e N hs => k.shp g e N (a.shp g e N hs)
  map := fun b hb => (k.map b (Nat.lt_of_lt_of_le hb a.num)).trans (a.map b hb)
  aliv := fun b hb ha => a.aliv b hb (k.aliv b (Nat.lt_of_lt_of_le hb a.num) ha)
  rest := fun j hj hb => by
    have h1 := a.rest j hj hb
    have h2 := k.rest j (Nat.lt_of_lt_of_le hj a.size) (fun b hb' ha => by
      by_cases hbn : b < h.length
      · rw [a.map b hbn]; exact hb b hbn (a.aliv b hbn ha)
      · rcases a.new b (by omega) hb' ha with hn | ⟨b0, q1, q2, q3⟩
        · omega
        · rw [q3]; exact hb b0 q1 q2)
    exact ⟨h2.1.trans h1.1, h2.2.trans h1.2⟩
  new := fun b hb hb2 ha => by
    by_cases hbn : b < h1.length
    · rw [k.map b hbn]; exact a.new b hb hbn (k.aliv b hbn ha)
    · rcases k.new b (by omega) hb2 ha with hn | ⟨b0, q1, q2, q3⟩
      · left; exact Nat.le_trans a.size hn
      · rw [q3]
        by_cases hb0 : b0 < h.length
        · right; exact ⟨b0, hb0, a.aliv b0 hb0 q2, by rw [a.map b0 hb0]⟩
        · exact a.new b0 (by omega) q1 q2
theorem Goes.below (k : Goes G m w [] G' m' w' h') : Below w.heap.size w w' :=
  ⟨k.os, k.tape, k.output, k.size, fun j hj => (k.rest j hj (fun b hb => absurd hb (Nat.not_lt_zero _))).1⟩
def Args (G : Nat → Nat) (m : Nat → Pl) (w : World) (n : Nat) (vs : Array Value) (ps : List PV) : Prop := vs.size = ps.length ∧ ∀ i, i < ps.length → Rep G m w n (vs.getD i undef) (ps.getD i .any)
def ACalls (P : Program) (f : FuncId) (args : List PV) (h : Heap) (Q : PV → Heap → Prop) : Prop :=
  ∀ (G : Nat → Nat) (m : Nat → Pl) (w : World) (vs : Array Value), HS P G m w h → Args G m w h.length vs args →
    Calls P f vs w fun e w' => ∃ v r h' G' m', e = .returned v ∧ Q r h' ∧ Rep G' m' w' h'.length v r ∧ HS P G' m' w' h' ∧ Goes G m w h G' m' w' h'
def Thrown (P : Program) (H : Value → Prop) (G : Nat → Nat) (m : Nat → Pl) (w : World) (h : Heap) (c : List PanicEntry) (w' : World) : Prop :=
  ∃ v h' G' m', c = [{ v := v, recovered := false }] ∧ H v ∧ HS P G' m' w' h' ∧ Goes G m w h G' m' w' h'
def TCalls (P : Program) (f : FuncId) (args : List PV) (h : Heap) (Q : PV → Heap → Prop) (H : Value → Prop) : Prop :=
  ∀ (G : Nat → Nat) (m : Nat → Pl) (w : World) (vs : Array Value), HS P G m w h → Args G m w h.length vs args →
    Calls P f vs w fun e w' => (∃ v r h' G' m', e = .returned v ∧ Q r h' ∧ Rep G' m' w' h'.length v r ∧ HS P G' m' w' h' ∧ Goes G m w h G' m' w' h') ∨ ∃ c, e = .panicked c ∧ Thrown P H G m w h c w'
def Throws (P : Program) (H : Value → Prop) (Q : Exit → Act → World → Prop) (G : Nat → Nat) (m : Nat → Pl) (w : World) (h : Heap) : Prop := ∀ c a' w', a'.defers = [] → Thrown P H G m w h c w' → Q (.panic c) a' w'
theorem Thrown.from {H : Value → Prop} {c : List PanicEntry} {w2 : World} (g : Goes G m w h G' m' w' h') (t : Thrown P H G' m' w' h' c w2) : Thrown P H G m w h c w2 := by
  obtain ⟨v, h2, G2, m2, e1, e2, e3, e4⟩ := t
  exact ⟨v, h2, G2, m2, e1, e2, e3, g.trans e4⟩
theorem Throws.from {H : Value → Prop} {Q : Exit → Act → World → Prop} (g : Goes G m w h G' m' w' h') (k : Throws P H Q G m w h) : Throws P H Q G' m' w' h' := fun c a w2 hd t => k c a w2 hd (t.from g)
theorem ACalls.t {f : FuncId} {args : List PV} {Q : PV → Heap → Prop} {H : Value → Prop} (k : ACalls P f args h Q) : TCalls P f args h Q H := fun G m w vs hs ha => (k G m w vs hs ha).mono fun e w' q => .inl q
theorem TCalls.a {f : FuncId} {args : List PV} {Q : PV → Heap → Prop} (k : TCalls P f args h Q fun _ => False) : ACalls P f args h Q := fun G m w vs hs ha => (k G m w vs hs ha).mono fun e w' q => by
  rcases q with q | ⟨c, _, v, _, _, _, _, q, _⟩
  · exact q
  · exact q.elim
theorem TCalls.mono {f : FuncId} {args : List PV} {Q Q' : PV → Heap → Prop} {H H' : Value → Prop} (k : TCalls P f args h Q H) (hq : ∀ r h', Q r h' → Q' r h') (hh : ∀ v, H v → H' v) : TCalls P f args h Q' H' := fun G m w vs hs ha =>
  (k G m w vs hs ha).mono fun e w' q => by
    rcases q with ⟨v, r, h', G', m', he, hQ, x⟩ | ⟨c, he, v, h', G', m', e1, e2, x⟩
    · exact .inl ⟨v, r, h', G', m', he, hq _ _ hQ, x⟩
    · exact .inr ⟨c, he, v, h', G', m', e1, hh _ e2, x⟩
def PCalls (P : Program) (f : FuncId) (args : List PV) (Q : PV → Prop) : Prop := ACalls P f args [] fun r _ => Q r ∧ r.under 0 = true
theorem HS.bare (k : HS P G m w h) : HS P G m w [] := ⟨fun b hb => absurd hb (Nat.not_lt_zero _), fun b _ hb => absurd hb (Nat.not_lt_zero _), k.old⟩
theorem ACalls.mono {f : FuncId} {args : List PV} {Q Q' : PV → Heap → Prop} (k : ACalls P f args h Q) (hq : ∀ r h', Q r h' → Q' r h') : ACalls P f args h Q' := fun G m w vs hh ha =>
  (k G m w vs hh ha).mono fun e w' ⟨v, r, h', G', m', he, hQ, x⟩ => ⟨v, r, h', G', m', he, hq _ _ hQ, x⟩
theorem World.ownsMap_of_block {b n : Nat} {k : TypeId} {R : Value → Option (DataW Unit × List MemPlace)} {D : DataW Unit} (hm : w.ownsMap P k R b n D) (e : w'.heap[b]? = w.heap[b]?) : w'.ownsMap P k R b n D := by
  obtain ⟨es, clock, hb, F⟩ := hm
  exact ⟨es, clock, e.trans hb, F⟩
theorem Lies.keep {n n' : Nat} {p : Pl} {l : List PV} (k : Lies P G m w n p l) (ks : Keeps G m w n G' m' w') (hn : n ≤ n') (e : (match kind l with | .dead => False | .tip => p.fr ≠ 0 | .row _ => p.fr ≠ 0 | _ => True) → w'.heap[p.at']? = w.heap[p.at']? ∧ G' p.at' = G p.at') : Lies P G' m' w' n' p l := by
  unfold Lies at k ⊢
  split
  · trivial
  · rename_i hk
    rw [hk] at k e
    intro h0
    obtain ⟨q1, x, N, q2⟩ := k h0
    exact ⟨by rw [(e h0).2]; exact q1, x, N, ks.shp _ _ _ q2⟩
  · rename_i hk
    rw [hk] at k e
    obtain ⟨e1, e2⟩ := e trivial
    exact ⟨World.ownsMap_of_block k.1 e1, by rw [e2]; exact k.2⟩
  · rename_i hk
    rw [hk] at k e
    refine ⟨fun h0 => ?_, k.2⟩
    obtain ⟨e1, e2⟩ := e h0
    obtain ⟨⟨cs, T, q1, q2, q3⟩, q4⟩ := k.1 h0
    exact ⟨⟨cs, T, e1.trans q1, q2, fun j hj => (q3 j hj).keep (Nat.le_refl _) (ks.zero _)⟩, by rw [e2]; exact q4⟩
  · rename_i hk
    rw [hk] at k e
    obtain ⟨e1, e2⟩ := e trivial
    obtain ⟨⟨cs, T, q1, q2, q3⟩, q4⟩ := k
    exact ⟨⟨cs, T, e1.trans q1, q2, fun j hj => (q3 j hj).keep hn ks⟩, by rw [e2]; exact q4⟩
theorem Lies.lt {n : Nat} {p : Pl} {l : List PV} (k : Lies P G m w n p l) (ha : match kind l with | .dead => False | .tip => p.fr ≠ 0 | .row _ => p.fr ≠ 0 | _ => True) : p.at' < w.heap.size := by
  unfold Lies at k
  split at ha
  · exact ha.elim
  · rename_i hk
    rw [hk] at k
    obtain ⟨_, x, N, cs, q, _⟩ := k ha
    exact (Array.getElem?_eq_some_iff.1 q).1
  · rename_i hk
    rw [hk] at k
    obtain ⟨⟨cs, T, q1, _⟩, _⟩ := k.1 ha
    exact (Array.getElem?_eq_some_iff.1 q1).1
  · rename_i hk1 hk2 hk3
    split at k
    · rename_i hk; exact absurd hk hk1
    · rename_i hk; exact absurd hk hk2
    · exact k.1.lt
    · rename_i hk; exact absurd hk (hk3 _)
    · obtain ⟨⟨cs, T, q1, _⟩, _⟩ := k
      exact (Array.getElem?_eq_some_iff.1 q1).1
theorem HS.lt (k : HS P G m w h) {b : Nat} (hb : b < h.length) (ha : alive m h b) : (m b).at' < w.heap.size := (k.blk b hb).lt ha
theorem HS.over (k : HS P G m w h) {h0 : Heap} (g : Goes G m w [] G' m' w' h0) (ho : ∀ g, G' g ≠ 0 → g < w'.heap.size) : HS P G' m w' h ∧ Goes G m w h G' m w' h := by
  have ks : Keeps G m w h.length G' m w' := ⟨g.grow, g.cell, g.shp, fun _ _ => rfl⟩
  have hr : ∀ k, k < w.heap.size → w'.heap[k]? = w.heap[k]? ∧ G' k = G k := fun k hk => g.rest k hk (fun b hb => absurd hb (Nat.not_lt_zero _))
  exact ⟨⟨fun b hb => (k.blk b hb).keep ks (Nat.le_refl _) (fun ha => hr _ (k.lt hb ha)), k.inj, ho⟩,
    ⟨g.os, g.tape, g.output, g.size, Nat.le_refl _, g.grow, g.cell, g.shp, fun _ _ => rfl, fun _ _ h => h, fun j hj _ => hr j hj, fun b h1 h2 => absurd h2 (by omega)⟩⟩
theorem PCalls.at {f : FuncId} {args : List PV} {Q : PV → Prop} (k : PCalls P f args Q) (hp : undersL 0 args = true) (h : Heap) : ACalls P f args h fun r h' => Q r ∧ h' = h := fun G m w vs hh ha =>
  (k G m w vs hh.bare ⟨ha.1, fun i hi => (ha.2 i hi).lower (undersL_at hp i hi)⟩).mono fun e w' ⟨v, r, h', G', m', he, ⟨hQ, hr⟩, hrep, hs, hg⟩ => by
    obtain ⟨h1, h2⟩ := hh.over hg hs.old
    refine ⟨v, r, h, G', m, he, ⟨hQ, rfl⟩, ?_, h1, h2⟩
    have hr0 : Rep G' m' w' 0 v r := hrep.lower hr
    exact hr0.keep (Nat.zero_le _) ⟨fun _ => Nat.le_refl _, fun _ _ _ => rfl, fun _ _ _ h => h, fun b hb => absurd hb (Nat.not_lt_zero _)⟩
end Go.Proofs.YtboopmfjkepilaaGreatDoor.Deep

namespace Go.Proofs.YtboopmfjkepilaaGreatDoor.Deep
open Go.RowKit
set_option linter.unusedVariables false
variable {P : Program} {G : Nat → Nat} {m : Nat → Pl} {w : World} {h : Heap}
theorem getD_set_ne {α : Type} (l : List α) {i j : Nat} (x d : α) (h : i ≠ j) : (l.set i x).getD j d = l.getD j d := by
  rw [List.getD_eq_getElem?_getD, List.getElem?_set_ne h, ← List.getD_eq_getElem?_getD]
theorem getD_set_eq {α : Type} (l : List α) {i : Nat} (x d : α) (h : i < l.length) : (l.set i x).getD i d = x := by
  rw [List.getD_eq_getElem?_getD, List.getElem?_set_self h]; rfl
def splice : Nat → List PV → List PV → List PV
  | _, [], cs => cs
  | o, p :: ps, cs => splice (o + 1) ps (cs.set o p)
theorem splice_length : ∀ (o : Nat) (ps cs : List PV), (splice o ps cs).length = cs.length
  | _, [], _ => rfl
  | o, p :: ps, cs => by rw [splice, splice_length]; simp
theorem splice_out : ∀ (ps : List PV) (o : Nat) (cs : List PV) (j : Nat), j < o ∨ o + ps.length ≤ j → (splice o ps cs).getD j .any = cs.getD j .any
  | [], _, _, _, _ => rfl
  | p :: ps, o, cs, j, h => by
    simp only [List.length_cons] at h
    rw [splice, splice_out ps (o + 1) _ j (by omega), getD_set_ne _ _ _ (by omega)]
theorem splice_in : ∀ (ps : List PV) (o : Nat) (cs : List PV), o + ps.length ≤ cs.length → ∀ j, j < ps.length → (splice o ps cs).getD (o + j) .any = ps.getD j .any
  | [], _, _, _, j, hj => absurd hj (Nat.not_lt_zero _)
  | p :: ps, o, cs, h, j, hj => by
    rw [splice]
    simp only [List.length_cons] at h
    cases j with
    | zero =>
      rw [splice_out _ _ _ _ (by omega), Nat.add_zero, getD_set_eq _ _ _ (by omega)]; rfl
    | succ j =>
      have := splice_in ps (o + 1) (cs.set o p) (by simp; omega) j (by simpa using hj)
      rw [show o + (j + 1) = o + 1 + j by omega, this]; simp
theorem setCells_heap (b : Nat) : ∀ (vs : List Value) (o : Nat) (w : World) (cs : List Value) (T : TypeId) (fz : Nat × Nat), w.heap[b]? = some (.cells cs.toArray T fz) → o + vs.length ≤ cs.length →
    ∃ cs' : List Value, (w.setCells b o vs).heap[b]? = some (.cells cs'.toArray T fz) ∧ cs'.length = cs.length ∧ (∀ j, j < vs.length → cs'.getD (o + j) undef = vs.getD j undef) ∧ (∀ j, j < o ∨ o + vs.length ≤ j → cs'.getD j undef = cs.getD j undef) ∧
      (∀ k, k ≠ b → (w.setCells b o vs).heap[k]? = w.heap[k]?) ∧ (w.setCells b o vs).heap.size = w.heap.size ∧ (w.setCells b o vs).os = w.os ∧ (w.setCells b o vs).tape = w.tape ∧ (w.setCells b o vs).output = w.output
  | [], o, w, cs, T, fz, h, hl => ⟨cs, h, rfl, fun j hj => absurd hj (Nat.not_lt_zero _), fun _ _ => rfl, fun _ _ => rfl, rfl, rfl, rfl, rfl⟩
  | v :: vs, o, w, cs, T, fz, h, hl => by
    simp only [List.length_cons] at hl
    have h1 : (w.setCell ⟨b, o, none⟩ v).heap[b]? = some (.cells (cs.set o v).toArray T fz) := by
      simp [World.setCell, Array.getElem?_modify, h]
    have h2 : ∀ k, k ≠ b → (w.setCell ⟨b, o, none⟩ v).heap[k]? = w.heap[k]? := fun k hk => by
      simp [World.setCell, Array.getElem?_modify]; intro he; exact absurd he.symm hk
    obtain ⟨cs', g1, g2, g3, g4, g5, g6, g7, g8, g9⟩ := setCells_heap b vs (o + 1) (w.setCell ⟨b, o, none⟩ v) (cs.set o v) T fz h1 (by simp; omega)
    refine ⟨cs', g1, by simpa using g2, fun j hj => ?_, fun j hj => ?_, fun k hk => (g5 k hk).trans (h2 k hk), by rw [World.setCells, g6]; simp [World.setCell], g7, g8, g9⟩
    · cases j with
      | zero =>
        have := g4 o (by omega)
        simp only [Nat.add_zero]
        rw [this, getD_set_eq _ _ _ (by omega)]; rfl
      | succ j =>
        have := g3 j (by simpa using hj)
        rw [show o + (j + 1) = o + 1 + j by omega, this]; simp
    · simp only [List.length_cons] at hj
      rw [g4 j (by omega), getD_set_ne _ _ _ (by omega)]
def updM (m : Nat → Pl) (b : Nat) (p : Pl) : Nat → Pl := fun x => if x = b then p else m x
def updG (G : Nat → Nat) (g s : Nat) : Nat → Nat := fun x => if x = g then s else G x
theorem updM_eq (m : Nat → Pl) (b : Nat) (p : Pl) : updM m b p b = p := if_pos rfl
theorem updM_ne (m : Nat → Pl) {b x : Nat} (p : Pl) (hx : x ≠ b) : updM m b p x = m x := if_neg hx
theorem updG_eq (G : Nat → Nat) (g s : Nat) : updG G g s g = s := if_pos rfl
theorem updG_ne (G : Nat → Nat) {g x : Nat} (s : Nat) (hx : x ≠ g) : updG G g s x = G x := if_neg hx
theorem getD_app_lt (h : Heap) (ps : List PV) {b : Nat} (hb : b < h.length) : (h ++ [ps]).getD b [] = h.getD b [] := by
  rw [List.getD_eq_getElem?_getD, List.getElem?_append_left hb, ← List.getD_eq_getElem?_getD]
theorem getD_app_eq (h : Heap) (ps : List PV) : (h ++ [ps]).getD h.length [] = ps := by
  rw [List.getD_eq_getElem?_getD, List.getElem?_append_right (Nat.le_refl _)]; simp
theorem alive_congr {m m' : Nat → Pl} {h h' : Heap} {b : Nat} (e : h'.getD b [] = h.getD b []) (em : m' b = m b) : alive m' h' b ↔ alive m h b := by unfold alive; rw [e, em]
theorem Shp.lt {g : Nat} {e : TypeId} {N : Nat} (k : Shp w g e N) : g < w.heap.size := by
  obtain ⟨cs, q, _⟩ := k
  exact (Array.getElem?_eq_some_iff.1 q).1
theorem Shp.block {w' : World} {g : Nat} {e : TypeId} {N : Nat} (k : Shp w g e N) (hb : w'.heap[g]? = w.heap[g]?) : Shp w' g e N := by
  obtain ⟨cs, q, x⟩ := k
  exact ⟨cs, hb.trans q, x⟩
theorem cell_block {w' : World} {g : Nat} (o : Nat) (hb : w'.heap[g]? = w.heap[g]?) : w'.cell? ⟨g, o, none⟩ = w.cell? ⟨g, o, none⟩ := by
  unfold World.cell?; simp only; rw [hb]
theorem HS.add (k : HS P G m w h) {W : World} (o : Obj) (hW : W.heap = w.heap.push o) (h1 : W.os = w.os) (h2 : W.tape = w.tape) (h3 : W.output = w.output) (ps : List PV) (s fr : Nat)
    (hl : Lies P (updG G w.heap.size s) (updM m h.length ⟨w.heap.size, fr⟩) W (h.length + 1) ⟨w.heap.size, fr⟩ ps) :
    HS P (updG G w.heap.size s) (updM m h.length ⟨w.heap.size, fr⟩) W (h ++ [ps]) ∧ Goes G m w h (updG G w.heap.size s) (updM m h.length ⟨w.heap.size, fr⟩) W (h ++ [ps]) := by
  have hold : ∀ g, g < w.heap.size → W.heap[g]? = w.heap[g]? := fun g hg => by rw [hW, Array.getElem?_push, if_neg (by omega)]
  have hG0 : G w.heap.size = 0 := by
    apply Classical.byContradiction
    intro hn
    exact absurd (k.old _ hn) (Nat.lt_irrefl _)
  have hm : ∀ b, b < h.length → updM m h.length ⟨w.heap.size, fr⟩ b = m b := fun b hb => updM_ne _ _ (by omega)
  have hcell : ∀ g o, o < G g → W.cell? ⟨g, o, none⟩ = w.cell? ⟨g, o, none⟩ := fun g o ho => cell_block o (hold g (k.old g (by omega)))
  have hgrow : ∀ g, G g ≤ updG G w.heap.size s g := fun g => by
    by_cases he : g = w.heap.size
    · rw [he, hG0]; exact Nat.zero_le _
    · rw [updG_ne _ _ he]; exact Nat.le_refl _
  have hshp : ∀ g e N, Shp w g e N → Shp W g e N := fun g e N hs => hs.block (hold g hs.lt)
  have ks : Keeps G m w h.length (updG G w.heap.size s) (updM m h.length ⟨w.heap.size, fr⟩) W := ⟨hgrow, hcell, hshp, hm⟩
  have hz : W.heap.size = w.heap.size + 1 := by rw [hW]; simp
  have hal : ∀ b, b < h.length → (alive (updM m h.length ⟨w.heap.size, fr⟩) (h ++ [ps]) b ↔ alive m h b) := fun b hb => alive_congr (getD_app_lt h ps hb) (hm b hb)
  refine ⟨⟨fun b hb => ?_, fun b b' hb hb' ha ha' he => ?_, fun g hg => ?_⟩, ⟨h1, h2, h3, by omega, by simp, hgrow, hcell, hshp, hm, fun b hb ha => (hal b hb).1 ha, fun j hj hx => ⟨hold j hj, updG_ne _ _ (by omega)⟩, fun b hb hb2 ha => ?_⟩⟩
  · by_cases hb2 : b < h.length
    · rw [getD_app_lt h ps hb2, hm b hb2]
      refine (k.blk b hb2).keep ks (by simp) (fun ha => ?_)
      have hlt := (k.blk b hb2).lt ha
      exact ⟨hold _ hlt, updG_ne _ _ (by omega)⟩
    · obtain rfl : b = h.length := by simp at hb; omega
      rw [getD_app_eq, updM_eq]
      simpa using hl
  · simp only [List.length_append, List.length_cons, List.length_nil] at hb hb'
    by_cases hb2 : b < h.length <;> by_cases hb3 : b' < h.length
    · rw [hm b hb2, hm b' hb3] at he
      exact k.inj b b' hb2 hb3 ((hal b hb2).1 ha) ((hal b' hb3).1 ha') he
    · obtain rfl : b' = h.length := by omega
      rw [hm b hb2, updM_eq] at he
      have := k.lt hb2 ((hal b hb2).1 ha)
      simp only at he; omega
    · obtain rfl : b = h.length := by omega
      rw [hm b' hb3, updM_eq] at he
      have := k.lt hb3 ((hal b' hb3).1 ha')
      simp only at he; omega
    · omega
  · by_cases he : g = w.heap.size
    · omega
    · rw [updG_ne _ _ he] at hg
      have := k.old g hg; omega
  · simp only [List.length_append, List.length_cons, List.length_nil] at hb2
    obtain rfl : b = h.length := by omega
    left; rw [updM_eq]; exact Nat.le_refl _
theorem HS.push (k : HS P G m w h) (cs : List Value) (ps : List PV) (T : TypeId) (hk : kind ps = .cells ∨ kind ps = .dead) (hl : cs.length = ps.length) (hr : ∀ j, j < cs.length → Rep G m w h.length (cs.getD j undef) (ps.getD j .any)) :
    ∃ G' m', (m' h.length).at' = w.heap.size ∧ HS P G' m' (w.alloc (.cells cs.toArray T)) (h ++ [ps]) ∧ Goes G m w h G' m' (w.alloc (.cells cs.toArray T)) (h ++ [ps]) := by
  have hG0 : G w.heap.size = 0 := by
    apply Classical.byContradiction
    intro hn
    exact absurd (k.old _ hn) (Nat.lt_irrefl _)
  have hW : (w.alloc (.cells cs.toArray T)).heap = w.heap.push (.cells cs.toArray T) := rfl
  have hold : ∀ g, g < w.heap.size → (w.alloc (.cells cs.toArray T)).heap[g]? = w.heap[g]? := fun g hg => by rw [hW, Array.getElem?_push, if_neg (by omega)]
  have ks : Keeps G m w h.length (updG G w.heap.size 0) (updM m h.length ⟨w.heap.size, 0⟩) (w.alloc (.cells cs.toArray T)) := ⟨fun g => by
      by_cases he : g = w.heap.size
      · rw [he, hG0]; exact Nat.zero_le _
      · rw [updG_ne _ _ he]; exact Nat.le_refl _, fun g o ho => cell_block o (hold g (k.old g (by omega))), fun g e N hs => hs.block (hold g hs.lt), fun b hb => updM_ne _ _ (by omega)⟩
  have hl2 : Lies P (updG G w.heap.size 0) (updM m h.length ⟨w.heap.size, 0⟩) (w.alloc (.cells cs.toArray T)) (h.length + 1) ⟨w.heap.size, 0⟩ ps := by
    unfold Lies
    rcases hk with hk | hk <;> rw [hk]
    · refine ⟨⟨cs, T, ?_, by omega, fun j hj => (hr j (by omega)).keep (by omega) ks⟩, updG_eq _ _ _⟩
      rw [hW, Array.getElem?_push, if_pos rfl]
    · trivial
  obtain ⟨q1, q2⟩ := k.add (.cells cs.toArray T) hW rfl rfl rfl ps 0 0 hl2
  exact ⟨_, _, by rw [updM_eq], q1, q2⟩
theorem HS.name (k : HS P G m w h) {A : Nat} {cs : List Value} {T : TypeId} (hA : w.heap[A]? = some (.cells cs.toArray T (0, 0))) (hG : G A = 0) (hne : ∀ b, b < h.length → alive m h b → (m b).at' ≠ A) {ps : List PV} (hk : kind ps = .cells) (hl : ps.length ≤ cs.length) (hr : ∀ j, j < ps.length → Rep G m w h.length (cs.getD j undef) (ps.getD j .any)) :
    HS P G (updM m h.length ⟨A, 0⟩) w (h ++ [ps]) ∧ ∀ {G0 : Nat → Nat} {m0 : Nat → Pl} {w0 : World} {h0 : Heap}, w0.heap.size ≤ A → Goes G0 m0 w0 h0 G m w h → Goes G0 m0 w0 h0 G (updM m h.length ⟨A, 0⟩) w (h ++ [ps]) := by
  have hm : ∀ b, b < h.length → updM m h.length ⟨A, 0⟩ b = m b := fun b hb => updM_ne _ _ (by omega)
  have ks : Keeps G m w h.length G (updM m h.length ⟨A, 0⟩) w := ⟨fun _ => Nat.le_refl _, fun _ _ _ => rfl, fun _ _ _ h => h, hm⟩
  have hal : ∀ b, b < h.length → (alive (updM m h.length ⟨A, 0⟩) (h ++ [ps]) b ↔ alive m h b) := fun b hb => alive_congr (getD_app_lt h ps hb) (hm b hb)
  refine ⟨⟨fun b hb => ?_, fun b b' hb hb' ha ha' he => ?_, k.old⟩, fun {G0 m0 w0 h0} hA0 g => ⟨g.os, g.tape, g.output, g.size, by rw [List.length_append]; have := g.num; omega, g.grow, g.cell, g.shp, fun b hb => ?_, fun b hb ha => ?_, g.rest, fun b hb hb2 ha => ?_⟩⟩
  · by_cases hb2 : b < h.length
    · rw [getD_app_lt h ps hb2, hm b hb2]
      exact (k.blk b hb2).keep ks (by simp) (fun ha => ⟨rfl, rfl⟩)
    · obtain rfl : b = h.length := by simp at hb; omega
      rw [getD_app_eq, updM_eq]
      unfold Lies
      rw [hk]
      exact ⟨⟨cs, T, hA, hl, fun j hj => (hr j hj).keep (by simp) ks⟩, hG⟩
  · simp only [List.length_append, List.length_cons, List.length_nil] at hb hb'
    by_cases hb2 : b < h.length <;> by_cases hb3 : b' < h.length
    · rw [hm b hb2, hm b' hb3] at he
      exact k.inj b b' hb2 hb3 ((hal b hb2).1 ha) ((hal b' hb3).1 ha') he
    · obtain rfl : b' = h.length := by omega
      rw [hm b hb2, updM_eq] at he
      exact absurd he (hne b hb2 ((hal b hb2).1 ha))
    · obtain rfl : b = h.length := by omega
      rw [hm b' hb3, updM_eq] at he
      exact absurd he.symm (hne b' hb3 ((hal b' hb3).1 ha'))
    · omega
  · have := g.num
    rw [hm b (by omega)]
    exact g.map b hb
  · have := g.num
    exact g.aliv b hb ((hal b (by omega)).1 ha)
  · simp only [List.length_append, List.length_cons, List.length_nil] at hb2
    by_cases hb3 : b < h.length
    · rw [hm b hb3]
      exact g.new b hb hb3 ((hal b hb3).1 ha)
    · obtain rfl : b = h.length := by omega
      left; rw [updM_eq]; exact hA0
def Hid (z : List PV) (n0 : Nat) (v : Value) (G : Nat → Nat) (m : Nat → Pl) (w : World) (h : Heap) : Prop := ∃ (A : Nat) (cs : List Value) (T : TypeId), v = .pointer (some ⟨A, 0, none⟩) ∧ n0 ≤ A ∧ w.heap[A]? = some (.cells cs.toArray T (0, 0)) ∧ G A = 0 ∧ (∀ b, b < h.length → alive m h b → (m b).at' ≠ A) ∧ z.length ≤ cs.length ∧ ∀ j, j < z.length → Rep G m w h.length (cs.getD j undef) (z.getD j .any)
theorem Hid.go {z : List PV} {n0 : Nat} {v : Value} (k : Hid z n0 v G m w h) {G' : Nat → Nat} {m' : Nat → Pl} {w' : World} {h' : Heap} (g : Goes G m w h G' m' w' h') : Hid z n0 v G' m' w' h' := by
  obtain ⟨A, cs, T, e1, e2, e3, e4, e5, e6, e7⟩ := k
  have hlt : A < w.heap.size := (Array.getElem?_eq_some_iff.1 e3).1
  obtain ⟨r1, r2⟩ := g.rest A hlt e5
  refine ⟨A, cs, T, e1, e2, r1.trans e3, r2.trans e4, fun b hb ha => ?_, e6, fun j hj => (e7 j hj).keep g.num ⟨g.grow, g.cell, g.shp, g.map⟩⟩
  by_cases hb2 : b < h.length
  · rw [g.map b hb2]
    exact e5 b hb2 (g.aliv b hb2 ha)
  · rcases g.new b (by omega) hb ha with q | ⟨b0, q1, q2, q3⟩
    · omega
    · rw [q3]; exact e5 b0 q1 q2
theorem HS.kill (k : HS P G m w h) (b : Nat) : HS P G m w (h.set b []) ∧ Goes G m w h G m w (h.set b []) := by
  have hal : ∀ b', alive m (h.set b []) b' → alive m h b' := fun b' ha => by
    by_cases he : b = b'
    · subst he
      by_cases hb : b < h.length
      · unfold alive at ha; rw [getD_set_eq _ _ _ hb] at ha; exact ha.elim
      · rwa [List.set_eq_of_length_le (by omega)] at ha
    · exact (alive_congr (getD_set_ne _ _ _ he) rfl).1 ha
  refine ⟨⟨fun b' hb' => ?_, fun x y hx hy ha ha' he => k.inj x y (by simpa using hx) (by simpa using hy) (hal x ha) (hal y ha') he, k.old⟩, ⟨rfl, rfl, rfl, Nat.le_refl _, by simp, fun _ => Nat.le_refl _, fun _ _ _ => rfl, fun _ _ _ h => h, fun _ _ => rfl, fun b' _ ha => hal b' ha, fun _ _ _ => ⟨rfl, rfl⟩, fun x h1 h2 => absurd h2 (by simp; omega)⟩⟩
  have hb2 : b' < h.length := by simpa using hb'
  by_cases he : b = b'
  · subst he
    rw [getD_set_eq _ _ _ hb2]
    unfold Lies kind
    trivial
  · rw [getD_set_ne _ _ _ he]
    simpa using k.blk b' hb2
theorem kind_two {l : List PV} (hl : 2 ≤ l.length) : kind l = .cells := by
  match l with
  | [] => simp at hl
  | [p] => simp at hl
  | p :: q :: r => rfl
def PV.mark : PV → Bool
  | .tip => true
  | .mpc _ _ _ _ => true
  | .row _ => true
  | _ => false
theorem kind_one {p : PV} (hp : p.mark = false) : kind [p] = .cells := by
  cases p <;> first | rfl | simp [PV.mark] at hp
theorem kind_splice {l ps : List PV} {o : Nat} (hk : kind l = .cells) (hp : ∀ p ∈ ps, p.mark = false) (ho : o + ps.length ≤ l.length) : kind (splice o ps l) = .cells := by
  by_cases hl : 2 ≤ l.length
  · exact kind_two (by rw [splice_length]; exact hl)
  · match l, hl with
    | [], _ => simp [kind] at hk
    | [x], _ =>
      match ps with
      | [] => exact hk
      | [p] =>
        obtain rfl : o = 0 := by simp at ho; omega
        exact kind_one (hp p (by simp))
      | p :: q :: r => simp at ho; omega
    | x :: y :: r, hl => simp at hl
theorem HS.write (k : HS P G m w h) (b o : Nat) (hb : b < h.length) (hk : kind (h.getD b []) = .cells) (vs : List Value) (ps : List PV) (hl : vs.length = ps.length) (ho : o + ps.length ≤ (h.getD b []).length) (hpm : ∀ p ∈ ps, p.mark = false)
    (hr : ∀ j, j < vs.length → Rep G m w h.length (vs.getD j undef) (ps.getD j .any)) :
    w.there (m b).at' o vs.length ∧ HS P G m (w.setCells (m b).at' o vs) (h.set b (splice o ps (h.getD b []))) ∧ Goes G m w h G m (w.setCells (m b).at' o vs) (h.set b (splice o ps (h.getD b []))) := by
  have hL := k.blk b hb
  unfold Lies at hL
  rw [hk] at hL
  obtain ⟨⟨cs, T, h1, h2, h3⟩, hG0⟩ := hL
  obtain ⟨cs', g1, g2, g3, g4, g5, g6, g7, g8, g9⟩ := setCells_heap (m b).at' vs o w cs T (0, 0) h1 (by omega)
  have hcell : ∀ g x, x < G g → (w.setCells (m b).at' o vs).cell? ⟨g, x, none⟩ = w.cell? ⟨g, x, none⟩ := fun g x hx => by
    have hne : g ≠ (m b).at' := fun he => by rw [he, hG0] at hx; omega
    exact cell_block x (g5 g hne)
  have hshp : ∀ g e N, Shp w g e N → Shp (w.setCells (m b).at' o vs) g e N := fun g e N hs => by
    by_cases he : g = (m b).at'
    · subst he
      obtain ⟨cs2, q1, q2⟩ := hs
      rw [h1] at q1
      simp only [Option.some.injEq, Obj.cells.injEq] at q1
      obtain ⟨q3, rfl, _⟩ := q1
      have : cs.length = cs2.length := by have := congrArg Array.size q3; simpa using this
      exact ⟨cs', g1, by omega⟩
    · exact hs.block (g5 g he)
  have ks : Keeps G m w h.length G m (w.setCells (m b).at' o vs) := ⟨fun _ => Nat.le_refl _, hcell, hshp, fun _ _ => rfl⟩
  have hks := kind_splice hk hpm ho
  have hal : ∀ x, alive m (h.set b (splice o ps (h.getD b []))) x ↔ alive m h x := fun x => by
    by_cases he : b = x
    · subst he
      unfold alive
      rw [getD_set_eq _ _ _ hb, hks, hk]
    · exact alive_congr (getD_set_ne _ _ _ he) rfl
  have hbal : alive m h b := by unfold alive; rw [hk]; trivial
  refine ⟨fun j hj => ?_, ⟨fun b' hb' => ?_, fun x y hx hy ha ha' he => k.inj x y (by simpa using hx) (by simpa using hy) ((hal x).1 ha) ((hal y).1 ha') he, fun g hg => by rw [g6]; exact k.old g hg⟩,
    ⟨g7, g8, g9, by omega, by simp, fun _ => Nat.le_refl _, hcell, hshp, fun _ _ => rfl, fun x _ ha => (hal x).1 ha, fun j hj hx => ⟨g5 j (fun he => hx b hb hbal he.symm), rfl⟩, fun x hx hx2 => absurd hx2 (by simp; omega)⟩⟩
  · constructor
    · simp [World.cell?, h1]; omega
    · simp [World.frozen?, h1]
  · have hb'' : b' < h.length := by simpa using hb'
    simp only [List.length_set]
    by_cases he : b = b'
    · subst he
      rw [getD_set_eq _ _ _ hb'']
      unfold Lies
      rw [hks]
      refine ⟨⟨cs', T, g1, by rw [splice_length]; omega, fun j hj => ?_⟩, hG0⟩
      rw [splice_length] at hj
      by_cases hj2 : j < o ∨ o + vs.length ≤ j
      · rw [g4 j hj2, splice_out _ _ _ _ (by omega)]
        exact (h3 j (by omega)).keep (Nat.le_refl _) ks
      · obtain ⟨i, rfl⟩ : ∃ i, j = o + i := ⟨j - o, by omega⟩
        rw [g3 i (by omega), splice_in _ _ _ ho i (by omega)]
        exact (hr i (by omega)).keep (Nat.le_refl _) ks
    · rw [getD_set_ne _ _ _ he]
      refine (k.blk b' hb'').keep ks (Nat.le_refl _) (fun ha => ⟨g5 _ (fun he2 => he ?_), rfl⟩)
      exact (k.inj _ _ hb'' hb ha hbal he2).symm
theorem HS.pushRow (k : HS P G m w h) (cs : List Value) (ps : List PV) (T : TypeId) (hl : ps.length ≤ cs.length) (hr : ∀ j, j < ps.length → Rep G m w 0 (cs.getD j undef) (ps.getD j .any)) {W : World} (hW : W.heap = w.heap.push (.cells cs.toArray T)) (w1 : W.os = w.os) (w2 : W.tape = w.tape) (w3 : W.output = w.output) :
    ∃ G' m', (m' h.length).at' = w.heap.size ∧ (m' h.length).fr ≠ 0 ∧ HS P G' m' W (h ++ [[.row ps]]) ∧ Goes G m w h G' m' W (h ++ [[.row ps]]) := by
  have hG0 : G w.heap.size = 0 := by
    apply Classical.byContradiction
    intro hn
    exact absurd (k.old _ hn) (Nat.lt_irrefl _)
  have hold : ∀ g, g < w.heap.size → W.heap[g]? = w.heap[g]? := fun g hg => by rw [hW, Array.getElem?_push, if_neg (by omega)]
  have ks : Keeps G m w 0 (updG G w.heap.size 0) (updM m h.length ⟨w.heap.size, 1⟩) W := ⟨fun g => by
      by_cases he : g = w.heap.size
      · rw [he, hG0]; exact Nat.zero_le _
      · rw [updG_ne _ _ he]; exact Nat.le_refl _, fun g o ho => cell_block o (hold g (k.old g (by omega))), fun g e N hs => hs.block (hold g hs.lt), fun b hb => absurd hb (Nat.not_lt_zero _)⟩
  have hl2 : Lies P (updG G w.heap.size 0) (updM m h.length ⟨w.heap.size, 1⟩) W (h.length + 1) ⟨w.heap.size, 1⟩ [.row ps] := by
    unfold Lies kind
    refine ⟨fun _ => ⟨⟨cs, T, ?_, hl, fun j hj => (hr j hj).keep (Nat.le_refl _) ks⟩, updG_eq _ _ _⟩, fun h0 => absurd h0 (by simp)⟩
    rw [hW, Array.getElem?_push, if_pos rfl]
  obtain ⟨q1, q2⟩ := k.add (.cells cs.toArray T) hW w1 w2 w3 [.row ps] 0 1 hl2
  exact ⟨_, _, by rw [updM_eq], by rw [updM_eq]; simp, q1, q2⟩
theorem HS.writeRow (k : HS P G m w h) (b o : Nat) (l : List PV) (hb : b < h.length) (hk : h.getD b [] = [.row l]) (vs : List Value) (ps : List PV) (hl : vs.length = ps.length) (h0 : 0 < ps.length) (ho : o + ps.length ≤ l.length)
    (hr : ∀ j, j < vs.length → Rep G m w 0 (vs.getD j undef) (ps.getD j .any)) :
    w.there (m b).at' o vs.length ∧ HS P G m (w.setCells (m b).at' o vs) (h.set b [.row (splice o ps l)]) ∧ Goes G m w h G m (w.setCells (m b).at' o vs) (h.set b [.row (splice o ps l)]) := by
  have hL := k.blk b hb
  unfold Lies at hL
  rw [hk] at hL
  simp only [kind] at hL
  have hfr : (m b).fr ≠ 0 := fun e => by
    have e2 := hL.2 e
    subst e2
    rw [List.length_nil] at ho; omega
  obtain ⟨⟨cs, T, h1, h2, h3⟩, hG0⟩ := hL.1 hfr
  obtain ⟨cs', g1, g2, g3, g4, g5, g6, g7, g8, g9⟩ := setCells_heap (m b).at' vs o w cs T (0, 0) h1 (by omega)
  have hcell : ∀ g x, x < G g → (w.setCells (m b).at' o vs).cell? ⟨g, x, none⟩ = w.cell? ⟨g, x, none⟩ := fun g x hx => by
    have hne : g ≠ (m b).at' := fun he => by rw [he, hG0] at hx; omega
    exact cell_block x (g5 g hne)
  have hshp : ∀ g e N, Shp w g e N → Shp (w.setCells (m b).at' o vs) g e N := fun g e N hs => by
    by_cases he : g = (m b).at'
    · subst he
      obtain ⟨cs2, q1, q2⟩ := hs
      rw [h1] at q1
      simp only [Option.some.injEq, Obj.cells.injEq] at q1
      obtain ⟨q3, rfl, _⟩ := q1
      have : cs.length = cs2.length := by have := congrArg Array.size q3; simpa using this
      exact ⟨cs', g1, by omega⟩
    · exact hs.block (g5 g he)
  have ks : Keeps G m w h.length G m (w.setCells (m b).at' o vs) := ⟨fun _ => Nat.le_refl _, hcell, hshp, fun _ _ => rfl⟩
  have hal : ∀ x, alive m (h.set b [.row (splice o ps l)]) x ↔ alive m h x := fun x => by
    by_cases he : b = x
    · subst he
      unfold alive
      rw [getD_set_eq _ _ _ hb, hk]
      exact Iff.rfl
    · exact alive_congr (getD_set_ne _ _ _ he) rfl
  have hbal : alive m h b := by unfold alive; rw [hk]; exact hfr
  refine ⟨fun j hj => ?_, ⟨fun b' hb' => ?_, fun x y hx hy ha ha' he => k.inj x y (by simpa using hx) (by simpa using hy) ((hal x).1 ha) ((hal y).1 ha') he, fun g hg => by rw [g6]; exact k.old g hg⟩,
    ⟨g7, g8, g9, by omega, by simp, fun _ => Nat.le_refl _, hcell, hshp, fun _ _ => rfl, fun x _ ha => (hal x).1 ha, fun j hj hx => ⟨g5 j (fun he => hx b hb hbal he.symm), rfl⟩, fun x hx hx2 => absurd hx2 (by simp; omega)⟩⟩
  · constructor
    · simp [World.cell?, h1]; omega
    · simp [World.frozen?, h1]
  · have hb'' : b' < h.length := by simpa using hb'
    simp only [List.length_set]
    by_cases he : b = b'
    · subst he
      rw [getD_set_eq _ _ _ hb'']
      unfold Lies kind
      refine ⟨fun _ => ⟨⟨cs', T, g1, by rw [splice_length]; omega, fun j hj => ?_⟩, hG0⟩, fun e => absurd e hfr⟩
      rw [splice_length] at hj
      by_cases hj2 : j < o ∨ o + vs.length ≤ j
      · rw [g4 j hj2, splice_out _ _ _ _ (by omega)]
        exact (h3 j (by omega)).keep (Nat.le_refl _) (ks.zero _)
      · obtain ⟨i, rfl⟩ : ∃ i, j = o + i := ⟨j - o, by omega⟩
        rw [g3 i (by omega), splice_in _ _ _ ho i (by omega)]
        exact (hr i (by omega)).keep (Nat.le_refl _) (ks.zero _)
    · rw [getD_set_ne _ _ _ he]
      refine (k.blk b' hb'').keep ks (Nat.le_refl _) (fun ha => ⟨g5 _ (fun he2 => he ?_), rfl⟩)
      exact (k.inj _ _ hb'' hb ha hbal he2).symm
theorem HS.regrow (k : HS P G m w h) {b : Nat} (hb : b < h.length) (hk : kind (h.getD b []) = .tip) (h0 : (m b).fr ≠ 0) {e : TypeId} {cur cur' : Array Value} (hg : w.heap[(m b).at']? = some (.cells cur e (0, 0))) (hsz : cur'.size = cur.size)
    (hsame : ∀ j, j < (m b).fr → cur'[j]? = cur[j]?) (fr : Nat) (hfr : (m b).fr ≤ fr) :
    HS P (updG G (m b).at' fr) (updM m h.length ⟨(m b).at', fr⟩) (w.setRow (m b).at' cur') (h.set b [] ++ [[.tip]]) ∧ Goes G m w h (updG G (m b).at' fr) (updM m h.length ⟨(m b).at', fr⟩) (w.setRow (m b).at' cur') (h.set b [] ++ [[.tip]]) := by
  have hL := k.blk b hb
  unfold Lies at hL
  rw [hk] at hL
  obtain ⟨hGb, _⟩ := hL h0
  have hbal : alive m h b := by unfold alive; rw [hk]; exact h0
  have s1 := setRow_heap w (m b).at' cur cur' e (0, 0) hg
  have s2 : ∀ g, g ≠ (m b).at' → (w.setRow (m b).at' cur').heap[g]? = w.heap[g]? := fun g hne => setRow_other w (m b).at' g cur' hne
  have s3 : (w.setRow (m b).at' cur').heap.size = w.heap.size := by simp [World.setRow]
  have hm : ∀ x, x < h.length → updM m h.length ⟨(m b).at', fr⟩ x = m x := fun x hx => updM_ne _ _ (by omega)
  have hcell : ∀ g o, o < G g → (w.setRow (m b).at' cur').cell? ⟨g, o, none⟩ = w.cell? ⟨g, o, none⟩ := fun g o ho => by
    by_cases he : g = (m b).at'
    · subst he
      rw [cell_of_row _ _ o cur' e (0, 0) s1, cell_of_row _ _ o cur e (0, 0) hg]
      exact hsame o (by omega)
    · exact cell_block o (s2 g he)
  have hgrow : ∀ g, G g ≤ updG G (m b).at' fr g := fun g => by
    by_cases he : g = (m b).at'
    · rw [he, updG_eq]; omega
    · rw [updG_ne _ _ he]; exact Nat.le_refl _
  have hshp : ∀ g e N, Shp w g e N → Shp (w.setRow (m b).at' cur') g e N := fun g e2 N hs => by
    by_cases he : g = (m b).at'
    · subst he
      obtain ⟨cs2, q1, q2⟩ := hs
      rw [hg] at q1
      simp only [Option.some.injEq, Obj.cells.injEq] at q1
      obtain ⟨q3, rfl, _⟩ := q1
      refine ⟨cur'.toList, by simpa using s1, ?_⟩
      have := congrArg Array.size q3
      simp at this ⊢; omega
    · exact hs.block (s2 g he)
  have ks : Keeps G m w h.length (updG G (m b).at' fr) (updM m h.length ⟨(m b).at', fr⟩) (w.setRow (m b).at' cur') := ⟨hgrow, hcell, hshp, hm⟩
  have hlen : (h.set b []).length = h.length := by simp
  have hget : ∀ x, x < h.length → (h.set b [] ++ [[PV.tip]]).getD x [] = if x = b then [] else h.getD x [] := fun x hx => by
    rw [getD_app_lt _ _ (by omega)]
    by_cases he : b = x
    · subst he; rw [getD_set_eq _ _ _ hx, if_pos rfl]
    · rw [getD_set_ne _ _ _ he, if_neg (fun e => he e.symm)]
  have hgetn : (h.set b [] ++ [[PV.tip]]).getD h.length [] = [.tip] := by
    have := getD_app_eq (h.set b []) [.tip]
    rwa [hlen] at this
  have hal : ∀ x, x < h.length → alive (updM m h.length ⟨(m b).at', fr⟩) (h.set b [] ++ [[.tip]]) x → x ≠ b ∧ alive m h x := fun x hx ha => by
    unfold alive at ha
    rw [hget x hx, hm x hx] at ha
    by_cases he : x = b
    · rw [if_pos he] at ha; exact ha.elim
    · rw [if_neg he] at ha; exact ⟨he, ha⟩
  refine ⟨⟨fun x hx => ?_, fun x y hx hy ha ha' he => ?_, fun g hg2 => ?_⟩, ⟨rfl, rfl, rfl, by omega, by simp, hgrow, hcell, hshp, hm, fun x hx ha => (hal x hx ha).2, fun j hj hx => ⟨s2 j (fun he => hx b hb hbal he.symm), updG_ne _ _ (fun he => hx b hb hbal he.symm)⟩, fun x hx hx2 ha => ?_⟩⟩
  · by_cases hx2 : x < h.length
    · rw [hget x hx2, hm x hx2]
      by_cases he : x = b
      · rw [if_pos he]; unfold Lies kind; trivial
      · rw [if_neg he]
        refine (k.blk x hx2).keep ks (by simp) (fun ha => ?_)
        have hne : (m x).at' ≠ (m b).at' := fun e2 => he (k.inj x b hx2 hb ha hbal e2)
        exact ⟨s2 _ hne, updG_ne _ _ hne⟩
    · obtain rfl : x = h.length := by simp at hx; omega
      rw [hgetn, updM_eq]
      unfold Lies kind
      exact fun _ => ⟨updG_eq _ _ _, e, cur'.size, cur'.toList, by simpa using s1, by simp⟩
  · simp only [List.length_append, List.length_cons, List.length_nil, List.length_set] at hx hy
    by_cases hx2 : x < h.length <;> by_cases hy2 : y < h.length
    · rw [hm x hx2, hm y hy2] at he
      exact k.inj x y hx2 hy2 (hal x hx2 ha).2 (hal y hy2 ha').2 he
    · obtain rfl : y = h.length := by omega
      rw [hm x hx2, updM_eq] at he
      obtain ⟨q1, q2⟩ := hal x hx2 ha
      exact absurd (k.inj x b hx2 hb q2 hbal he) q1
    · obtain rfl : x = h.length := by omega
      rw [hm y hy2, updM_eq] at he
      obtain ⟨q1, q2⟩ := hal y hy2 ha'
      exact absurd (k.inj y b hy2 hb q2 hbal he.symm) q1
    · omega
  · by_cases he : g = (m b).at'
    · rw [s3, he]; exact k.lt hb hbal
    · rw [updG_ne _ _ he] at hg2
      rw [s3]; exact k.old g hg2
  · simp only [List.length_append, List.length_cons, List.length_nil, List.length_set] at hx2
    obtain rfl : x = h.length := by omega
    right; exact ⟨b, hb, hbal, by rw [updM_eq]⟩
theorem HS.voidRow (k : HS P G m w h) : HS P G (updM m h.length ⟨0, 0⟩) w (h ++ [[.row []]]) ∧ Goes G m w h G (updM m h.length ⟨0, 0⟩) w (h ++ [[.row []]]) := by
  have hm : ∀ b, b < h.length → updM m h.length ⟨0, 0⟩ b = m b := fun b hb => updM_ne _ _ (by omega)
  have ks : Keeps G m w h.length G (updM m h.length ⟨0, 0⟩) w := ⟨fun _ => Nat.le_refl _, fun _ _ _ => rfl, fun _ _ _ h => h, hm⟩
  have hal : ∀ b, b < h.length → (alive (updM m h.length ⟨0, 0⟩) (h ++ [[.row []]]) b ↔ alive m h b) := fun b hb => alive_congr (getD_app_lt h _ hb) (hm b hb)
  have hnew : ¬ alive (updM m h.length ⟨0, 0⟩) (h ++ [[.row []]]) h.length := by
    unfold alive
    rw [getD_app_eq, updM_eq]
    exact fun e => e rfl
  refine ⟨⟨fun b hb => ?_, fun b b' hb hb' ha ha' he => ?_, k.old⟩, ⟨rfl, rfl, rfl, Nat.le_refl _, by simp, fun _ => Nat.le_refl _, fun _ _ _ => rfl, fun _ _ _ h => h, hm, fun b hb ha => (hal b hb).1 ha, fun _ _ _ => ⟨rfl, rfl⟩, fun b hb hb2 ha => ?_⟩⟩
  · by_cases hb2 : b < h.length
    · rw [getD_app_lt h _ hb2, hm b hb2]
      exact (k.blk b hb2).keep ks (by simp) (fun _ => ⟨rfl, rfl⟩)
    · obtain rfl : b = h.length := by simp at hb; omega
      rw [getD_app_eq, updM_eq]
      unfold Lies kind
      exact ⟨fun e => absurd rfl e, fun _ => rfl⟩
  · simp only [List.length_append, List.length_cons, List.length_nil] at hb hb'
    by_cases hb2 : b < h.length <;> by_cases hb3 : b' < h.length
    · rw [hm b hb2, hm b' hb3] at he
      exact k.inj b b' hb2 hb3 ((hal b hb2).1 ha) ((hal b' hb3).1 ha') he
    · obtain rfl : b' = h.length := by omega
      exact absurd ha' hnew
    · obtain rfl : b = h.length := by omega
      exact absurd ha hnew
    · omega
  · simp only [List.length_append, List.length_cons, List.length_nil] at hb2
    obtain rfl : b = h.length := by omega
    exact absurd ha hnew
theorem HS.regrowRow (k : HS P G m w h) {b : Nat} (hb : b < h.length) {l l' : List PV} (hk : h.getD b [] = [.row l]) (h0 : (m b).fr ≠ 0) {e : TypeId} {cur cur' : Array Value} (hg : w.heap[(m b).at']? = some (.cells cur e (0, 0))) (hsz : cur'.size = cur.size)
    (hl : l'.length ≤ cur'.size) (hr : ∀ j, j < l'.length → Rep G m w 0 (cur'.getD j undef) (l'.getD j .any)) :
    HS P G (updM m h.length (m b)) (w.setRow (m b).at' cur') (h.set b [] ++ [[.row l']]) ∧ Goes G m w h G (updM m h.length (m b)) (w.setRow (m b).at' cur') (h.set b [] ++ [[.row l']]) := by
  have hL := k.blk b hb
  unfold Lies at hL
  rw [hk] at hL
  simp only [kind] at hL
  obtain ⟨_, hGb⟩ := hL.1 h0
  have hbal : alive m h b := by unfold alive; rw [hk]; exact h0
  have s1 := setRow_heap w (m b).at' cur cur' e (0, 0) hg
  have s2 : ∀ g, g ≠ (m b).at' → (w.setRow (m b).at' cur').heap[g]? = w.heap[g]? := fun g hne => setRow_other w (m b).at' g cur' hne
  have s3 : (w.setRow (m b).at' cur').heap.size = w.heap.size := by simp [World.setRow]
  have hm : ∀ x, x < h.length → updM m h.length (m b) x = m x := fun x hx => updM_ne _ _ (by omega)
  have hcell : ∀ g o, o < G g → (w.setRow (m b).at' cur').cell? ⟨g, o, none⟩ = w.cell? ⟨g, o, none⟩ := fun g o ho => by
    have hne : g ≠ (m b).at' := fun he => by rw [he, hGb] at ho; omega
    exact cell_block o (s2 g hne)
  have hshp : ∀ g e N, Shp w g e N → Shp (w.setRow (m b).at' cur') g e N := fun g e2 N hs => by
    by_cases he : g = (m b).at'
    · subst he
      obtain ⟨cs2, q1, q2⟩ := hs
      rw [hg] at q1
      simp only [Option.some.injEq, Obj.cells.injEq] at q1
      obtain ⟨q3, rfl, _⟩ := q1
      refine ⟨cur'.toList, by simpa using s1, ?_⟩
      have := congrArg Array.size q3
      simp at this ⊢; omega
    · exact hs.block (s2 g he)
  have ks : Keeps G m w h.length G (updM m h.length (m b)) (w.setRow (m b).at' cur') := ⟨fun _ => Nat.le_refl _, hcell, hshp, hm⟩
  have hlen : (h.set b []).length = h.length := by simp
  have hget : ∀ x, x < h.length → (h.set b [] ++ [[PV.row l']]).getD x [] = if x = b then [] else h.getD x [] := fun x hx => by
    rw [getD_app_lt _ _ (by omega)]
    by_cases he : b = x
    · subst he; rw [getD_set_eq _ _ _ hx, if_pos rfl]
    · rw [getD_set_ne _ _ _ he, if_neg (fun e => he e.symm)]
  have hgetn : (h.set b [] ++ [[PV.row l']]).getD h.length [] = [.row l'] := by
    have := getD_app_eq (h.set b []) [.row l']
    rwa [hlen] at this
  have hal : ∀ x, x < h.length → alive (updM m h.length (m b)) (h.set b [] ++ [[.row l']]) x → x ≠ b ∧ alive m h x := fun x hx ha => by
    unfold alive at ha
    rw [hget x hx, hm x hx] at ha
    by_cases he : x = b
    · rw [if_pos he] at ha; exact ha.elim
    · rw [if_neg he] at ha; exact ⟨he, ha⟩
  refine ⟨⟨fun x hx => ?_, fun x y hx hy ha ha' he => ?_, fun g hg2 => by rw [s3]; exact k.old g hg2⟩, ⟨rfl, rfl, rfl, by omega, by simp, fun _ => Nat.le_refl _, hcell, hshp, hm, fun x hx ha => (hal x hx ha).2, fun j hj hx => ⟨s2 j (fun he => hx b hb hbal he.symm), rfl⟩, fun x hx hx2 ha => ?_⟩⟩
  · by_cases hx2 : x < h.length
    · rw [hget x hx2, hm x hx2]
      by_cases he : x = b
      · rw [if_pos he]; unfold Lies kind; trivial
      · rw [if_neg he]
        refine (k.blk x hx2).keep ks (by simp) (fun ha => ?_)
        have hne : (m x).at' ≠ (m b).at' := fun e2 => he (k.inj x b hx2 hb ha hbal e2)
        exact ⟨s2 _ hne, rfl⟩
    · obtain rfl : x = h.length := by simp at hx; omega
      rw [hgetn, updM_eq]
      unfold Lies kind
      refine ⟨fun _ => ⟨⟨cur'.toList, e, by simpa using s1, by simpa using hl, fun j hj => ?_⟩, hGb⟩, fun e => absurd e h0⟩
      have := (hr j hj).keep (Nat.le_refl _) (ks.zero (updM m h.length (m b)))
      simpa [Array.getD_eq_getD_getElem?, List.getD_eq_getElem?_getD] using this
  · simp only [List.length_append, List.length_cons, List.length_nil, List.length_set] at hx hy
    by_cases hx2 : x < h.length <;> by_cases hy2 : y < h.length
    · rw [hm x hx2, hm y hy2] at he
      exact k.inj x y hx2 hy2 (hal x hx2 ha).2 (hal y hy2 ha').2 he
    · obtain rfl : y = h.length := by omega
      rw [hm x hx2, updM_eq] at he
      obtain ⟨q1, q2⟩ := hal x hx2 ha
      exact absurd (k.inj x b hx2 hb q2 hbal he) q1
    · obtain rfl : x = h.length := by omega
      rw [hm y hy2, updM_eq] at he
      obtain ⟨q1, q2⟩ := hal y hy2 ha'
      exact absurd (k.inj y b hy2 hb q2 hbal he.symm) q1
    · omega
  · simp only [List.length_append, List.length_cons, List.length_nil, List.length_set] at hx2
    obtain rfl : x = h.length := by omega
    right; exact ⟨b, hb, hbal, by rw [updM_eq]⟩
end Go.Proofs.YtboopmfjkepilaaGreatDoor.Deep

namespace Go.Proofs.YtboopmfjkepilaaGreatDoor.Deep
open Go.RowKit
set_option linter.unusedVariables false
def conP : Value → PV
  | .agg cs => .agg (cs.toList.map .con)
  | v => .con v
def weakV : Value → PV
  | .slice none 0 0 => .sl []
  | v => .con v
mutual
def weak : PV → PV
  | .own _ _ _ xs => .sl xs
  | .con v => weakV v
  | .agg l => .agg (weakL l)
  | .tup l => .tup (weakL l)
  | .fn f l => .fn f (weakL l)
  | .bm f l => .bm f (weakL l)
  | .ifc t p => .ifc t p
  | .rw b o n e z => .rw b o n e z
  | .row cs => .row cs
  | .any => .any
  | .sl xs => .sl xs
  | .ptr b o => .ptr b o
  | .ept l o => .ept l o
  | .tip => .tip
  | .mp b => .mp b
  | .mpc k e n D => .mpc k e n D
def weakL : List PV → List PV
  | [] => []
  | p :: ps => weak p :: weakL ps
end
mutual
def ren (σ : Nat → Nat) : PV → PV
  | .own b e sz xs => .own (σ b) e sz xs
  | .ptr b o => .ptr (σ b) o
  | .mp b => .mp (σ b)
  | .agg l => .agg (renL σ l)
  | .tup l => .tup (renL σ l)
  | .fn f l => .fn f (renL σ l)
  | .bm f l => .bm f (renL σ l)
  | .ifc t p => .ifc t p
  | .rw b o n e z => .rw (σ b) o n e z
  | .row cs => .row cs
  | .con v => .con v
  | .any => .any
  | .sl xs => .sl xs
  | .ept l o => .ept l o
  | .tip => .tip
  | .mpc k e n D => .mpc k e n D
def renL (σ : Nat → Nat) : List PV → List PV
  | [] => []
  | p :: ps => ren σ p :: renL σ ps
end
structure Env where
  n : Nat
  l : List (Nat × PV)
  d : PV
def lookE (d : PV) (t : Nat) : List (Nat × PV) → PV
  | [] => d
  | (k, v) :: r => match Nat.beq t k with | true => v | false => lookE d t r
def Env.get (e : Env) (t : Nat) : PV := match Nat.blt t e.n with | true => lookE e.d t e.l | false => .any
def Env.put (e : Env) (t : Nat) (p : PV) : Env := ⟨e.n, (t, p) :: e.l, e.d⟩
def numE : Nat → List PV → List (Nat × PV)
  | _, [] => []
  | i, p :: ps => (i, p) :: numE (i + 1) ps
def aev (env : Env) : Operand → PV
  | .tmp t => env.get t
  | .const v => conP v
  | .global _ => .any
  | .func f => .fn f []
structure TI where
  has : Bool
  size : Nat
  agg : Bool
  isSl : Bool
  elem : TypeId
  isStr : Bool
  isBool : Bool
  flds : List (Nat × TypeId)
  isStruct : Bool
  zero : Option (List PV)
  bytes : Nat
  mapKE : Option (TypeId × TypeId)
  intK : Option IntKind
  arr : Option (Nat × TypeId)
def infoP (P : Program) (t : TypeId) : TI where
  has := (P.info? t).isSome
  size := P.cellsOf t
  agg := match P.underlying t with | some (.struct _) => true | some (.array _ _) => true | _ => false
  isSl := match P.underlying t with | some (.slice _) => true | _ => false
  elem := match P.underlying t with | some (.slice e) => e | _ => 0
  isStr := match P.underlying t with | some .string => true | _ => false
  isBool := match P.underlying t with | some .bool => true | _ => false
  flds := match P.underlying t with | some (.struct fs) => fs.toList.map (fun f => (f.offset, f.type)) | _ => []
  isStruct := match P.underlying t with | some (.struct _) => true | _ => false
  zero := (P.info? t).bind fun i => i.zero.map fun z => z.cells.toList.map .con
  bytes := match P.info? t with | some i => i.bytes | none => 0
  mapKE := match P.underlying t with | some (.map k e) => some (k, e) | _ => none
  intK := match P.underlying t with
    | some (.int q) => match (P.info? t).bind (fun i => i.zero) with
      | some (.int q' n) => match decide (q = q' ∧ n = 0) with | true => some q | false => none
      | _ => none
    | _ => none
  arr := match P.underlying t with | some (.array n e) => some (n, e) | _ => none
def arrT (T : TypeId → Option TI) (t : TypeId) : Bool := match T t with
  | some ti => match ti.arr with
    | some _ => true
    | none => ti.flds.any fun f => match T f.2 with | some fi => fi.arr.isSome | none => false
  | none => false
inductive Sh where
  | int (k : IntKind)
  | bool
  | str
  | list
  | fn (f : FuncId)
  | own (b : Nat) (e : TypeId) (sz : Nat)
  | ptr (b off : Nat)
  | mp (b : Nat)
  | mpc (k e : TypeId)
  | ifc
  | rw (b off : Nat) (e : TypeId) (sz : Nat)
  | row
  | gro (b : Nat) (e : TypeId) (sz : Nat)
  | nilp
inductive RSh where
  | cell (s : Sh)
  | agg (l : List Sh)
def Sh.V : Sh → Type
  | .int _ => Int
  | .bool => Bool
  | .str => ByteArray
  | .list => List (List PV)
  | .fn _ => Unit
  | .own _ _ _ => List (List PV)
  | .ptr _ _ => Unit
  | .mp _ => Unit
  | .mpc _ _ => Nat × DataW Unit
  | .ifc => TypeId × PV
  | .rw _ _ _ _ => Nat
  | .row => List PV
  | .gro _ _ _ => Nat × List PV
  | .nilp => Unit
def Sh.mk : (s : Sh) → s.V → PV
  | .int k, n => .con (.int k n)
  | .bool, x => .con (.bool x)
  | .str, x => .con (.string x)
  | .list, x => .sl x
  | .fn f, _ => .fn f []
  | .own b e sz, x => .own b e sz x
  | .ptr b off, _ => .ptr b off
  | .mp b, _ => .mp b
  | .mpc k e, x => .mpc k e x.1 x.2
  | .ifc, x => .ifc x.1 x.2
  | .rw b off e sz, n => .rw b off n e sz
  | .row, cs => .row cs
  | .gro b e sz, x => .rw b 0 x.1 e sz
  | .nilp, _ => .con (.pointer none)
def getInt (k : IntKind) : PV → Option Int
  | .con (.int k' n) => match decide (k = k') with | true => some n | false => none
  | _ => none
def getBool : PV → Option Bool
  | .con (.bool x) => some x
  | _ => none
def getStr : PV → Option ByteArray
  | .con (.string x) => some x
  | _ => none
def getList : PV → Option (List (List PV))
  | .sl x => some x
  | .own _ _ _ x => some x
  | .con v => match weakV v with | .sl x => some x | _ => none
  | _ => none
def isNil : Value → Bool
  | .slice none 0 0 => true
  | _ => false
def nilP : PV → Bool
  | .con v => isNil v
  | _ => false
def getOwn (e : TypeId) (sz : Nat) : PV → Option (List (List PV))
  | .own _ e' sz' x => match Nat.beq e e' && Nat.beq sz sz' with | true => some x | false => none
  | .con v => match isNil v with | true => some [] | false => none
  | _ => none
def getPtr (off : Nat) : PV → Option Unit
  | .ptr _ off' => match Nat.beq off off' with | true => some () | false => none
  | _ => none
def getMp : PV → Option Unit
  | .mp _ => some ()
  | _ => none
def getMpc (k e : TypeId) : PV → Option (Nat × DataW Unit)
  | .mpc k' e' n D => match Nat.beq k k' && Nat.beq e e' with | true => some (n, D) | false => none
  | _ => none
def getIfc : PV → Option (TypeId × PV)
  | .ifc t p => some (t, p)
  | _ => none
def getRw (off : Nat) (e : TypeId) (sz : Nat) : PV → Option Nat
  | .rw _ off' n e' sz' => match Nat.beq off off' && Nat.beq e e' && Nat.beq sz sz' with | true => some n | false => none
  | _ => none
def getRow : PV → Option (List PV)
  | .row cs => some cs
  | _ => none
def getGro (e : TypeId) (sz : Nat) : PV → Option (Nat × List PV)
  | .rw _ off n e' sz' => match Nat.beq off 0 && Nat.beq e e' && Nat.beq sz sz' with | true => some (n, []) | false => none
  | .con v => match isNil v with | true => some (0, []) | false => none
  | _ => none
def getNilp : PV → Option Unit
  | .con (.pointer none) => some ()
  | _ => none
def Sh.get : (s : Sh) → PV → Option s.V
  | .int k => getInt k
  | .bool => getBool
  | .str => getStr
  | .list => getList
  | .fn _ => fun _ => none
  | .own _ e sz => getOwn e sz
  | .ptr _ off => getPtr off
  | .mp _ => getMp
  | .mpc k e => getMpc k e
  | .ifc => getIfc
  | .rw _ off e sz => getRw off e sz
  | .row => getRow
  | .gro _ e sz => getGro e sz
  | .nilp => getNilp
def shOf : PV → Option Sh
  | .con (.int k _) => some (.int k)
  | .con (.bool _) => some .bool
  | .con (.string _) => some .str
  | .con (.slice none 0 0) => some .list
  | .sl _ => some .list
  | .con .nilIface => some .ifc
  | _ => none
def shsOf : List PV → Option (List Sh)
  | [] => some []
  | c :: cs => match shOf c with
    | some s => match shsOf cs with | some r => some (s :: r) | none => none
    | none => none
def exF : Sh → (PV → Prop) → Prop
  | .fn f, K => K (.fn f [])
  | .int k, K => ∃ v : Int, K (.con (.int k v))
  | .bool, K => ∃ v : Bool, K (.con (.bool v))
  | .str, K => ∃ v : ByteArray, K (.con (.string v))
  | .list, K => ∃ v : List (List PV), K (.sl v)
  | .own b e sz, K => ∃ v : List (List PV), K (.own b e sz v)
  | .ptr b off, K => K (.ptr b off)
  | .mp b, K => K (.mp b)
  | .mpc k e, K => ∃ n : Nat, ∃ D : DataW Unit, K (.mpc k e n D)
  | .ifc, K => ∃ t : TypeId, ∃ q : PV, K (.ifc t q)
  | .rw b off e sz, K => ∃ n : Nat, K (.rw b off n e sz)
  | .row, K => ∃ cs : List PV, K (.row cs)
  | .gro b e sz, K => ∃ n : Nat, K (.rw b 0 n e sz)
  | .nilp, K => K (.con (.pointer none))
def exC : List Sh → List PV → (List PV → Prop) → Prop
  | [], acc, K => K acc
  | s :: r, acc, K => exF s fun p => exC r (acc ++ [p]) K
def exR : List RSh → List PV → (List PV → Prop) → Prop
  | [], acc, K => K acc
  | .cell s :: r, acc, K => exF s fun p => exR r (acc ++ [p]) K
  | .agg l :: r, acc, K => exC l [] fun cs => exR r (acc ++ [.agg cs]) K
inductive BT where
  | keep
  | dead
  | tip
  | cells (l : List Sh)
inductive AM where
  | weak
  | sh (s : Sh)
  | fp (b off : Nat)
  | pa (b : Nat)
  | asis
  | ag (l : List Sh)
inductive Sg where
  | pure (alts : List (List RSh))
  | eff (ams : List AM) (pre : List BT) (res : List RSh) (post : List BT)
  | effs (alts : List (List AM × List BT × List RSh × List BT))
  | thr (ams : List AM) (pre : List BT) (res : List RSh) (post : List BT)
def exB : List BT → List (List PV) → Heap → (Heap → Prop) → Prop
  | [], _, acc, K => K acc
  | .keep :: r, old, acc, K => exB r old.tail (acc ++ [old.headD []]) K
  | .dead :: r, old, acc, K => exB r old.tail (acc ++ [[]]) K
  | .tip :: r, old, acc, K => exB r old.tail (acc ++ [[.tip]]) K
  | .cells l :: r, old, acc, K => exC l [] fun cs => exB r old.tail (acc ++ [cs]) K
def orR : List (List RSh) → (List PV → Prop) → Prop
  | [], _ => False
  | [r], K => exR r [] K
  | r :: rs, K => exR r [] K ∨ orR rs K
def packR : List PV → PV
  | [p] => p
  | ps => .tup ps
def br (b : Bool) (X Y : Prop) : Prop := match b with | true => X | false => Y
theorem br_out {b : Bool} {X Y : Prop} (h : br b X Y) : (b = true → X) ∧ (b = false → Y) := by
  cases b
  · exact ⟨(fun hh => by cases hh), (fun _ => h)⟩
  · exact ⟨(fun _ => h), (fun hh => by cases hh)⟩
inductive IdxN (xs : List (List PV)) (i : Int) (cs : List PV) (X : Prop) : Prop where
  | mk (h0 : 0 ≤ i) (hx : xs[i.toNat]? = some cs) (hk : X) : IdxN xs i cs X
inductive StrN (s : ByteArray) (i : Int) (b : UInt8) (X : Prop) : Prop where
  | mk (h0 : 0 ≤ i) (hx : s[i.toNat]? = some b) (hk : X) : StrN s i b X
inductive CatN (s t : ByteArray) (X : Prop) : Prop where
  | mk (hz : s.size + t.size ≤ 9223372036854775807) (hk : X) : CatN s t X
inductive CallF (P : Program) (f : FuncId) (args : List PV) (h : Heap) (r : PV) (h' : Heap) (X : Prop) : Prop where
  | mk (he : Enters P f) (hc : ACalls P f args h fun r' h2 => r' = r ∧ h2 = h') (hk : X) : CallF P f args h r h' X
inductive AppN (xs ys : List (List PV)) (sz bytes : Nat) (one : PV → Bool) (X : Prop) : Prop where
  | mk (hl : (xs.length + ys.length) * bytes ≤ 140737488355328) (hy : ∀ y ∈ ys, y.length = sz ∧ ∀ p ∈ y, one p = true) (hk : X) : AppN xs ys sz bytes one X
inductive MapN (D : DataW Unit) (s : ByteArray) (q : IntKind) (c : Int) (X : Prop) : Prop where
  | mk (hs : s.size ≤ maxLen) (hc : D.atKey (.string s.data.toList) (.lit (.int q 0)) = .lit (.int q c)) (hk : X) : MapN D s q c X
inductive MapO (D : DataW Unit) (s : ByteArray) (q : IntKind) (c : Int) (ok : Bool) (X : Prop) : Prop where
  | mk (hs : s.size ≤ maxLen) (hc : D.atKey (.string s.data.toList) (.lit (.int q 0)) = .lit (.int q c)) (ho : Maps.has D (.string s.data.toList) = ok) (hk : X) : MapO D s q c ok X
inductive MapU (n : Nat) (s : ByteArray) (q : IntKind) (a : Int) (X : Prop) : Prop where
  | mk (hn : n < maxLen) (hs : s.size ≤ maxLen) (hw : (Lit.int q a).wf = true) (hk : X) : MapU n s q a X
inductive MapD (s : ByteArray) (X : Prop) : Prop where
  | mk (hs : s.size ≤ maxLen) (hk : X) : MapD s X
inductive CallT (P : Program) (H : Value → Prop) (pre : Prop) (f : FuncId) (args : List PV) (h : Heap) (r : PV) (h' : Heap) (g X : Prop) : Prop where
  | mk (he : Enters P f) (hc : pre → TCalls P f args h (fun r' h2 => g ∧ r' = r ∧ h2 = h') H) (hk : X) : CallT P H pre f args h r h' g X
inductive CutN (xs : List (List PV)) (sz n : Nat) (i : Int) (X : Prop) : Prop where
  | mk (hi : i = n) (hn : n ≤ xs.length) (hy : ∀ y ∈ xs, y.length = sz) (hk : X) : CutN xs sz n i X
inductive AppR (n k len : Nat) (cs : List PV) (sz bytes : Nat) (one : PV → Bool) (X : Prop) : Prop where
  | mk (hl : (n + k) * bytes ≤ 140737488355328) (hn : n * sz ≤ len) (hc : cs.length = k * sz) (hy : ∀ p ∈ cs, one p = true) (hk : X) : AppR n k len cs sz bytes one X
inductive AppRG (pre : Prop) (n k len : Nat) (cs : List PV) (sz bytes : Nat) (one : PV → Bool) (X : Prop) : Prop where
  | mk (hc : pre → (n + k) * bytes ≤ 140737488355328 ∧ n * sz ≤ len ∧ cs.length = k * sz ∧ ∀ p ∈ cs, one p = true) (hk : X) : AppRG pre n k len cs sz bytes one X
inductive RowN (cs : List PV) (off : Nat) (ps : List PV) (X : Prop) : Prop where
  | mk (hx : (cs.drop off).take ps.length = ps) (hk : X) : RowN cs off ps X
inductive RowW (off n N : Nat) (X : Prop) : Prop where
  | mk (hn : off + n ≤ N) (hk : X) : RowW off n N X
inductive IdxR (n : Nat) (i : Int) (X : Prop) : Prop where
  | mk (h0 : 0 ≤ i) (h1 : i.toNat < n) (hk : X) : IdxR n i X
def arrAt (n sz : Nat) (shs : List Sh) (i : Int) (cs : List PV) (off : Nat) (J : List PV → Prop) : Prop := match Nat.beq shs.length sz && Nat.blt 0 sz with
  | true => IdxR n i (exC shs [] fun ps => RowN cs (off + i.toNat * sz) ps (J ps))
  | false => False
inductive MakeN (n c : Int) (sz bytes : Nat) (X : Prop) : Prop where
  | mk (h0 : 0 ≤ n) (hc : c = n) (hs : n.toNat * sz ≤ 16777216) (hb : (bytes : Int) * n ≤ 281474976710656) (hm : n ≤ 9223372036854775807) (hk : X) : MakeN n c sz bytes X
inductive OpnN (q p : PV) (X : Prop) : Prop where
  | mk (hq : q = p) (hk : X) : OpnN q p X
def MethOk (P : Program) (t : TypeId) (name : String) (f : FuncId) : Option (Nat × Nat) → Prop
  | none => ∀ (v : Value) (args : Array Value) (w : World), (invoke (.fn (.method name) #[]) (#[.iface t v] ++ args)).run P w = .ok (.enter f (#[v] ++ args)) w
  | some (o, n) => ∀ vs : List Value, vs.length = n → ∀ (args : Array Value) (w : World), (invoke (.fn (.method name) #[]) (#[.iface t (.agg vs.toArray)] ++ args)).run P w = .ok (.enter f (#[vs.getD o undef] ++ args)) w
inductive MethN (P : Program) (t : TypeId) (name : String) (f : FuncId) (o : Option (Nat × Nat)) (X : Prop) : Prop where
  | mk (hm : MethOk P t name f o) (hk : X) : MethN P t name f o X
inductive PtrN (P : Program) (t : TypeId) (X : Prop) : Prop where
  | mk (ht : P.underlying t = some (.pointer (P.pointee t))) (hk : X) : PtrN P t X
inductive CallN (P : Program) (f : FuncId) (args : List PV) (h : Heap) (r : PV) (X : Prop) : Prop where
  | mk (he : Enters P f) (hc : ACalls P f args h fun r' h' => r' = r ∧ h' = h) (hk : X) : CallN P f args h r X
def minI (x y : Int) : Int := if y < x then y else x
def maxI (x y : Int) : Int := if x < y then y else x
def cellsOf : PV → Option (List PV)
  | .agg cs => some cs
  | .any => none
  | .tup _ => none
  | .con (.agg _) => none
  | .con (.tuple _) => none
  | .tip => none
  | .mpc _ _ _ _ => none
  | .row _ => none
  | p => some [p]
def PV.one : PV → Bool
  | .con v => v.oneCell'
  | .any => false
  | .agg _ => false
  | .tup _ => false
  | .tip => false
  | .mpc _ _ _ _ => false
  | .row _ => false
  | _ => true
def zeroOk (ei : TI) : Bool := match ei.zero with | some z => Nat.beq z.length ei.size | none => false
def isCells (l : List PV) : Bool := match kind l with | .cells => true | _ => false
def isTip (l : List PV) : Bool := match kind l with | .tip => true | _ => false
def noMark (l : List PV) : Bool := match kind l with | .cells => true | .dead => true | _ => false
def loadA (ti : TI) (cells : List PV) : Option PV := match ti.agg with
  | true => match Nat.ble ti.size cells.length with | true => some (.agg (cells.take ti.size)) | false => none
  | false => match cells with | c :: _ => some c | [] => none
def bitsI (op : BinOp) (k : IntKind) (x y : Int) : Int := k.wrap (match op with
  | .and => (BitVec.ofInt k.bits x &&& BitVec.ofInt k.bits y).toNat
  | .or => (BitVec.ofInt k.bits x ||| BitVec.ofInt k.bits y).toNat
  | .xor => (BitVec.ofInt k.bits x ^^^ BitVec.ofInt k.bits y).toNat
  | _ => (BitVec.ofInt k.bits x &&& ~~~(BitVec.ofInt k.bits y)).toNat : Nat)
def shlI (k : IntKind) (a b : Int) : Int := k.wrap (a * 2 ^ (min b.toNat k.bits))
def shrI (k : IntKind) (a b : Int) : Int := a.fdiv (2 ^ (min b.toNat k.bits))
inductive ShN (b : Int) (X : Prop) : Prop where
  | mk (h : 0 ≤ b) (hk : X) : ShN b X
inductive QuoN (b : Int) (X : Prop) : Prop where
  | mk (h : b ≠ 0) (hk : X) : QuoN b X
inductive PieceN (n : Nat) (i j : Int) (X : Prop) : Prop where
  | mk (h0 : 0 ≤ i) (h1 : i ≤ j) (h2 : j ≤ n) (hk : X) : PieceN n i j X
inductive SizN (xs : List (List PV)) (sz : Nat) (X : Prop) : Prop where
  | mk (hy : ∀ y ∈ xs, y.length = sz) (hk : X) : SizN xs sz X
def cmpA (op : BinOp) (k : IntKind) (a b : Int) : Option Value := match op with
  | .add => some (.int k (k.wrap (a + b)))
  | .sub => some (.int k (k.wrap (a - b)))
  | .mul => some (.int k (k.wrap (a * b)))
  | .eql => some (.bool (a == b))
  | .neq => some (.bool (a != b))
  | .lss => some (.bool (decide (a < b)))
  | .leq => some (.bool (decide (a ≤ b)))
  | .gtr => some (.bool (decide (a > b)))
  | .geq => some (.bool (decide (a ≥ b)))
  | .and => some (.int k (bitsI .and k a b))
  | .or => some (.int k (bitsI .or k a b))
  | .xor => some (.int k (bitsI .xor k a b))
  | .andNot => some (.int k (bitsI .andNot k a b))
  | .rem => match b with | .ofNat (n + 1) => some (.int k (a.tmod (.ofNat (n + 1)))) | _ => none
  | .quo => match b with | .ofNat (n + 1) => some (.int k (k.wrap (a.tdiv (.ofNat (n + 1))))) | _ => none
  | _ => none
def binA (op : BinOp) (isBool : Bool) : Value → Value → Option Value
  | .int k a, .int k' b => match decide (k = k') with | true => cmpA op k a b | false => none
  | .string a, .string b => match op with
    | .eql => some (.bool (a.toList == b.toList))
    | .neq => some (.bool !(a.toList == b.toList))
    | _ => none
  | .bool a, .bool b => match isBool with
    | true => match op with
      | .eql => some (.bool (a == b))
      | .neq => some (.bool !(a == b))
      | _ => none
    | false => none
  | _, _ => none
def unA (op : UnOp) : Value → Option Value
  | .int k n => match op with | .neg => some (.int k (k.wrap (0 - n))) | _ => none
  | .bool b => match op with | .not => some (.bool !b) | _ => none
  | _ => none
def spliceA : Nat → List PV → List PV → List PV
  | _, [], cs => cs
  | o, p :: ps, cs => spliceA (o + 1) ps (cs.set o p)
def fillA (T : TypeId → Option TI) (flds : List (Nat × TypeId)) (ev : Operand → PV) (cells : List PV) : List (Nat × Operand) → Option (List PV)
  | [] => some cells
  | (i, x) :: r => match flds[i]? with
    | some (o, ft) => match T ft with
      | some fi => match cellsOf (ev x) with
        | some cs => match Nat.beq cs.length fi.size && Nat.ble (o + cs.length) cells.length with
          | true => fillA T flds ev (spliceA o cs cells) r
          | false => none
        | none => none
      | none => none
    | none => none
def eqL : Nat → List PV → List PV → Option Bool
  | 0, _, _ => some true
  | n + 1, .con (.int k a) :: us, .con (.int k' b) :: vs => match decide (k = k') with
    | true => match eqL n us vs with | some r => some ((a == b) && r) | none => none
    | false => none
  | _, _, _ => none
def arrInts (P : Program) (t : TypeId) : Bool := match P.underlying t with
  | some (.array _ e) => Nat.beq (P.cellsOf e) 1 && (match P.underlying e with | some (.int _) => true | _ => false)
  | _ => false
inductive EqA (P : Program) (t : TypeId) (X : Prop) : Prop where
  | mk (h2 : P.eqGuardType P.depth t = false) (h3 : arrInts P t = true) (hk : X)
def intFields (P : Program) (t : TypeId) : Bool := (P.fieldsOf t).toList.all fun f => (match P.underlying f.type with | some (.int _) => true | _ => false) && decide (f.name ≠ "_")
def eqF (T : TypeId → Option TI) : List (Nat × TypeId) → List PV → List PV → Option Bool
  | [], _, _ => some true
  | (o, ft) :: fs, us, vs => match T ft with
    | some fi => match loadA fi (us.drop o) with
      | some (.con (.int k a)) => match loadA fi (vs.drop o) with
        | some (.con (.int k' b)) => match decide (k = k') with
          | true => match eqF T fs us vs with | some r => some ((a == b) && r) | none => none
          | false => none
        | _ => none
      | _ => none
    | none => none
def intFields2 (P : Program) (t : TypeId) : Bool := (P.fieldsOf t).toList.all fun f => (match P.underlying f.type with | some (.int _) => true | some (.struct _) => intFields P f.type && !(P.stoodInHeld f.type) | some (.array _ _) => arrInts P f.type | _ => false) && decide (f.name ≠ "_")
def eqF2 (T : TypeId → Option TI) : List (Nat × TypeId) → List PV → List PV → Option Bool
  | [], _, _ => some true
  | (o, ft) :: fs, us, vs => match T ft with
    | some fi => match loadA fi (us.drop o) with
      | some (.con (.int k a)) => match loadA fi (vs.drop o) with
        | some (.con (.int k' b)) => match decide (k = k') && !fi.isStruct with
          | true => match eqF2 T fs us vs with | some r => some ((a == b) && r) | none => none
          | false => none
        | _ => none
      | some (.agg us') => match loadA fi (vs.drop o) with
        | some (.agg vs') => match fi.isStruct with
          | true => match eqF T fi.flds us' vs' with
            | some q => match eqF2 T fs us vs with | some r => some (q && r) | none => none
            | none => none
          | false => match fi.arr with
            | some (n, _) => match eqL n us' vs' with
              | some q => match eqF2 T fs us vs with | some r => some (q && r) | none => none
              | none => none
            | none => none
        | _ => none
      | _ => none
    | none => none
inductive EqN (P : Program) (t : TypeId) (X : Prop) : Prop where
  | mk (h1 : P.stoodInHeld t = false) (h2 : P.eqGuardType P.depth t = false) (h3 : intFields2 P t = true) (hk : X)
inductive BytesN (P : Program) (src dst : TypeId) (xs : List (List PV)) (l : List UInt8) (X : Prop) : Prop where
  | mk (h1 : ∃ e, P.underlying src = some (.slice e) ∧ P.underlying e = some (.int .u8)) (h2 : P.underlying dst = some .string) (hx : xs = l.map fun b => [.con (.int .u8 (b.toNat : Int))]) (hk : X)
abbrev Bd := List (Nat × Option Nat)
def lookB (b : Nat) : Bd → Option (Option Nat)
  | [] => none
  | (k, t) :: r => match Nat.beq b k with | true => some t | false => lookB b r
def tokS : Sh → PV → Bd
  | .own b _ _, .own t _ _ _ => [(b, some t)]
  | .own b _ _, _ => [(b, none)]
  | .ptr b _, .ptr t _ => [(b, some t)]
  | .mp b, .mp t => [(b, some t)]
  | .rw b _ _ _, .rw t _ _ _ _ => [(b, some t)]
  | .gro b _ _, .rw t _ _ _ _ => [(b, some t)]
  | .gro b _ _, _ => [(b, none)]
  | _, _ => []
def tokL : List Sh → List PV → Bd
  | s :: r, p :: ps => tokS s p ++ tokL r ps
  | _, _ => []
def canS (s : Sh) (p : PV) : Option PV := match s.get p with | some v => some (s.mk v) | none => none
def canL : List Sh → List PV → Option (List PV)
  | [], [] => some []
  | s :: r, p :: ps => match canS s p with
    | some q => match canL r ps with | some qs => some (q :: qs) | none => none
    | none => none
  | _, _ => none
def tokB : BT → List PV → Bd
  | .cells l, ps => tokL l ps
  | _, _ => []
def canB (d : Nat) : BT → List PV → Option (List PV)
  | .keep, l => match undersL d l with | true => some l | false => none
  | .dead, _ => some []
  | .tip, l => match isTip l with | true => some [.tip] | false => none
  | .cells ss, l => match kind l with
    | .dead => none
    | .tip => none
    | _ => canL ss l
def tokR : RSh → PV → Bd
  | .cell s, p => tokS s p
  | .agg l, .agg ps => tokL l ps
  | _, _ => []
def canR : RSh → PV → Option PV
  | .cell s, p => canS s p
  | .agg l, .agg ps => match canL l ps with | some qs => some (.agg qs) | none => none
  | _, _ => none
def tokRs : List RSh → List PV → Bd
  | s :: r, p :: ps => tokR s p ++ tokRs r ps
  | _, _ => []
def canRs : List RSh → List PV → Option (List PV)
  | [], [] => some []
  | s :: r, p :: ps => match canR s p with
    | some q => match canRs r ps with | some qs => some (q :: qs) | none => none
    | none => none
  | _, _ => none
def tokF (b : Nat) : PV → Bd
  | .bm _ [.ptr t _] => [(b, some t)]
  | .fn _ [.ptr t _] => [(b, some t)]
  | _ => []
def canF (b off : Nat) : PV → Option PV
  | .bm f [.ptr _ off'] => match Nat.beq off off' with | true => some (.bm f [.ptr b off]) | false => none
  | .fn f [.ptr _ off'] => match Nat.beq off off' with | true => some (.fn f [.ptr b off]) | false => none
  | _ => none
def tokP (b : Nat) : PV → Bd
  | .ptr t _ => [(b, some t)]
  | _ => []
def canP (b : Nat) : PV → Option PV
  | .ptr _ off => some (.ptr b off)
  | _ => none
def tokA : List AM → List PV → Bd
  | .weak :: r, _ :: ps => tokA r ps
  | .sh s :: r, p :: ps => tokS s p ++ tokA r ps
  | .fp b _ :: r, p :: ps => tokF b p ++ tokA r ps
  | .pa b :: r, p :: ps => tokP b p ++ tokA r ps
  | .asis :: r, _ :: ps => tokA r ps
  | .ag l :: r, p :: ps => tokR (.agg l) p ++ tokA r ps
  | _, _ => []
def canA : List AM → List PV → Option (List PV)
  | [], [] => some []
  | .weak :: r, p :: ps => match undersL 0 [weak p] with
    | true => match canA r ps with | some qs => some (weak p :: qs) | none => none
    | false => none
  | .sh s :: r, p :: ps => match canS s p with
    | some q => match canA r ps with | some qs => some (q :: qs) | none => none
    | none => none
  | .asis :: r, p :: ps => match undersL 0 [p] with
    | true => match canA r ps with | some qs => some (p :: qs) | none => none
    | false => none
  | .ag l :: r, p :: ps => match canR (.agg l) p with
    | some q => match canA r ps with | some qs => some (q :: qs) | none => none
    | none => none
  | .pa b :: r, p :: ps => match canP b p with
    | some q => match canA r ps with | some qs => some (q :: qs) | none => none
    | none => none
  | .fp b off :: r, p :: ps => match canF b off p with
    | some q => match canA r ps with | some qs => some (q :: qs) | none => none
    | none => none
  | _, _ => none
def bindBs (h : Heap) : List BT → Nat → Bd → Bd
  | [], _, ps => ps
  | t :: r, i, ps => match lookB i ps with
    | some (some x) => bindBs h r (i + 1) (ps ++ tokB t (h.getD x []))
    | _ => bindBs h r (i + 1) ps
def nameOf (base : Nat) (ps : Bd) (n0 : Nat) (i : Nat) : Nat := match Nat.blt i n0 with
  | true => match lookB i ps with | some (some t) => t | _ => base + i
  | false => base + i
def canBs (h : Heap) (σ : Nat → Nat) : List BT → Nat → Option Heap
  | [], _ => some []
  | t :: r, i => match canB 0 t (h.getD (σ i) []) with
    | some l => match canBs h σ r (i + 1) with | some ls => some (l :: ls) | none => none
    | none => none
def okT (ρ : Nat → Nat) (n0 : Nat) : Bd → Bool
  | [] => true
  | (b, some t) :: r => Nat.blt b n0 && Nat.beq (ρ b) t && okT ρ n0 r
  | (b, none) :: r => Nat.blt b n0 && okT ρ n0 r
def blkToks (h : Heap) (ρ : Nat → Nat) : List BT → Nat → Bd
  | [], _ => []
  | t :: r, i => tokB t (h.getD (ρ i) []) ++ blkToks h ρ r (i + 1)
def nodupN : List Nat → Bool
  | [] => true
  | x :: r => !(r.any (Nat.beq x)) && nodupN r
def upTo : Nat → List Nat
  | 0 => []
  | n + 1 => upTo n ++ [n]
def setAll (σ : Nat → Nat) : List (List PV) → Nat → Nat → Heap → Heap
  | l :: r, i, n0, h => match Nat.blt i n0 with
    | true => setAll σ r (i + 1) n0 (h.set (σ i) (renL σ l))
    | false => setAll σ r (i + 1) n0 (h ++ [renL σ l])
  | [], _, _, h => h
def voidT : BT → List PV
  | .cells [.row] => [.row []]
  | _ => [.tip]
def voidsB : List BT → Heap
  | [] => []
  | t :: r => voidT t :: voidsB r
def fixL : List PV → Option (List Value)
  | [] => some []
  | .con v :: r => match fixL r with | some vs => some (v :: vs) | none => none
  | _ :: _ => none
def fixV : PV → Option Value
  | .con v => some v
  | .agg cs => match fixL cs with | some vs => some (.agg vs.toArray) | none => none
  | .ifc t q => match fixV q with | some v => some (.iface t v) | none => none
  | _ => none
def fnOf : PV → Option (FuncId × List PV × List PV)
  | .fn f cap => some (f, [], cap)
  | .bm f fst => some (f, fst, [])
  | _ => none
def argsOf (fst args cap : List PV) : List PV := fst ++ (args ++ cap)
def isIface (P : Program) (t : TypeId) : Bool := match P.underlying t with | some (.interface _) => true | _ => false
variable (P : Program) (T : TypeId → Option TI) (S : FuncId → Option Sg) (L : Nat → Option (List Nat × List (Nat × Sh)))
def valA (ev : Operand → PV) (h : Heap) (K : PV → Prop) : Op → Prop
  | .move x => K (ev x)
  | .assign x => K (ev x)
  | .pick c a b => match ev c with | .con (.bool t) => br t (K (ev a)) (K (ev b)) | _ => False
  | .nilCheck x => match ev x with
    | .ptr b o => K (.ptr b o)
    | .ept cs o => K (.ept cs o)
    | .fn f cs => K (.fn f cs)
    | .bm f cs => K (.bm f cs)
    | _ => False
  | .load t a => match T t with
    | some ti => match ev a with
      | .ptr b off => match isCells (h.getD b []) with
        | true => match loadA ti ((h.getD b []).drop off) with | some r => K r | none => False
        | false => match h.getD b [] with
          | [.row cs] => match ti.zero with
            | some z => match shsOf z with
              | some shs => exC shs [] fun ps => match loadA ti ps with | some r => RowN cs off ps (K r) | none => False
              | none => False
            | none => False
          | _ => False
      | .ept cs off => match loadA ti (cs.drop off) with | some r => K r | none => False
      | _ => False
    | none => False
  | .fieldAddr s x f => match T s with
    | some ti => match ti.flds[f]? with
      | some (o, ft) => match T ft with
        | some fi => match fi.size with
          | 0 => False
          | _ + 1 => match ev x with
            | .ptr b off => K (.ptr b (off + o))
            | .ept cs off => K (.ept cs (off + o))
            | _ => False
        | none => False
      | none => False
    | none => False
  | .field s x f => match T s with
    | some ti => match ti.flds[f]? with
      | some (o, ft) => match T ft with
        | some fi => match ev x with
          | .agg cs => match loadA fi (cs.drop o) with | some r => K r | none => False
          | _ => False
        | none => False
      | none => False
    | none => False
  | .indexAddr t x ix => match T t with
    | some ti => match ti.isSl with
      | true => match T ti.elem with
        | some ei => match weak (ev x) with
          | .sl xs => match ev ix with
            | .con (.int k i) => match ei.zero with
              | some z => match shsOf z with
                | some shs => match Nat.beq shs.length ei.size with
                  | true => exC shs [] fun cs => IdxN xs i cs (K (.ept cs 0))
                  | false => False
                | none => False
              | none => False
            | _ => False
          | .rw b off n _ _ => match ev ix with
            | .con (.int k i) => match Nat.blt 0 ei.size with
              | true => IdxR n i (K (.ptr b (off + i.toNat * ei.size)))
              | false => False
            | _ => False
          | _ => False
        | none => False
      | false => match ti.arr with
        | some (n, e) => match T e with
          | some ei => match ev ix with
            | .con (.int k i) => match ev x with
              | .ptr b off => IdxR n i (K (.ptr b (off + i.toNat * ei.size)))
              | .ept cs off => match ei.zero with
                | some z => match shsOf z with
                  | some shs => arrAt n ei.size shs i cs off fun ps => K (.ept ps 0)
                  | none => False
                | none => False
              | _ => False
            | _ => False
          | none => False
        | none => False
    | none => False
  | .index t x ix => match T t with
    | some ti => match ti.isStr with
      | true => match ev x with
        | .con (.string s) => match ev ix with
          | .con (.int k i) => ∃ b : UInt8, StrN s i b (K (.con (.int .u8 b.toNat)))
          | _ => False
        | _ => False
      | false => match ti.arr with
        | some (n, e) => match T e with
          | some ei => match ev ix with
            | .con (.int k i) => match ev x with
              | .agg cs => match ei.zero with
                | some z => match shsOf z with
                  | some shs => arrAt n ei.size shs i cs 0 fun ps => match loadA ei ps with | some r => K r | none => False
                  | none => False
                | none => False
              | _ => False
            | _ => False
          | none => False
        | none => False
    | none => False
  | .binOp op xt x y yt => match T xt with
    | some ti => match ev x with
      | .con u => match ev y with
        | .con v => match op, u, v with
          | .add, .string s, .string t => CatN s t (K (.con (.string (s ++ t))))
          | .shl, .int k a, .int _ b => ShN b (K (.con (.int k (shlI k a b))))
          | .shr, .int k a, .int _ b => ShN b (K (.con (.int k (shrI k a b))))
          | .quo, .int k a, .int k' b => match decide (k = k') with | true => QuoN b (K (.con (.int k (k.wrap (a.tdiv b))))) | false => False
          | .rem, .int k a, .int k' b => match decide (k = k') with | true => QuoN b (K (.con (.int k (a.tmod b)))) | false => False
          | .eql, .pointer none, .pointer none => PtrN P xt (K (.con (.bool true)))
          | .neq, .pointer none, .pointer none => PtrN P xt (K (.con (.bool false)))
          | op, u, v => match binA op ti.isBool u v with | some r => K (.con r) | none => False
        | _ => False
      | .ptr _ _ => match ev y with
        | .con (.pointer none) => match op with
          | .eql => PtrN P xt (K (.con (.bool false)))
          | .neq => PtrN P xt (K (.con (.bool true)))
          | _ => False
        | _ => False
      | .agg us => match ev y with
        | .agg vs => match ti.isStruct with
          | true => match eqF2 T ti.flds us vs with
            | some b => match op with
              | .eql => EqN P xt (K (.con (.bool b)))
              | .neq => EqN P xt (K (.con (.bool (!b))))
              | _ => False
            | none => False
          | false => match ti.arr with
            | some (n, _) => match eqL n us vs with
              | some b => match op with
                | .eql => EqA P xt (K (.con (.bool b)))
                | .neq => EqA P xt (K (.con (.bool (!b))))
                | _ => False
              | none => False
            | none => False
        | _ => False
      | _ => False
    | none => False
  | .lookup t x ix false => match T t with
    | some ti => match ti.mapKE with
      | some (k, e) => match T k with
        | some tk => match tk.isStr with
          | true => match T e with
            | some te => match te.intK with
              | some q => match ev x with
                | .mp b => match h.getD b [] with
                  | [.mpc k' e' n D] => match Nat.beq k k' && Nat.beq e e' with
                    | true => match ev ix with
                      | .con (.string s) => ∃ c : Int, MapN D s q c (K (.con (.int q c)))
                      | _ => False
                    | false => False
                  | _ => False
                | _ => False
              | none => False
            | none => False
          | false => False
        | none => False
      | none => False
    | none => False
  | .lookup t x ix true => match T t with
    | some ti => match ti.mapKE with
      | some (k, e) => match T k with
        | some tk => match tk.isStr with
          | true => match T e with
            | some te => match te.intK with
              | some q => match ev x with
                | .mp b => match h.getD b [] with
                  | [.mpc k' e' n D] => match Nat.beq k k' && Nat.beq e e' with
                    | true => match ev ix with
                      | .con (.string s) => ∃ c : Int, ∃ ok : Bool, MapO D s q c ok (K (.tup [.con (.int q c), .con (.bool ok)]))
                      | _ => False
                    | false => False
                  | _ => False
                | _ => False
              | none => False
            | none => False
          | false => False
        | none => False
      | none => False
    | none => False
  | .convert src dst x => match weak (ev x) with
    | .sl xs => ∃ l : List UInt8, BytesN P src dst xs l (K (.con (.string ⟨l.toArray⟩)))
    | .con (.int _ n) => match T src with
      | some _ => match T dst with
        | some ti => match ti.intK with
          | some q => K (.con (.int q (q.wrap n)))
          | none => False
        | none => False
      | none => False
    | _ => False
  | .makeInterface t x => match T t with
    | some _ => match isIface P t with
      | false => match PV.under 0 (weak (ev x)) with
        | true => K (.ifc t (weak (ev x)))
        | false => False
      | true => False
    | none => False
  | .typeAssert x _ t ok => match T t with
    | some ti => match isIface P t with
      | false => match ev x with
        | .ifc u q => match ti.zero with
          | some z => match shsOf z with
            | some shs => br (Nat.beq u t) (exC shs [] fun cs => match loadA ti cs with | some p => OpnN q p (K (match ok with | true => .tup [p, .con (.bool true)] | false => p)) | none => False) (match ok with | true => K (.tup [.any, .con (.bool false)]) | false => False)
            | none => False
          | none => False
        | _ => False
      | true => False
    | none => False
  | .slice t x low (some hi) none => match T t with
    | some ti => match ti.isStr with
      | true => match ev x with
        | .con (.string s) => match ev hi with
          | .con (.int _ j) => match low with
            | some lo => match ev lo with
              | .con (.int _ i) => PieceN s.size i j (K (.con (.string (s.extract i.toNat j.toNat))))
              | _ => False
            | none => PieceN s.size 0 j (K (.con (.string (s.extract 0 j.toNat))))
          | _ => False
        | _ => False
      | false => match ti.isSl with
        | true => match T ti.elem with
          | some ei => match nilP (ev x) with
           | true => match ev hi with
            | .con (.int _ j) => match low with
              | some _ => False
              | none => PieceN 0 0 j (K (.con (.slice none 0 0)))
            | _ => False
           | false => match weak (ev x) with
            | .sl xs => match ev hi with
              | .con (.int _ j) => match low with
                | some lo => match ev lo with
                  | .con (.int _ i) => PieceN xs.length i j (SizN xs ei.size (K (.sl ((xs.take j.toNat).drop i.toNat))))
                  | _ => False
                | none => PieceN xs.length 0 j (SizN xs ei.size (K (.sl (xs.take j.toNat))))
              | _ => False
            | .rw b off n e z => match ev hi with
              | .con (.int _ j) => match Nat.beq z ei.size with
                | true => match low with
                  | some lo => match ev lo with
                    | .con (.int _ i) => PieceN n i j (K (.rw b (off + i.toNat * z) (j.toNat - i.toNat) e z))
                    | _ => False
                  | none => PieceN n 0 j (K (.rw b off j.toNat e z))
                | false => False
              | _ => False
            | _ => False
          | none => False
        | false => False
    | none => False
  | .slice t x low none none => match T t with
    | some ti => match ti.isStr with
     | true => match ev x with
      | .con (.string s) => match low with
        | some lo => match ev lo with
          | .con (.int _ i) => PieceN s.size i s.size (K (.con (.string (s.extract i.toNat s.size))))
          | _ => False
        | none => K (.con (.string s))
      | _ => False
     | false => match ti.isSl with
      | true => match T ti.elem with
        | some ei => match weak (ev x) with
          | .sl xs => match low with
            | some lo => match ev lo with
              | .con (.int _ i) => ∃ n : Nat, CutN xs ei.size n i (K (.sl (xs.drop n)))
              | _ => False
            | none => False
          | .rw b off n e z => match low with
            | some lo => match ev lo with
              | .con (.int _ i) => match Nat.beq z ei.size with
                | true => PieceN n i n (K (.rw b (off + i.toNat * z) (n - i.toNat) e z))
                | false => False
              | _ => False
            | none => False
          | _ => False
        | none => False
      | false => match low with
        | some _ => False
        | none => match ti.arr with
          | some (n, e) => match T e with
            | some ei => match ev x with
              | .ptr b off => match h.getD b [] with
                | [.row cs] => match (Nat.blt 0 n && Nat.blt 0 ei.size) && Nat.ble n 1000000 with
                  | true => RowW off (n * ei.size) cs.length (K (.rw b off n e ei.size))
                  | false => False
                | _ => False
              | _ => False
            | none => False
          | none => False
    | none => False
  | .unOp op xt x => match ev x with
    | .con u => match unA op u with | some r => K (.con r) | none => False
    | _ => False
  | .extract t ix => match ev t with
    | .tup vs => match vs[ix]? with | some v => K v | none => False
    | _ => False
  | .makeFunc fn first cap => match fn with
    | .func f => match first.toList with
      | [] => K (.fn f (cap.toList.map ev))
      | x :: r => match cap.toList with
        | [] => K (.bm f ((x :: r).map ev))
        | _ => False
    | _ => False
  | .call c => match c.callee with
    | .builtin .len => match c.argTypes.toList with
      | t :: _ => match T t with
        | some ti => match c.args.toList with
          | [x] => match weak (ev x) with
            | .sl xs => match ti.isSl with | true => K (.con (.int .i64 xs.length)) | false => False
            | .rw _ _ n _ _ => match ti.isSl with | true => K (.con (.int .i64 n)) | false => False
            | .con (.string s) => match ti.isStr with | true => K (.con (.int .i64 s.size)) | false => False
            | _ => False
          | _ => False
        | none => False
      | _ => False
    | .builtin .cap => match c.argTypes.toList with
      | t :: _ => match T t with
        | some ti => match c.args.toList with
          | [x] => match ev x with
            | .con v => match isNil v && ti.isSl with | true => K (.con (.int .i64 0)) | false => False
            | _ => False
          | _ => False
        | none => False
      | _ => False
    | .builtin .min => match c.args.toList with
      | [x, y] => match ev x with
        | .con (.int k a) => match ev y with
          | .con (.int _ b) => K (.con (.int k (minI a b)))
          | _ => False
        | _ => False
      | [x, y, z] => match ev x with
        | .con (.int k a) => match ev y with
          | .con (.int _ b) => match ev z with
            | .con (.int _ c) => K (.con (.int k (minI (minI a b) c)))
            | _ => False
          | _ => False
        | _ => False
      | _ => False
    | .builtin .max => match c.args.toList with
      | [x, y] => match ev x with
        | .con (.int k a) => match ev y with
          | .con (.int _ b) => K (.con (.int k (maxI a b)))
          | _ => False
        | _ => False
      | [x, y, z] => match ev x with
        | .con (.int k a) => match ev y with
          | .con (.int _ b) => match ev z with
            | .con (.int _ c) => K (.con (.int k (maxI (maxI a b) c)))
            | _ => False
          | _ => False
        | _ => False
      | _ => False
    | _ => False
  | .build t parts => match T t with
    | some ti => match ti.isStruct with
      | true => match ti.zero with
        | some z => match ti.flds.all (fun f => (T f.2).isSome) with
          | true => match fillA T ti.flds ev z parts.toList with
            | some cs => K (.agg cs)
            | none => False
          | false => False
        | none => False
      | false => False
    | none => False
  | _ => False
def partsA (ev : Operand → PV) (sz : Nat) : Nat → List (Nat × Operand) → Option (List (List PV))
  | _, [] => some []
  | i, (j, x) :: r => match Nat.beq i j with
    | true => match cellsOf (weak (ev x)) with
      | some cs => match Nat.beq cs.length sz && undersL 0 cs && cs.all PV.one with
        | true => match partsA ev sz (i + 1) r with | some l => some (cs :: l) | none => none
        | false => none
      | none => none
    | false => none
def effB (fid : FuncId) (ams : List AM) (pre : List BT) (res : List RSh) (post : List BT) (args : List PV) (h1 : Heap) (ρ : Nat → Nat) (base : Nat) (K : PV → Heap → Prop) : Prop :=
  match canA ams args with
  | none => False
  | some args0 => match canBs h1 ρ pre 0 with
    | none => False
    | some h0 => match okT ρ pre.length (tokA ams args ++ blkToks h1 ρ pre 0) && nodupN ((upTo pre.length).map ρ) && (upTo pre.length).all (fun i => Nat.blt (ρ i) (base + pre.length)) with
      | true => exR res [] fun rs => exB post h0 [] fun h0' => CallF P fid args0 h0 (packR rs) h0' (K (ren ρ (packR rs)) (setAll ρ h0' 0 pre.length h1))
      | false => False
def effA (fid : FuncId) (ams : List AM) (pre : List BT) (res : List RSh) (post : List BT) (args : List PV) (h : Heap) (K : PV → Heap → Prop) : Prop :=
  effB P fid ams pre res post args (h ++ voidsB pre) (nameOf h.length (bindBs h pre 0 (tokA ams args)) pre.length) h.length K
def effsA (fid : FuncId) (args : List PV) (h : Heap) (K : PV → Heap → Prop) : List (List AM × List BT × List RSh × List BT) → Prop
  | [] => False
  | (ams, pre, res, post) :: r => effA P fid ams pre res post args h K ∨ effsA fid args h K r
def thrB (H : Value → Prop) (pr : Prop) (fid : FuncId) (ams : List AM) (pre : List BT) (res : List RSh) (post : List BT) (args : List PV) (h1 : Heap) (ρ : Nat → Nat) (base : Nat) (K : Prop → PV → Heap → Prop) : Prop :=
  match canA ams args with
  | none => False
  | some args0 => match canBs h1 ρ pre 0 with
    | none => False
    | some h0 => match okT ρ pre.length (tokA ams args ++ blkToks h1 ρ pre 0) && nodupN ((upTo pre.length).map ρ) && (upTo pre.length).all (fun i => Nat.blt (ρ i) (base + pre.length)) with
      | true => exR res [] fun rs => exB post h0 [] fun h0' => ∃ g : Prop, CallT P H pr fid args0 h0 (packR rs) h0' g (K g (ren ρ (packR rs)) (setAll ρ h0' 0 pre.length h1))
      | false => False
def thrA (H : Value → Prop) (pr : Prop) (fid : FuncId) (ams : List AM) (pre : List BT) (res : List RSh) (post : List BT) (args : List PV) (h : Heap) (K : Prop → PV → Heap → Prop) : Prop :=
  thrB P H pr fid ams pre res post args (h ++ voidsB pre) (nameOf h.length (bindBs h pre 0 (tokA ams args)) pre.length) h.length K
variable (H : Value → Prop)
def callA (fid : FuncId) (args : List PV) (h : Heap) (K : PV → Heap → Prop) : Prop := match S fid with
  | some (.pure shr) => orR shr fun rs => CallN P fid (weakL args) h (packR rs) (K (packR rs) h)
  | some (.eff ams pre res post) => effA P fid ams pre res post args h K
  | some (.effs alts) => effsA P fid args h K alts
  | some (.thr ams pre res post) => thrA P H True fid ams pre res post args h (fun g p h' => g → K p h')
  | none => False
def dispA (name : String) (u : TypeId) (q : PV) (K : FuncId → PV → Prop) : List (List RSh) → Prop
  | [.cell (.ptr t f)] :: r => br (Nat.beq u t) (match T t with
    | some ti => match ti.zero with
      | some z => match shsOf z with
        | some shs => exC shs [] fun cs => match loadA ti cs with
          | some p => OpnN q p (MethN P t name f none (K f p))
          | none => False
        | none => False
      | none => False
    | none => False) (dispA name u q K r)
  | [.cell (.ptr t f), .cell (.ptr o _)] :: r => br (Nat.beq u t) (match T t with
    | some ti => match ti.zero with
      | some z => match shsOf z with
        | some shs => exC shs [] fun cs => OpnN q (.agg cs) (MethN P t name f (some (o, cs.length)) (K f (cs.getD o .any)))
        | none => False
      | none => False
    | none => False) (dispA name u q K r)
  | _ => False
def mutS (t : TypeId) : Bool := match S (2000000 + t) with | some _ => true | none => false
def isRowApp (ev : Operand → PV) (c : Call) : Bool := match c.argTypes.toList with
  | t :: _ => match c.args.toList with
    | x :: _ => match ev x with
      | .con v => isNil v && mutS S t
      | .rw _ _ _ _ _ => true
      | _ => false
    | [] => false
  | [] => false
def srcR (h : Heap) (sz : Nat) : PV → Option (Nat × List PV)
  | .sl ys => some (ys.length, ys.flatten)
  | .rw b off n _ z => match Nat.beq z sz with
    | true => match h.getD b [] with | [.row l] => some (n, (l.drop off).take (n * sz)) | _ => none
    | false => none
  | _ => none
def namesR (ev : Operand → PV) (c : Call) : List Nat := match c.args.toList with
  | [s, x] => (match ev s with | .rw b _ _ _ _ => [b] | _ => []) ++ (match ev x with | .rw b _ _ _ _ => [b] | _ => [])
  | _ => []
def rowAppA (ev : Operand → PV) (h : Heap) (K : Nat → Nat → Nat → List PV → Nat → Nat → PV → Heap → Prop) (c : Call) : Prop := match c.argTypes.toList with
  | [t, t'] => match Nat.beq t t' with
    | true => match T t with
      | some ti => match ti.isSl with
        | true => match T ti.elem with
          | some ei => match Nat.blt 0 ei.size && Nat.blt 0 ei.bytes && zeroOk ei with
            | true => match c.args.toList with
              | [s, x] => match srcR h ei.size (weak (ev x)) with
                | some (k, cs) => match ev s with
                    | .con v => match isNil v with
                      | true => K 0 k 0 cs ei.size ei.bytes (.rw (h.length + 1) 0 k ti.elem ei.size) (h ++ [[], [.row cs]])
                      | false => False
                    | .rw b off n e z => match Nat.beq off 0 && Nat.beq e ti.elem && Nat.beq z ei.size && Nat.blt b h.length with
                      | true => match h.getD b [] with
                        | [.row l] => K n k l.length cs ei.size ei.bytes (.rw h.length 0 (n + k) ti.elem ei.size) (h.set b [] ++ [[.row (l.take (n * ei.size) ++ cs)]])
                        | _ => False
                      | false => False
                    | _ => False
                | none => False
              | _ => False
            | false => False
          | none => False
        | false => False
      | none => False
    | false => match T t with
      | some ti => match ti.isSl with
        | true => match T ti.elem with
          | some ei => match Nat.blt 0 ei.size && Nat.blt 0 ei.bytes && zeroOk ei with
            | true => match T t' with
              | some tn => match tn.intK with
                | some _ => match c.args.toList with
                  | [s, x] => match ev s with
                    | .con v => match isNil v with
                      | true => match ev x with
                        | .con (.int _ i) => match ei.zero with
                          | some z => 0 < i ∧ K 0 i.toNat 0 (List.replicate i.toNat z).flatten ei.size ei.bytes (.rw (h.length + 1) 0 i.toNat ti.elem ei.size) (h ++ [[], [.row (List.replicate i.toNat z).flatten]])
                          | none => False
                        | _ => False
                      | false => False
                    | _ => False
                  | _ => False
                | none => False
              | none => False
            | false => False
          | none => False
        | false => False
      | none => False
  | _ => False
def opA (ev : Operand → PV) (h : Heap) (K : PV → Heap → Prop) : Op → Prop
  | .alloc t => match T t with
    | some ti => match ti.zero with
      | some z => match arrT T t with
        | true => K (.ptr h.length 0) (h ++ [[.row z]])
        | false => K (.ptr h.length 0) (h ++ [z])
      | none => False
    | none => False
  | .box t x => match arrT T t with
    | true => match cellsOf (weak (ev x)) with
      | some cs => match undersL 0 cs with
        | true => K (.ptr h.length 0) (h ++ [[.row cs]])
        | false => False
      | none => False
    | false => match cellsOf (ev x) with
      | some cs => match noMark cs with
        | true => K (.ptr h.length 0) (h ++ [cs])
        | false => False
      | none => False
  | .buildSlice t len parts => match T t with
    | some ti => match ti.isSl with
      | true => match T ti.elem with
        | some ei => match Nat.beq len 0 && parts.toList.isEmpty && Nat.blt 0 ei.size with
          | true => K (.rw h.length 0 0 ti.elem ei.size) (h ++ [[.row []]])
          | false => match partsA ev ei.size 0 parts.toList with
            | some css => match Nat.beq css.length len && Nat.ble (len * ei.size) 16777216 && Nat.blt 0 (len * ei.size) && zeroOk ei with
              | true => K (.own h.length ti.elem ei.size css) (h ++ [[.tip]])
              | false => False
            | none => False
        | none => False
      | false => False
    | none => False
  | .makeSlice t l c => match T t with
    | some ti => match ti.isSl with
      | true => match T ti.elem with
        | some ei => match ei.zero with
          | some z => match ev l with
            | .con (.int _ n) => match ev c with
              | .con (.int _ n') => match Nat.blt 0 ei.size && zeroOk ei with
                | true => MakeN n n' ei.size ei.bytes (K (.rw h.length 0 n.toNat ti.elem ei.size) (h ++ [[.row (List.replicate n.toNat z).flatten]]))
                | false => False
              | _ => False
            | _ => False
          | none => False
        | none => False
      | false => False
    | none => False
  | .makeMap t none => match T t with
    | some ti => match ti.mapKE with
      | some (k, e) => K (.mp h.length) (h ++ [[.mpc k e 0 (.map [])]])
      | none => False
    | none => False
  | .mapUpdate t x ix v => match T t with
    | some ti => match ti.mapKE with
      | some (k, e) => match T k with
        | some tk => match tk.isStr with
          | true => match T e with
            | some te => match te.intK with
              | some q => match ev x with
                | .mp b => match h.getD b [] with
                  | [.mpc k' e' n D] => match Nat.beq k k' && Nat.beq e e' && Nat.blt b h.length with
                    | true => match ev ix with
                      | .con (.string s) => match ev v with
                        | .con (.int q' a) => match decide (q = q') with
                          | true => MapU n s q a (K (.con undef) (h.set b [.mpc k e (n + 1) (D.put (.string s.data.toList) (.lit (.int q a)))]))
                          | false => False
                        | _ => False
                      | _ => False
                    | false => False
                  | _ => False
                | _ => False
              | none => False
            | none => False
          | false => False
        | none => False
      | none => False
    | none => False
  | .store t a x => match T t with
    | some ti => match ev a with
      | .ptr b off => match h.getD b [] with
       | [.row l] => match cellsOf (weak (ev x)) with
        | some cs => match Nat.beq cs.length ti.size && Nat.blt 0 ti.size && Nat.blt b h.length && cs.all PV.one && undersL 0 cs with
          | true => RowW off cs.length l.length (K (.con undef) (h.set b [.row (splice off cs l)]))
          | false => False
        | none => False
       | _ => match cellsOf (ev x) with
        | some cs => match Nat.beq cs.length ti.size && Nat.ble (off + cs.length) (h.getD b []).length && Nat.blt b h.length && isCells (h.getD b []) && cs.all PV.one with
          | true => K (.con undef) (h.set b (splice off cs (h.getD b [])))
          | false => False
        | none => False
      | _ => False
    | none => False
  | .call c => match c.callee with
    | .value f => match fnOf (ev f) with
      | some (fid, fst, cap) => match S fid with
        | some (.pure shr) => orR shr fun rs => CallN P fid (weakL (argsOf fst (c.args.toList.map ev) cap)) h (packR rs) (K (packR rs) h)
        | some (.eff ams pre res post) => effA P fid ams pre res post (argsOf fst (c.args.toList.map ev) cap) h K
        | some (.effs alts) => effsA P fid (argsOf fst (c.args.toList.map ev) cap) h K alts
        | some (.thr ams pre res post) => thrA P H True fid ams pre res post (argsOf fst (c.args.toList.map ev) cap) h (fun g p h' => g → K p h')
        | none => False
      | none => False
    | .invoke r name => match ev r with
      | .ifc u q => match S (1000000 + name.length) with
        | some (.pure l) => dispA P T name u q (fun f p => callA P S H f (p :: c.args.toList.map ev) h K) l
        | _ => False
      | _ => False
    | .builtin .append => match isRowApp S ev c with
     | true => rowAppA T ev h (fun n k len cs sz by' p h' => AppR n k len cs sz by' PV.one (K p h')) c
     | false => match c.argTypes.toList with
      | [t, t'] => match Nat.beq t t' with
        | true => match T t with
          | some ti => match ti.isSl with
            | true => match T ti.elem with
              | some ei => match Nat.blt 0 ei.size && Nat.blt 0 ei.bytes && zeroOk ei with
                | true => match c.args.toList with
                  | [s, x] => match weak (ev x) with
                    | .sl ys => match ev s with
                      | .con v => match isNil v with
                        | true => AppN [] ys ei.size ei.bytes PV.one (K (.own (h.length + 1) ti.elem ei.size ys) (h ++ [[], [.tip]]))
                        | false => False
                      | .own b e sz xs => match Nat.beq e ti.elem && Nat.beq sz ei.size && isTip (h.getD b []) with
                        | true => AppN xs ys ei.size ei.bytes PV.one (K (.own h.length ti.elem ei.size (xs ++ ys)) (h.set b [] ++ [[.tip]]))
                        | false => False
                      | _ => False
                    | _ => False
                  | _ => False
                | false => False
              | none => False
            | false => False
          | none => False
        | false => False
      | _ => False
    | .builtin .delete => match c.argTypes.toList with
      | [t, k2] => match T t with
        | some ti => match ti.mapKE with
          | some (k, e) => match T k with
            | some tk => match tk.isStr && Nat.beq k k2 with
              | true => match c.args.toList with
                | [x, ix] => match ev x with
                  | .mp b => match h.getD b [] with
                    | [.mpc k' e' n D] => match Nat.beq k k' && Nat.beq e e' && Nat.blt b h.length with
                      | true => match ev ix with
                        | .con (.string s) => MapD s (K (.con undef) (h.set b [.mpc k e n (D.del (.string s.data.toList))]))
                        | _ => False
                      | false => False
                    | _ => False
                  | _ => False
                | _ => False
              | false => False
            | none => False
          | none => False
        | none => False
      | _ => False
    | _ => valA P T ev h (fun p => K p h) (.call c)
  | .panic x => match ev x with
    | .con (.iface t v) => H (.iface t v)
    | _ => False
  | o => valA P T ev h (fun p => K p h) o
def putE (env : Env) (dst : Option Tmp) (p : PV) : Env := match dst with | some d => env.put d p | none => env
def gvA (ops : List Oper) (env : Env) (j : Nat) : PV := match ops[j]? with
  | some o => match o.dst with | some d => env.get d | none => .any
  | none => .any
def litE (env : Env) (d : Option Tmp) (b : Bool) : Env := putE env d (.con (.bool b))
def dstOf (ops : List Oper) (j : Nat) : Option Tmp := match ops[j]? with | some o => o.dst | none => none
mutual
def substV (b : Nat) (cs : List PV) : PV → PV
  | .ptr b' off => match Nat.beq b' b with | true => .ept cs off | false => .ptr b' off
  | .agg l => .agg (substL b cs l)
  | .tup l => .tup (substL b cs l)
  | .fn f l => .fn f (substL b cs l)
  | .bm f l => .bm f (substL b cs l)
  | .ifc t p => .ifc t p
  | .rw b o n e z => .rw b o n e z
  | .row cs => .row cs
  | .any => .any
  | .con v => .con v
  | .sl xs => .sl xs
  | .ept l off => .ept l off
  | .own b e sz xs => .own b e sz xs
  | .tip => .tip
  | .mp b => .mp b
  | .mpc k e n D => .mpc k e n D
def substL (b : Nat) (cs : List PV) : List PV → List PV
  | [] => []
  | p :: ps => substV b cs p :: substL b cs ps
end
def substP (b : Nat) (cs : List PV) : List (Nat × PV) → List (Nat × PV)
  | [] => []
  | (k, p) :: r => (k, substV b cs p) :: substP b cs r
def substE (b : Nat) (cs : List PV) (e : Env) : Env := ⟨e.n, substP b cs e.l, substV b cs e.d⟩
def sealOne (b : Nat) (env : Env) (h : Heap) : Env × Heap := match isCells (h.getD b []) && undersL 0 (weakL (h.getD b [])) with
  | true => (substE b (weakL (h.getD b [])) env, (h.set b []).map (substL b (weakL (h.getD b []))))
  | false => (env, h)
def sealAll : List Nat → Env → Heap → Env × Heap
  | [], env, h => (env, h)
  | b :: bs, env, h => sealAll bs (sealOne b env h).1 (sealOne b env h).2
mutual
def reachV (h : Heap) : Nat → PV → List Nat
  | 0, _ => []
  | n + 1, .ptr b _ => reachL h n (h.getD b []) ++ [b]
  | n + 1, .agg l => reachL h n l
  | n + 1, .tup l => reachL h n l
  | n + 1, .fn _ l => reachL h n l
  | n + 1, .bm _ l => reachL h n l
  | _ + 1, _ => []
def reachL (h : Heap) : Nat → List PV → List Nat
  | 0, _ => []
  | _ + 1, [] => []
  | n + 1, p :: ps => reachV h n p ++ reachL h n ps
end
def pickW : List AM → List PV → List PV
  | .weak :: r, p :: ps => p :: pickW r ps
  | _ :: r, _ :: ps => pickW r ps
  | _, _ => []
def modesOf (f : PV) : Option (List AM) := match fnOf f with
  | some (fid, _, _) => match S fid with
    | some (.eff ams _ _ _) => some ams
    | some (.effs ((ams, _, _, _) :: _)) => some ams
    | some (.thr ams _ _ _) => some ams
    | _ => none
  | none => none
def allArgs (f : PV) (args : List PV) : List PV := match fnOf f with
  | some (_, fst, cap) => argsOf fst args cap
  | none => args
def preA (o : Op) (env : Env) (h : Heap) : Env × Heap := match o with
  | .call c => match c.callee with
    | .value f => match modesOf S (aev env f) with
      | some ams => sealAll (reachL h 40 (pickW ams (allArgs (aev env f) (c.args.toList.map (aev env))))) env h
      | none => sealAll (reachL h 40 (c.args.toList.map (aev env) ++ [aev env f])) env h
    | _ => (env, h)
  | _ => (env, h)
def opsA (ops : List Oper) (K : Env → Heap → Prop) : List Oper → Env → Heap → Prop
  | [], env, h => K env h
  | o :: rest, env, h => match o.guard with
    | none => opA P T S H (aev (preA S o.op env h).1) (preA S o.op env h).2 (fun p h' => opsA ops K rest (putE (preA S o.op env h).1 o.dst p) h') o.op
    | some (j, want) => match gvA ops env j with
      | .con (.bool b) => match want with
        | true => br b
            (opA P T S H (aev (preA S o.op (litE env (dstOf ops j) true) h).1) (preA S o.op (litE env (dstOf ops j) true) h).2 (fun p h' => opsA ops K rest (putE (preA S o.op (litE env (dstOf ops j) true) h).1 o.dst p) h') o.op)
            (opsA ops K rest (putE (litE env (dstOf ops j) false) o.dst (.con undef)) h)
        | false => br b
            (opsA ops K rest (putE (litE env (dstOf ops j) true) o.dst (.con undef)) h)
            (opA P T S H (aev (preA S o.op (litE env (dstOf ops j) false) h).1) (preA S o.op (litE env (dstOf ops j) false) h).2 (fun p h' => opsA ops K rest (putE (preA S o.op (litE env (dstOf ops j) false) h).1 o.dst p) h') o.op)
      | .con (.tuple _) => opsA ops K rest (putE env o.dst (.con undef)) h
      | _ => False
def quietA (ops : List Oper) (h : Heap) (K : Env → Prop) : List Oper → Env → Prop
  | [], env => K env
  | o :: rest, env =>
    match o.guard with
    | none => quietO o env (fun p => quietA ops h K rest (putE env o.dst p))
    | some (j, want) => match gvA ops env j with
      | .con (.bool b) => match want with
        | true => br b (quietO o (litE env (dstOf ops j) true) (fun p => quietA ops h K rest (putE (litE env (dstOf ops j) true) o.dst p))) (quietA ops h K rest (putE (litE env (dstOf ops j) false) o.dst (.con undef)))
        | false => br b (quietA ops h K rest (putE (litE env (dstOf ops j) true) o.dst (.con undef))) (quietO o (litE env (dstOf ops j) false) (fun p => quietA ops h K rest (putE (litE env (dstOf ops j) false) o.dst p)))
      | .con (.tuple _) => quietA ops h K rest (putE env o.dst (.con undef))
      | _ => False
where
  quietO (o : Oper) (env : Env) (K : PV → Prop) : Prop := match o.op with
    | .call c => match c.callee with
      | .value f => match fnOf (aev env f) with
        | some (fid, fst, cap) => match S fid with
          | some (.pure alts) => match undersL 0 (weakL (argsOf fst (c.args.toList.map (aev env)) cap)) with
            | true => orR alts fun rs => match fixV (packR rs) with
              | some _ => CallN P fid (weakL (argsOf fst (c.args.toList.map (aev env)) cap)) [] (packR rs) (K (packR rs))
              | none => False
            | false => False
          | _ => False
        | none => False
      | _ => valA P T (aev env) h K o.op
    | _ => valA P T (aev env) h K o.op
def Vars : List (Nat × Sh) → Type
  | [] => Unit
  | (_, s) :: r => s.V × Vars r
def getC (k : Nat) (h : Heap) : PV := (h.getD ((k - 1000000) / 1000) []).getD ((k - 1000000) % 1000) .any
def setC (k : Nat) (p : PV) (h : Heap) : Heap := h.set ((k - 1000000) / 1000) ((h.getD ((k - 1000000) / 1000) []).set ((k - 1000000) % 1000) p)
def getL (k : Nat) (e : Env) (h : Heap) : PV := match Nat.blt k 1000000 with | true => e.get k | false => getC k h
def getH (h : Heap) : (s : Sh) → PV → Option s.V
  | .gro b e sz, p => match getGro e sz p with
    | some x => match p with
      | .rw t _ _ _ _ => match h.getD t [] with
        | [.row l] => some (x.1, l)
        | _ => none
      | _ => some x
    | none => none
  | .own b e sz, p => match getOwn e sz p with
    | some x => match p with
      | .own t _ _ _ => match isTip (h.getD t []) with | true => some x | false => none
      | _ => some x
    | none => none
  | s, p => s.get p
def getVs : (p : List (Nat × Sh)) → Env → Heap → Option (Vars p)
  | [], _, _ => some ()
  | (k, s) :: r, e, h => match getH h s (getL k e h) with
    | some v => match getVs r e h with | some vs => some (v, vs) | none => none
    | none => none
def setVs : (p : List (Nat × Sh)) → Vars p → Env → Env
  | [], _, e => e
  | (k, s) :: r, v, e => match Nat.blt k 1000000 with | true => (setVs r v.2 e).put k (s.mk v.1) | false => setVs r v.2 e
def setHs : (p : List (Nat × Sh)) → Vars p → Heap → Heap
  | [], _, h => h
  | (k, s) :: r, v, h => match Nat.blt k 1000000 with | true => setHs r v.2 h | false => setC k (s.mk v.1) (setHs r v.2 h)
def keepF (n : Nat) : List Nat → Env → Env
  | [], _ => ⟨n, [], .any⟩
  | k :: r, e => (keepF n r e).put k (e.get k)
def undersP (d : Nat) : List (Nat × PV) → Bool
  | [] => true
  | (_, p) :: r => PV.under d p && undersP d r
def underE (d : Nat) (e : Env) : Bool := undersP d e.l && PV.under d e.d
def agreeF : List Nat → Env → Env → Prop
  | [], _, _ => True
  | k :: r, e, e' => e'.get k = e.get k ∧ agreeF r e e'
def toksP : (p : List (Nat × Sh)) → Env → Heap → Bd
  | [], _, _ => []
  | (k, s) :: r, e, h => tokS s (getL k e h) ++ toksP r e h
def headN (base : Nat) (ps : Bd) (b : Nat) : Option Nat := match Nat.blt b base with
  | true => some b
  | false => match lookB b ps with | some (some t) => some t | _ => none
def nOwn : List (Nat × Sh) → Nat
  | [] => 0
  | (_, .own _ _ _) :: r => nOwn r + 1
  | (_, .gro _ _ _) :: r => nOwn r + 1
  | _ :: r => nOwn r
def tipRow (l : List PV) : Bool := match kind l with | .dead => false | _ => true
def lowB (base : Nat) : List (Nat × Sh) → Bool
  | [] => true
  | (_, .ptr b _) :: r => Nat.blt b base && lowB base r
  | (_, .mp b) :: r => Nat.blt b base && lowB base r
  | (_, .rw b _ _ _) :: r => Nat.blt b base && lowB base r
  | _ :: r => lowB base r
def blkOf (b : Nat) : (p : List (Nat × Sh)) → Vars p → List PV
  | [], _ => [.tip]
  | (_, .gro b' _ _) :: r, v => match Nat.beq b b' with
    | true => [.row v.1.2]
    | false => blkOf b r v.2
  | _ :: r, v => blkOf b r v.2
def newBs (base : Nat) (p : List (Nat × Sh)) (v : Vars p) : Nat → Heap
  | 0 => []
  | n + 1 => newBs base p v n ++ [blkOf (base + n) p v]
def okB (base top : Nat) (h : Heap) : Bd → List Nat → Bool
  | [], _ => true
  | (b, some t) :: r, seen => (match Nat.blt b base with
    | true => Nat.beq b t
    | false => Nat.blt b top && tipRow (h.getD t []) && !(seen.any (Nat.beq t))) && okB base top h r (t :: seen)
  | (b, none) :: r, seen => Nat.ble base b && Nat.blt b top && okB base top h r seen
def keysB : Bd → List Nat
  | [] => []
  | (b, _) :: r => b :: keysB r
def killB (base : Nat) : Bd → Heap → Heap
  | [], h => h
  | (b, some t) :: r, h => match Nat.blt b base with
    | true => killB base r h
    | false => killB base r (h.set t [])
  | (_, none) :: r, h => killB base r h
def allPast (base : Nat) : Bd → Bool
  | [] => true
  | (b, some t) :: r => (Nat.blt b base || Nat.ble base t) && allPast base r
  | (_, none) :: r => allPast base r
def relS (base : Nat) : List (Nat × Sh) → List (Nat × Sh)
  | [] => []
  | (k, .own i e sz) :: r => (k, .own (base + i) e sz) :: relS base r
  | (k, .gro i e sz) :: r => (k, .gro (base + i) e sz) :: relS base r
  | (k, s) :: r => (k, s) :: relS base r
def sealsOf : List Nat → List Nat
  | [] => []
  | k :: r => match Nat.blt k 2000000 with | true => sealsOf r | false => (k - 2000000) :: sealsOf r
def loopE (fx : List Nat) (p : List (Nat × Sh)) (B : (Exit → Env → Heap → Prop) → Env → Heap → Prop) (Q : Exit → Env → Heap → Prop) (env : Env) (h : Heap) : Prop :=
  match getVs p env h with
  | some v0 => match underE h.length (keepF env.n fx env) && lowB h.length p && h.all (undersL h.length) && nodupN ((keysB (toksP p env h)).filter (Nat.ble h.length)) && okB h.length (h.length + nOwn p) h (toksP p env h) [] with
    | true => ∃ I : Nat → Vars p → Prop, (∃ n, I n v0) ∧ ∀ n v, I n v → B (fun x e' h' => match x with
        | .normal => match getVs p e' h' with
          | some v' => match Nat.beq e'.n env.n && okB h.length (h.length + nOwn p) h' (toksP p e' h') [] && nodupN ((keysB (toksP p e' h')).filter (Nat.ble h.length)) && allPast h.length (toksP p e' h') && Nat.ble h.length h'.length with
            | true => agreeF fx env e' ∧ setHs p v' (h'.take h.length) = setHs p v' (killB h.length (toksP p env h) h) ∧ ∃ k, k < n ∧ I k v'
            | false => False
          | none => False
        | x => Q x e' h') (setVs p v (keepF env.n fx env)) (setHs p v (killB h.length (toksP p env h) h) ++ newBs h.length p v (nOwn p))
    | false => False
  | none => False
def regOf : Code → Option Nat
  | .region id _ _ => some id
  | .seq a b => match regOf a with | some x => some x | none => regOf b
  | .block _ b => regOf b
  | .loop b => regOf b
  | .scope b => regOf b
  | .cond _ a b => match regOf a with | some x => some x | none => regOf b
  | _ => none
def loudAt : List Oper → Option Nat
  | [] => none
  | o :: l => match o.op with
    | .alloc .. => some 0
    | .box .. => some 0
    | .store .. => some 0
    | .buildSlice .. => some 0
    | .makeMap .. => some 0
    | .mapUpdate .. => some 0
    | .panic .. => some 0
    | .call c => match c.callee with
      | .builtin .append => some 0
      | .builtin .delete => some 0
      | _ => match loudAt l with | some n => some (n + 1) | none => none
    | _ => match loudAt l with | some n => some (n + 1) | none => none
def loudAt2 : List Oper → Option Nat
  | [] => none
  | o :: l => match o.op with
    | .box .. => some 0
    | .store .. => some 0
    | .buildSlice .. => some 0
    | .makeMap .. => some 0
    | .mapUpdate .. => some 0
    | .panic .. => some 0
    | .call c => match c.callee with
      | .builtin .append => some 0
      | .builtin .delete => some 0
      | _ => match loudAt2 l with | some n => some (n + 1) | none => none
    | _ => match loudAt2 l with | some n => some (n + 1) | none => none
def loud2 (ops : Array Oper) : Nat := match loudAt2 ops.toList with | some n => n | none => ops.size
def loudAt3 : List Oper → Option Nat
  | [] => none
  | o :: l => match o.op with
    | .box .. => some 0
    | .store .. => some 0
    | .makeMap .. => some 0
    | .mapUpdate .. => some 0
    | .panic .. => some 0
    | .call c => match c.callee with
      | .builtin .append => some 0
      | .builtin .delete => some 0
      | _ => match loudAt3 l with | some n => some (n + 1) | none => none
    | _ => match loudAt3 l with | some n => some (n + 1) | none => none
def loud3 (ops : Array Oper) : Nat := match loudAt3 ops.toList with | some n => n | none => ops.size
def loudAt4 : List Oper → Option Nat
  | [] => none
  | o :: l => match o.op with
    | .box .. => some 0
    | .store .. => some 0
    | .makeMap .. => some 0
    | .mapUpdate .. => some 0
    | .panic .. => some 0
    | .call c => match c.callee with
      | .builtin .delete => some 0
      | _ => match loudAt4 l with | some n => some (n + 1) | none => none
    | _ => match loudAt4 l with | some n => some (n + 1) | none => none
def loud4 (ops : Array Oper) : Nat := match loudAt4 ops.toList with | some n => n | none => ops.size
def tmpsL : List Operand → List Nat
  | [] => []
  | .tmp t :: r => t :: tmpsL r
  | _ :: r => tmpsL r
def onlyL (e : Env) : List Nat → List (Nat × PV)
  | [] => []
  | t :: r => (t, e.get t) :: onlyL e r
def onlyE (ts : List Nat) (e : Env) : Env := ⟨e.n, onlyL e ts, .any⟩
def findDst (t : Nat) : List Oper → Nat → Option Nat
  | [], _ => none
  | o :: r, i => match o.dst with
    | some d => match Nat.beq t d with | true => some i | false => findDst t r (i + 1)
    | none => findDst t r (i + 1)
def belowB (j : Nat) : List Edge → Bool
  | [] => true
  | e :: r => (!(Region.binds .any e) || Nat.blt e.on j) && belowB j r
def waitsL (i : Nat) : List Edge → Bool
  | [] => false
  | e :: r => (Region.binds .any e && Nat.beq e.on i) || waitsL i r
def waitsH (hd : List Oper) (i j : Nat) : Bool := match hd[i]? with | some o => waitsL j o.after.toList | none => false
def slotsOk (hd : List Oper) (j : Nat) (af : List Edge) : List Nat → Bool
  | [] => true
  | t :: r => (match findDst t hd 0 with | some i => (Nat.blt i j && waitsL i af) || (Nat.blt j i && waitsH hd i j) | none => true) && slotsOk hd j af r
def readsO (hd : List Oper) (o : Oper) : List Nat := match o.guard with
  | none => tmpsL o.op.operands.toList
  | some (i, _) => match dstOf hd i with | some t => t :: tmpsL o.op.operands.toList | none => tmpsL o.op.operands.toList
def guardOk (hd : List Oper) (o : Oper) (j : Nat) : Bool := match o.guard with
  | none => true
  | some (i, _) => Nat.blt i j && (match dstOf hd i with | some _ => true | none => false)
def calmL (hd : List Oper) : List Oper → Nat → Bool
  | [], _ => true
  | o :: r, j => guardOk hd o j && belowB j o.after.toList && slotsOk hd j o.after.toList (readsO hd o) &&
      (match o.dst with | some d => (match findDst d r 0 with | none => true | some _ => false) | none => true) && calmL hd r (j + 1)
def headSeen (size n : Nat) : Array Bool := ((List.range size).map fun i => Nat.blt i n).toArray
def calmOk (ops : Array Oper) (n : Nat) : Bool := calmL (ops.toList.take n) (ops.toList.take n) 0 && Nat.ble n ops.size && (match Nat.beq n ops.size with
  | true => (Region.ready .any ops (headSeen ops.size n)).isEmpty
  | false => Region.sinkB .any ops n && Region.chainB .any ops n && Region.seqB .any ops (ops.size - n) n (headSeen ops.size n))
def guardE : Option Prop → Prop → Prop
  | none, X => X
  | some g, X => g → X
def andE (a : Option Prop) : Option Prop → Option Prop
  | none => a
  | some g => match a with | none => some g | some b => some (b ∧ g)
def preE : Option Prop → Prop
  | none => True
  | some g => g
inductive AppNG (pre : Prop) (xs ys : List (List PV)) (sz bytes : Nat) (one : PV → Bool) (X : Prop) : Prop where
  | mk (hc : pre → (xs.length + ys.length) * bytes ≤ 140737488355328 ∧ ∀ y ∈ ys, y.length = sz ∧ ∀ p ∈ y, one p = true) (hk : X) : AppNG pre xs ys sz bytes one X
def appA (ev : Operand → PV) (h : Heap) (K : List (List PV) → List (List PV) → Nat → Nat → PV → Heap → Prop) (c : Call) : Prop := match c.argTypes.toList with
      | [t, t'] => match Nat.beq t t' with
        | true => match T t with
          | some ti => match ti.isSl with
            | true => match T ti.elem with
              | some ei => match Nat.blt 0 ei.size && Nat.blt 0 ei.bytes && zeroOk ei with
                | true => match c.args.toList with
                  | [s, x] => match weak (ev x) with
                    | .sl ys => match ev s with
                      | .con v => match isNil v with
                        | true => K [] ys ei.size ei.bytes (.own (h.length + 1) ti.elem ei.size ys) (h ++ [[], [.tip]])
                        | false => False
                      | .own b e sz xs => match Nat.beq e ti.elem && Nat.beq sz ei.size && isTip (h.getD b []) with
                        | true => K xs ys ei.size ei.bytes (.own h.length ti.elem ei.size (xs ++ ys)) (h.set b [] ++ [[.tip]])
                        | false => False
                      | _ => False
                    | _ => False
                  | _ => False
                | false => False
              | none => False
            | false => False
          | none => False
        | false => False
      | _ => False
def appN (ev : Operand → PV) (c : Call) : List Nat := match c.args.toList with
  | s :: _ => match ev s with | .own b _ _ _ => [b] | _ => []
  | [] => []
def calmO (gs : Option Prop) (ev : Operand → PV) (h : Heap) (K : Option Prop → PV → Heap → Prop) (op : Op) : Prop := match op with
  | .call c => match c.callee with
    | .value f => match fnOf (ev f) with
      | some (fid, fst, cap) => match S fid with
        | some (.pure alts) => orR alts fun rs => CallN P fid (weakL (argsOf fst (c.args.toList.map ev) cap)) h (packR rs) (K none (packR rs) h)
        | some (.eff ams pre res post) => effA P fid ams pre res post (argsOf fst (c.args.toList.map ev) cap) h (K none)
        | some (.effs alts) => effsA P fid (argsOf fst (c.args.toList.map ev) cap) h (K none) alts
        | some (.thr ams pre res post) => thrA P H (preE gs) fid ams pre res post (argsOf fst (c.args.toList.map ev) cap) h (fun g => K (some g))
        | none => False
      | none => False
    | .builtin .append => match isRowApp S ev c with
      | true => rowAppA T ev h (fun n k len cs sz by' p h' => AppRG (preE gs) n k len cs sz by' PV.one (K none p h')) c
      | false => appA T ev h (fun xs ys sz by' p h' => AppNG (preE gs) xs ys sz by' PV.one (K none p h')) c
    | _ => valA P T ev h (fun p => K none p h) (.call c)
  | .alloc t => match T t with
    | some ti => match ti.zero with
      | some z => match arrT T t with
        | true => K none (.ptr h.length 0) (h ++ [[.row z]])
        | false => K none (.ptr h.length 0) (h ++ [z])
      | none => False
    | none => False
  | .buildSlice t len parts => match T t with
    | some ti => match ti.isSl with
      | true => match T ti.elem with
        | some ei => match partsA ev ei.size 0 parts.toList with
          | some css => match Nat.beq css.length len && Nat.ble (len * ei.size) 16777216 && Nat.blt 0 (len * ei.size) && zeroOk ei with
            | true => K none (.own h.length ti.elem ei.size css) (h ++ [[.tip]])
            | false => False
          | none => False
        | none => False
      | false => False
    | none => False
  | op => valA P T ev h (fun p => K none p h) op
def keepS : Sh → PV → Bool
  | .int _, _ => true
  | .bool, _ => true
  | .str, _ => true
  | .row, _ => true
  | .rw _ _ _ _, _ => true
  | .ptr _ _, _ => true
  | .nilp, _ => true
  | .gro _ _ _, .rw _ _ _ _ _ => true
  | _, _ => false
def keepL : List Sh → List PV → Bool
  | s :: r, p :: ps => keepS s p && keepL r ps
  | _, _ => true
def keepB : BT → List PV → Bool
  | .cells ss, l => keepL ss l
  | _, _ => false
def keptT (t : BT) (l : List PV) : BT → Bool
  | .keep => keepB t l
  | _ => false
def turnN (ρ : Nat → Nat) (h : Heap) : List BT → List BT → Nat → List Nat
  | [], _, _ => []
  | t :: r, q, i => match keptT t (h.getD (ρ i) []) (q.headD .dead) with
    | true => turnN ρ h r q.tail (i + 1)
    | false => ρ i :: turnN ρ h r q.tail (i + 1)
def namesE (h : Heap) (args : List PV) : List (List AM × List BT × List RSh × List BT) → List Nat
  | [] => []
  | (ams, pre, _, post) :: r => turnN (nameOf h.length (bindBs h pre 0 (tokA ams args)) pre.length) h pre post 0 ++ namesE h args r
def infoO (ev : Operand → PV) (h : Heap) (op : Op) : Bool × List Nat := match op with
  | .load _ a => match ev a with | .ptr b _ => (false, [b]) | _ => (false, [])
  | .slice _ x _ _ _ => match ev x with | .ptr b _ => (false, [b]) | _ => (false, [])
  | .lookup _ x _ _ => match ev x with | .mp b => (false, [b]) | _ => (false, [])
  | .alloc _ => (true, [])
  | .buildSlice .. => (true, [])
  | .call c => match c.callee with
    | .value f => match fnOf (ev f) with
      | some (fid, fst, cap) => match S fid with
        | some (.pure _) => (true, [])
        | some (.eff ams pre _ post) => (true, turnN (nameOf h.length (bindBs h pre 0 (tokA ams (argsOf fst (c.args.toList.map ev) cap))) pre.length) h pre post 0)
        | some (.effs alts) => (true, namesE h (argsOf fst (c.args.toList.map ev) cap) alts)
        | some (.thr ams pre _ _) => (true, (upTo pre.length).map (nameOf h.length (bindBs h pre 0 (tokA ams (argsOf fst (c.args.toList.map ev) cap))) pre.length))
        | none => (false, [])
      | none => (false, [])
    | .builtin .append => (true, match isRowApp S ev c with | true => namesR ev c | false => appN ev c)
    | _ => (false, [])
  | _ => (false, [])
abbrev Infos := List (Bool × List Nat)
def onsL : List Edge → List Nat
  | [] => []
  | e :: r => match Region.binds .any e with | true => e.on :: onsL r | false => onsL r
def onsO (hd : List Oper) (k : Nat) : List Nat := match hd[k]? with | some o => onsL o.after.toList | none => []
def downTo (hd : List Oper) : Nat → Nat → List Nat → List Nat
  | 0, _, ms => ms
  | f + 1, k, ms => match ms.any (Nat.beq k) with | true => downTo hd f (k - 1) (onsO hd k ++ ms) | false => downTo hd f (k - 1) ms
def waitsO (hd : List Oper) (j i : Nat) : Bool := (downTo hd (j - i) j [j]).any (Nat.beq i)
def chainOk (hd : List Oper) : Infos → Nat → Option Nat → Bool
  | [], _, _ => true
  | (true, _) :: r, j, some i => waitsO hd j i && chainOk hd r (j + 1) (some j)
  | (true, _) :: r, j, none => chainOk hd r (j + 1) (some j)
  | (false, _) :: r, j, x => chainOk hd r (j + 1) x
def isEff (acc : Infos) (i : Nat) : Bool := match acc[i]? with | some (b, _) => b | none => false
def namesAt (acc : Infos) (i : Nat) : List Nat := match acc[i]? with | some (_, l) => l | none => []
def floatOk (hd : List Oper) (base : Nat) (acc : Infos) : Bool := chainOk hd acc 0 none && (upTo acc.length).all fun j => isEff acc j || (upTo acc.length).all fun e => !(isEff acc e) || (Nat.blt e j && waitsO hd j e) || (Nat.blt j e && waitsO hd e j) || (namesAt acc j).all (fun b => Nat.blt b base && !((namesAt acc e).any (Nat.beq b)))
def skipI (op : Op) : Bool × List Nat := match op with
  | .alloc _ => (true, [])
  | .buildSlice .. => (true, [])
  | .call c => match c.callee with | .value _ => (true, []) | .builtin .append => (true, []) | _ => (false, [])
  | _ => (false, [])
def unord (hd : List Oper) (j : Nat) : Bool := (upTo hd.length).any (fun i => match hd[i]? with | some x => (skipI x.op).1 && !(Nat.beq i j) && !(waitsO hd j i) && !(waitsO hd i j) | none => false)
def isHid (hd : List Oper) (o : Oper) : Bool := match o.op with
  | .alloc _ => match o.guard with
    | none => match o.dst with
      | some d => match findDst d hd 0 with
        | some j => unord hd j && hd.all (fun x => !((readsO hd x).any (Nat.beq d)))
        | none => false
      | none => false
    | some _ => false
  | _ => false
def hidOf (hd : List Oper) : Option (Tmp × TypeId) := match hd.filter (isHid hd) with
  | [o] => match o.op with
    | .alloc t => match o.dst with | some d => some (d, t) | none => none
    | _ => none
  | _ => none
def isHidO (hd : List Oper) (o : Oper) : Bool := match hidOf hd with
  | some (d, _) => match o.dst with | some d' => Nat.beq d d' | none => false
  | none => false
def isLone (hd : List Oper) (o : Oper) : Bool := isHidO hd o || (match o.op with
  | .buildSlice _ _ _ => match o.dst with
    | some d => match findDst d hd 0 with
      | some j => unord hd j
      | none => false
    | none => false
  | _ => false)
def loneA (ev : Operand → PV) (K : PV → Prop) (op : Op) : Prop := match op with
  | .alloc t => match T t with
    | some ti => match ti.zero with
      | some z => match kind z with | .cells => K .any | _ => False
      | none => False
    | none => False
  | .buildSlice t len parts => match T t with
    | some ti => match ti.isSl with
      | true => match T ti.elem with
        | some ei => match partsA ev ei.size 0 parts.toList with
          | some css => match Nat.beq css.length len && Nat.ble (len * ei.size) 16777216 && Nat.blt 0 (len * ei.size) && zeroOk ei with
            | true => K (.sl css)
            | false => False
          | none => False
        | none => False
      | false => False
    | none => False
  | _ => False
def calmRun (hd : List Oper) (o : Oper) (env : Env) (h : Heap) (acc : Infos) (gs : Option Prop) (N : Option Prop → Env → Heap → Infos → Prop) : Prop := match isLone hd o with
  | true => loneA T (aev (onlyE (readsO hd o) env)) (fun p => N none (putE env o.dst p) h (acc ++ [(false, [])])) o.op
  | false => calmO P T S H gs (aev (onlyE (readsO hd o) env)) h (fun g p h' => N g (putE env o.dst p) h' (acc ++ [infoO S (aev (onlyE (readsO hd o) env)) h o.op])) o.op
def calmSkip (o : Oper) (env : Env) (h : Heap) (acc : Infos) (N : Option Prop → Env → Heap → Infos → Prop) : Prop := N none (putE env o.dst (.con undef)) h (acc ++ [skipI o.op])
def calmG (hd : List Oper) (o : Oper) (env : Env) (h : Heap) (acc : Infos) (gs : Option Prop) (N : Option Prop → Env → Heap → Infos → Prop) : Prop := match o.guard with
  | none => calmRun P T S H hd o env h acc gs N
  | some (j, want) => match gvA hd env j with
    | .con (.bool b) => match want with
      | true => br b (calmRun P T S H hd o (litE env (dstOf hd j) true) h acc gs N) (calmSkip o (litE env (dstOf hd j) false) h acc N)
      | false => br b (calmSkip o (litE env (dstOf hd j) true) h acc N) (calmRun P T S H hd o (litE env (dstOf hd j) false) h acc gs N)
    | .con (.tuple _) => calmSkip o env h acc N
    | _ => False
def calmA (hd : List Oper) (ok : Infos → Bool) (K : Env → Heap → Prop) : List Oper → Env → Heap → Infos → Option Prop → Prop
  | [], env, h, acc, gs => match ok acc with | true => guardE gs (K env h) | false => False
  | o :: r, env, h, acc, gs => calmG P T S H hd o env h acc gs (fun g e' h' acc' => calmA hd ok K r e' h' acc' (andE gs g))
def endF (hd : List Oper) (K : Env → Heap → Prop) (e : Env) (h : Heap) : Prop := match hidOf hd with
  | some (d, t) => match T t with
    | some ti => match ti.zero with
      | some z => match kind z with
        | .cells => match Nat.blt d e.n with
          | true => K (putE e (some d) (.ptr h.length 0)) (h ++ [z])
          | false => False
        | _ => False
      | none => False
    | none => False
  | none => K e h
def slotOf : Operand → Option Tmp
  | .tmp t => some t
  | _ => none
def codeA : Code → (Exit → Env → Heap → Prop) → Env → Heap → Prop
  | .skip, Q, e, h => Q .normal e h
  | .seq a b, Q, e, h => codeA a (fun x e' h' => match x with | .normal => codeA b Q e' h' | x => Q x e' h') e h
  | .cond c x y, Q, e, h => match aev e c with
    | .con (.bool b) => br b (codeA x Q (litE e (slotOf c) true) h) (codeA y Q (litE e (slotOf c) false) h)
    | _ => False
  | .block id b, Q, e, h => codeA b (fun x e' h' => match x with
    | .exit i => match Nat.beq i id with | true => Q .normal e' h' | false => Q (.exit i) e' h'
    | x => Q x e' h') e h
  | .exit id, Q, e, h => Q (.exit id) e h
  | .ret, Q, e, h => Q .ret e h
  | .label _, Q, e, h => Q .normal e h
  | .region _ ops true, Q, e, h => match calmOk ops (match loudAt ops.toList with | some n => n | none => ops.size) with
    | true => calmA P T S H (ops.toList.take (match loudAt ops.toList with | some n => n | none => ops.size)) (floatOk (ops.toList.take (match loudAt ops.toList with | some n => n | none => ops.size)) h.length) (endF T (ops.toList.take (match loudAt ops.toList with | some n => n | none => ops.size)) (fun e' h' => opsA P T S H ops.toList (fun e2 h2 => Q .normal e2 h2) (ops.toList.drop (match loudAt ops.toList with | some n => n | none => ops.size)) e' h')) (ops.toList.take (match loudAt ops.toList with | some n => n | none => ops.size)) e h [] none
    | false => match loudAt ops.toList with
    | some n => match Region.lexTailB .any ops n with
      | true => quietA P T S ops.toList h (fun e' => opsA P T S H ops.toList (fun e2 h2 => Q .normal e2 h2) (ops.toList.drop n) e' h) (ops.toList.take n) e
      | false => match calmOk ops (loud2 ops) with
        | true => calmA P T S H (ops.toList.take (loud2 ops)) (floatOk (ops.toList.take (loud2 ops)) h.length) (endF T (ops.toList.take (loud2 ops)) (fun e' h' => opsA P T S H ops.toList (fun e2 h2 => Q .normal e2 h2) (ops.toList.drop (loud2 ops)) e' h')) (ops.toList.take (loud2 ops)) e h [] none
        | false => match calmOk ops (loud3 ops) with
          | true => calmA P T S H (ops.toList.take (loud3 ops)) (floatOk (ops.toList.take (loud3 ops)) h.length) (endF T (ops.toList.take (loud3 ops)) (fun e' h' => opsA P T S H ops.toList (fun e2 h2 => Q .normal e2 h2) (ops.toList.drop (loud3 ops)) e' h')) (ops.toList.take (loud3 ops)) e h [] none
          | false => match calmOk ops (loud4 ops) with
            | true => calmA P T S H (ops.toList.take (loud4 ops)) (floatOk (ops.toList.take (loud4 ops)) h.length) (endF T (ops.toList.take (loud4 ops)) (fun e' h' => opsA P T S H ops.toList (fun e2 h2 => Q .normal e2 h2) (ops.toList.drop (loud4 ops)) e' h')) (ops.toList.take (loud4 ops)) e h [] none
            | false => False
    | none => match Region.lexB .any ops with
      | true => quietA P T S ops.toList h (fun e' => Q .normal e' h) ops.toList e
      | false => False
  | .region _ ops false, Q, e, h => opsA P T S H ops.toList (fun e' h' => Q .normal e' h') ops.toList e h
  | .loop b, Q, e, h => match regOf b with
    | some id => match L id with
      | some (fx, p) => loopE (fx.filter (fun k => Nat.blt k 2000000)) (relS h.length p) (codeA b) Q (sealAll (sealsOf fx) e h).1 (sealAll (sealsOf fx) e h).2
      | none => False
    | none => False
  | _, _, _, _ => False
end Go.Proofs.YtboopmfjkepilaaGreatDoor.Deep

namespace Go.Proofs.YtboopmfjkepilaaGreatDoor.Deep
open Go.RowKit
set_option linter.unusedVariables false
set_option linter.unusedSimpArgs false
variable {P : Program} {T : TypeId → Option TI} {G : Nat → Nat} {m : Nat → Pl} {w : World}
def Tok (P : Program) (T : TypeId → Option TI) : Prop := ∀ t ti, T t = some ti → infoP P t = ti ∧ (P.underlying t).isSome = true
theorem Rep.getD {n : Nat} {vs : List Value} {cs : List PV} (hl : vs.length = cs.length) (hr : ∀ i, i < cs.length → Rep G m w n (vs.getD i undef) (cs.getD i .any)) (i : Nat) (d : Value) : Rep G m w n (vs.getD i d) (cs.getD i .any) := by
  by_cases hi : i < cs.length
  · have := hr i hi
    rw [List.getD_eq_getElem?_getD, List.getElem?_eq_getElem (by omega)] at this ⊢
    exact this
  · rw [List.getD_eq_getElem?_getD (l := cs), List.getElem?_eq_none (by omega)]; exact .any _ _
theorem rep_mapP1 (n : Nat) (vs : List Value) : ∀ i, i < (vs.map PV.con).length → Rep G m w n (vs.getD i undef) ((vs.map PV.con).getD i .any) := fun i hi => by
  have hi' : i < vs.length := by simpa using hi
  rw [List.getD_eq_getElem?_getD, List.getD_eq_getElem?_getD, List.getElem?_eq_getElem hi', List.getElem?_eq_getElem hi]
  simp only [Option.getD_some, List.getElem_map]
  exact .con n _
theorem rep_conP (n : Nat) (v : Value) : Rep G m w n v (conP v) := by
  unfold conP
  split
  · rename_i cs
    have := Rep.agg (G := G) (m := m) (w := w) n cs.toList (cs.toList.map PV.con) (by simp) (rep_mapP1 n cs.toList)
    simpa using this
  · exact .con _ _
theorem weakL_length : ∀ l : List PV, (weakL l).length = l.length
  | [] => rfl
  | p :: ps => by simp [weakL, weakL_length ps]
theorem weakL_getD : ∀ (l : List PV) (i : Nat), (weakL l).getD i .any = weak (l.getD i .any)
  | [], i => by simp [weakL, weak]
  | p :: ps, 0 => by simp [weakL]
  | p :: ps, i + 1 => by simpa [weakL] using weakL_getD ps i
theorem rep_nil (n : Nat) : Rep G m w n (.slice none 0 0) (.sl []) := .sl n none 0 0 [] (fun _ _ => undef) (by simp) (by simp) (by simp) (by simp) (by simp)
theorem Rep.weak {n : Nat} {v : Value} {p : PV} (h : Rep G m w n v p) : Rep G m w n v (weak p) := by
  induction h with
  | any n v => exact .any _ _
  | con n v =>
    unfold Deep.weak weakV
    split
    · exact rep_nil n
    · exact .con _ _
  | agg n vs cs hl hr ih => exact .agg _ _ _ (by rw [weakL_length]; exact hl) (fun i hi => by rw [weakL_getD]; exact ih i (by rwa [weakL_length] at hi))
  | tup n vs cs hl hr ih => exact .tup _ _ _ (by rw [weakL_length]; exact hl) (fun i hi => by rw [weakL_getD]; exact ih i (by rwa [weakL_length] at hi))
  | sl n a c sz xs F h1 h2 h3 h4 h5 ih => exact .sl n a c sz xs F h1 h2 h3 h4 h5
  | ptr n b off hb => exact .ptr _ _ _ hb
  | ept n g o off l F h1 h2 h3 ih => exact .ept n g o off l F h1 h2 h3
  | fn n f vs l hl hr ih => exact .fn _ _ _ _ (by rw [weakL_length]; exact hl) (fun i hi => by rw [weakL_getD]; exact ih i (by rwa [weakL_length] at hi))
  | bm n f vs l hl hr ih => exact .bm _ _ _ _ (by rw [weakL_length]; exact hl) (fun i hi => by rw [weakL_getD]; exact ih i (by rwa [weakL_length] at hi))
  | ifc n t v p hr ih => exact .ifc _ _ _ _ hr
  | rw0 n b e sz hb => exact .rw0 _ _ _ _ hb
  | rw n0 b off n c q N e sz hb hc hm hq hN hsh hf => exact .rw _ _ _ _ _ _ N _ _ hb hc hm hq hN hsh hf
  | own0 n b e sz hb => exact rep_nil n
  | own1 n b e c sz xs F hb hp hc hm h0 hz hsh hg hfr hx hr ih =>
    exact .sl n _ c sz xs F hc hm hz (fun _ => ⟨(m b).at', 0, rfl, by omega, fun i hi j hj => by rw [Nat.zero_add]; exact hx i hi j hj⟩) hr
  | mp n b hb => exact .mp _ _ hb
def Lie (G : Nat → Nat) (m : Nat → Pl) (w : World) (n g o : Nat) (cells : List PV) : Prop := ∃ F : Nat → Value, (∀ j, j < cells.length → w.cell? ⟨g, o + j, none⟩ = some (F j)) ∧ ∀ j, j < cells.length → Rep G m w n (F j) (cells.getD j .any)
theorem Lie.drop {n g o : Nat} {cells : List PV} (h : Lie G m w n g o cells) (k : Nat) : Lie G m w n g (o + k) (cells.drop k) := by
  obtain ⟨F, h1, h2⟩ := h
  refine ⟨fun j => F (k + j), fun j hj => ?_, fun j hj => ?_⟩
  · simp only [List.length_drop] at hj; have := h1 (k + j) (by omega); rwa [← Nat.add_assoc] at this
  · simp only [List.length_drop] at hj
    have := h2 (k + j) (by omega)
    simpa [List.getD_eq_getElem?_getD] using this
theorem Lie.lift {g o n n' : Nat} {cells : List PV} (h : Lie G m w n g o cells) (hn : n ≤ n') : Lie G m w n' g o cells := by
  obtain ⟨F, h1, h2⟩ := h
  exact ⟨F, h1, fun j hj => (h2 j hj).keep hn ⟨fun _ => Nat.le_refl _, fun _ _ _ => rfl, fun _ _ _ h => h, fun _ _ => rfl⟩⟩
theorem isCells_kind {l : List PV} (h : isCells l = true) : kind l = .cells := by
  unfold isCells at h
  split at h
  · assumption
  · cases h
theorem HS.lie {h : Heap} (k : HS P G m w h) (b off : Nat) (hb : b < h.length) (hc : isCells (h.getD b []) = true) : Lie G m w h.length (m b).at' off ((h.getD b []).drop off) := by
  have hL := k.blk b hb
  unfold Lies at hL
  rw [isCells_kind hc] at hL
  obtain ⟨⟨cs, X, h1, h2, h3⟩, _⟩ := hL
  have : Lie G m w h.length (m b).at' 0 (h.getD b []) := by
    refine ⟨fun j => cs.getD j undef, fun j hj => ?_, fun j hj => h3 j hj⟩
    simp only [World.cell?, h1, Nat.zero_add, List.getElem?_toArray]
    simp [List.getElem?_eq_getElem (show j < cs.length by omega), List.getD_eq_getElem?_getD]
  have := this.drop off
  rwa [Nat.zero_add] at this
theorem Lie.take {n g o : Nat} {cells : List PV} (h : Lie G m w n g o cells) (k : Nat) : Lie G m w n g o (cells.take k) := by
  obtain ⟨F, h1, h2⟩ := h
  refine ⟨F, fun j hj => h1 j (by simp at hj; omega), fun j hj => ?_⟩
  have hj' : j < k ∧ j < cells.length := by simp at hj; omega
  have := h2 j hj'.2
  simpa [List.getD_eq_getElem?_getD, List.getElem?_take, hj'.1] using this
theorem HS.lieRow {h : Heap} (k : HS P G m w h) (b off : Nat) (l : List PV) (hb : b < h.length) (hc : h.getD b [] = [.row l]) : Lie G m w 0 (m b).at' off (l.drop off) := by
  have hL := k.blk b hb
  unfold Lies at hL
  rw [hc] at hL
  simp only [kind] at hL
  by_cases h0 : (m b).fr = 0
  · rw [hL.2 h0]
    exact ⟨fun _ => undef, fun j hj => by simp at hj, fun j hj => by simp at hj⟩
  obtain ⟨⟨cs, X, h1, h2, h3⟩, _⟩ := hL.1 h0
  have : Lie G m w 0 (m b).at' 0 l := by
    refine ⟨fun j => cs.getD j undef, fun j hj => ?_, fun j hj => h3 j hj⟩
    simp only [World.cell?, h1, Nat.zero_add, List.getElem?_toArray]
    simp [List.getElem?_eq_getElem (show j < cs.length by omega), List.getD_eq_getElem?_getD]
  have := this.drop off
  rwa [Nat.zero_add] at this
theorem HS.at_ltRow {h : Heap} (k : HS P G m w h) (b : Nat) (l : List PV) (hb : b < h.length) (hc : h.getD b [] = [.row l]) (h0 : l ≠ []) : (m b).at' < w.heap.size := by
  have hL := k.blk b hb
  unfold Lies at hL
  rw [hc] at hL
  simp only [kind] at hL
  exact k.lt hb (by unfold alive; rw [hc]; exact fun e => h0 (hL.2 e))
theorem HS.at_lt {h : Heap} (k : HS P G m w h) (b : Nat) (hb : b < h.length) (hc : isCells (h.getD b []) = true) : (m b).at' < w.heap.size :=
  k.lt hb (by unfold alive; rw [isCells_kind hc]; trivial)
theorem und_info {t : TypeId} {d : TypeDesc} (h : P.underlying t = some d) : ∃ i, P.info? t = some i ∧ i.size = P.cellsOf t := by
  unfold Program.underlying at h
  unfold Program.cellsOf
  split at h
  · rename_i u z hq; exact ⟨_, hq, by rw [hq]; rfl⟩
  · rename_i i hi hq; exact ⟨i, hq, by rw [hq]; rfl⟩
  · simp at h
theorem isAgg_run {t : TypeId} {ti : TI} (hi : infoP P t = ti) (hs : (P.underlying t).isSome = true) : (isAgg t).run P w = .ok ti.agg w := by
  obtain ⟨d, hd⟩ := Option.isSome_iff_exists.1 hs
  subst hi
  unfold isAgg infoP
  rw [Sem.run_bind, run_underlying hd w, hd]
  cases d <;> rfl
theorem sizeOf_run {t : TypeId} {ti : TI} (hi : infoP P t = ti) (hs : (P.underlying t).isSome = true) : (Go.sizeOf t).run P w = .ok ti.size w := by
  obtain ⟨d, hd⟩ := Option.isSome_iff_exists.1 hs
  obtain ⟨i, h1, h2⟩ := und_info hd
  subst hi
  simp [Go.sizeOf, typeInfo, h1, infoP, h2]
theorem loadA_run {t : TypeId} {ti : TI} (hi : infoP P t = ti) (hs : (P.underlying t).isSome = true) {n g o : Nat} {cells : List PV} (hl : Lie G m w n g o cells) {r : PV} (h : loadA ti cells = some r) : ∃ v, Rep G m w n v r ∧ ∀ w', (∀ j, j < cells.length → w'.cell? ⟨g, o + j, none⟩ = w.cell? ⟨g, o + j, none⟩) → (loadVar t ⟨g, o, none⟩).run P w' = .ok v w' := by
  obtain ⟨F, h1, h2⟩ := hl
  have ha := fun w' => isAgg_run (w := w') hi hs
  unfold loadA at h
  cases hq : ti.agg with
  | true =>
    rw [hq] at h ha
    simp only at h
    split at h
    · rename_i hle
      have hle' : ti.size ≤ cells.length := Nat.le_of_ble_eq_true hle
      injection h with h
      subst h
      refine ⟨.agg ((List.range ti.size).map F).toArray, ?_, fun w' hw' => ?_⟩
      rotate_left
      · have := run_loadCells_list (P := P) w' ⟨g, o, none⟩ ((List.range ti.size).map F) (fun j v hv => by
          have hj : j < ti.size := by have := (List.getElem?_eq_some_iff.1 hv).1; simpa using this
          rw [Addr.add_mid, hw' j (by omega), h1 j (by omega)]
          rw [List.getElem?_map, List.getElem?_range hj] at hv
          simpa using hv)
        simp only [List.length_map, List.length_range] at this
        simp only [loadVar, Sem.run_bind, ha, Result.andThen_ok, if_true, sizeOf_run hi hs, this, Sem.run_pure]
      · refine .agg _ _ _ (by simp [Nat.min_eq_left hle']) (fun i hi' => ?_)
        have hi2 : i < ti.size := by simp at hi'; omega
        have := h2 i (by omega)
        simpa [List.getD_eq_getElem?_getD, List.getElem?_take, hi2] using this
    · cases h
  | false =>
    rw [hq] at h ha
    simp only at h
    cases cells with
    | nil => cases h
    | cons c cs =>
      injection h with h
      subst h
      refine ⟨F 0, by simpa using h2 0 (by simp), fun w' hw' => ?_⟩
      have := (hw' 0 (by simp)).trans (h1 0 (by simp))
      simp only [Nat.add_zero] at this
      simp [loadVar, ha, this]
theorem part_run {t : TypeId} {ti : TI} (hi : infoP P t = ti) (hs : (P.underlying t).isSome = true) {n o : Nat} {vs : List Value} {cs : List PV} (hl : vs.length = cs.length) (hr : ∀ i, i < cs.length → Rep G m w n (vs.getD i undef) (cs.getD i .any)) {r : PV} (h : loadA ti (cs.drop o) = some r) : ∃ v, Rep G m w n v r ∧ ∀ w', (part t vs.toArray o).run P w' = .ok v w' := by
  have ha := fun w' => isAgg_run (w := w') hi hs
  unfold loadA at h
  cases hq : ti.agg with
  | true =>
    rw [hq] at h ha
    simp only at h
    split at h
    · rename_i hle
      have hle' : ti.size ≤ (cs.drop o).length := Nat.le_of_ble_eq_true hle
      injection h with h
      subst h
      simp only [List.length_drop] at hle'
      refine ⟨.agg ((vs.drop o).take ti.size).toArray, ?_, fun w' => ?_⟩
      rotate_left
      · simp only [part, Sem.run_bind, ha, Result.andThen_ok, if_true, sizeOf_run hi hs, Sem.run_pure]
        simp [List.extract_eq_take_drop, List.extract_toArray]
      · refine .agg _ _ _ (by simp; omega) (fun i hi' => ?_)
        have hi2 : i < ti.size := by simp at hi'; omega
        have := hr (o + i) (by omega)
        simpa [List.getD_eq_getElem?_getD, List.getElem?_take, hi2] using this
    · cases h
  | false =>
    rw [hq] at h ha
    simp only at h
    have hlt : o < cs.length := by
      apply Classical.byContradiction
      intro hn
      rw [List.drop_eq_nil_of_le (by omega)] at h
      cases h
    rw [List.drop_eq_getElem_cons hlt] at h
    injection h with h
    subst h
    refine ⟨vs[o]'(by omega), ?_, fun w' => ?_⟩
    rotate_left
    · simp [part, ha, List.getElem?_eq_getElem (show o < vs.length by omega)]
    · have := hr o hlt
      simpa [List.getD_eq_getElem?_getD, List.getElem?_eq_getElem hlt, List.getElem?_eq_getElem (show o < vs.length by omega)] using this
end Go.Proofs.YtboopmfjkepilaaGreatDoor.Deep
